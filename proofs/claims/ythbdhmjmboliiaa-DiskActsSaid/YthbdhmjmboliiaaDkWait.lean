/-
  The contract of the code's Waiting, whatever waits.
-/
import Derived.Test.YthbdhmjmboliiaaRDRead
namespace Go.Proofs.Ythbdhmjmboliiaa
open Go.RowKit Go.Maps

theorem makeI (n : Nat) (hn : n ≤ 1954687338212) (w : World) :
    (Instr.makeSlice 49 (.int .i64 (n : Int)) (.int .i64 (n : Int))).run Try.prog w = .ok (.slice (some ⟨w.heap.size, 0, none⟩) n n) (w.alloc (.cells (madeCells #[.int .i64 0] n) 3)) := by
  obtain ⟨i0, hi, hz0, hz1, hz2⟩ := info_parts Try.infoInt
  exact run_make_row 49 3 i0 (.int .i64 0) Try.underlying49 hi hz0 hz1 rfl .i64 .i64 n (by rw [hz2]; omega) (by omega) w
theorem ex_field {P : Program} {w w' : World} {o : Oper} {ρ : Operand → Value} (t : TypeId) (x : Operand) (f : Nat) (ho : o.op = .field t x f) (y v : Value) (hy : ρ x = y) (hrun : (Instr.field t y f).run P w = .ok v w') : (execOp ρ o).run P w = .ok (.value v) w' := by
  unfold execOp
  simp only [ho, hy, Sem.run_bind, hrun, Result.andThen_ok, Sem.run_pure]
theorem field74 (w : World) (q : Nat × List UInt8) : (Instr.field 74 (agq q) 0).run Try.prog w = .ok (.int .i64 (q.1 : Int)) w := by kernel_rfl
/-- The numbers so far; noughts behind them. -/
def numAt (Q : List (Nat × List UInt8)) (k i : Nat) : Value := if i < k then .int .i64 ((Q.map (·.1)).getD i 0 : Nat) else .int .i64 0
theorem ir_of_row {w : World} {g : Nat} {t : TypeId} {l : List Nat} (h : w.rowIs g t l.length fun i => .int .i64 (l.getD i 0 : Nat)) : IR w (some ⟨g, 0, none⟩) l := fun k x hx => by
  have hk : k < l.length := (List.getElem?_eq_some_iff.1 hx).1
  refine ⟨g, rfl, h.lt, ?_⟩
  rw [h.cell hk]
  simp [List.getD_eq_getElem?_getD, hx]

set_option maxHeartbeats 800000 in
theorem waiting_any {w : World} {F : Nat → Prop} {p : Nat} {D : DSt} (h0 : Dk w F p D) (hQ : D.Q.length ≤ 1954687338212) :
    Calls Try.prog 21 #[.pointer (some ⟨p, 0, none⟩)] w (GivesI w (D.Q.map (·.1))) := by
  obtain ⟨lb, mb, n, iv, h, _⟩ := h0
  have hmk := makeI D.Q.length hQ
  go_enter Try.func21, Try.ntmps21
  go_wp2_with fail
  refine (made_at h).mono ?_
  rintro e w' ⟨rfl, rfl⟩
  go_wp2_with fail
  refine (many_at h).mono ?_
  rintro e w' ⟨rfl, rfl⟩
  go_wp2_with fail
  clear hmk
  go_loopw [15, 4] (fun i _ wr => ∃ k : Nat, k ≤ D.Q.length ∧ i = .int .i64 (k : Int) ∧ wr.rowIs w.heap.size 3 D.Q.length (numAt D.Q k) ∧ Below w.heap.size w wr) (fun i _ _ => D.Q.length - (intOf i).toNat)
  case atStart =>
    refine ⟨0, by omega, rfl, ?_, (Below.refl _ _).alloc (Nat.le_refl _) _⟩
    refine (World.rowIs_made w (.int .i64 0) D.Q.length 3).congr fun i hi => ?_
    simp [numAt]
  case round =>
    obtain ⟨k, hk, rfl, row, bel⟩ := hrel
    by_cases hlt : k < D.Q.length
    · have h1 := h.same (keeps_below bel)
      have it := item_at h1 k hlt
      have IT := Lib.hid it
      clear it h1
      go_wp2_with fail
      refine IT.out.mono ?_
      rintro e w2 ⟨rfl, k2⟩
      have row2 : w2.rowIs w.heap.size 3 D.Q.length (numAt D.Q k) := by
        obtain ⟨c, hb, r⟩ := row
        exact ⟨c, (k2.block _ (Array.getElem?_eq_some_iff.1 hb).1 (fun h => h)).trans hb, r⟩
      have bel2 : Below w.heap.size w w2 := bel.trans (k2.toBelow _ bel.size fun _ h => h.elim)
      have cl := row2.cell hlt
      have fz := row2.frozen k
      have row3 := row2.set k (.int .i64 (D.Q[k].1 : Int))
      have ROW := Lib.hid (row3.congr (g := numAt D.Q (k + 1)) fun i hi => by
        unfold numAt
        by_cases e : i = k
        · subst e
          rw [if_pos rfl, if_pos (by omega)]
          simp [List.getD_eq_getElem?_getD, hlt]
        · rw [if_neg e]
          by_cases h : i < k
          · rw [if_pos h, if_pos (by omega)]
          · rw [if_neg h, if_neg (by omega)])
      have BEL := Lib.hid (bel2.setCell (p := ⟨w.heap.size, k, none⟩) (Nat.le_refl _) (.int .i64 (D.Q[k].1 : Int)))
      generalize numAt D.Q k k = u0 at cl
      generalize D.Q[k] = q at *
      clear row row2 row3 bel bel2 k2 IT
      go_wp2_with ((with_reducible refine at_ (op := .field 74 (.tmp 24) 0) ?_); refine wpList_val rfl _ (ex_field 74 (.tmp 24) 0 rfl _ _ rfl (field74 _ _)) ?_)
      go_roundw
      case rel => exact ⟨k + 1, by omega, by go_num, ROW.out, BEL.out⟩
      case measure => simp [intOf]; omega
    · obtain rfl : k = D.Q.length := by omega
      have hm : (D.Q.map (·.1)).length = D.Q.length := by simp
      have r2 : wr.rowIs w.heap.size 3 (D.Q.map (·.1)).length fun i => .int .i64 ((D.Q.map (·.1)).getD i 0 : Nat) := by
        rw [hm]
        exact row.congr fun i hi => by unfold numAt; rw [if_pos hi]
      have HIR := Lib.hid (ir_of_row r2)
      have HM := Lib.hid hm
      clear r2 row hm
      go_wp2_with fail
      go_ret
      exact ⟨some ⟨w.heap.size, 0, none⟩, D.Q.length, by rw [HM.out]; rfl, HIR.out, bel⟩
end Go.Proofs.Ythbdhmjmboliiaa
