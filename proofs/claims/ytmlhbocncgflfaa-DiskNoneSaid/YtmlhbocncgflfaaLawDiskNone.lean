/-
  A disk that nobody made is down and has nothing, whatever is called on it.
  Conditions: none of our own; what the row itself says of its inputs (they can be read as data, each slice within the form's own reach).
-/
import Derived.Test.YtmlhbocncgflfaaFrame
import Derived.ChangeOld
import Derived.Below
import Derived.Deep.QuietTactic
import Derived.BigQuiet
import Derived.WalkSmall
import Derived.Test.YtmlhbocncgflfaaActIn
import Derived.Test.YtmlhbocncgflfaaDkNone
namespace Go.Proofs.Ytmlhbocncgflfaa.diskNone
open Go.ChangeShapes Go.WideShapes Go.ChangeAt Go.RowKit
set_option linter.unusedVariables false

theorem own : ownKnob Try.prog.godebug = none := by kernel_rfl
theorem laidOut : laidOutB Try.prog = true := by kernel_rfl

theorem box35 (w : World) (a : ActV) : (Instr.box 35 (.agg (acells a).toArray)).run Try.prog w = .ok (.pointer (some ⟨w.heap.size, 0, none⟩)) (w.alloc (.cells (acells a).toArray 35)) := rfl
theorem load33_at {w : World} {b : Nat} {a : ActV} {fr : Nat × Nat} (h : w.heap[b]? = some (.cells (acells a).toArray 35 fr)) : (Instr.loadAt 33 (.pointer (some ⟨b, 3, none⟩))).run Try.prog w = .ok (agf a.f) w :=
  run_loadAt_mid w b 3 33 (fcells a.f).toList _ (fun j v hv => by
    rw [cell_of_row w _ _ _ _ _ h]
    match j, hv with
    | 0, hv => exact hv
    | 1, hv => exact hv
    | 2, hv => exact hv
    | 3, hv => exact hv
    | j + 4, hv => simp [fcells] at hv) Try.underlying33 rfl (by kernel_rfl)

set_option maxHeartbeats 1000000 in
theorem walk (a0 : ActV) (w : World) (o0 : a0.Ok w) :
    Calls Try.prog 6 #[.agg (acells a0).toArray] w fun e w' => e = .returned (.bool true) ∧ Below w.heap.size w w' := by
  clear o0
  go_enter Try.func6, Try.ntmps6
  go_wp2_with (((with_reducible refine here (op := .box 35 (.tmp 0)) ?_); refine wpList_box_run rfl 35 _ rfl _ _ rfl (box35 _ _) ?_))
  refine (awake_any _).mono ?_
  rintro e w1 ⟨rfl, b1⟩
  have e0 := heap_alloc_last w (.cells (acells a0).toArray 35)
  have s0 : (w.alloc (.cells (acells a0).toArray 35)).heap.size = w.heap.size + 1 := by simp
  have S0 := Lib.hid s0
  have E1 : Hid (w1.heap[w.heap.size]? = some (.cells (acells a0).toArray 35 (0, 0))) := (b1.block _ (by rw [s0]; omega)).trans e0
  have bw : Below w.heap.size w w1 := ((Below.refl _ _).alloc (Nat.le_refl _) _).trans (b1.mono (by simp))
  clear e0 s0 b1
  go_wp2_with fail
  have hw1 : w.heap.size < w1.heap.size := (Array.getElem?_eq_some_iff.1 E1.out).1
  have d0 := heap_alloc2_old w1 (.cells #[.slice none 0 0, .slice none 0 0, .map none, .int .i64 0, .bool false, .int .i64 0] 58) (.cells #[.pointer none, .pointer (some ⟨w1.heap.size, 0, none⟩)] 25)
  have d1 := heap_alloc2_new w1 (.cells #[.slice none 0 0, .slice none 0 0, .map none, .int .i64 0, .bool false, .int .i64 0] 58) (.cells #[.pointer none, .pointer (some ⟨w1.heap.size, 0, none⟩)] 25)
  have k1 : Keeps (fun _ => False) w1 ((w1.alloc (.cells #[.slice none 0 0, .slice none 0 0, .map none, .int .i64 0, .bool false, .int .i64 0] 58)).alloc (.cells #[.pointer none, .pointer (some ⟨w1.heap.size, 0, none⟩)] 25)) := (Keeps.alloc _ _ _).trans (Keeps.alloc _ _ _)
  have D0 := Lib.hid d0
  have D1 := Lib.hid d1
  clear d0 d1
  generalize (w1.alloc (.cells #[.slice none 0 0, .slice none 0 0, .map none, .int .i64 0, .bool false, .int .i64 0] 58)).alloc (.cells #[.pointer none, .pointer (some ⟨w1.heap.size, 0, none⟩)] 25) = wS at *
  have AS : Hid (wS.heap[w.heap.size]? = some (.cells (acells a0).toArray 35 (0, 0))) := (k1.block _ hw1 (fun h => h)).trans E1.out
  have bS : Below w.heap.size w wS := bw.trans (k1.ofFalse.toBelow (F := fun k => w.heap.size ≤ k) _ bw.size (fun _ h => h))
  clear bw E1
  go_loopw [15] (fun i wr => ∃ k : Nat, k ≤ 2 ∧ i = .int .i64 (k : Int) ∧ Keeps (fun _ => False) wS wr) (fun i _ => 2 - (intOf i).toNat)
  case atStart => exact ⟨0, by omega, rfl, Keeps.refl _ _⟩
  case round =>
    obtain ⟨k, hk, rfl, kp⟩ := hrel
    by_cases hlt : k < 2
    · have l0 : w1.heap.size < wS.heap.size := (Array.getElem?_eq_some_iff.1 D0.out).1
      have l1 : w1.heap.size + 1 < wS.heap.size := (Array.getElem?_eq_some_iff.1 D1.out).1
      have r0 := (kp.block _ l0 (fun h => h)).trans D0.out
      have r1 := (kp.block _ l1 (fun h => h)).trans D1.out
      have rA := (kp.block w.heap.size (by omega) (fun h => h)).trans AS.out
      have hel : ∃ v, wr.cell? ⟨w1.heap.size + 1, k, none⟩ = some v ∧ NoDk wr v := by
        have : k = 0 ∨ k = 1 := by omega
        rcases this with rfl | rfl
        · exact ⟨.pointer none, by rw [cell_of_row _ _ _ _ _ _ r1]; rfl, Or.inl rfl⟩
        · exact ⟨.pointer (some ⟨w1.heap.size, 0, none⟩), by rw [cell_of_row _ _ _ _ _ _ r1]; rfl, Or.inr ⟨w1.heap.size, rfl, Nat.lt_of_lt_of_le l0 kp.size, by rw [cell_of_row _ _ _ _ _ _ r0]; rfl⟩⟩
      obtain ⟨v, hv, hno⟩ := hel
      have c1 : wr.cell? ⟨w.heap.size, 1, none⟩ = some (.int .i64 a0.n) := by rw [cell_of_row _ _ _ _ _ _ rA]; rfl
      have c2 : wr.cell? ⟨w.heap.size, 2, none⟩ = some (.slice a0.A a0.xs.length a0.c) := by rw [cell_of_row _ _ _ _ _ _ rA]; rfl
      have lA : w.heap.size < wr.heap.size := Nat.lt_of_lt_of_le (by omega) kp.size
      have LF := Lib.hid (load33_at rA)
      clear r0 r1 rA
      go_wp2_with fail
      refine (arm_no hno _).mono ?_
      rintro e w' ⟨rfl, rfl⟩
      go_wp2_with (((with_reducible refine here (op := .load 33 (.tmp 24)) ?_); refine wpList_load_run rfl 33 _ rfl _ _ rfl LF.out ?_))
      refine (restart_no hno _).mono ?_
      rintro e w2 ⟨rfl, k2⟩
      have hno2 := hno.keep k2
      have c1' := (k2.cell w.heap.size 1 lA (fun h => h)).trans c1
      have c2' := (k2.cell w.heap.size 2 lA (fun h => h)).trans c2
      clear c1 c2 LF hv
      go_wp2_with fail
      refine (read_no hno2 _).mono ?_
      rintro e w' ⟨rfl, rfl⟩
      go_wp2_with fail
      refine (write_no hno2 _ _ _ _).mono ?_
      rintro e w' ⟨rfl, rfl⟩
      go_wp2_with fail
      refine (flush_no hno2).mono ?_
      rintro e w' ⟨rfl, rfl⟩
      go_wp2_with fail
      refine (down_no hno2).mono ?_
      rintro e w' ⟨rfl, rfl⟩
      go_wp2_with fail
      refine (len_no hno2).mono ?_
      rintro e w' ⟨rfl, rfl⟩
      go_wp2_with fail
      refine (acts_no hno2).mono ?_
      rintro e w' ⟨rfl, rfl⟩
      go_wp2_with fail
      refine (bytes_no hno2).mono ?_
      rintro e w3 ⟨rfl, k3⟩
      go_wp2_with fail
      refine (waiting_no (hno2.keep k3)).mono ?_
      rintro e w' ⟨rfl, rfl⟩
      clear c1' c2'
      go_wp2_with fail
      go_roundw
      case rel => exact ⟨k + 1, by omega, by go_num, (kp.trans k2).trans k3⟩
      case measure => simp [intOf]; omega
    · obtain rfl : k = 2 := by omega
      go_wp2
      go_ret
      exact ⟨rfl, bS.trans (kp.ofFalse.toBelow (F := fun k => w.heap.size ≤ k) _ bS.size (fun _ h => h))⟩

set_option maxRecDepth 100000 in
theorem lifted (os : Os) (started : os.Started) (H : Type) (enc : TypeId × Value → H) :
    ReturnsInHanded {} Try.checked os 6 .any (Rows.diskNoneSpec.pre6 enc Try.prog Try.f6 Rows.diskNoneRow.domain false) (Rows.diskNoneSpec.post enc Try.prog Try.f6 false true false false) := by
  refine returnsInHanded_of_change_sized (C := Try.checked) own started (by kernel_rfl) Try.func6
    (ChangeSpec.witness6 (enc := enc) (C := Try.checked) false ⟨#[], #[.agg #[.int .i64 0, .int .i64 0, .slice none 0 0, .int .u64 0, .int .i64 0, .int .i64 0, .bool false]], []⟩ 8 (by kernel_rfl) (by kernel_rfl) (by kernel_rfl) (by kernel_rfl)) ?_
  intro W base args ds gs before hval0 hW _ hsz0 _
  have hsz : (DataW.weightsEach Try.prog (Try.f6.params.toList ++ Rows.diskNoneSpec.plain.varTypes Try.prog) (ds ++ gs)).all (· ≤ reachBytes) = true := hsz0
  clear hsz0
  have hval : ∀ (j : Nat) t v, Try.f6.params[j]? = some t → args[j]? = some v → Value.okWide Try.prog W .any base t v := hval0
  have hW' := hW
  obtain ⟨p, q, hA0, hV, rfl, _, _⟩ := hW
  have hA : DataW.TrodAll enc Try.prog W 0 (fun _ => true) true Try.f6.params.toList args.toList ds p := hA0
  rw [Try.params6] at hA hval hsz
  obtain ⟨v0, vs0, d0, ds0, p0, q0, hargs, rfl, rfl, h0, r0⟩ := trodAll_cons hA
  obtain ⟨rfl, rfl, rfl⟩ := trodAll_nil r0
  obtain rfl : args = #[v0] := by cases args; simp_all
  obtain ⟨rfl, rfl⟩ := trodVars_none hV
  have k0 := h0
  have lt0 : ∀ x ∈ p0, x.block < W.heap.size := by obtain ⟨m, hm⟩ := k0; exact DataW.trod_lt m _ _ _ hm
  obtain ⟨a0, rfl, o0⟩ := act_in (hval 0 35 v0 rfl rfl) h0
  clear hA0 hval0
  refine (walk a0 W o0).mono fun e W' ⟨he, bel⟩ => ?_
  subst he
  exact ⟨_, rfl, _, _, _, [], _, [], hW', trodAll_mk1 (shut_bool Try.underlying4 _), (trodAll_cons_mk (Below.trod laidOut (by kernel_rfl) (of_decide_eq_true (by kernel_rfl)) k0 bel lt0) trodAll_mk0), rfl, bel.frame _, fun h => by cases h⟩

theorem proved : Rows.DiskNoneSaid :=
  OpenClaim.holds_of_wide 6 Try.f6 rfl rfl rfl rfl rfl rfl rfl ⟨rfl, rfl, rfl, rfl, rfl⟩ rfl rfl rfl rfl rfl (by kernel_rfl) Try.func6 (by kernel_rfl)
    (of_decide_eq_true (by kernel_rfl)) (by unfold Func.isWrapper; first | (rw [if_pos (by decide +kernel)]; kernel_rfl) | (rw [if_neg (by decide +kernel)]; exact ⟨rfl, rfl⟩))
    (fun os started H enc _ => lifted os started H enc)
#print axioms proved
end Go.Proofs.Ytmlhbocncgflfaa.diskNone
