/-
  WkSmall
-/
import Derived.Test.YtebecpjecchfoaaGreatDoorGShA
namespace Go.Proofs.YtebecpjecchfoaaGreatDoor
open Go.RowKit

/-- What walk's demand throws. -/
def thrownT : Ending := .panicked [{ v := .iface 26 (.int .i64 60), recovered := false }]

set_option maxRecDepth 100000 in
set_option maxHeartbeats 400000 in
theorem wdemand_ok (w : World) : Calls Tryz.prog 202 #[.bool true] w fun e w' => e = .returned (.tuple #[]) ∧ w = w' := by
  go_enter Tryz.func202, Tryz.ntmps202
  go_wp2
  go_end0
  exact ⟨rfl, rfl⟩
set_option maxRecDepth 100000 in
set_option maxHeartbeats 400000 in
theorem wdemand_bad (w : World) : Calls Tryz.prog 202 #[.bool false] w fun e w' => e = thrownT ∧ w = w' := by
  go_enter Tryz.func202, Tryz.ntmps202
  go_wp2
  exact ⟨rfl, rfl, rfl⟩

set_option maxRecDepth 100000 in
set_option maxHeartbeats 400000 in
theorem wisOf_at {w : World} {p lb mb n : Nat} {iv : Value} {D : DSt} (h : DkAt w p lb mb n iv D) (s : Int) : Calls Tryz.prog 203 #[.pointer (some ⟨p, 0, none⟩), .int .i64 s] w fun e w' => e = .returned (.bool (decide (2 ≤ s ∧ s < (n : Int)))) ∧ w = w' := by
  have hl := len_at h
  clear h
  by_cases h2 : 2 ≤ s
  · have hx : decide (s ≥ 2) = true := by simpa using h2
    by_cases h3 : s < (n : Int)
    · have hy : decide (s < (n : Int)) = true := by simpa using h3
      rw [show decide (2 ≤ s ∧ s < (n : Int)) = true from decide_eq_true ⟨h2, h3⟩]
      go_enter Tryz.func203, Tryz.ntmps203
      go_wp2_with fail
      refine hl.mono ?_
      rintro e w' ⟨rfl, rfl⟩
      go_wp2_with fail
      go_ret
      exact ⟨rfl, rfl⟩
    · have hy : decide (s < (n : Int)) = false := by simpa using h3
      rw [show decide (2 ≤ s ∧ s < (n : Int)) = false from decide_eq_false (fun h => h3 h.2)]
      go_enter Tryz.func203, Tryz.ntmps203
      go_wp2_with fail
      refine hl.mono ?_
      rintro e w' ⟨rfl, rfl⟩
      go_wp2_with fail
      go_ret
      exact ⟨rfl, rfl⟩
  · have hx : decide (s ≥ 2) = false := by simpa using h2
    rw [show decide (2 ≤ s ∧ s < (n : Int)) = false from decide_eq_false (fun h => h2 h.1)]
    go_enter Tryz.func203, Tryz.ntmps203
    go_wp2_with fail
    go_ret
    exact ⟨rfl, rfl⟩

set_option maxRecDepth 100000 in
set_option maxHeartbeats 400000 in
theorem wleads_any (i : Nat) (w : World) : Calls Tryz.prog 217 #[.int .i64 (i : Int)] w fun e w' => e = .returned (.bool (decide (i < 4))) ∧ w = w' := by
  have hp := page_any (i : Int) 0 w
  by_cases h : i < 4
  · have e1 : pageE (i : Int) 0 = 0 := if_pos ⟨⟨by omega, by omega⟩, by omega, by omega⟩
    rw [e1] at hp
    rw [show decide (i < 4) = true from decide_eq_true h]
    clear e1 h
    go_enter Tryz.func217, Tryz.ntmps217
    go_wp2_with fail
    refine hp.mono ?_
    rintro e w' ⟨rfl, rfl⟩
    go_wp2_with fail
    go_ret
    exact ⟨rfl, rfl⟩
  · have e1 : pageE (i : Int) 0 = 1 := if_neg (fun h' => h (by omega))
    rw [e1] at hp
    rw [show decide (i < 4) = false from decide_eq_false h]
    clear e1 h
    go_enter Tryz.func217, Tryz.ntmps217
    go_wp2_with fail
    refine hp.mono ?_
    rintro e w' ⟨rfl, rfl⟩
    go_wp2_with fail
    go_ret
    exact ⟨rfl, rfl⟩

set_option maxRecDepth 100000 in
set_option maxHeartbeats 400000 in
theorem wpage_ok (i j : Nat) (hi : i < 4) (hj : j < 32) (w : World) : Calls Tryz.prog 218 #[.int .i64 (i : Int), .int .i64 (j : Int)] w fun e w' => e = .returned (.int .i64 ((i * 32 + j : Nat) : Int)) ∧ w = w' := by
  have hp := page_any (i : Int) (j : Int) w
  have hc : (0 ≤ (i : Int) ∧ (i : Int) < 4) ∧ 0 ≤ (j : Int) ∧ (j : Int) < 32 := by omega
  have e1 : pageE (i : Int) (j : Int) = 0 := if_pos hc
  have e2 : pageN (i : Int) (j : Int) = ((i * 32 + j : Nat) : Int) := (if_pos hc).trans (by omega)
  rw [e1, e2] at hp
  generalize ((i * 32 + j : Nat) : Int) = g at *
  clear e1 e2 hc
  go_enter Tryz.func218, Tryz.ntmps218
  go_wp2_with fail
  refine hp.mono ?_
  rintro e w' ⟨rfl, rfl⟩
  go_wp2_with fail
  refine (wdemand_ok _).mono ?_
  rintro e w' ⟨rfl, rfl⟩
  go_wp2_with fail
  go_ret
  exact ⟨rfl, rfl⟩

set_option maxRecDepth 100000 in
set_option maxHeartbeats 400000 in
theorem wbytes_ok {w : World} {p lb mb n : Nat} {iv : Value} {D : DSt} (h : DkAt w p lb mb n iv D) (k : Nat) (hk : k < n) (hd : D.down = false) :
    Calls Tryz.prog 171 #[.pointer (some ⟨p, 0, none⟩), .int .i64 (k : Int)] w (GivesB w (D.now k)) := by
  have hnn := h.ok.n_eq
  have er : D.readAt (k : Int) = D.now k := by
    unfold DSt.readAt
    rw [if_neg (by simp [hd]), if_pos ⟨by omega, by omega⟩, Int.toNat_natCast]
  have ee : D.readErr (k : Int) = 0 := by
    unfold DSt.readErr
    rw [if_neg (by simp [hd]), if_pos ⟨by omega, by omega⟩]
  have hr := read_at h (k : Int)
  rw [er, ee] at hr
  generalize D.now k = xs at *
  clear h er ee
  go_enter Tryz.func171, Tryz.ntmps171
  go_wp2_with fail
  refine hr.mono ?_
  rintro e w2 ⟨R, c, rfl, hbr, _, hk2⟩
  go_wp2_with fail
  refine (wdemand_ok _).mono ?_
  rintro e w' ⟨rfl, rfl⟩
  go_wp2_with fail
  go_ret
  exact ⟨R, c, rfl, hbr, hk2.toBelow _ (Nat.le_refl _) (fun _ h => h.elim)⟩
set_option maxRecDepth 100000 in
set_option maxHeartbeats 800000 in
theorem wnode_ok {w : World} {p lb mb n : Nat} {iv : Value} {D : DSt} (h : DkAt w p lb mb n iv D) (k : Nat) (hk : k < n) (hd : D.down = false) :
    Calls Tryz.prog 216 #[.pointer (some ⟨p, 0, none⟩), .int .i64 (k : Int)] w (GivesN1 w (decN (D.now k))) := by
  have b0 := NB.box w z32
  have k0 : Below w.heap.size w (w.alloc (.cells (z32.map I6).toArray 183)) := (Below.refl _ _).alloc (Nat.le_refl _) _
  have hs0 : (w.alloc (.cells (z32.map I6).toArray 183)).heap.size = w.heap.size + 1 := by simp
  have h1 : DkAt (w.alloc (.cells (z32.map I6).toArray 183)) p lb mb n iv D := h.same (Keeps.alloc _ _ _)
  have A1 := Lib.hid (allocN w)
  have hlen := now_len h.ok hk
  have hr := wbytes_ok h1 k hk hd
  have hdl := decN_len (D.now k)
  have hd1 := decO_64 hlen
  have hd2 := decE_64 hlen
  generalize D.now k = xs at *
  generalize hys : decN xs = ys at *
  have HL := Lib.hid hlen
  have HD1 := Lib.hid hd1
  have HD2 := Lib.hid hd2
  clear h h1 hlen hd1 hd2 hys
  go_enter Tryz.func216, Tryz.ntmps216
  go_wp2_with (first
    | ((with_reducible refine at_ (op := .alloc 183) ?_); refine wpList_val rfl _ (ex_alloc 183 rfl _ A1.out) ?_))
  clear A1
  generalize w.alloc (.cells (z32.map I6).toArray 183) = w1 at *
  refine hr.mono ?_
  rintro e w2 ⟨R, c, rfl, hbr, hk2⟩
  rw [HL.out]
  have q2 : Below w.heap.size w w2 := k0.trans (hk2.mono (by omega))
  have g2 := b0.below hk2 (by omega)
  have s2 := hk2.size
  clear hr k0 b0 hk2
  go_wp2_with fail
  refine (decode_any R xs c 64 w2 hbr HL.out).mono ?_
  rintro e w3 ⟨rfl, hb3⟩
  rw [HD1.out, HD2.out]
  have q3 := q2.trans (hb3.mono q2.size)
  have g3 := g2.below hb3 (by omega)
  have s3 := hb3.size
  clear q2 g2 hbr hb3
  obtain ⟨w4, S4, g4, q4, hs4⟩ := NB.laid w3 ys hdl
  have A3 := Lib.hid (allocN w3)
  have S4' := Lib.hid S4
  have s4 := q4.size
  have g3' := g3.below q4 (by omega)
  have q4' := q3.trans (q4.mono q3.size)
  have L4 := Lib.hid (g4.load hdl)
  obtain ⟨w5, S5, g5, q5, _, _⟩ := g3'.lay z32_len hdl q4' (Nat.le_refl _)
  have S5' := Lib.hid S5
  clear S4 q4 q3 g3 S5
  go_wp2_with (first
    | ((with_reducible refine at_ (op := .alloc 183) ?_); refine wpList_val rfl _ (ex_alloc 183 rfl _ A3.out) ?_)
    | ((with_reducible refine here (op := .store 183 (.tmp 5) (.tmp 12)) ?_); refine wpList_store_run rfl 183 _ _ rfl _ _ rfl rfl S4'.out ?_))
  refine (wdemand_ok _).mono ?_
  rintro e w' ⟨rfl, rfl⟩
  go_wp2_with (first
    | ((with_reducible refine here (op := .load 183 (.tmp 5)) ?_); refine wpList_load_run rfl 183 _ rfl _ _ rfl L4.out ?_)
    | ((with_reducible refine here (op := .store 183 (.tmp 4) (.tmp 17)) ?_); refine wpList_store_run rfl 183 _ _ rfl _ _ rfl rfl S5'.out ?_))
  refine bodyPost_ret (v := ng ys) ?_ rfl ⟨rfl, q5⟩
  exact results_cell_row rfl _ _ w.heap.size 183 _ (0, 0) _ rfl g5 Tryz.underlying183 rfl (by rw [Tryz.sizeN]; simp [hdl])
end Go.Proofs.YtebecpjecchfoaaGreatDoor
