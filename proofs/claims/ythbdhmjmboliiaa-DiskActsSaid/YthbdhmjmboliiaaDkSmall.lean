/-
  The contracts of the disk's small calls: made, Len, Down, has, Acts, act, Arm, and of the queue's many.
-/
import Derived.Test.YthbdhmjmboliiaaDkAt
import Derived.Outline
import Derived.Deep.QuietTactic
import Derived.BigQuiet
namespace Go.Proofs.Ythbdhmjmboliiaa
open Go.RowKit Go.Maps

/-- How many sectors. -/
def DSt.n (D : DSt) : Nat := D.L.length / 64
theorem DSt.Ok.n_eq {D : DSt} {n : Nat} (h : D.Ok n) : D.n = n := by unfold DSt.n; rw [h.len]; omega


set_option maxHeartbeats 400000 in
theorem made_at {w : World} {p lb mb n : Nat} {iv : Value} {D : DSt} (h : DkAt w p lb mb n iv D) :
    Calls Try.prog 26 #[.pointer (some ⟨p, 0, none⟩)] w fun e w' => e = .returned (.bool true) ∧ w = w' := by
  obtain ⟨c0, c1, c2, c3, c4, c5, fz⟩ := h.c
  clear h fz c0 c1 c3 c4 c5
  have hm := fun (w : World) => run_neq_map_nil (P := Try.prog) w 56 3 71 (some mb) Try.underlying56
  go_enter Try.func26, Try.ntmps26
  go_wp2
  go_ret
  exact ⟨rfl, rfl⟩

set_option maxHeartbeats 400000 in
theorem len_at {w : World} {p lb mb n : Nat} {iv : Value} {D : DSt} (h : DkAt w p lb mb n iv D) :
    Calls Try.prog 11 #[.pointer (some ⟨p, 0, none⟩)] w fun e w' => e = .returned (.int .i64 (n : Int)) ∧ w = w' := by
  obtain ⟨c0, c1, c2, c3, c4, c5, fz⟩ := h.c
  clear fz c1 c3 c4 c5
  go_enter Try.func11, Try.ntmps11
  go_wp2_with (go_at_call 26; refine (made_at h).mono ?_; rintro e w' ⟨rfl, rfl⟩)
  go_ret
  exact ⟨rfl, rfl⟩

set_option maxHeartbeats 400000 in
theorem down_at {w : World} {p lb mb n : Nat} {iv : Value} {D : DSt} (h : DkAt w p lb mb n iv D) :
    Calls Try.prog 23 #[.pointer (some ⟨p, 0, none⟩)] w fun e w' => e = .returned (.bool D.down) ∧ w = w' := by
  obtain ⟨c0, c1, c2, c3, c4, c5, fz⟩ := h.c
  clear fz c0 c1 c2 c3 c5
  go_enter Try.func23, Try.ntmps23
  go_wp2_with (go_at_call 26; refine (made_at h).mono ?_; rintro e w' ⟨rfl, rfl⟩)
  go_ret
  exact ⟨rfl, rfl⟩

set_option maxHeartbeats 400000 in
theorem acts_at {w : World} {p lb mb n : Nat} {iv : Value} {D : DSt} (h : DkAt w p lb mb n iv D) :
    Calls Try.prog 24 #[.pointer (some ⟨p, 0, none⟩)] w fun e w' => e = .returned (.int .i64 (D.acts : Int)) ∧ w = w' := by
  obtain ⟨c0, c1, c2, c3, c4, c5, fz⟩ := h.c
  clear fz c0 c1 c2 c3 c4
  go_enter Try.func24, Try.ntmps24
  go_wp2_with (go_at_call 26; refine (made_at h).mono ?_; rintro e w' ⟨rfl, rfl⟩)
  go_ret
  exact ⟨rfl, rfl⟩

set_option maxHeartbeats 400000 in
theorem has_yes {w : World} {p lb mb n : Nat} {iv : Value} {D : DSt} (h : DkAt w p lb mb n iv D) (i : Int) (h0 : 0 ≤ i) (h1 : i < n) :
    Calls Try.prog 34 #[.pointer (some ⟨p, 0, none⟩), .int .i64 i] w fun e w' => e = .returned (.bool true) ∧ w = w' := by
  go_enter Try.func34, Try.ntmps34
  go_wp2_with (go_at_call 11; refine (len_at h).mono ?_; rintro e w' ⟨rfl, rfl⟩)
  go_ret
  exact ⟨ret_bool (by simp), rfl⟩
set_option maxHeartbeats 400000 in
theorem has_no {w : World} {p lb mb n : Nat} {iv : Value} {D : DSt} (h : DkAt w p lb mb n iv D) (i : Int) (h0 : i < 0 ∨ n ≤ i) :
    Calls Try.prog 34 #[.pointer (some ⟨p, 0, none⟩), .int .i64 i] w fun e w' => e = .returned (.bool false) ∧ w = w' := by
  by_cases hn : i < 0
  · clear h0
    go_enter Try.func34, Try.ntmps34
    go_wp2_with (go_at_call 11; refine (len_at h).mono ?_; rintro e w' ⟨rfl, rfl⟩)
    go_ret
    exact ⟨rfl, rfl⟩
  · have h1 : n ≤ i := by omega
    clear h0
    go_enter Try.func34, Try.ntmps34
    go_wp2_with (go_at_call 11; refine (len_at h).mono ?_; rintro e w' ⟨rfl, rfl⟩)
    go_ret
    exact ⟨ret_bool (by simp; omega), rfl⟩

/-- What one act makes of a disk: done, or the power goes. -/
def DSt.spent (D : DSt) : DSt := if D.left = 0 then { D with down := true } else { D with left := if 0 < D.left then D.left - 1 else D.left, acts := D.acts + 1 }

/-- The error of an act. -/
def DSt.actErr (D : DSt) : Int := if D.left = 0 then 20 else 0

set_option maxHeartbeats 400000 in
theorem act_at {w : World} {p lb mb n : Nat} {iv : Value} {D : DSt} (h : DkAt w p lb mb n iv D) (ha : D.acts ≤ 1000000000000000) :
    Calls Try.prog 35 #[.pointer (some ⟨p, 0, none⟩)] w fun e w' => e = .returned (.int .i64 D.actErr) ∧ DkAt w' p lb mb n iv D.spent ∧ Keeps (· = p) w w' := by
  have hlo := h.ok.lo
  have hhi := h.ok.hi
  obtain ⟨c0, c1, c2, c3, c4, c5, fz⟩ := h.c
  have fz3 := fz 3
  have fz4 := fz 4
  have fz5 := fz 5
  clear fz c0 c1 c2
  by_cases h0 : D.left = 0
  · have hs : D.spent = { D with down := true } := by unfold DSt.spent; rw [if_pos h0]
    have he : D.actErr = 20 := by unfold DSt.actErr; rw [if_pos h0]
    have HS := Lib.hid hs
    have HE := Lib.hid he
    rw [h0] at c3
    clear h0 hs he
    go_enter Try.func35, Try.ntmps35
    go_wp2
    go_ret
    rw [HE.out, HS.out]
    exact ⟨rfl, h.setDown true, Keeps.setCell (· = p) _ _ _ rfl⟩
  · have hb0 : (D.left == 0) = false := beq_eq_false_iff_ne.2 h0
    have he : D.actErr = 0 := by unfold DSt.actErr; rw [if_neg h0]
    have HE := Lib.hid he
    clear he
    by_cases h1 : 0 < D.left
    · have hs : D.spent = { D with left := D.left - 1, acts := D.acts + 1 } := by unfold DSt.spent; rw [if_neg h0, if_pos h1]
      have HS := Lib.hid hs
      clear hs h0
      have c5' : (w.setCell ⟨p, 3, none⟩ (.int .i64 (D.left - 1))).cell? ⟨p, 5, none⟩ = some (.int .i64 (D.acts : Int)) := by rw [World.cell?_setCell_other _ _ _ _ (by simp)]; exact c5
      go_enter Try.func35, Try.ntmps35
      go_wp2
      go_ret
      rw [HE.out, HS.out]
      exact ⟨rfl, (h.setLeft (D.left - 1) (by omega) (by omega)).setActs (D.acts + 1), (Keeps.setCell (· = p) _ _ _ rfl).trans (Keeps.setCell (· = p) _ _ _ rfl)⟩
    · have hs : D.spent = { D with acts := D.acts + 1 } := by unfold DSt.spent; rw [if_neg h0, if_neg h1]
      have HS := Lib.hid hs
      clear hs h0
      go_enter Try.func35, Try.ntmps35
      go_wp2
      go_ret
      rw [HE.out, HS.out]
      exact ⟨rfl, h.setActs (D.acts + 1), Keeps.setCell (· = p) _ _ _ rfl⟩

def DSt.armed (D : DSt) (x : Int) : DSt := { D with left := max x (-1) }
set_option maxHeartbeats 400000 in
theorem arm_at {w : World} {p lb mb n : Nat} {iv : Value} {D : DSt} (h : DkAt w p lb mb n iv D) (x : Int) (hx : x ≤ 9223372036854775807) :
    Calls Try.prog 22 #[.pointer (some ⟨p, 0, none⟩), .int .i64 x] w fun e w' => e = .returned (.tuple #[]) ∧ DkAt w' p lb mb n iv (D.armed x) ∧ Keeps (· = p) w w' := by
  obtain ⟨c0, c1, c2, c3, c4, c5, fz⟩ := h.c
  have fz3 := fz 3
  clear fz c0 c1 c2 c4 c5
  by_cases h1 : x < -1
  · have e : D.armed x = { D with left := -1 } := by unfold DSt.armed; rw [show max x (-1) = -1 from by omega]
    have E := Lib.hid e
    clear e
    go_enter Try.func22, Try.ntmps22
    go_wp2_with (go_at_call 26; refine (made_at h).mono ?_; rintro e w' ⟨rfl, rfl⟩)
    go_end0
    rw [E.out]
    exact ⟨rfl, h.setLeft (-1) (by omega) (by omega), Keeps.setCell (· = p) _ _ _ rfl⟩
  · have e : D.armed x = { D with left := x } := by unfold DSt.armed; rw [show max x (-1) = x from by omega]
    have E := Lib.hid e
    clear e
    go_enter Try.func22, Try.ntmps22
    go_wp2_with (go_at_call 26; refine (made_at h).mono ?_; rintro e w' ⟨rfl, rfl⟩)
    go_end0
    rw [E.out]
    exact ⟨rfl, h.setLeft x (by omega) (by omega), Keeps.setCell (· = p) _ _ _ rfl⟩

set_option maxHeartbeats 400000 in
theorem many_at {w : World} {p lb mb n : Nat} {iv : Value} {D : DSt} (h : DkAt w p lb mb n iv D) :
    Calls Try.prog 39 #[.pointer (some ⟨p, 1, none⟩)] w fun e w' => e = .returned (.int .i64 (D.Q.length : Int)) ∧ w = w' := by
  obtain ⟨c0, c1, c2, c3, c4, c5, fz⟩ := h.c
  clear fz c0 c2 c3 c4 c5
  have hv : ∃ A cap, iv = .slice A D.Q.length cap := by
    rcases h.que.2 with ⟨e, hn⟩ | ⟨g, cap, cur, e, _⟩
    · exact ⟨none, 0, by rw [e, hn]⟩
    · exact ⟨_, _, e⟩
  obtain ⟨A, cap, rfl⟩ := hv
  clear h
  go_enter Try.func39, Try.ntmps39
  go_wp2
  go_ret
  exact ⟨rfl, rfl⟩
end Go.Proofs.Ythbdhmjmboliiaa
