/-
  The contracts of le.inside, le.within, le.byteOf.
-/
import Derived.Test.YthbdhmjmboliiaaRows
import Derived.Test.YthbdhmjmboliiaaBase
import Derived.WalkLawsBesides
import Derived.Lib.Hide
namespace Go.Proofs.Ythbdhmjmboliiaa
open Go.RowKit

set_option maxHeartbeats 400000 in
theorem inside_any (l a i : Int) (w : World) (hl : 0 ≤ l) (hl' : l ≤ 4611686018427387904) (ha : -9223372036854775808 ≤ a) (hi : 0 ≤ i) (hi' : i ≤ 4611686018427387904) :
    Calls Try.prog 50 #[.int .i64 l, .int .i64 a, .int .i64 i] w fun e w' => e = .returned (.bool (decide (0 ≤ a + i) && decide (a + i < l))) ∧ w = w' := by
  by_cases h1 : a < l
  · by_cases h2 : 0 ≤ a + i
    · by_cases h3 : a + i < l
      · go_enter Try.func50, Try.ntmps50
        go_wp2
        go_ret
        exact ⟨ret_bool (by simp [h2, h3]), rfl⟩
      · go_enter Try.func50, Try.ntmps50
        go_wp2
        go_ret
        exact ⟨ret_bool (by simp [h3]), rfl⟩
    · go_enter Try.func50, Try.ntmps50
      go_wp2
      go_ret
      exact ⟨ret_bool (by simp; omega), rfl⟩
  · have h3 : ¬ a + i < l := by omega
    go_enter Try.func50, Try.ntmps50
    go_wp2
    go_ret
    exact ⟨ret_bool (by simp [h3]), rfl⟩

set_option maxHeartbeats 400000 in
theorem within_any (n m : Int) (w : World) :
    Calls Try.prog 48 #[.int .i64 n, .int .i64 m] w fun e w' => e = .returned (.int .i64 (clamp n m)) ∧ w = w' := by
  unfold clamp
  go_enter Try.func48, Try.ntmps48
  go_wp2
  all_goals
    go_ret
    exact ⟨rfl, rfl⟩

set_option maxHeartbeats 400000 in
theorem byteOf_any (A : Option Addr) (xs : List UInt8) (c : Nat) (a i : Int) (w : World) (hx : BR w w.heap.size A xs) (hl' : xs.length ≤ 1000000) (ha : -9223372036854775808 ≤ a) (hi : 0 ≤ i) (hi' : i ≤ 4611686018427387904) :
    Calls Try.prog 49 #[.slice A xs.length c, .int .i64 a, .int .i64 i] w fun e w' => e = .returned (B8 (byt xs (a + i))) ∧ w = w' := by
  by_cases h : 0 ≤ a + i ∧ a + i < xs.length
  · obtain ⟨h2, h3⟩ := h
    have hb : (decide (0 ≤ a + i) && decide (a + i < (xs.length : Int))) = true := by simp [h2, h3]
    obtain ⟨ad, rfl, _, hc⟩ := hx.at_ (k := (a + i).toNat) (by omega)
    have he := byt_in xs (a + i) h2
    rw [← he] at hc
    have HE := Lib.hid he
    clear he hx
    go_enter Try.func49, Try.ntmps49
    go_wp2_with (go_at_call 50; refine (inside_any _ _ _ _ (by omega) (by omega) ha hi hi').mono ?_; rintro e w' ⟨rfl, rfl⟩)
    go_ret
    exact ⟨rfl, rfl⟩
  · have hb : (decide (0 ≤ a + i) && decide (a + i < (xs.length : Int))) = false := by
      rw [Bool.eq_false_iff]; simp; omega
    have he := byt_out xs (a + i) (by omega)
    have HE := Lib.hid he
    clear he hx
    go_enter Try.func49, Try.ntmps49
    go_wp2_with (go_at_call 50; refine (inside_any _ _ _ _ (by omega) (by omega) ha hi hi').mono ?_; rintro e w' ⟨rfl, rfl⟩)
    go_ret
    exact ⟨by rw [HE.out]; rfl, rfl⟩
end Go.Proofs.Ythbdhmjmboliiaa
