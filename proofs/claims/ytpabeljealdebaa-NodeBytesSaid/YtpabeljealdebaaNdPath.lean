/-
  The contracts of node's and the document's Path and Page, and of awake: chapter 4's example.
-/
import Derived.Test.YtpabeljealdebaaRows
import Derived.Test.YtpabeljealdebaaBase
import Derived.WalkLawsBesides
import Derived.Lib.Hide
namespace Go.Proofs.Ytpabeljealdebaa
open Go.RowKit

set_option maxHeartbeats 400000 in
theorem isBelow_is (b : Bool) (n m : Int) (w : World) (h : (decide (0 ≤ n) && decide (n < m)) = b) :
    Calls Try.prog 25 #[.int .i64 n, .int .i64 m] w fun e w' => e = .returned (.bool b) ∧ w = w' := by
  subst h
  by_cases h0 : 0 ≤ n
  · go_enter Try.func25, Try.ntmps25
    go_wp2
    go_ret
    exact ⟨ret_bool (by simp [h0]), rfl⟩
  · go_enter Try.func25, Try.ntmps25
    go_wp2
    go_ret
    exact ⟨ret_bool (by simp; omega), rfl⟩

/-- The way to a page: the entry of the top node, that of the leaf, the error's number. -/
def pathA (p : Int) : Int := if 0 ≤ p ∧ p < 128 then p / 32 else 0
def pathB (p : Int) : Int := if 0 ≤ p ∧ p < 128 then p % 32 else 0
def pathE (p : Int) : Int := if 0 ≤ p ∧ p < 128 then 0 else 1
/-- The page of a way, the error's number. -/
def pageN (t l : Int) : Int := if (0 ≤ t ∧ t < 4) ∧ 0 ≤ l ∧ l < 32 then t * 32 + l else 0
def pageE (t l : Int) : Int := if (0 ≤ t ∧ t < 4) ∧ 0 ≤ l ∧ l < 32 then 0 else 1

theorem ret_tri {a b c a' b' c' : Int} (h1 : a = a') (h2 : b = b') (h3 : c = c') : Ending.returned (.tuple #[.int .i64 a, .int .i64 b, .int .i64 c]) = .returned (.tuple #[.int .i64 a', .int .i64 b', .int .i64 c']) := by rw [h1, h2, h3]
theorem ret_two {a b a' b' : Int} (h1 : a = a') (h2 : b = b') : Ending.returned (.tuple #[.int .i64 a, .int .i64 b]) = .returned (.tuple #[.int .i64 a', .int .i64 b']) := by rw [h1, h2]

set_option maxHeartbeats 400000 in
theorem path_any (p : Int) (w : World) :
    Calls Try.prog 14 #[.int .i64 p] w fun e w' => e = .returned (.tuple #[.int .i64 (pathA p), .int .i64 (pathB p), .int .i64 (pathE p)]) ∧ w = w' := by
  by_cases h : 0 ≤ p ∧ p < 128
  · have e1 := Lib.hid (show pathA p = p / 32 from if_pos h)
    have e2 := Lib.hid (show pathB p = p % 32 from if_pos h)
    have e3 := Lib.hid (show pathE p = 0 from if_pos h)
    obtain ⟨h0, h1⟩ := h
    go_enter Try.func14, Try.ntmps14
    go_wp2_with fail
    refine (isBelow_is true _ _ _ (by simp [h0, h1])).mono ?_
    rintro e w' ⟨rfl, rfl⟩
    go_wp2_with fail
    go_ret3
    exact ⟨ret_tri e1.out.symm e2.out.symm e3.out.symm, rfl⟩
  · have e1 := Lib.hid (show pathA p = 0 from if_neg h)
    have e2 := Lib.hid (show pathB p = 0 from if_neg h)
    have e3 := Lib.hid (show pathE p = 1 from if_neg h)
    have hb : (decide (0 ≤ p) && decide (p < 128)) = false := by rw [Bool.eq_false_iff]; simpa using h
    have HB := Lib.hid hb
    clear hb h
    go_enter Try.func14, Try.ntmps14
    go_wp2_with fail
    refine (isBelow_is false _ _ _ HB.out).mono ?_
    rintro e w' ⟨rfl, rfl⟩
    go_wp2_with fail
    go_ret3
    exact ⟨ret_tri e1.out.symm e2.out.symm e3.out.symm, rfl⟩

set_option maxHeartbeats 400000 in
theorem refPath_any (p : Int) (w : World) :
    Calls Try.prog 15 #[.int .i64 p] w fun e w' => e = .returned (.tuple #[.int .i64 (pathA p), .int .i64 (pathB p), .int .i64 (pathE p)]) ∧ w = w' := by
  by_cases h0 : 0 ≤ p
  · by_cases h1 : p < 128
    · have e1 := Lib.hid (show pathA p = p / 32 from if_pos ⟨h0, h1⟩)
      have e2 := Lib.hid (show pathB p = p % 32 from if_pos ⟨h0, h1⟩)
      have e3 := Lib.hid (show pathE p = 0 from if_pos ⟨h0, h1⟩)
      go_enter Try.func15, Try.ntmps15
      go_wp2_with fail
      go_ret3
      exact ⟨ret_tri e1.out.symm e2.out.symm e3.out.symm, rfl⟩
    · have h : ¬ (0 ≤ p ∧ p < 128) := fun h => h1 h.2
      have e1 := Lib.hid (show pathA p = 0 from if_neg h)
      have e2 := Lib.hid (show pathB p = 0 from if_neg h)
      have e3 := Lib.hid (show pathE p = 1 from if_neg h)
      clear h
      go_enter Try.func15, Try.ntmps15
      go_wp2_with fail
      go_ret3
      exact ⟨ret_tri e1.out.symm e2.out.symm e3.out.symm, rfl⟩
  · have h : ¬ (0 ≤ p ∧ p < 128) := fun h => h0 h.1
    have e1 := Lib.hid (show pathA p = 0 from if_neg h)
    have e2 := Lib.hid (show pathB p = 0 from if_neg h)
    have e3 := Lib.hid (show pathE p = 1 from if_neg h)
    clear h
    go_enter Try.func15, Try.ntmps15
    go_wp2_with fail
    go_ret3
    exact ⟨ret_tri e1.out.symm e2.out.symm e3.out.symm, rfl⟩

set_option maxHeartbeats 400000 in
theorem page_any (t l : Int) (w : World) :
    Calls Try.prog 16 #[.int .i64 t, .int .i64 l] w fun e w' => e = .returned (.tuple #[.int .i64 (pageN t l), .int .i64 (pageE t l)]) ∧ w = w' := by
  by_cases h1 : 0 ≤ t ∧ t < 4
  · by_cases h2 : 0 ≤ l ∧ l < 32
    · have e1 := Lib.hid (show pageN t l = t * 32 + l from if_pos ⟨h1, h2⟩)
      have e2 := Lib.hid (show pageE t l = 0 from if_pos ⟨h1, h2⟩)
      obtain ⟨h1, h1'⟩ := h1
      obtain ⟨h2, h2'⟩ := h2
      go_enter Try.func16, Try.ntmps16
      go_wp2_with fail
      refine (isBelow_is true _ _ _ (by simp [h1, h1'])).mono ?_
      rintro e w' ⟨rfl, rfl⟩
      go_wp2_with fail
      refine (isBelow_is true _ _ _ (by simp [h2, h2'])).mono ?_
      rintro e w' ⟨rfl, rfl⟩
      go_wp2_with fail
      go_ret2
      exact ⟨ret_two e1.out.symm e2.out.symm, rfl⟩
    · have h : ¬ ((0 ≤ t ∧ t < 4) ∧ 0 ≤ l ∧ l < 32) := fun h => h2 h.2
      have e1 := Lib.hid (show pageN t l = 0 from if_neg h)
      have e2 := Lib.hid (show pageE t l = 1 from if_neg h)
      have HB := Lib.hid (show (decide (0 ≤ l) && decide (l < 32)) = false by rw [Bool.eq_false_iff]; simpa using h2)
      clear h h2
      obtain ⟨h1, h1'⟩ := h1
      go_enter Try.func16, Try.ntmps16
      go_wp2_with fail
      refine (isBelow_is true _ _ _ (by simp [h1, h1'])).mono ?_
      rintro e w' ⟨rfl, rfl⟩
      go_wp2_with fail
      refine (isBelow_is false _ _ _ HB.out).mono ?_
      rintro e w' ⟨rfl, rfl⟩
      go_wp2_with fail
      go_ret2
      exact ⟨ret_two e1.out.symm e2.out.symm, rfl⟩
  · have h : ¬ ((0 ≤ t ∧ t < 4) ∧ 0 ≤ l ∧ l < 32) := fun h => h1 h.1
    have e1 := Lib.hid (show pageN t l = 0 from if_neg h)
    have e2 := Lib.hid (show pageE t l = 1 from if_neg h)
    have HB := Lib.hid (show (decide (0 ≤ t) && decide (t < 4)) = false by rw [Bool.eq_false_iff]; simpa using h1)
    clear h h1
    go_enter Try.func16, Try.ntmps16
    go_wp2_with fail
    refine (isBelow_is false _ _ _ HB.out).mono ?_
    rintro e w' ⟨rfl, rfl⟩
    go_wp2_with fail
    go_ret2
    exact ⟨ret_two e1.out.symm e2.out.symm, rfl⟩

set_option maxHeartbeats 400000 in
theorem refPage_any (t l : Int) (w : World) :
    Calls Try.prog 17 #[.int .i64 t, .int .i64 l] w fun e w' => e = .returned (.tuple #[.int .i64 (pageN t l), .int .i64 (pageE t l)]) ∧ w = w' := by
  by_cases h : (0 ≤ t ∧ t < 4) ∧ 0 ≤ l ∧ l < 32
  · have e1 := Lib.hid (show pageN t l = t * 32 + l from if_pos h)
    have e2 := Lib.hid (show pageE t l = 0 from if_pos h)
    obtain ⟨⟨h1, h1'⟩, h2, h2'⟩ := h
    go_enter Try.func17, Try.ntmps17
    go_wp2_with fail
    go_ret2
    exact ⟨ret_two e1.out.symm e2.out.symm, rfl⟩
  · have e1 := Lib.hid (show pageN t l = 0 from if_neg h)
    have e2 := Lib.hid (show pageE t l = 1 from if_neg h)
    by_cases h0 : 0 ≤ t
    · by_cases h1 : t < 4
      · by_cases h2 : 0 ≤ l
        · by_cases h3 : l < 32
          · exact absurd ⟨⟨h0, h1⟩, h2, h3⟩ h
          · clear h
            go_enter Try.func17, Try.ntmps17
            go_wp2_with fail
            go_ret2
            exact ⟨ret_two e1.out.symm e2.out.symm, rfl⟩
        · clear h
          go_enter Try.func17, Try.ntmps17
          go_wp2_with fail
          go_ret2
          exact ⟨ret_two e1.out.symm e2.out.symm, rfl⟩
      · clear h
        go_enter Try.func17, Try.ntmps17
        go_wp2_with fail
        go_ret2
        exact ⟨ret_two e1.out.symm e2.out.symm, rfl⟩
    · clear h
      go_enter Try.func17, Try.ntmps17
      go_wp2_with fail
      go_ret2
      exact ⟨ret_two e1.out.symm e2.out.symm, rfl⟩

set_option maxHeartbeats 800000 in
theorem awake_any (w : World) :
    Calls Try.prog 8 #[] w fun e w' => e = .returned (.bool true) ∧ w = w' := by
  have a1 := path_any 70 w
  have a2 := page_any 2 6 w
  have a3 := page_any 4 0 w
  rw [show pathA 70 = 2 from by decide, show pathB 70 = 6 from by decide, show pathE 70 = 0 from by decide] at a1
  rw [show pageN 2 6 = 70 from by decide, show pageE 2 6 = 0 from by decide] at a2
  rw [show pageN 4 0 = 0 from by decide, show pageE 4 0 = 1 from by decide] at a3
  go_enter Try.func8, Try.ntmps8
  go_wp2_with fail
  refine a1.mono ?_
  rintro e w' ⟨rfl, rfl⟩
  go_wp2_with fail
  refine a2.mono ?_
  rintro e w' ⟨rfl, rfl⟩
  go_wp2_with fail
  refine a3.mono ?_
  rintro e w' ⟨rfl, rfl⟩
  go_wp2_with fail
  go_ret
  exact ⟨rfl, rfl⟩
end Go.Proofs.Ytpabeljealdebaa
