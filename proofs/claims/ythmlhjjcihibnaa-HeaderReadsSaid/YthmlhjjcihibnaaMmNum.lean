/-
  MmNum
-/
import Derived.Test.YthmlhjjcihibnaaGMm
import Derived.Test.YthmlhjjcihibnaaPutLaws
import Derived.Test.YthmlhjjcihibnaaCell
namespace Go.Proofs.Ythmlhjjcihibnaa.Mm
open Go.RowKit
set_option linter.unusedVariables false

theorem loadL_all (M : List UInt8) (hm : M.length = 8192) : loadL M 0 8192 = M := by
  refine ext_getD (by rw [loadL_len, hm]) fun k hk => ?_
  rw [loadL_len] at hk
  rw [getD_loadL _ _ _ _ hk, byt_in _ _ (by omega)]
  congr 1
  omega
theorem num_congr {xs ys : List UInt8} {a b : Int} : ∀ k : Nat, (∀ j : Nat, j < k → byt xs (a + j) = byt ys (b + j)) → num xs a k = num ys b k
  | 0, _ => rfl
  | k + 1, h => by rw [num, num, num_congr k fun j hj => h j (by omega), h k (by omega)]
theorem cel_load (M : List UInt8) (a : Int) : cel (loadL M a 8) 0 = cel M a := by
  unfold cel
  rw [num_congr (ys := M) (b := a) 8 fun j hj => ?_]
  rw [byt_in _ _ (by omega), show ((0 : Int) + j).toNat = j by omega, getD_loadL _ _ _ _ hj]
theorem putL_get' (xs : List UInt8) (a : Int) (n k i : Nat) (hi : i < xs.length) :
    (putL xs a n k).getD i 0 = if a ≤ i ∧ (i : Int) < a + k then byteN n ((i : Int) - a).toNat else xs.getD i 0 := by
  induction k with
  | zero => rw [if_neg (by omega)]; rfl
  | succ k ih =>
    by_cases h0 : 0 ≤ a + k
    · rw [putL, setAt_in _ _ _ h0, List.getD_eq_getElem?_getD, List.getElem?_set]
      by_cases e : (a + k).toNat = i
      · rw [if_pos e, if_pos (by rw [putL_len]; omega), if_pos (by omega)]
        rw [show ((i : Int) - a).toNat = k from by omega]; rfl
      · rw [if_neg e, ← List.getD_eq_getElem?_getD, ih]
        by_cases h : a ≤ i ∧ (i : Int) < a + k
        · rw [if_pos h, if_pos (by omega)]
        · rw [if_neg h, if_neg (by omega)]
    · rw [putL, setAt_out _ _ _ (by omega), ih, if_neg (by omega), if_neg (by omega)]
theorem layL_put (M : List UInt8) (a : Int) (n : Nat) : layL M a (putL (List.replicate 8 0) 0 n 8) = putL M a n 8 := by
  have hl : (putL (List.replicate 8 (0 : UInt8)) 0 n 8).length = 8 := by rw [putL_len]; rfl
  refine ext_getD (by rw [layL_len, putL_len]) fun k hk => ?_
  rw [layL_len] at hk
  rw [getD_layL _ _ _ _ hk, putL_get' _ _ _ _ _ hk, hl]
  by_cases h : a ≤ k ∧ (k : Int) < a + (8 : Nat)
  · rw [if_pos h, if_pos h, byt_in _ _ (by omega), putL_get' _ _ _ _ _ (by simp; omega), if_pos (by omega)]
    congr 1
  · rw [if_neg h, if_neg h]

/-! ### answers -/
def byteT (a : Int) : Int := if a < 0 ∨ 8192 ≤ a then -9 else 0
def byteV (M : List UInt8) (a : Int) : Int := if a < 0 ∨ 8192 ≤ a then 0 else ((byt M a).toNat : Int)
def throwT (a lo hi : Int) : Int := if a < lo ∨ hi - 8 < a then -9 else if ¬ a.tmod 8 = 0 then -23 else 0
def cellV (M : List UInt8) (a : Int) : Int := if throwT a 0 8192 = 0 then cel M a else 0
def pbT (a : Int) : Int := if a < 768 ∨ 5632 ≤ a then -9 else 0
def pbM (M : List UInt8) (a n : Int) : List UInt8 := if a < 768 ∨ 5632 ≤ a then M else layL M a [UInt8.ofNat (n % 256).toNat]
def pcT (a : Int) : Int := if a = 16 then 0 else throwT a 768 5632
def setM (M : List UInt8) (a n : Int) : List UInt8 := putL M a (IntKind.u64.wrap n).toNat 8
def pcM (M : List UInt8) (a n : Int) : List UInt8 := if pcT a = 0 then setM M a n else M
theorem setM_len (M : List UInt8) (a n : Int) : (setM M a n).length = M.length := putL_len _ _ _ _
theorem pbM_len (M : List UInt8) (a n : Int) : (pbM M a n).length = M.length := by unfold pbM; split; rfl; exact layL_len _ _ _
theorem pcM_len (M : List UInt8) (a n : Int) : (pcM M a n).length = M.length := by unfold pcM; split; exact setM_len _ _ _; rfl
theorem w64_u8 (u : UInt8) : wrap64 (u.toNat : Int) = (u.toNat : Int) := by
  have := u.toNat_lt
  unfold wrap64
  omega
theorem throwT_16 : throwT 16 16 24 = 0 := by decide
end Go.Proofs.Ythmlhjjcihibnaa.Mm
