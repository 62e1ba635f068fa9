/-
  Plain facts on numbers laid into bytes and told again. No function of the program is named here but by its contract's words.
-/
import Derived.Test.YtpabeljealdebaaRefPut
import Derived.Test.YtpabeljealdebaaNum
namespace Go.Proofs.Ytpabeljealdebaa
open Go.RowKit

theorem putL_get (xs : List UInt8) (a : Int) (n k i : Nat) (ha : 0 ≤ a) (hi : i < xs.length) :
    (putL xs a n k).getD i 0 = if a ≤ i ∧ (i : Int) < a + k then byteN n ((i : Int) - a).toNat else xs.getD i 0 := by
  induction k with
  | zero => rw [if_neg (by omega)]; rfl
  | succ k ih =>
    rw [putL, setAt_in _ _ _ (by omega), List.getD_eq_getElem?_getD, List.getElem?_set]
    by_cases e : (a + k).toNat = i
    · rw [if_pos e, if_pos (by rw [putL_len]; omega), if_pos (by omega)]
      rw [show ((i : Int) - a).toNat = k from by omega]; rfl
    · rw [if_neg e, ← List.getD_eq_getElem?_getD, ih]
      by_cases h : a ≤ i ∧ (i : Int) < a + k
      · rw [if_pos h, if_pos (by omega)]
      · rw [if_neg h, if_neg (by omega)]

theorem num_of_bytes (zs : List UInt8) (a : Int) (n k : Nat) (h : ∀ j, j < k → byt zs (a + j) = byteN n j) : num zs a k = n % 2 ^ (8 * k) := by
  induction k with
  | zero => simp [num, Nat.mod_one]
  | succ k ih =>
    rw [num, ih fun j hj => h j (by omega), h k (by omega)]
    have e : (byteN n k).toNat = n / 2 ^ (8 * k) % 256 := by simp [byteN]
    have hl : n % 2 ^ (8 * k) < 2 ^ (8 * k) := Nat.mod_lt _ (Nat.two_pow_pos _)
    rw [e, Nat.or_comm, ← Nat.shiftLeft_add_eq_or_of_lt hl, Nat.shiftLeft_eq, show 8 * (k + 1) = 8 * k + 8 from by omega, Nat.pow_add, Nat.mod_mul]
    rw [Nat.mul_comm, Nat.add_comm]
end Go.Proofs.Ytpabeljealdebaa
