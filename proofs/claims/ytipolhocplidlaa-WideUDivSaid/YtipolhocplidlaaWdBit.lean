/-
  WdBit
-/
import Derived.WalkKit
import Derived.Laws.BitsAllLaws
namespace Go.Proofs.Ytipolhocplidlaa.Wd
open Go.RowKit

theorem not64 (x : Int) (h0 : 0 ≤ x) (h1 : x < 18446744073709551616) : bits .xor .u64 18446744073709551615 x = 18446744073709551615 - x := by
  obtain ⟨a, rfl⟩ := Int.eq_ofNat_of_zero_le h0
  show IntKind.u64.wrap ((BitVec.ofInt 64 18446744073709551615 ^^^ BitVec.ofInt 64 (a : Int)).toNat : Int) = _
  have h1 : BitVec.ofInt 64 18446744073709551615 = BitVec.allOnes 64 := by decide
  rw [h1, BitVec.allOnes_xor, BitVec.toNat_not, ofInt_u64 a (by omega)]
  simp [IntKind.wrap, IntKind.bits, IntKind.signed]
  omega
theorem notM (x : Int) (h0 : 0 ≤ x) (h1 : x < 18446744073709551616) : bits .xor .u64 IntKind.u64.max x = 18446744073709551615 - x := not64 x h0 h1
theorem wrap_toInt (v : BitVec 64) : IntKind.i64.wrap (v.toNat : Int) = v.toInt := by
  have := v.isLt
  rw [BitVec.toInt_eq_toNat_cond]
  simp [IntKind.wrap, IntKind.bits, IntKind.signed]
  split <;> omega
theorem ofInt_msb (a : Int) (h0 : -9223372036854775808 ≤ a) (h1 : a < 9223372036854775808) : (BitVec.ofInt 64 a).msb = decide (a < 0) := by
  rw [BitVec.msb_eq_toInt, BitVec.toInt_ofInt]
  have : a.bmod (2 ^ 64) = a := by
    rw [Int.bmod_def]
    split <;> omega
  rw [this]
theorem xor_sign (a b : Int) (ha : -9223372036854775808 ≤ a ∧ a < 9223372036854775808) (hb : -9223372036854775808 ≤ b ∧ b < 9223372036854775808) :
    (-9223372036854775808 ≤ bits .xor .i64 a b ∧ bits .xor .i64 a b < 9223372036854775808) ∧ decide (bits .xor .i64 a b < 0) = (decide (a < 0) != decide (b < 0)) := by
  show (_ ≤ IntKind.i64.wrap ((BitVec.ofInt 64 a ^^^ BitVec.ofInt 64 b).toNat : Int) ∧ IntKind.i64.wrap ((BitVec.ofInt 64 a ^^^ BitVec.ofInt 64 b).toNat : Int) < _) ∧ decide (IntKind.i64.wrap ((BitVec.ofInt 64 a ^^^ BitVec.ofInt 64 b).toNat : Int) < 0) = _
  rw [wrap_toInt]
  have h1 := BitVec.msb_eq_toInt (x := BitVec.ofInt 64 a ^^^ BitVec.ofInt 64 b)
  rw [BitVec.msb_xor, ofInt_msb a ha.1 ha.2, ofInt_msb b hb.1 hb.2] at h1
  refine ⟨?_, by rw [← h1]⟩
  generalize BitVec.ofInt 64 a ^^^ BitVec.ofInt 64 b = v
  have := v.isLt
  rw [BitVec.toInt_eq_toNat_cond]
  split <;> omega

/-- The size of a number of 128 bits, taken as signed. -/
def absW (h l : Int) : Int := if h < 9223372036854775808 then h * 18446744073709551616 + l else 340282366920938463463374607431768211456 - (h * 18446744073709551616 + l)
def negW (h : Int) : Bool := decide (9223372036854775808 ≤ h)
/-- The size of a number of 64 bits. -/
def absI (n : Int) : Int := if n < 0 then -n else n
/-- Quotient and rest, rounded to 0. -/
def sgn (s : Bool) (n : Int) : Int := if s then -n else n
def tq (h l b : Int) : Int := sgn (negW h != decide (b < 0)) (absW h l / absI b)
def tr (h l b : Int) : Int := sgn (negW h) (absW h l % absI b)
/-- Rounded down. -/
def offD (h l b : Int) : Bool := (tr h l b != 0) && (decide (tr h l b < 0) != decide (b < 0))
def fq (h l b : Int) : Int := if offD h l b then tq h l b - 1 else tq h l b
def fr (h l b : Int) : Int := if offD h l b then tr h l b + b else tr h l b
/-- What is thrown. -/
def fit64 (q : Int) : Bool := decide (-9223372036854775808 ≤ q) && decide (q < 9223372036854775808)
def thrE (b q : Int) : Int := if b = 0 then -10 else if fit64 q then 0 else -11
def giveE (b q x : Int) : Int := if b = 0 then 0 else if fit64 q then x else 0
end Go.Proofs.Ytipolhocplidlaa.Wd
