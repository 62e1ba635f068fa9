/-
  HhPlain
-/
import Derived.Test.YthmlhjjcihibnaaMmNum
import Derived.Test.YthmlhjjcihibnaaSkPlain
import Derived.Laws.BitsAllLaws
namespace Go.Proofs.Ythmlhjjcihibnaa.Hh
open Go.RowKit Mm
set_option linter.unusedVariables false

/-! ### bits -/
theorem all256 {p : Nat → Prop} [DecidablePred p] (h : (List.range 256).all (fun n => decide (p n)) = true) (u : UInt8) : p u.toNat := by
  rw [List.all_eq_true] at h
  have := h u.toNat (by simp; exact u.toNat_lt)
  simpa using this
theorem and31 (u : UInt8) : bits .and .u8 (u.toNat : Int) 31 = ((u.toNat % 32 : Nat) : Int) := all256 (p := fun n => bits .and .u8 (n : Int) 31 = ((n % 32 : Nat) : Int)) (by kernel_rfl) u
theorem and32 (u : UInt8) : bits .and .u8 (u.toNat : Int) 32 = ((u.toNat / 32 % 2 * 32 : Nat) : Int) := all256 (p := fun n => bits .and .u8 (n : Int) 32 = ((n / 32 % 2 * 32 : Nat) : Int)) (by kernel_rfl) u
theorem and64 (u : UInt8) : bits .and .u8 (u.toNat : Int) 64 = ((u.toNat / 64 % 2 * 64 : Nat) : Int) := all256 (p := fun n => bits .and .u8 (n : Int) 64 = ((n / 64 % 2 * 64 : Nat) : Int)) (by kernel_rfl) u
theorem and128 (u : UInt8) : bits .and .u8 (u.toNat : Int) 128 = ((u.toNat / 128 * 128 : Nat) : Int) := all256 (p := fun n => bits .and .u8 (n : Int) 128 = ((n / 128 * 128 : Nat) : Int)) (by kernel_rfl) u
theorem not192 (u : UInt8) : bits .andNot .u8 (u.toNat : Int) 192 = ((u.toNat % 64 : Nat) : Int) := all256 (p := fun n => bits .andNot .u8 (n : Int) 192 = ((n % 64 : Nat) : Int)) (by kernel_rfl) u
/-- Marks as a number. -/
def markN (i h : Bool) : Nat := (if i = true then 128 else 0) + if h = true then 64 else 0
theorem or_marks (i h : Bool) : ∀ n : Nat, n < 64 → bits .or .u8 (n : Int) (markN i h : Int) = ((n + markN i h : Nat) : Int) ∧ bits .or .u8 (markN i h : Int) (n : Int) = ((n + markN i h : Nat) : Int) := by
  have : (List.range 64).all (fun n => decide (bits .or .u8 (n : Int) (markN i h : Int) = ((n + markN i h : Nat) : Int) ∧ bits .or .u8 (markN i h : Int) (n : Int) = ((n + markN i h : Nat) : Int))) = true := by
    cases i <;> cases h <;> kernel_rfl
  rw [List.all_eq_true] at this
  intro n hn
  simpa using this n (by simpa using hn)
theorem markN_lt (i h : Bool) : markN i h ≤ 192 := by cases i <;> cases h <;> decide

/-! ### the next multiple of 8 -/
def alignV (n : Int) : Int := wrap64 (n + 7) - wrap64 (n + 7) % 8
theorem wrap64_in (n : Int) : -9223372036854775808 ≤ wrap64 n ∧ wrap64 n ≤ 9223372036854775807 := by unfold wrap64; omega
theorem alignV_in (n : Int) : -9223372036854775808 ≤ alignV n ∧ alignV n ≤ 9223372036854775807 := by
  have := wrap64_in (n + 7)
  unfold alignV
  omega
theorem alignV_small {n : Int} (h0 : -1000000 ≤ n) (h1 : n ≤ 1000000) : alignV n = (n + 7) / 8 * 8 := by
  have e : wrap64 (n + 7) = n + 7 := by unfold wrap64; omega
  unfold alignV
  rw [e]
  omega
theorem nat_and8 (n : Nat) (h : n < 2 ^ 64) : n &&& 18446744073709551608 = n / 8 * 8 := by
  have e : (18446744073709551608 : Nat) = (2 ^ 61 - 1) <<< 3 := by decide
  have e2 : n / 8 * 8 = (n >>> 3) <<< 3 := by rw [Nat.shiftRight_eq_div_pow, Nat.shiftLeft_eq]
  rw [e, e2]
  refine Nat.eq_of_testBit_eq fun i => ?_
  rw [Nat.testBit_and, Nat.testBit_shiftLeft, Nat.testBit_shiftLeft, Nat.testBit_shiftRight, Nat.testBit_two_pow_sub_one]
  by_cases h3 : 3 ≤ i
  · by_cases h64 : i < 64
    · simp only [ge_iff_le, h3, decide_true, Bool.true_and, show i - 3 < 61 by omega, Bool.and_true, show 3 + (i - 3) = i by omega]
    · have : n.testBit i = false := Nat.testBit_lt_two_pow (Nat.lt_of_lt_of_le h (Nat.pow_le_pow_right (by omega) (by omega)))
      simp [show 3 + (i - 3) = i by omega, this]
  · simp [h3]
theorem and8 (x : Int) (h0 : -9223372036854775808 ≤ x) (h1 : x ≤ 9223372036854775807) : IntKind.i64.wrap (((BitVec.ofInt 64 x).toNat / 8 * 8 : Nat) : Int) = x - x % 8 := by
  rw [BitVec.toNat_ofInt, IntKind.wrap_i64]
  omega
theorem align_code (n : Int) : bits .andNot .i64 (wrap64 (wrap64 (n + 8) - 1)) 7 = alignV n := by
  have e : wrap64 (wrap64 (n + 8) - 1) = wrap64 (n + 7) := by unfold wrap64; omega
  have b := wrap64_in (n + 7)
  rw [e]
  unfold alignV
  generalize wrap64 (n + 7) = x at *
  rw [← and8 x b.1 b.2]
  show IntKind.i64.wrap ((BitVec.ofInt 64 x &&& ~~~ BitVec.ofInt 64 7).toNat : Int) = _
  rw [BitVec.toNat_and, show (~~~ BitVec.ofInt 64 7).toNat = 18446744073709551608 by decide, nat_and8 _ (BitVec.isLt _)]
theorem align_doc (n : Int) : bits .and .i64 (wrap64 (n + 7)) (-8) = alignV n := by
  have b := wrap64_in (n + 7)
  unfold alignV
  generalize wrap64 (n + 7) = x at *
  rw [← and8 x b.1 b.2]
  show IntKind.i64.wrap ((BitVec.ofInt 64 x &&& BitVec.ofInt 64 (-8)).toNat : Int) = _
  rw [BitVec.toNat_and, show (BitVec.ofInt 64 (-8)).toNat = 18446744073709551608 by decide, nat_and8 _ (BitVec.isLt _)]

/-! ### a header -/
def Sx (xs : List UInt8) : Value := .string ⟨xs.toArray⟩
structure HV where
  at_ : Int
  link : Int
  name : List UInt8
  imm : Bool
  hid : Bool
  xt : Int
def hag (h : HV) : Value := .agg #[.int .i64 h.at_, .int .i64 h.link, Sx h.name, .bool h.imm, .bool h.hid, .int .i64 h.xt]
def hag0 : HV := ⟨0, 0, [], false, false, 0⟩
/-- Bytes laid one by one. -/
def setsL : List UInt8 → Nat → List UInt8 → List UInt8
  | zs, _, [] => zs
  | zs, k, u :: r => setsL (zs.set k u) (k + 1) r
theorem setsL_len : ∀ (ys zs : List UInt8) (k : Nat), (setsL zs k ys).length = zs.length
  | [], _, _ => rfl
  | u :: r, zs, k => by rw [setsL, setsL_len r, List.length_set]
theorem setsL_get : ∀ (ys zs : List UInt8) (k i : Nat), k + ys.length ≤ zs.length → (setsL zs k ys).getD i 0 = if k ≤ i ∧ i < k + ys.length then ys.getD (i - k) 0 else zs.getD i 0
  | [], zs, k, i, _ => by rw [setsL, if_neg (by simp)]
  | u :: r, zs, k, i, h => by
    simp only [List.length_cons] at h ⊢
    rw [setsL, setsL_get r _ _ _ (by rw [List.length_set]; omega)]
    by_cases c : k + 1 ≤ i ∧ i < k + 1 + r.length
    · rw [if_pos c, if_pos (by omega), show i - k = (i - (k + 1)) + 1 by omega]
      rfl
    · rw [if_neg c]
      by_cases e : i = k
      · subst e
        rw [if_pos (by omega), Nat.sub_self]
        simp only [List.getD_eq_getElem?_getD]
        rw [List.getElem?_set_self (by omega)]
        rfl
      · rw [if_neg (by omega)]
        simp only [List.getD_eq_getElem?_getD]
        rw [List.getElem?_set_ne (fun x => e x.symm)]
def thrV (n : List UInt8) : Int := if n = [] then -16 else if 31 < n.length then -19 else 0
def markB (n : Nat) (i h : Bool) : UInt8 := UInt8.ofNat (n + markN i h)
theorem markB_val {n : Nat} (hn : n < 64) (i h : Bool) : (markB n i h).toNat = n + markN i h := by
  have := markN_lt i h
  unfold markB
  simp
  omega
def sizeN (n : List UInt8) : Nat := (9 + n.length + 7) / 8 * 8
def headL (l : Int) (n : List UInt8) : List UInt8 := putL (List.replicate (sizeN n) 0) 0 (IntKind.u64.wrap l).toNat 8
def bytesL (l : Int) (n : List UInt8) (i h : Bool) : List UInt8 := setsL ((headL l n).set 8 (markB n.length i h)) 9 n
theorem headL_len (l : Int) (n : List UInt8) : (headL l n).length = sizeN n := by unfold headL; rw [putL_len, List.length_replicate]
theorem bytesL_len (l : Int) (n : List UInt8) (i h : Bool) : (bytesL l n i h).length = sizeN n := by unfold bytesL; rw [setsL_len, List.length_set, headL_len]
theorem sizeN_bd (n : List UInt8) (h : n.length ≤ 31) : 9 + n.length ≤ sizeN n ∧ sizeN n ≤ 40 ∧ sizeN n < 9 + n.length + 8 ∧ sizeN n % 8 = 0 := by unfold sizeN; omega
theorem align_size (n : List UInt8) (h : n.length ≤ 31) : alignV (9 + (n.length : Int)) = (sizeN n : Int) := by
  rw [alignV_small (by omega) (by omega)]
  unfold sizeN
  omega

/-! ### what is read -/
def hereV (M : List UInt8) : Int := if cel M 0 < 1536 ∨ 5632 < cel M 0 then 1536 else cel M 0
theorem hereV_bd (M : List UInt8) : 1536 ≤ hereV M ∧ hereV M ≤ 5632 := by unfold hereV; split <;> omega
/-- The byte behind the link, the name's length, where the code cell stands. -/
def mkV (M : List UInt8) (a : Int) : UInt8 := byt M (a + 8)
def lgV (M : List UInt8) (a : Int) : Nat := (mkV M a).toNat % 32
def xtV (M : List UInt8) (a : Int) : Int := alignV (a + 9 + lgV M a)
def IsH (M : List UInt8) (a : Int) : Prop := 1536 ≤ a ∧ a < hereV M ∧ a.tmod 8 = 0 ∧ lgV M a ≠ 0 ∧ xtV M a ≤ hereV M - 8
instance (M : List UInt8) (a : Int) : Decidable (IsH M a) := by unfold IsH; infer_instance
def rdV (M : List UInt8) (a : Int) : HV := ⟨a, cel M a, loadL M (a + 9) (lgV M a), decide (128 ≤ (mkV M a).toNat), decide ((mkV M a).toNat / 64 % 2 = 1), xtV M a⟩
def readH (M : List UInt8) (a : Int) : HV := if IsH M a then rdV M a else hag0
def latV (M : List UInt8) : Int := if IsH M (cel M 8) then cel M 8 else 0
end Go.Proofs.Ythmlhjjcihibnaa.Hh
