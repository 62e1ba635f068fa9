/-
  All records have one check sum as a whole: so two that differ in at most four bytes side by side are one. Plain facts; no function of the program is named here.
-/
import Derived.Test.YtlefpnplibmgiaaRtPlain
import Derived.Test.YtlefpnplibmgiaaBurst
namespace Go.Proofs.Ytlefpnplibmgiaa
open Go.RowKit

theorem crcN_pow (k : Nat) : ∀ n : Nat, crcN (2 ^ k * n) k = n := by
  induction k with
  | zero => intro n; show 2 ^ 0 * n = n; omega
  | succ k ih =>
    intro n
    have e : 2 ^ (k + 1) * n = 2 ^ k * (2 * n) := by rw [Nat.pow_succ, Nat.mul_assoc]
    rw [crcN, e, ih (2 * n), crc1, if_neg (by omega)]
    omega
/-- The lowest k bytes of a number. -/
def bts : Nat → Nat → List UInt8
  | _, 0 => []
  | n, k + 1 => UInt8.ofNat n :: bts (n / 256) k
theorem xor_split (n : Nat) : n = (n % 256) ^^^ (256 * (n / 256)) := by
  apply Nat.eq_of_testBit_eq
  intro i
  rw [Nat.testBit_xor, show (256 : Nat) = 2 ^ 8 from rfl, Nat.testBit_mod_two_pow, Nat.mul_comm, Nat.testBit_mul_two_pow, Nat.testBit_div_two_pow]
  by_cases h : i < 8
  · have h' : ¬ 8 ≤ i := by omega
    simp [h, h']
  · have h' : 8 ≤ i := by omega
    simp [h, h', show i - 8 + 8 = i from by omega]
theorem crcL_bts (k : Nat) : ∀ (r n : Nat), n < 2 ^ (8 * k) → crcL r (bts n k) = crcL (r ^^^ n) (List.replicate k 0) := by
  induction k with
  | zero =>
    intro r n h
    have h0 : n = 0 := Nat.lt_one_iff.1 h
    subst h0
    show crcL r [] = crcL (r ^^^ 0) []
    rw [Nat.xor_zero]
  | succ k ih =>
    intro r n h
    have h1 : n / 256 < 2 ^ (8 * k) := by
      rw [show 8 * (k + 1) = 8 * k + 8 from by omega, Nat.pow_add] at h
      exact Nat.div_lt_of_lt_mul (by rw [Nat.mul_comm]; exact h)
    show crcL (crcN (r ^^^ (UInt8.ofNat n).toNat) 8) (bts (n / 256) k) = crcL (crcN ((r ^^^ n) ^^^ (0 : UInt8).toNat) 8) (List.replicate k 0)
    rw [ih _ _ h1]
    congr 1
    have e0 : (UInt8.ofNat n).toNat = n % 256 := by simp
    have e1 : (r ^^^ n) ^^^ (0 : UInt8).toNat = (r ^^^ (n % 256)) ^^^ (256 * (n / 256)) := by
      rw [show (0 : UInt8).toNat = 0 from rfl, Nat.xor_zero, Nat.xor_assoc, ← xor_split]
    have e2 : crcN (256 * (n / 256)) 8 = n / 256 := crcN_pow 8 (n / 256)
    rw [e0, e1, crcN_xor (r ^^^ (n % 256)) (256 * (n / 256)) 8, e2]
theorem bts4 (n : Nat) : bts n 4 = [byteN n 0, byteN n 1, byteN n 2, byteN n 3] := by
  simp only [bts, byteN, Nat.div_div_eq_div_mul]
  simp
/-- The sum of a whole record. -/
theorem crc_rec (b : List UInt8) (h : decB b = true) : crcOf b = 4294967295 ^^^ crcL 4294967295 [0, 0, 0, 0] := by
  rw [← recB_decB] at h
  simp only [recB, Bool.and_eq_true, decide_eq_true_eq] at h
  have h64 := h.1.1.1.1.1
  have hs := h.2
  have hq : num b 60 4 < 2 ^ (8 * 4) := num_lt b 60 4
  have hb : b = b.take 60 ++ bts (num b 60 4) 4 := by
    refine list_ext64 h64 (by rw [bts4]; simp; omega) fun i hi => ?_
    rw [bts4]
    by_cases h60 : i < 60
    · simp [List.getD_eq_getElem?_getD, List.getElem?_append_left (show i < (b.take 60).length by simp; omega), h60]
    · have hl : (b.take 60).length = 60 := by simp; omega
      have hr : (b.take 60 ++ [byteN (num b 60 4) 0, byteN (num b 60 4) 1, byteN (num b 60 4) 2, byteN (num b 60 4) 3]).getD i 0 = [byteN (num b 60 4) 0, byteN (num b 60 4) 1, byteN (num b 60 4) 2, byteN (num b 60 4) 3].getD (i - 60) 0 := by
        rw [List.getD_eq_getElem?_getD, List.getD_eq_getElem?_getD, List.getElem?_append_right (by omega), hl]
      rw [hr]
      have := get_num b 60 4 i (by omega) (by omega)
      rw [← this]
      clear this hr
      have : i = 60 ∨ i = 61 ∨ i = 62 ∨ i = 63 := by omega
      rcases this with rfl | rfl | rfl | rfl <;> rfl
  have key : crcL 4294967295 b = crcL 4294967295 [0, 0, 0, 0] := by
    have e1 : crcL 4294967295 b = crcL 4294967295 (b.take 60 ++ bts (num b 60 4) 4) := by rw [← hb]
    rw [e1, crcL_append, crcL_bts 4 _ _ hq, hs]
    unfold crcOf
    show crcL _ [0, 0, 0, 0] = _
    congr 1
    apply Nat.eq_of_testBit_eq
    intro i
    simp only [Nat.testBit_xor]
    cases (crcL 4294967295 (b.take 60)).testBit i <;> cases (4294967295 : Nat).testBit i <;> rfl
  unfold crcOf
  rw [key]
theorem burst_rec (b x : List UInt8) (k : Nat) (h4 : x.length ≤ 4) (hk : k + x.length ≤ b.length) (hb : decB b = true) (hc : decB (splice b k x) = true) : b = splice b k x :=
  burst b x k h4 hk (by rw [crc_rec b hb, crc_rec _ hc])
end Go.Proofs.Ytlefpnplibmgiaa
