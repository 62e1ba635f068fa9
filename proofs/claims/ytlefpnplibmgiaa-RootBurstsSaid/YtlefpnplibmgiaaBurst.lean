/-
  A burst of at most four bytes changes the check sum: plain facts on the register. And 'copy' into a row that append made.
-/
import Derived.Test.YtlefpnplibmgiaaApp
import Derived.Test.YtlefpnplibmgiaaCrc
namespace Go.Proofs.Ytlefpnplibmgiaa
open Go.RowKit

theorem xor_div2 (a b : Nat) : (a ^^^ b) / 2 = (a / 2) ^^^ (b / 2) := by
  apply Nat.eq_of_testBit_eq
  intro i
  simp [Nat.testBit_div_two, Nat.testBit_xor]
theorem xor_zero {a b : Nat} (h : a ^^^ b = 0) : a = b := by
  apply Nat.eq_of_testBit_eq
  intro i
  have e := congrArg (fun n => Nat.testBit n i) h
  simp only [Nat.testBit_xor, Nat.zero_testBit] at e
  revert e
  cases a.testBit i <;> cases b.testBit i <;> simp
theorem xor_left {a b c : Nat} (h : c ^^^ a = c ^^^ b) : a = b := by
  apply Nat.eq_of_testBit_eq
  intro i
  have e := congrArg (fun n => Nat.testBit n i) h
  simp only [Nat.testBit_xor] at e
  revert e
  cases a.testBit i <;> cases b.testBit i <;> cases c.testBit i <;> simp
theorem xor_mod2 (a b : Nat) : (a ^^^ b) % 2 = (a % 2) ^^^ (b % 2) := by
  have := Nat.xor_mod_two_pow (a := a) (b := b) (n := 1)
  simpa using this
theorem crc1_xor (a b : Nat) : crc1 (a ^^^ b) = crc1 a ^^^ crc1 b := by
  unfold crc1
  rw [xor_mod2, xor_div2]
  rcases Nat.mod_two_eq_zero_or_one a with ha | ha <;> rcases Nat.mod_two_eq_zero_or_one b with hb | hb <;> rw [ha, hb]
  · rfl
  · show (a / 2 ^^^ b / 2) ^^^ 3988292384 = a / 2 ^^^ (b / 2 ^^^ 3988292384)
    rw [Nat.xor_assoc]
  · show (a / 2 ^^^ b / 2) ^^^ 3988292384 = (a / 2 ^^^ 3988292384) ^^^ b / 2
    rw [Nat.xor_assoc, Nat.xor_assoc, Nat.xor_comm (b / 2)]
  · show a / 2 ^^^ b / 2 = (a / 2 ^^^ 3988292384) ^^^ (b / 2 ^^^ 3988292384)
    rw [Nat.xor_comm (b / 2) 3988292384, Nat.xor_assoc, ← Nat.xor_assoc 3988292384, Nat.xor_self, Nat.zero_xor]
theorem crcN_xor (a b k : Nat) : crcN (a ^^^ b) k = crcN a k ^^^ crcN b k := by
  induction k with
  | zero => rfl
  | succ k ih => rw [crcN, ih, crc1_xor]; rfl
/-- A register whose highest bit is 0 behind a shift was twice as great ahead of it. -/
theorem crc1_small (c : Nat) (h : c < 4294967296) (hs : crc1 c < 2147483648) : c = 2 * crc1 c := by
  unfold crc1 at hs ⊢
  split at hs
  · exfalso
    have h2 : c / 2 < 2147483648 := by omega
    have ht : ((c / 2) ^^^ 3988292384).testBit 31 = true := by
      rw [Nat.testBit_xor, Nat.testBit_lt_two_pow (x := c / 2) (i := 31) (by omega)]
      decide
    have := Nat.ge_two_pow_of_testBit ht
    omega
  · rw [if_neg ‹_›]; omega
theorem crcN_small (c : Nat) (k : Nat) (hk : k ≤ 8) (h : c < 4294967296) (hs : crcN c k < 2 ^ (32 - k)) : c = 2 ^ k * crcN c k := by
  induction k with
  | zero => simp [crcN]
  | succ k ih =>
    have hlt := crcN_lt c k h
    have h1 : crcN c (k + 1) < 2147483648 := Nat.lt_of_lt_of_le hs (by
      show 2 ^ (32 - (k + 1)) ≤ 2 ^ 31
      exact Nat.pow_le_pow_right (by omega) (by omega))
    have h2 := crc1_small (crcN c k) hlt h1
    have h3 : crcN c k < 2 ^ (32 - k) := by
      rw [h2, show 32 - k = 32 - (k + 1) + 1 from by omega, Nat.pow_succ]
      have : crc1 (crcN c k) < 2 ^ (32 - (k + 1)) := hs
      omega
    have h4 := ih (by omega) h3
    rw [crcN, Nat.pow_succ, Nat.mul_assoc, ← h2]
    exact h4
theorem crc8_small (c : Nat) (h : c < 4294967296) (hs : crcN c 8 < 16777216) : c = 256 * crcN c 8 := crcN_small c 8 (by omega) h hs
/-- If the registers are alike behind k bytes, at most four, they differed ahead of them in their lowest 8k bits alone. -/
theorem crcL_back (xs ys : List UInt8) : ∀ (c c' : Nat), c < 4294967296 → c' < 4294967296 → xs.length = ys.length → xs.length ≤ 4 → crcL c xs = crcL c' ys → c ^^^ c' < 2 ^ (8 * xs.length) := by
  induction xs generalizing ys with
  | nil =>
    intro c c' _ _ hl _ h
    obtain rfl : ys = [] := List.eq_nil_of_length_eq_zero hl.symm
    have : c = c' := h
    subst this
    simp
  | cons x xs ih =>
    intro c c' hc hc' hl h4 h
    match ys, hl with
    | y :: ys, hl =>
      simp only [List.length_cons] at hl h4
      have h1 := ih ys _ _ (crcN_lt _ 8 (xor8_lt c x hc)) (crcN_lt _ 8 (xor8_lt c' y hc')) (by omega) (by omega) h
      rw [← crcN_xor] at h1
      have hd : (c ^^^ x.toNat) ^^^ (c' ^^^ y.toNat) < 4294967296 := Nat.xor_lt_two_pow (n := 32) (xor8_lt c x hc) (xor8_lt c' y hc')
      have hp : (2 : Nat) ^ (8 * xs.length) ≤ 16777216 := by
        show _ ≤ 2 ^ 24
        exact Nat.pow_le_pow_right (by omega) (by omega)
      have h2 := crc8_small _ hd (Nat.lt_of_lt_of_le h1 hp)
      have h3 : (c ^^^ x.toNat) ^^^ (c' ^^^ y.toNat) < 2 ^ (8 * (xs.length + 1)) := by
        rw [h2, show 8 * (xs.length + 1) = 8 * xs.length + 8 from by omega, Nat.pow_add]
        omega
      have e : c ^^^ c' = ((c ^^^ x.toNat) ^^^ (c' ^^^ y.toNat)) ^^^ (x.toNat ^^^ y.toNat) := by
        apply Nat.eq_of_testBit_eq
        intro i
        simp only [Nat.testBit_xor]
        cases c.testBit i <;> cases c'.testBit i <;> cases x.toNat.testBit i <;> cases y.toNat.testBit i <;> rfl
      rw [e]
      refine Nat.xor_lt_two_pow h3 (Nat.xor_lt_two_pow ?_ ?_)
      · exact Nat.lt_of_lt_of_le x.toNat_lt (Nat.pow_le_pow_right (by omega) (by simp only [List.length_cons]; omega))
      · exact Nat.lt_of_lt_of_le y.toNat_lt (Nat.pow_le_pow_right (by omega) (by simp only [List.length_cons]; omega))
/-- From one register on, two texts of one length, at most four bytes, come to one register only if they are alike. -/
theorem crcL_inj (xs ys : List UInt8) : ∀ (c : Nat), c < 4294967296 → xs.length = ys.length → xs.length ≤ 4 → crcL c xs = crcL c ys → xs = ys := by
  induction xs generalizing ys with
  | nil =>
    intro c _ hl _ _
    exact (List.eq_nil_of_length_eq_zero hl.symm).symm
  | cons x xs ih =>
    intro c hc hl h4 h
    match ys, hl with
    | y :: ys, hl =>
      simp only [List.length_cons] at hl h4
      have h1 := crcL_back xs ys _ _ (crcN_lt _ 8 (xor8_lt c x hc)) (crcN_lt _ 8 (xor8_lt c y hc)) (by omega) (by omega) h
      rw [← crcN_xor] at h1
      have e : (c ^^^ x.toNat) ^^^ (c ^^^ y.toNat) = x.toNat ^^^ y.toNat := by
        apply Nat.eq_of_testBit_eq
        intro i
        simp only [Nat.testBit_xor]
        cases c.testBit i <;> cases x.toNat.testBit i <;> cases y.toNat.testBit i <;> rfl
      rw [e] at h1
      have hd : x.toNat ^^^ y.toNat < 256 := Nat.xor_lt_two_pow (n := 8) x.toNat_lt y.toNat_lt
      have hp : (2 : Nat) ^ (8 * xs.length) ≤ 16777216 := by
        show _ ≤ 2 ^ 24
        exact Nat.pow_le_pow_right (by omega) (by omega)
      have h2 := crc8_small _ (by omega) (Nat.lt_of_lt_of_le h1 hp)
      have h3 : x.toNat ^^^ y.toNat = 0 := by omega
      have hxy : x = y := UInt8.toNat_inj.1 (xor_zero h3)
      subst hxy
      rw [ih ys _ (crcN_lt _ 8 (xor8_lt c x hc)) (by omega) (by omega) h]
theorem crcL_append (c : Nat) (xs ys : List UInt8) : crcL c (xs ++ ys) = crcL (crcL c xs) ys := by
  induction xs generalizing c with
  | nil => rfl
  | cons x xs ih => exact ih _
/-- Bytes behind: registers that come to one were one. -/
theorem crcL_tail (zs : List UInt8) : ∀ (c c' : Nat), c < 4294967296 → c' < 4294967296 → crcL c zs = crcL c' zs → c = c' := by
  induction zs with
  | nil => intro c c' _ _ h; exact h
  | cons z zs ih =>
    intro c c' hc hc' h
    have h1 := ih _ _ (crcN_lt _ 8 (xor8_lt c z hc)) (crcN_lt _ 8 (xor8_lt c' z hc')) h
    have h2 : crcN ((c ^^^ z.toNat) ^^^ (c' ^^^ z.toNat)) 8 = 0 := by rw [crcN_xor, h1, Nat.xor_self]
    have e : (c ^^^ z.toNat) ^^^ (c' ^^^ z.toNat) = c ^^^ c' := by
      apply Nat.eq_of_testBit_eq
      intro i
      simp only [Nat.testBit_xor]
      cases c.testBit i <;> cases c'.testBit i <;> cases z.toNat.testBit i <;> rfl
    rw [e] at h2
    have h3 := crc8_small (c ^^^ c') (Nat.xor_lt_two_pow (n := 32) hc hc') (by omega)
    rw [h2] at h3
    exact xor_zero h3
/-- The sums of a text, and of one of which at most four bytes side by side are others, differ. -/
theorem burst (xs ys : List UInt8) (k : Nat) (h4 : ys.length ≤ 4) (hk : k + ys.length ≤ xs.length) (h : crcOf xs = crcOf (splice xs k ys)) : xs = splice xs k ys := by
  unfold crcOf at h
  have h0 : crcL 4294967295 xs = crcL 4294967295 (splice xs k ys) := xor_left h
  have hx : xs = xs.take k ++ ((xs.drop k).take ys.length ++ xs.drop (k + ys.length)) := by
    rw [← List.drop_drop, List.take_append_drop, List.take_append_drop]
  have e : crcL 4294967295 (xs.take k ++ ((xs.drop k).take ys.length ++ xs.drop (k + ys.length))) = crcL 4294967295 (xs.take k ++ (ys ++ xs.drop (k + ys.length))) := by
    rw [← hx]; exact h0
  rw [crcL_append, crcL_append, crcL_append, crcL_append] at e
  have hr := crcL_lt 4294967295 (xs.take k) (by omega)
  have h1 := crcL_tail _ _ _ (crcL_lt _ _ hr) (crcL_lt _ _ hr) e
  have h2 := crcL_inj _ _ _ hr (by simp; omega) (by simp; omega) h1
  unfold splice
  rw [h2] at hx
  exact hx
end Go.Proofs.Ytlefpnplibmgiaa
