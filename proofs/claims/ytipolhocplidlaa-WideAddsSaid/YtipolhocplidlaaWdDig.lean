/-
  WdDig
-/

namespace Go.Proofs.Ytipolhocplidlaa.Wd

section
variable {U v y1 y0 q r : Nat}
/-- The digit that is sought. -/
def dig (U v y1 y0 : Nat) : Nat := (U * 4294967296 + v) / (y1 * 4294967296 + y0)
theorem mulS (q y1 y0 : Nat) : q * (y1 * 4294967296 + y0) = q * y1 * 4294967296 + q * y0 := by rw [Nat.mul_add, Nat.mul_assoc]
theorem dig_lt (hU : U < y1 * 4294967296 + y0) (hv : v < 4294967296) : dig U v y1 y0 < 4294967296 := by
  unfold dig
  rw [Nat.div_lt_iff_lt_mul (by omega)]
  rw [Nat.mul_comm 4294967296]
  omega
theorem lt_dig (hy : 0 < y1) (h : U * 4294967296 + v < q * y1 * 4294967296 + q * y0) : dig U v y1 y0 < q := by
  unfold dig
  rw [Nat.div_lt_iff_lt_mul (by omega), mulS]
  exact h
theorem le_dig (hy : 0 < y1) (h : q * y1 * 4294967296 + q * y0 ≤ U * 4294967296 + v) : q ≤ dig U v y1 y0 := by
  unfold dig
  rw [Nat.le_div_iff_mul_le (by omega), mulS]
  exact h
/-- What the loop that corrects the digit keeps. -/
structure Dg (U v y1 y0 q r : Nat) : Prop where
  sum : q * y1 + r = U
  ge : dig U v y1 y0 ≤ q
  small : q ≤ 4294967297
theorem Dg.first (hy : 2147483648 ≤ y1) (hy' : y1 < 4294967296) (hy0 : y0 < 4294967296) (hU : U < y1 * 4294967296 + y0) (hv : v < 4294967296) : Dg U v y1 y0 (U / y1) (U - U / y1 * y1) := by
  have h1 : U / y1 * y1 ≤ U := Nat.div_mul_le_self U y1
  refine ⟨by omega, ?_, ?_⟩
  · have h2 : U < (U / y1 + 1) * y1 := by
      rw [Nat.add_mul, Nat.one_mul, Nat.mul_comm]
      exact Nat.lt_mul_div_succ U (by omega)
    have h3 : dig U v y1 y0 < U / y1 + 1 := lt_dig (by omega) (by omega)
    omega
  · have h2 : U / y1 < 4294967298 := by
      rw [Nat.div_lt_iff_lt_mul (by omega)]
      omega
    omega
theorem first_lt (hy : 2147483648 ≤ y1) : U - U / y1 * y1 < y1 := by
  have := Nat.mod_lt U (show 0 < y1 by omega)
  have h2 := Nat.div_add_mod U y1
  rw [Nat.mul_comm] at h2
  omega
/-- The test of the loop. -/
theorem Dg.more (h : Dg U v y1 y0 q r) (hy : 2147483648 ≤ y1) (hU : U < y1 * 4294967296 + y0) (hv : v < 4294967296)
    (ht : 4294967296 ≤ q ∨ 4294967296 * r + v < q * y0) : 1 ≤ q ∧ Dg U v y1 y0 (q - 1) (r + y1) := by
  have hs := h.sum
  have hlt : dig U v y1 y0 < q := by
    rcases ht with ht | ht
    · have := dig_lt hU hv
      omega
    · exact lt_dig (by omega) (by omega)
  obtain ⟨p, rfl⟩ : ∃ p, q = p + 1 := ⟨q - 1, by omega⟩
  refine ⟨by omega, ?_, by show dig U v y1 y0 ≤ p; omega, by have := h.small; omega⟩
  show p * y1 + (r + y1) = U
  rw [Nat.add_mul] at hs
  omega
theorem Dg.stop (h : Dg U v y1 y0 q r) (hy : 2147483648 ≤ y1) (ht : q * y0 ≤ 4294967296 * r + v) : q = dig U v y1 y0 := by
  have hs := h.sum
  have := le_dig (U := U) (v := v) (y1 := y1) (y0 := y0) (q := q) (by omega) (by omega)
  have := h.ge
  omega
theorem Dg.brk (h : Dg U v y1 y0 q r) (hy : 2147483648 ≤ y1) (hy0 : y0 < 4294967296) (hq : q ≤ 4294967296) (hr : 4294967296 ≤ r) : q = dig U v y1 y0 := by
  refine h.stop hy ?_
  have : q * y0 ≤ 4294967296 * 4294967295 := Nat.mul_le_mul hq (by omega)
  omega
end

theorem divmod_more (N y c k : Nat) (hy : 0 < y) : (N * k + c) / y = N / y * k + (N % y * k + c) / y ∧ (N * k + c) % y = (N % y * k + c) % y := by
  have hd := Nat.div_add_mod N y
  have e : N * k + c = N % y * k + c + y * (N / y * k) := by
    have h1 : (y * (N / y) + N % y) * k = y * (N / y * k) + N % y * k := by rw [Nat.add_mul, Nat.mul_assoc]
    rw [hd] at h1
    omega
  rw [e]
  refine ⟨?_, Nat.add_mul_mod_self_left _ _ _⟩
  rw [Nat.add_mul_div_left _ _ hy, Nat.add_comm]
theorem sub_div (n y : Nat) : n - n / y * y = n % y := by
  have := Nat.div_add_mod n y
  rw [Nat.mul_comm] at this
  omega
/-- Both digits together, for a number that was shifted. -/
theorem two_digits (N y y1 y0 un0 H un1 : Nat) (hN : N = H * 4294967296 + un1) (hy : y = y1 * 4294967296 + y0) (hy1 : 2147483648 ≤ y1) :
    dig H un1 y1 y0 * y ≤ N ∧ N - dig H un1 y1 y0 * y = N % y ∧ N % y < y ∧
    dig H un1 y1 y0 * 4294967296 + dig (N % y) un0 y1 y0 = (N * 4294967296 + un0) / y ∧
    dig (N % y) un0 y1 y0 * y ≤ N % y * 4294967296 + un0 ∧
    (N % y * 4294967296 + un0) - dig (N % y) un0 y1 y0 * y = (N * 4294967296 + un0) % y := by
  have hyp : 0 < y := by omega
  have e1 : dig H un1 y1 y0 = N / y := by unfold dig; rw [hy, hN]
  have e2 : dig (N % y) un0 y1 y0 = (N % y * 4294967296 + un0) / y := by unfold dig; rw [hy]
  obtain ⟨h1, h2⟩ := divmod_more N y un0 4294967296 hyp
  rw [e1, e2]
  exact ⟨Nat.div_mul_le_self _ _, sub_div _ _, Nat.mod_lt _ hyp, h1.symm, Nat.div_mul_le_self _ _, by rw [sub_div, h2]⟩
/-- A shift of both sides. -/
theorem shifted (a y s : Nat) : a * 2 ^ s / (y * 2 ^ s) = a / y ∧ a * 2 ^ s % (y * 2 ^ s) / 2 ^ s = a % y := by
  have h2 : 0 < 2 ^ s := Nat.two_pow_pos s
  refine ⟨Nat.mul_div_mul_right a y h2, ?_⟩
  rw [Nat.mul_mod_mul_right, Nat.mul_div_cancel _ h2]
end Go.Proofs.Ytipolhocplidlaa.Wd
