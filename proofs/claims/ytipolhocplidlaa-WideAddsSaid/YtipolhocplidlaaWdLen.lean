/-
  WdLen
-/
import Derived.Test.YtipolhocplidlaaRows
import Derived.Test.YtipolhocplidlaaGA
import Derived.Lib.Tables
import Derived.Laws.Bits64b
import Derived.WalkSmall
import Derived.Lib.Hide
namespace Go.Proofs.Ytipolhocplidlaa.Wd
set_option linter.unusedSimpArgs false
set_option linter.unusedVariables false
open Go.RowKit

theorem foldLen : (⟨(([0, 1, 2, 2, 3, 3, 3, 3, 4, 4, 4, 4, 4, 4, 4, 4, 5, 5, 5, 5, 5, 5, 5, 5, 5, 5, 5, 5, 5, 5, 5, 5, 6, 6, 6, 6, 6, 6, 6, 6, 6, 6, 6, 6, 6, 6, 6, 6, 6, 6, 6, 6, 6, 6, 6, 6, 6, 6, 6, 6, 6, 6, 6, 6].append [7, 7, 7, 7, 7, 7, 7, 7, 7, 7, 7, 7, 7, 7, 7, 7, 7, 7, 7, 7, 7, 7, 7, 7, 7, 7, 7, 7, 7, 7, 7, 7, 7, 7, 7, 7, 7, 7, 7, 7, 7, 7, 7, 7, 7, 7, 7, 7, 7, 7, 7, 7, 7, 7, 7, 7, 7, 7, 7, 7, 7, 7, 7, 7]).append ([8, 8, 8, 8, 8, 8, 8, 8, 8, 8, 8, 8, 8, 8, 8, 8, 8, 8, 8, 8, 8, 8, 8, 8, 8, 8, 8, 8, 8, 8, 8, 8, 8, 8, 8, 8, 8, 8, 8, 8, 8, 8, 8, 8, 8, 8, 8, 8, 8, 8, 8, 8, 8, 8, 8, 8, 8, 8, 8, 8, 8, 8, 8, 8].append [8, 8, 8, 8, 8, 8, 8, 8, 8, 8, 8, 8, 8, 8, 8, 8, 8, 8, 8, 8, 8, 8, 8, 8, 8, 8, 8, 8, 8, 8, 8, 8, 8, 8, 8, 8, 8, 8, 8, 8, 8, 8, 8, 8, 8, 8, 8, 8, 8, 8, 8, 8, 8, 8, 8, 8, 8, 8, 8, 8, 8, 8, 8, 8])).toArray⟩ : ByteArray) = Lib.len8tab := by kernel_rfl
theorem len8_small : ∀ b : Fin 256, b.val ≠ 0 → ∃ n : Fin 9, Lib.len8 (b.val : Int) = (n.val : Int) ∧ 1 ≤ n.val ∧ 2 ^ (n.val - 1) ≤ b.val ∧ b.val < 2 ^ n.val := by decide +kernel
/-- A number's length in bits, told. -/
def LenIs (x n : Nat) : Prop := 1 ≤ n ∧ n ≤ 64 ∧ 2 ^ (n - 1) ≤ x ∧ x < 2 ^ n
theorem len_at (x K P b : Nat) (hP : P = 2 ^ K) (hb : b = x / P) (h1 : b < 256) (h0 : b ≠ 0) (hK : K ≤ 56) : ∃ n : Nat, Lib.len8 (b : Int) = (n : Int) ∧ n ≤ 8 ∧ LenIs x (K + n) := by
  subst hP
  obtain ⟨n, e, hn, hlo, hhi⟩ := len8_small ⟨b, h1⟩ h0
  have hn8 := n.isLt
  refine ⟨n.val, e, by omega, by omega, by omega, ?_, ?_⟩
  · rw [show K + n.val - 1 = (n.val - 1) + K from by omega, Nat.pow_add]
    have := Nat.mul_le_mul_right (2 ^ K) hlo
    have h2 := Nat.div_mul_le_self x (2 ^ K)
    rw [← hb] at h2
    simp only at this
    omega
  · rw [show K + n.val = n.val + K from by omega, Nat.pow_add]
    have h2 : x < 2 ^ K * (x / 2 ^ K + 1) := Nat.lt_mul_div_succ x (Nat.two_pow_pos K)
    rw [← hb] at h2
    have h3 : 2 ^ K * (b + 1) ≤ 2 ^ K * 2 ^ n.val := Nat.mul_le_mul_left _ hhi
    rw [Nat.mul_comm (2 ^ n.val)]
    omega
/-- What Len64 gives. -/
def LenOut (x : Nat) (w : World) (e : Ending) (w' : World) : Prop := (∃ n : Nat, e = .returned (.int .i64 (n : Int)) ∧ LenIs x n) ∧ w' = w
theorem len8_get (i : Int) (h : i.toNat < Lib.len8tab.size) : ((Lib.len8tab[i.toNat]'h).toNat : Int) = Lib.len8 i := by
  unfold Lib.len8
  rw [ByteArray.getElem?_lt' _ _ h, Option.getD_some]
set_option maxHeartbeats 1000000 in
set_option maxRecDepth 100000 in
theorem len_yyy (X n : Int) (h : 0 ≤ X) (hx : X ≤ 18446744073709551615) (h1 : 4294967296 ≤ X) (h2 : 65536 ≤ X / 4294967296) (h3 : 256 ≤ X / 4294967296 / 65536) (hn : 0 ≤ n ∧ n ≤ 8) (e : Lib.len8 (X / 4294967296 / 65536 / 256) = n) (w : World) :
    Calls Try.prog 58 #[.int .u64 X] w fun e w' => e = .returned (.int .i64 (56 + n)) ∧ w' = w := by
  have hg : 0 ≤ X / 4294967296 / 65536 / 256 ∧ X / 4294967296 / 65536 / 256 < (Lib.len8tab.size : Int) := by rw [Lib.len8tab_size]; omega
  go_enter Try.func58, Try.ntmps58
  simp only [foldLen]
  go_wp2_with fail
  go_ret
  refine ⟨congrArg Ending.returned (congrArg (Value.int IntKind.i64) ?_), rfl⟩
  simp only [len8_get, e]
  simp only [wrap64]
  omega
set_option maxHeartbeats 1000000 in
set_option maxRecDepth 100000 in
theorem len_yyn (X n : Int) (h : 0 ≤ X) (hx : X ≤ 18446744073709551615) (h1 : 4294967296 ≤ X) (h2 : 65536 ≤ X / 4294967296) (h3 : X / 4294967296 / 65536 < 256) (hn : 0 ≤ n ∧ n ≤ 8) (e : Lib.len8 (X / 4294967296 / 65536) = n) (w : World) :
    Calls Try.prog 58 #[.int .u64 X] w fun e w' => e = .returned (.int .i64 (48 + n)) ∧ w' = w := by
  have hg : 0 ≤ X / 4294967296 / 65536 ∧ X / 4294967296 / 65536 < (Lib.len8tab.size : Int) := by rw [Lib.len8tab_size]; omega
  go_enter Try.func58, Try.ntmps58
  simp only [foldLen]
  go_wp2_with fail
  go_ret
  refine ⟨congrArg Ending.returned (congrArg (Value.int IntKind.i64) ?_), rfl⟩
  simp only [len8_get, e]
  simp only [wrap64]
  omega
set_option maxHeartbeats 1000000 in
set_option maxRecDepth 100000 in
theorem len_yny (X n : Int) (h : 0 ≤ X) (hx : X ≤ 18446744073709551615) (h1 : 4294967296 ≤ X) (h2 : X / 4294967296 < 65536) (h3 : 256 ≤ X / 4294967296) (hn : 0 ≤ n ∧ n ≤ 8) (e : Lib.len8 (X / 4294967296 / 256) = n) (w : World) :
    Calls Try.prog 58 #[.int .u64 X] w fun e w' => e = .returned (.int .i64 (40 + n)) ∧ w' = w := by
  have hg : 0 ≤ X / 4294967296 / 256 ∧ X / 4294967296 / 256 < (Lib.len8tab.size : Int) := by rw [Lib.len8tab_size]; omega
  go_enter Try.func58, Try.ntmps58
  simp only [foldLen]
  go_wp2_with fail
  go_ret
  refine ⟨congrArg Ending.returned (congrArg (Value.int IntKind.i64) ?_), rfl⟩
  simp only [len8_get, e]
  simp only [wrap64]
  omega
set_option maxHeartbeats 1000000 in
set_option maxRecDepth 100000 in
theorem len_ynn (X n : Int) (h : 0 ≤ X) (hx : X ≤ 18446744073709551615) (h1 : 4294967296 ≤ X) (h2 : X / 4294967296 < 65536) (h3 : X / 4294967296 < 256) (hn : 0 ≤ n ∧ n ≤ 8) (e : Lib.len8 (X / 4294967296) = n) (w : World) :
    Calls Try.prog 58 #[.int .u64 X] w fun e w' => e = .returned (.int .i64 (32 + n)) ∧ w' = w := by
  have hg : 0 ≤ X / 4294967296 ∧ X / 4294967296 < (Lib.len8tab.size : Int) := by rw [Lib.len8tab_size]; omega
  go_enter Try.func58, Try.ntmps58
  simp only [foldLen]
  go_wp2_with fail
  go_ret
  refine ⟨congrArg Ending.returned (congrArg (Value.int IntKind.i64) ?_), rfl⟩
  simp only [len8_get, e]
  simp only [wrap64]
  omega
set_option maxHeartbeats 1000000 in
set_option maxRecDepth 100000 in
theorem len_nyy (X n : Int) (h : 0 ≤ X) (hx : X ≤ 18446744073709551615) (h1 : X < 4294967296) (h2 : 65536 ≤ X) (h3 : 256 ≤ X / 65536) (hn : 0 ≤ n ∧ n ≤ 8) (e : Lib.len8 (X / 65536 / 256) = n) (w : World) :
    Calls Try.prog 58 #[.int .u64 X] w fun e w' => e = .returned (.int .i64 (24 + n)) ∧ w' = w := by
  have hg : 0 ≤ X / 65536 / 256 ∧ X / 65536 / 256 < (Lib.len8tab.size : Int) := by rw [Lib.len8tab_size]; omega
  go_enter Try.func58, Try.ntmps58
  simp only [foldLen]
  go_wp2_with fail
  go_ret
  refine ⟨congrArg Ending.returned (congrArg (Value.int IntKind.i64) ?_), rfl⟩
  simp only [len8_get, e]
  simp only [wrap64]
  omega
set_option maxHeartbeats 1000000 in
set_option maxRecDepth 100000 in
theorem len_nyn (X n : Int) (h : 0 ≤ X) (hx : X ≤ 18446744073709551615) (h1 : X < 4294967296) (h2 : 65536 ≤ X) (h3 : X / 65536 < 256) (hn : 0 ≤ n ∧ n ≤ 8) (e : Lib.len8 (X / 65536) = n) (w : World) :
    Calls Try.prog 58 #[.int .u64 X] w fun e w' => e = .returned (.int .i64 (16 + n)) ∧ w' = w := by
  have hg : 0 ≤ X / 65536 ∧ X / 65536 < (Lib.len8tab.size : Int) := by rw [Lib.len8tab_size]; omega
  go_enter Try.func58, Try.ntmps58
  simp only [foldLen]
  go_wp2_with fail
  go_ret
  refine ⟨congrArg Ending.returned (congrArg (Value.int IntKind.i64) ?_), rfl⟩
  simp only [len8_get, e]
  simp only [wrap64]
  omega
set_option maxHeartbeats 1000000 in
set_option maxRecDepth 100000 in
theorem len_nny (X n : Int) (h : 0 ≤ X) (hx : X ≤ 18446744073709551615) (h1 : X < 4294967296) (h2 : X < 65536) (h3 : 256 ≤ X) (hn : 0 ≤ n ∧ n ≤ 8) (e : Lib.len8 (X / 256) = n) (w : World) :
    Calls Try.prog 58 #[.int .u64 X] w fun e w' => e = .returned (.int .i64 (8 + n)) ∧ w' = w := by
  have hg : 0 ≤ X / 256 ∧ X / 256 < (Lib.len8tab.size : Int) := by rw [Lib.len8tab_size]; omega
  go_enter Try.func58, Try.ntmps58
  simp only [foldLen]
  go_wp2_with fail
  go_ret
  refine ⟨congrArg Ending.returned (congrArg (Value.int IntKind.i64) ?_), rfl⟩
  simp only [len8_get, e]
  simp only [wrap64]
  omega
set_option maxHeartbeats 1000000 in
set_option maxRecDepth 100000 in
theorem len_nnn (X n : Int) (h : 0 ≤ X) (hx : X ≤ 18446744073709551615) (h1 : X < 4294967296) (h2 : X < 65536) (h3 : X < 256) (hn : 0 ≤ n ∧ n ≤ 8) (e : Lib.len8 (X) = n) (w : World) :
    Calls Try.prog 58 #[.int .u64 X] w fun e w' => e = .returned (.int .i64 (0 + n)) ∧ w' = w := by
  have hg : 0 ≤ X ∧ X < (Lib.len8tab.size : Int) := by rw [Lib.len8tab_size]; omega
  go_enter Try.func58, Try.ntmps58
  simp only [foldLen]
  go_wp2_with fail
  go_ret
  refine ⟨congrArg Ending.returned (congrArg (Value.int IntKind.i64) ?_), rfl⟩
  simp only [len8_get, e]
  simp only [wrap64]
  omega
theorem len64_any (x : Nat) (hx : x < 18446744073709551616) (hp : 0 < x) (w : World) : Calls Try.prog 58 #[.int .u64 (x : Int)] w (LenOut x w) := by
  have fin : ∀ (K n : Nat) (X : Int), X = (n : Int) → LenIs x (K + n) → (Calls Try.prog 58 #[.int .u64 (x : Int)] w fun e w' => e = .returned (.int .i64 ((K : Int) + X)) ∧ w' = w) → Calls Try.prog 58 #[.int .u64 (x : Int)] w (LenOut x w) := fun K n X e hl hc => hc.mono fun e' w' h => ⟨⟨K + n, by rw [h.1, e]; rfl, hl⟩, h.2⟩
  by_cases h1 : 4294967296 ≤ (x : Int)
  · by_cases h2 : 65536 ≤ (x : Int) / 4294967296
    · by_cases h3 : 256 ≤ (x : Int) / 4294967296 / 65536
      · obtain ⟨n, e, hn, hl⟩ := len_at x 56 72057594037927936 (x / 72057594037927936) (by decide) rfl (by omega) (by omega) (by decide)
        have ee : (x : Int) / 4294967296 / 65536 / 256 = ((x / 72057594037927936 : Nat) : Int) := by omega
        rw [← ee] at e
        exact fin 56 n _ e hl (len_yyy x _ (by omega) (by omega) (by omega) (by omega) (by omega) (by rw [e]; omega) rfl w)
      · obtain ⟨n, e, hn, hl⟩ := len_at x 48 281474976710656 (x / 281474976710656) (by decide) rfl (by omega) (by omega) (by decide)
        have ee : (x : Int) / 4294967296 / 65536 = ((x / 281474976710656 : Nat) : Int) := by omega
        rw [← ee] at e
        exact fin 48 n _ e hl (len_yyn x _ (by omega) (by omega) (by omega) (by omega) (by omega) (by rw [e]; omega) rfl w)
    · by_cases h3 : 256 ≤ (x : Int) / 4294967296
      · obtain ⟨n, e, hn, hl⟩ := len_at x 40 1099511627776 (x / 1099511627776) (by decide) rfl (by omega) (by omega) (by decide)
        have ee : (x : Int) / 4294967296 / 256 = ((x / 1099511627776 : Nat) : Int) := by omega
        rw [← ee] at e
        exact fin 40 n _ e hl (len_yny x _ (by omega) (by omega) (by omega) (by omega) (by omega) (by rw [e]; omega) rfl w)
      · obtain ⟨n, e, hn, hl⟩ := len_at x 32 4294967296 (x / 4294967296) (by decide) rfl (by omega) (by omega) (by decide)
        have ee : (x : Int) / 4294967296 = ((x / 4294967296 : Nat) : Int) := by omega
        rw [← ee] at e
        exact fin 32 n _ e hl (len_ynn x _ (by omega) (by omega) (by omega) (by omega) (by omega) (by rw [e]; omega) rfl w)
  · by_cases h2 : 65536 ≤ (x : Int)
    · by_cases h3 : 256 ≤ (x : Int) / 65536
      · obtain ⟨n, e, hn, hl⟩ := len_at x 24 16777216 (x / 16777216) (by decide) rfl (by omega) (by omega) (by decide)
        have ee : (x : Int) / 65536 / 256 = ((x / 16777216 : Nat) : Int) := by omega
        rw [← ee] at e
        exact fin 24 n _ e hl (len_nyy x _ (by omega) (by omega) (by omega) (by omega) (by omega) (by rw [e]; omega) rfl w)
      · obtain ⟨n, e, hn, hl⟩ := len_at x 16 65536 (x / 65536) (by decide) rfl (by omega) (by omega) (by decide)
        have ee : (x : Int) / 65536 = ((x / 65536 : Nat) : Int) := by omega
        rw [← ee] at e
        exact fin 16 n _ e hl (len_nyn x _ (by omega) (by omega) (by omega) (by omega) (by omega) (by rw [e]; omega) rfl w)
    · by_cases h3 : 256 ≤ (x : Int)
      · obtain ⟨n, e, hn, hl⟩ := len_at x 8 256 (x / 256) (by decide) rfl (by omega) (by omega) (by decide)
        have ee : (x : Int) / 256 = ((x / 256 : Nat) : Int) := by omega
        rw [← ee] at e
        exact fin 8 n _ e hl (len_nny x _ (by omega) (by omega) (by omega) (by omega) (by omega) (by rw [e]; omega) rfl w)
      · obtain ⟨n, e, hn, hl⟩ := len_at x 0 1 (x / 1) (by decide) rfl (by omega) (by omega) (by decide)
        have ee : (x : Int) = ((x / 1 : Nat) : Int) := by omega
        rw [← ee] at e
        exact fin 0 n _ e hl (len_nnn x _ (by omega) (by omega) (by omega) (by omega) (by omega) (by rw [e]; omega) rfl w)
set_option maxRecDepth 100000 in
set_option maxHeartbeats 400000 in
theorem lz64_any (x : Nat) (hx : x < 18446744073709551616) (hp : 0 < x) (w : World) :
    Calls Try.prog 57 #[.int .u64 (x : Int)] w fun e w' => (∃ s : Nat, e = .returned (.int .i64 (s : Int)) ∧ s ≤ 63 ∧ 9223372036854775808 ≤ x * 2 ^ s ∧ x * 2 ^ s < 18446744073709551616) ∧ w' = w := by
  have hl := Lib.hid (len64_any x hx hp)
  have fin : ∀ n, LenIs x n → 64 - n ≤ 63 ∧ 9223372036854775808 ≤ x * 2 ^ (64 - n) ∧ x * 2 ^ (64 - n) < 18446744073709551616 := fun n h => by
    obtain ⟨h1, h2, h3, h4⟩ := h
    have hp2 := Nat.two_pow_pos (64 - n)
    have e1 : 2 ^ (n - 1) * 2 ^ (64 - n) = 9223372036854775808 := by rw [← Nat.pow_add, show n - 1 + (64 - n) = 63 from by omega]
    have e2 : 2 ^ n * 2 ^ (64 - n) = 18446744073709551616 := by rw [← Nat.pow_add, show n + (64 - n) = 64 from by omega]
    have e3 := Nat.mul_le_mul_right (2 ^ (64 - n)) h3
    have e4 := Nat.mul_lt_mul_of_pos_right h4 hp2
    exact ⟨by omega, by omega, by omega⟩
  clear hx hp
  go_enter Try.func57, Try.ntmps57
  go_wp2_with fail
  refine (hl.out w).mono ?_
  rintro e w1 ⟨⟨n, rfl, hn⟩, rfl⟩
  have hf := Lib.hid (fin n hn)
  obtain ⟨h1, h2, _⟩ := hn
  have e8 : IntKind.i64.wrap (64 - (n : Int)) = ((64 - n : Nat) : Int) := by
    rw [IntWalk.i64_in _ (by omega)]
    omega
  go_wp2_with fail
  go_ret
  refine ⟨⟨64 - n, ?_, hf.out⟩, rfl⟩
  rw [← e8]
  first | rfl | (congr 2)

theorem low32 (x : Int) (h0 : 0 ≤ x) (h1 : x < 18446744073709551616) : bits .and .u64 x 4294967295 = x % 4294967296 := by
  obtain ⟨a, rfl⟩ := Int.eq_ofNat_of_zero_le h0
  have h := bits_and_u64_nat a 4294967295 (by omega) (by omega)
  rw [show a &&& 4294967295 = a % 4294967296 from Nat.and_two_pow_sub_one_eq_mod a 32] at h
  exact h
theorem prod_small {a b : Int} (ha : 0 ≤ a ∧ a ≤ 4294967295) (hb : 0 ≤ b ∧ b ≤ 4294967295) : 0 ≤ a * b ∧ a * b ≤ 18446744065119617025 := by
  refine ⟨Int.mul_nonneg ha.1 hb.1, ?_⟩
  have h1 := Int.mul_le_mul_of_nonneg_right ha.2 hb.1
  omega
/-- The product by halves: p, q, r, s the products of the halves. -/
theorem by_halves (a b c d : Int) : (a * 4294967296 + b) * (c * 4294967296 + d) = a * c * 18446744073709551616 + (a * d + b * c) * 4294967296 + b * d := by
  rw [Int.add_mul, Int.mul_add, Int.mul_add, show a * 4294967296 * (c * 4294967296) = a * c * 18446744073709551616 from by rw [Int.mul_assoc, Int.mul_left_comm 4294967296, ← Int.mul_assoc]; omega,
    show a * 4294967296 * d = a * d * 4294967296 from by rw [Int.mul_assoc, Int.mul_comm 4294967296, ← Int.mul_assoc], ← Int.mul_assoc b c]
  omega
set_option maxRecDepth 100000 in
set_option maxHeartbeats 1000000 in
theorem mul_core (X Y x1 x0 y1 y0 p q r s N : Int) (a0 : bits .and .u64 X 4294967295 = x0) (a1 : X / 4294967296 = x1) (b0 : bits .and .u64 Y 4294967295 = y0) (b1 : Y / 4294967296 = y1)
    (hp : x1 * y1 = p) (hq : x1 * y0 = q) (hr : x0 * y1 = r) (hs : x0 * y0 = s) (cp : 0 ≤ p ∧ p ≤ 18446744065119617025) (cq : 0 ≤ q ∧ q ≤ 18446744065119617025) (cr : 0 ≤ r ∧ r ≤ 18446744065119617025) (cs : 0 ≤ s ∧ s ≤ 18446744065119617025)
    (hN : X * Y = N) (eN : N = p * 18446744073709551616 + (q + r) * 4294967296 + s) (w : World) :
    Calls Try.prog 34 #[.int .u64 X, .int .u64 Y] w fun e w' => e = .returned (.tuple #[.int .u64 (N / 18446744073709551616), .int .u64 (N % 18446744073709551616)]) ∧ w = w' := by
  have m := low32 (q + s / 4294967296) (by omega) (by omega)
  have hEN := Lib.hid eN
  have e1 : Hid (p + (q + s / 4294967296) / 4294967296 + ((q + s / 4294967296) % 4294967296 + r) / 4294967296 = N / 18446744073709551616) := Lib.hid (by omega)
  clear eN
  go_enter Try.func34, Try.ntmps34
  go_wp2_with fail
  go_ret2
  refine ⟨?_, rfl⟩
  rw [← e1.out]
  try rw [IntKind.wrap_u64]
  try rfl
theorem mul64_any (x y : Int) (hx : 0 ≤ x ∧ x < 18446744073709551616) (hy : 0 ≤ y ∧ y < 18446744073709551616) (w : World) :
    Calls Try.prog 34 #[.int .u64 x, .int .u64 y] w fun e w' => e = .returned (.tuple #[.int .u64 (x * y / 18446744073709551616), .int .u64 (x * y % 18446744073709551616)]) ∧ w = w' := by
  have hb := by_halves (x / 4294967296) (x % 4294967296) (y / 4294967296) (y % 4294967296)
  rw [show x / 4294967296 * 4294967296 + x % 4294967296 = x from by omega, show y / 4294967296 * 4294967296 + y % 4294967296 = y from by omega] at hb
  exact mul_core x y _ _ _ _ _ _ _ _ _ (low32 x hx.1 hx.2) rfl (low32 y hy.1 hy.2) rfl rfl rfl rfl rfl (prod_small (by omega) (by omega)) (prod_small (by omega) (by omega)) (prod_small (by omega) (by omega)) (prod_small (by omega) (by omega)) rfl hb w
end Go.Proofs.Ytipolhocplidlaa.Wd
