/-
  GSp
-/
import Derived.WalkKit
import Derived.Laws.Bits64b
import Derived.Lib.TrailingZeros
namespace Go.Proofs.Ythbkjndnconakaa.Sp

/-! ### bits counted -/
/-- How many of the lowest k bits are set. -/
def popN : Nat → Nat → Nat
  | 0, _ => 0
  | k + 1, x => x % 2 + popN k (x / 2)
theorem popN_le : ∀ k x, popN k x ≤ k
  | 0, _ => Nat.le_refl 0
  | k + 1, x => by have := popN_le k (x / 2); unfold popN; omega
theorem half_pow (x m : Nat) : x / 2 / 2 ^ m = x / 2 ^ (m + 1) := by rw [Nat.div_div_eq_div_mul, Nat.pow_succ, Nat.mul_comm]
theorem popN_snoc : ∀ (m x : Nat), popN (m + 1) x = popN m x + x / 2 ^ m % 2
  | 0, x => by simp [popN]
  | m + 1, x => by
    rw [popN, popN_snoc m (x / 2), popN, half_pow]
    omega
theorem popN_filter (x : Nat) : ∀ m : Nat, popN m x = ((List.range m).filter fun i => x.testBit i).length
  | 0 => rfl
  | m + 1 => by
    rw [popN_snoc, popN_filter x m, List.range_succ, List.filter_append, List.length_append]
    have : ((([m] : List Nat).filter fun i => x.testBit i).length) = x / 2 ^ m % 2 := by
      rw [List.filter_cons]
      have h : x.testBit m = decide (x / 2 ^ m % 2 = 1) := Nat.testBit_eq_decide_div_mod_eq
      rw [h]
      have : x / 2 ^ m % 2 = 0 ∨ x / 2 ^ m % 2 = 1 := by omega
      rcases this with e | e <;> simp [e]
    rw [this]
theorem popN_add : ∀ (k m x : Nat), popN (k + m) x = popN k x + popN m (x / 2 ^ k)
  | 0, m, x => by simp [popN]
  | k + 1, m, x => by
    rw [show k + 1 + m = (k + m) + 1 from by omega, popN, popN_add k m, popN, half_pow]
    omega
theorem popN_mod : ∀ (k x : Nat), popN k (x % 2 ^ k) = popN k x
  | 0, _ => rfl
  | k + 1, x => by
    have e1 : x % 2 ^ (k + 1) % 2 = x % 2 := Nat.mod_mod_of_dvd _ ⟨2 ^ k, by rw [Nat.pow_succ, Nat.mul_comm]⟩
    have e2 : x % 2 ^ (k + 1) / 2 = x / 2 % 2 ^ k := by
      rw [Nat.pow_succ, Nat.mul_comm, Nat.mod_mul_right_div_self]
    rw [popN, popN, e1, e2, popN_mod k]

theorem and_split (a b c d : Nat) (hb : b < 256) (hd : d < 256) : (256 * a + b) &&& (256 * c + d) = 256 * (a &&& c) + (b &&& d) := by
  have hbd : b &&& d < 2 ^ 8 := Nat.and_lt_two_pow _ (by simpa using hd)
  apply Nat.eq_of_testBit_eq
  intro i
  rw [Nat.testBit_and, show (256 : Nat) = 2 ^ 8 from rfl, Nat.testBit_two_pow_mul_add a (by simpa using hb), Nat.testBit_two_pow_mul_add c (by simpa using hd), Nat.testBit_two_pow_mul_add _ hbd]
  split <;> rw [Nat.testBit_and]
/-- A byte k times over. -/
def rep (d : Nat) : Nat → Nat
  | 0 => 0
  | k + 1 => 256 * rep d k + d
def st1 (k x : Nat) : Nat := ((x / 2) &&& rep 85 k) + (x &&& rep 85 k)
def st2 (k x : Nat) : Nat := ((x / 4) &&& rep 51 k) + (x &&& rep 51 k)
def st3 (k x : Nat) : Nat := (x / 16 + x) &&& rep 15 k
def s1 (l : Nat) : Nat := ((l / 2) &&& 85) + (l &&& 85)
def s2 (l : Nat) : Nat := ((l / 4) &&& 51) + (l &&& 51)
theorem st1_succ (k h l : Nat) (hl : l < 256) : st1 (k + 1) (256 * h + l) = 256 * st1 k h + s1 l := by
  have e : (256 * h + l) / 2 = 256 * (h / 2) + (128 * (h % 2) + l / 2) := by omega
  have key : ∀ b, b < 2 → ∀ l, l < 256 → (128 * b + l / 2) &&& 85 = (l / 2) &&& 85 := by decide +kernel
  unfold st1 s1
  rw [rep, e, and_split _ _ _ _ (by omega) (by decide), and_split _ _ _ _ hl (by decide), key _ (Nat.mod_lt _ (by decide)) _ hl]
  omega
theorem st2_succ (k h l : Nat) (hl : l < 256) : st2 (k + 1) (256 * h + l) = 256 * st2 k h + s2 l := by
  have e : (256 * h + l) / 4 = 256 * (h / 4) + (64 * (h % 4) + l / 4) := by omega
  have key : ∀ b, b < 4 → ∀ l, l < 256 → (64 * b + l / 4) &&& 51 = (l / 4) &&& 51 := by decide +kernel
  unfold st2 s2
  rw [rep, e, and_split _ _ _ _ (by omega) (by decide), and_split _ _ _ _ hl (by decide), key _ (Nat.mod_lt _ (by decide)) _ hl]
  omega
theorem st3_succ (k h l : Nat) (hl : l ≤ 68) (hh : h % 16 ≤ 4) : st3 (k + 1) (256 * h + l) = 256 * st3 k h + ((l / 16 + l) &&& 15) := by
  have e : (256 * h + l) / 16 + (256 * h + l) = 256 * (h / 16 + h) + (16 * (h % 16) + (l / 16 + l)) := by omega
  have key : (16 * (h % 16) + (l / 16 + l)) &&& 15 = (l / 16 + l) &&& 15 := by
    rw [show (15 : Nat) = 2 ^ 4 - 1 from rfl, Nat.and_two_pow_sub_one_eq_mod, Nat.and_two_pow_sub_one_eq_mod]
    omega
  unfold st3
  rw [rep, e, and_split _ _ _ _ (by omega) (by decide), key]
/-- The bits of k bytes, counted byte by byte, beside each other. -/
def packed : Nat → Nat → Nat
  | 0, _ => 0
  | k + 1, x => 256 * packed k (x / 256) + popN 8 (x % 256)
theorem st_packed : ∀ (k x : Nat), st3 k (st2 k (st1 k x)) = packed k x ∧ st2 k (st1 k x) % 16 ≤ 4
  | 0, x => ⟨by simp [st3, rep, packed], by simp [st2, rep]⟩
  | k + 1, x => by
    obtain ⟨ih, ih2⟩ := st_packed k (x / 256)
    have hl : x % 256 < 256 := Nat.mod_lt _ (by decide)
    have e : x = 256 * (x / 256) + x % 256 := by omega
    have h1 : ∀ l, l < 256 → s1 l < 256 ∧ s2 (s1 l) ≤ 68 ∧ s2 (s1 l) % 16 ≤ 4 ∧ ((s2 (s1 l) / 16 + s2 (s1 l)) &&& 15) = popN 8 l := by decide +kernel
    obtain ⟨b1, b2, b3, b4⟩ := h1 _ hl
    have e1 : st1 (k + 1) x = 256 * st1 k (x / 256) + s1 (x % 256) := by
      rw [← st1_succ _ _ _ hl, ← e]
    have e2 : st2 (k + 1) (st1 (k + 1) x) = 256 * st2 k (st1 k (x / 256)) + s2 (s1 (x % 256)) := by rw [e1, st2_succ _ _ _ b1]
    refine ⟨?_, ?_⟩
    · rw [e2, st3_succ _ _ _ b2 ih2, ih, b4, packed]
    · rw [e2]; omega
theorem packed_lt : ∀ (k x : Nat), packed k x ≤ 8 * rep 1 k
  | 0, _ => Nat.le_refl 0
  | k + 1, x => by
    have := packed_lt k (x / 256)
    have := popN_le 8 (x % 256)
    unfold packed rep
    omega
theorem popN_bytes (k x : Nat) : popN (8 + k) x = popN 8 (x % 256) + popN k (x / 256) := by
  rw [popN_add, ← popN_mod 8 x]

/-- What math/bits reckons at x. -/
def cnt1 (x : Nat) : Nat := ((x / 2) &&& 6148914691236517205) + (x &&& 6148914691236517205)
def cnt2 (x : Nat) : Nat := ((x / 4) &&& 3689348814741910323) + (x &&& 3689348814741910323)
def cnt3 (x : Nat) : Nat := (x / 16 + x) &&& 1085102592571150095
theorem cnt_packed (x : Nat) : cnt3 (cnt2 (cnt1 x)) = packed 8 x := (st_packed 8 x).1
theorem cnt1_lt (x : Nat) : (x / 2 &&& 6148914691236517205) ≤ 6148914691236517205 ∧ (x &&& 6148914691236517205) ≤ 6148914691236517205 := ⟨Nat.and_le_right, Nat.and_le_right⟩
theorem cnt2_lt (x : Nat) : (x / 4 &&& 3689348814741910323) ≤ 3689348814741910323 ∧ (x &&& 3689348814741910323) ≤ 3689348814741910323 := ⟨Nat.and_le_right, Nat.and_le_right⟩
theorem mod_of {q r p : Nat} (h : q = 256 * r + p) (hp : p ≤ 8) : q % 128 = p := by omega
theorem mod_sum {q0 q1 q2 q3 q4 q5 q6 q7 p0 p1 p2 p3 p4 p5 p6 p7 : Nat} (m0 : q0 % 128 = p0) (m1 : q1 % 128 = p1) (m2 : q2 % 128 = p2) (m3 : q3 % 128 = p3) (m4 : q4 % 128 = p4) (m5 : q5 % 128 = p5) (m6 : q6 % 128 = p6) (m7 : q7 % 128 = p7)
    (b0 : p0 ≤ 8) (b1 : p1 ≤ 8) (b2 : p2 ≤ 8) (b3 : p3 ≤ 8) (b4 : p4 ≤ 8) (b5 : p5 ≤ 8) (b6 : p6 ≤ 8) (b7 : p7 ≤ 8) :
    (q0 + q1 + (q2 + q3) + (q4 + q5 + (q6 + q7))) % 128 = p0 + (p1 + (p2 + (p3 + (p4 + (p5 + (p6 + (p7 + 0))))))) := by omega
theorem div_a {q0 q1 q2 q3 p0 p1 p2 : Nat} (h0 : q0 = 256 * q1 + p0) (h1 : q1 = 256 * q2 + p1) (h2 : q2 = 256 * q3 + p2) (b0 : p0 ≤ 8) (b1 : p1 ≤ 8) (b2 : p2 ≤ 8) : (q0 + q1) / 65536 = q2 + q3 := by omega
theorem four {q0 q1 q2 q3 q4 p0 p1 p2 p3 : Nat} (h0 : q0 = 256 * q1 + p0) (h1 : q1 = 256 * q2 + p1) (h2 : q2 = 256 * q3 + p2) (h3 : q3 = 256 * q4 + p3) (b0 : p0 ≤ 8) (b1 : p1 ≤ 8) (b2 : p2 ≤ 8) (b3 : p3 ≤ 8) : ∃ r, q0 = 4294967296 * q4 + r ∧ r ≤ 134744072 := ⟨16777216 * p3 + 65536 * p2 + 256 * p1 + p0, by omega, by omega⟩
theorem div_b {q0 q1 q2 q3 q4 q5 q6 q7 : Nat} (h0 : ∃ r, q0 = 4294967296 * q4 + r ∧ r ≤ 134744072) (h1 : ∃ r, q1 = 4294967296 * q5 + r ∧ r ≤ 134744072) (h2 : ∃ r, q2 = 4294967296 * q6 + r ∧ r ≤ 134744072) (h3 : ∃ r, q3 = 4294967296 * q7 + r ∧ r ≤ 134744072) : (q0 + q1 + (q2 + q3)) / 4294967296 = q4 + q5 + (q6 + q7) := by
  obtain ⟨r0, e0, c0⟩ := h0
  obtain ⟨r1, e1, c1⟩ := h1
  obtain ⟨r2, e2, c2⟩ := h2
  obtain ⟨r3, e3, c3⟩ := h3
  omega
theorem sum_packed (x : Nat) : packed 8 x ≤ 580000000000000000 ∧ packed 8 x + packed 8 x / 256 ≤ 590000000000000000 ∧ ∀ y4 y5 y6, y4 = packed 8 x + packed 8 x / 256 → y5 = y4 + y4 / 65536 → y6 = y5 + y5 / 4294967296 → y5 ≤ 600000000000000000 ∧ y6 ≤ 610000000000000000 ∧ y6 % 128 = popN 64 x := by
  have hp := packed_lt 8 x
  have hr : rep 1 8 = 72340172838076673 := by decide
  rw [hr] at hp
  have hs : popN 64 x = popN 8 (x % 256) + (popN 8 (x / 256 % 256) + (popN 8 (x / 256 / 256 % 256) + (popN 8 (x / 256 / 256 / 256 % 256) + (popN 8 (x / 256 / 256 / 256 / 256 % 256) + (popN 8 (x / 256 / 256 / 256 / 256 / 256 % 256) + (popN 8 (x / 256 / 256 / 256 / 256 / 256 / 256 % 256) + (popN 8 (x / 256 / 256 / 256 / 256 / 256 / 256 / 256 % 256) + popN 0 (x / 256 / 256 / 256 / 256 / 256 / 256 / 256 / 256)))))))) := by
    rw [← popN_bytes 0, ← popN_bytes 8, ← popN_bytes 16, ← popN_bytes 24, ← popN_bytes 32, ← popN_bytes 40, ← popN_bytes 48, ← popN_bytes 56]
  have h0 : packed 8 x = 256 * packed 7 (x / 256) + popN 8 (x % 256) := rfl
  have h1 : packed 7 (x / 256) = 256 * packed 6 (x / 256 / 256) + popN 8 (x / 256 % 256) := rfl
  have h2 : packed 6 (x / 256 / 256) = 256 * packed 5 (x / 256 / 256 / 256) + popN 8 (x / 256 / 256 % 256) := rfl
  have h3 : packed 5 (x / 256 / 256 / 256) = 256 * packed 4 (x / 256 / 256 / 256 / 256) + popN 8 (x / 256 / 256 / 256 % 256) := rfl
  have h4 : packed 4 (x / 256 / 256 / 256 / 256) = 256 * packed 3 (x / 256 / 256 / 256 / 256 / 256) + popN 8 (x / 256 / 256 / 256 / 256 % 256) := rfl
  have h5 : packed 3 (x / 256 / 256 / 256 / 256 / 256) = 256 * packed 2 (x / 256 / 256 / 256 / 256 / 256 / 256) + popN 8 (x / 256 / 256 / 256 / 256 / 256 % 256) := rfl
  have h6 : packed 2 (x / 256 / 256 / 256 / 256 / 256 / 256) = 256 * packed 1 (x / 256 / 256 / 256 / 256 / 256 / 256 / 256) + popN 8 (x / 256 / 256 / 256 / 256 / 256 / 256 % 256) := rfl
  have h7 : packed 1 (x / 256 / 256 / 256 / 256 / 256 / 256 / 256) = 256 * 0 + popN 8 (x / 256 / 256 / 256 / 256 / 256 / 256 / 256 % 256) := rfl
  have z : popN 0 (x / 256 / 256 / 256 / 256 / 256 / 256 / 256 / 256) = 0 := rfl
  rw [z] at hs
  have b0 := popN_le 8 (x % 256)
  have b1 := popN_le 8 (x / 256 % 256)
  have b2 := popN_le 8 (x / 256 / 256 % 256)
  have b3 := popN_le 8 (x / 256 / 256 / 256 % 256)
  have b4 := popN_le 8 (x / 256 / 256 / 256 / 256 % 256)
  have b5 := popN_le 8 (x / 256 / 256 / 256 / 256 / 256 % 256)
  have b6 := popN_le 8 (x / 256 / 256 / 256 / 256 / 256 / 256 % 256)
  have b7 := popN_le 8 (x / 256 / 256 / 256 / 256 / 256 / 256 / 256 % 256)
  generalize popN 64 x = S at *
  generalize popN 8 (x % 256) = p0 at *
  generalize popN 8 (x / 256 % 256) = p1 at *
  generalize popN 8 (x / 256 / 256 % 256) = p2 at *
  generalize popN 8 (x / 256 / 256 / 256 % 256) = p3 at *
  generalize popN 8 (x / 256 / 256 / 256 / 256 % 256) = p4 at *
  generalize popN 8 (x / 256 / 256 / 256 / 256 / 256 % 256) = p5 at *
  generalize popN 8 (x / 256 / 256 / 256 / 256 / 256 / 256 % 256) = p6 at *
  generalize popN 8 (x / 256 / 256 / 256 / 256 / 256 / 256 / 256 % 256) = p7 at *
  generalize packed 8 x = q0 at *
  generalize packed 7 (x / 256) = q1 at *
  generalize packed 6 (x / 256 / 256) = q2 at *
  generalize packed 5 (x / 256 / 256 / 256) = q3 at *
  generalize packed 4 (x / 256 / 256 / 256 / 256) = q4 at *
  generalize packed 3 (x / 256 / 256 / 256 / 256 / 256) = q5 at *
  generalize packed 2 (x / 256 / 256 / 256 / 256 / 256 / 256) = q6 at *
  generalize packed 1 (x / 256 / 256 / 256 / 256 / 256 / 256 / 256) = q7 at *
  clear hr z
  have d0 : q0 / 256 = q1 := by clear h1 h2 h3 h4 h5 h6 h7 hs; omega
  refine ⟨by omega, by omega, ?_⟩
  rintro y4 y5 y6 rfl rfl rfl
  have u5 : q0 + q0 / 256 + (q0 + q0 / 256) / 65536 ≤ 600000000000000000 := by clear h0 h1 h2 h3 h4 h5 h6 h7 hs d0; omega
  have u6 : q0 + q0 / 256 + (q0 + q0 / 256) / 65536 + (q0 + q0 / 256 + (q0 + q0 / 256) / 65536) / 4294967296 ≤ 610000000000000000 := by clear h0 h1 h2 h3 h4 h5 h6 h7 hs d0; omega
  refine ⟨u5, u6, ?_⟩
  rw [d0, div_a h0 h1 h2 b0 b1 b2, div_b (four h0 h1 h2 h3 b0 b1 b2 b3) (four h1 h2 h3 h4 b1 b2 b3 b4) (four h2 h3 h4 h5 b2 b3 b4 b5) (four h3 h4 h5 h6 b3 b4 b5 b6), hs]
  exact mod_sum (mod_of h0 b0) (mod_of h1 b1) (mod_of h2 b2) (mod_of h3 b3) (mod_of h4 b4) (mod_of h5 b5) (mod_of h6 b6) (mod_of h7 b7) b0 b1 b2 b3 b4 b5 b6 b7
end Go.Proofs.Ythbkjndnconakaa.Sp
