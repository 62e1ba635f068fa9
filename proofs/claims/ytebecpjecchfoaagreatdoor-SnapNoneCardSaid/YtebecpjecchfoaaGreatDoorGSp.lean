/-
  Merged by wip/tools/merge.py: SpPlain SpWords Sp SpW SpMap SpMap2 SpNew SpCopy SpRef SpRef2 SpAwake
-/
import Derived.WalkKit
import Derived.Laws.Bits64b
import Derived.Lib.TrailingZeros
import Derived.Test.YtebecpjecchfoaaGreatDoorRows
import Derived.Test.YtebecpjecchfoaaGreatDoorGA
import Derived.Deep.OwnRows
import Derived.Shelf.Spec.TrailingZeros
import Derived.StillTailTactics
import Derived.Lib.Hide
import Derived.Deep.LoopGhost
import Derived.WalkMore
import Derived.ChangeAlike
import Derived.Test.YtebecpjecchfoaaGreatDoorGT
namespace Go.Proofs.YtebecpjecchfoaaGreatDoor.Sp

/-! ### bits counted -/
/-- How many of the lowest k bits are set. -/
def popN : Nat → Nat → Nat
  | 0, _ => 0
  | k + 1, x => x % 2 + popN k (x / 2)
theorem popN_le : ∀ k x, popN k x ≤ k
  | 0, _ => Nat.le_refl 0
  | k + 1, x => by have := popN_le k (x / 2); unfold popN; omega
theorem half_pow (x m : Nat) : x / 2 / 2 ^ m = x / 2 ^ (m + 1) := by rw [Nat.div_div_eq_div_mul, Nat.pow_succ, Nat.mul_comm]
theorem popN_snoc : ∀ (m x : Nat), popN (m + 1) x = popN m x + x / 2 ^ m % 2
  | 0, x => by simp [popN]
  | m + 1, x => by
    rw [popN, popN_snoc m (x / 2), popN, half_pow]
    omega
theorem popN_filter (x : Nat) : ∀ m : Nat, popN m x = ((List.range m).filter fun i => x.testBit i).length
  | 0 => rfl
  | m + 1 => by
    rw [popN_snoc, popN_filter x m, List.range_succ, List.filter_append, List.length_append]
    have : ((([m] : List Nat).filter fun i => x.testBit i).length) = x / 2 ^ m % 2 := by
      rw [List.filter_cons]
      have h : x.testBit m = decide (x / 2 ^ m % 2 = 1) := Nat.testBit_eq_decide_div_mod_eq
      rw [h]
      have : x / 2 ^ m % 2 = 0 ∨ x / 2 ^ m % 2 = 1 := by omega
      rcases this with e | e <;> simp [e]
    rw [this]
theorem popN_add : ∀ (k m x : Nat), popN (k + m) x = popN k x + popN m (x / 2 ^ k)
  | 0, m, x => by simp [popN]
  | k + 1, m, x => by
    rw [show k + 1 + m = (k + m) + 1 from by omega, popN, popN_add k m, popN, half_pow]
    omega
theorem popN_mod : ∀ (k x : Nat), popN k (x % 2 ^ k) = popN k x
  | 0, _ => rfl
  | k + 1, x => by
    have e1 : x % 2 ^ (k + 1) % 2 = x % 2 := Nat.mod_mod_of_dvd _ ⟨2 ^ k, by rw [Nat.pow_succ, Nat.mul_comm]⟩
    have e2 : x % 2 ^ (k + 1) / 2 = x / 2 % 2 ^ k := by
      rw [Nat.pow_succ, Nat.mul_comm, Nat.mod_mul_right_div_self]
    rw [popN, popN, e1, e2, popN_mod k]

theorem and_split (a b c d : Nat) (hb : b < 256) (hd : d < 256) : (256 * a + b) &&& (256 * c + d) = 256 * (a &&& c) + (b &&& d) := by
  have hbd : b &&& d < 2 ^ 8 := Nat.and_lt_two_pow _ (by simpa using hd)
  apply Nat.eq_of_testBit_eq
  intro i
  rw [Nat.testBit_and, show (256 : Nat) = 2 ^ 8 from rfl, Nat.testBit_two_pow_mul_add a (by simpa using hb), Nat.testBit_two_pow_mul_add c (by simpa using hd), Nat.testBit_two_pow_mul_add _ hbd]
  split <;> rw [Nat.testBit_and]
/-- A byte k times over. -/
def rep (d : Nat) : Nat → Nat
  | 0 => 0
  | k + 1 => 256 * rep d k + d
def st1 (k x : Nat) : Nat := ((x / 2) &&& rep 85 k) + (x &&& rep 85 k)
def st2 (k x : Nat) : Nat := ((x / 4) &&& rep 51 k) + (x &&& rep 51 k)
def st3 (k x : Nat) : Nat := (x / 16 + x) &&& rep 15 k
def s1 (l : Nat) : Nat := ((l / 2) &&& 85) + (l &&& 85)
def s2 (l : Nat) : Nat := ((l / 4) &&& 51) + (l &&& 51)
theorem st1_succ (k h l : Nat) (hl : l < 256) : st1 (k + 1) (256 * h + l) = 256 * st1 k h + s1 l := by
  have e : (256 * h + l) / 2 = 256 * (h / 2) + (128 * (h % 2) + l / 2) := by omega
  have key : ∀ b, b < 2 → ∀ l, l < 256 → (128 * b + l / 2) &&& 85 = (l / 2) &&& 85 := by decide +kernel
  unfold st1 s1
  rw [rep, e, and_split _ _ _ _ (by omega) (by decide), and_split _ _ _ _ hl (by decide), key _ (Nat.mod_lt _ (by decide)) _ hl]
  omega
theorem st2_succ (k h l : Nat) (hl : l < 256) : st2 (k + 1) (256 * h + l) = 256 * st2 k h + s2 l := by
  have e : (256 * h + l) / 4 = 256 * (h / 4) + (64 * (h % 4) + l / 4) := by omega
  have key : ∀ b, b < 4 → ∀ l, l < 256 → (64 * b + l / 4) &&& 51 = (l / 4) &&& 51 := by decide +kernel
  unfold st2 s2
  rw [rep, e, and_split _ _ _ _ (by omega) (by decide), and_split _ _ _ _ hl (by decide), key _ (Nat.mod_lt _ (by decide)) _ hl]
  omega
theorem st3_succ (k h l : Nat) (hl : l ≤ 68) (hh : h % 16 ≤ 4) : st3 (k + 1) (256 * h + l) = 256 * st3 k h + ((l / 16 + l) &&& 15) := by
  have e : (256 * h + l) / 16 + (256 * h + l) = 256 * (h / 16 + h) + (16 * (h % 16) + (l / 16 + l)) := by omega
  have key : (16 * (h % 16) + (l / 16 + l)) &&& 15 = (l / 16 + l) &&& 15 := by
    rw [show (15 : Nat) = 2 ^ 4 - 1 from rfl, Nat.and_two_pow_sub_one_eq_mod, Nat.and_two_pow_sub_one_eq_mod]
    omega
  unfold st3
  rw [rep, e, and_split _ _ _ _ (by omega) (by decide), key]
/-- The bits of k bytes, counted byte by byte, beside each other. -/
def packed : Nat → Nat → Nat
  | 0, _ => 0
  | k + 1, x => 256 * packed k (x / 256) + popN 8 (x % 256)
theorem st_packed : ∀ (k x : Nat), st3 k (st2 k (st1 k x)) = packed k x ∧ st2 k (st1 k x) % 16 ≤ 4
  | 0, x => ⟨by simp [st3, rep, packed], by simp [st2, rep]⟩
  | k + 1, x => by
    obtain ⟨ih, ih2⟩ := st_packed k (x / 256)
    have hl : x % 256 < 256 := Nat.mod_lt _ (by decide)
    have e : x = 256 * (x / 256) + x % 256 := by omega
    have h1 : ∀ l, l < 256 → s1 l < 256 ∧ s2 (s1 l) ≤ 68 ∧ s2 (s1 l) % 16 ≤ 4 ∧ ((s2 (s1 l) / 16 + s2 (s1 l)) &&& 15) = popN 8 l := by decide +kernel
    obtain ⟨b1, b2, b3, b4⟩ := h1 _ hl
    have e1 : st1 (k + 1) x = 256 * st1 k (x / 256) + s1 (x % 256) := by
      rw [← st1_succ _ _ _ hl, ← e]
    have e2 : st2 (k + 1) (st1 (k + 1) x) = 256 * st2 k (st1 k (x / 256)) + s2 (s1 (x % 256)) := by rw [e1, st2_succ _ _ _ b1]
    refine ⟨?_, ?_⟩
    · rw [e2, st3_succ _ _ _ b2 ih2, ih, b4, packed]
    · rw [e2]; omega
theorem packed_lt : ∀ (k x : Nat), packed k x ≤ 8 * rep 1 k
  | 0, _ => Nat.le_refl 0
  | k + 1, x => by
    have := packed_lt k (x / 256)
    have := popN_le 8 (x % 256)
    unfold packed rep
    omega
theorem popN_bytes (k x : Nat) : popN (8 + k) x = popN 8 (x % 256) + popN k (x / 256) := by
  rw [popN_add, ← popN_mod 8 x]

/-- What math/bits reckons at x. -/
def cnt1 (x : Nat) : Nat := ((x / 2) &&& 6148914691236517205) + (x &&& 6148914691236517205)
def cnt2 (x : Nat) : Nat := ((x / 4) &&& 3689348814741910323) + (x &&& 3689348814741910323)
def cnt3 (x : Nat) : Nat := (x / 16 + x) &&& 1085102592571150095
theorem cnt_packed (x : Nat) : cnt3 (cnt2 (cnt1 x)) = packed 8 x := (st_packed 8 x).1
theorem cnt1_lt (x : Nat) : (x / 2 &&& 6148914691236517205) ≤ 6148914691236517205 ∧ (x &&& 6148914691236517205) ≤ 6148914691236517205 := ⟨Nat.and_le_right, Nat.and_le_right⟩
theorem cnt2_lt (x : Nat) : (x / 4 &&& 3689348814741910323) ≤ 3689348814741910323 ∧ (x &&& 3689348814741910323) ≤ 3689348814741910323 := ⟨Nat.and_le_right, Nat.and_le_right⟩
theorem mod_of {q r p : Nat} (h : q = 256 * r + p) (hp : p ≤ 8) : q % 128 = p := by omega
theorem mod_sum {q0 q1 q2 q3 q4 q5 q6 q7 p0 p1 p2 p3 p4 p5 p6 p7 : Nat} (m0 : q0 % 128 = p0) (m1 : q1 % 128 = p1) (m2 : q2 % 128 = p2) (m3 : q3 % 128 = p3) (m4 : q4 % 128 = p4) (m5 : q5 % 128 = p5) (m6 : q6 % 128 = p6) (m7 : q7 % 128 = p7)
    (b0 : p0 ≤ 8) (b1 : p1 ≤ 8) (b2 : p2 ≤ 8) (b3 : p3 ≤ 8) (b4 : p4 ≤ 8) (b5 : p5 ≤ 8) (b6 : p6 ≤ 8) (b7 : p7 ≤ 8) :
    (q0 + q1 + (q2 + q3) + (q4 + q5 + (q6 + q7))) % 128 = p0 + (p1 + (p2 + (p3 + (p4 + (p5 + (p6 + (p7 + 0))))))) := by omega
theorem div_a {q0 q1 q2 q3 p0 p1 p2 : Nat} (h0 : q0 = 256 * q1 + p0) (h1 : q1 = 256 * q2 + p1) (h2 : q2 = 256 * q3 + p2) (b0 : p0 ≤ 8) (b1 : p1 ≤ 8) (b2 : p2 ≤ 8) : (q0 + q1) / 65536 = q2 + q3 := by omega
theorem four {q0 q1 q2 q3 q4 p0 p1 p2 p3 : Nat} (h0 : q0 = 256 * q1 + p0) (h1 : q1 = 256 * q2 + p1) (h2 : q2 = 256 * q3 + p2) (h3 : q3 = 256 * q4 + p3) (b0 : p0 ≤ 8) (b1 : p1 ≤ 8) (b2 : p2 ≤ 8) (b3 : p3 ≤ 8) : ∃ r, q0 = 4294967296 * q4 + r ∧ r ≤ 134744072 := ⟨16777216 * p3 + 65536 * p2 + 256 * p1 + p0, by omega, by omega⟩
theorem div_b {q0 q1 q2 q3 q4 q5 q6 q7 : Nat} (h0 : ∃ r, q0 = 4294967296 * q4 + r ∧ r ≤ 134744072) (h1 : ∃ r, q1 = 4294967296 * q5 + r ∧ r ≤ 134744072) (h2 : ∃ r, q2 = 4294967296 * q6 + r ∧ r ≤ 134744072) (h3 : ∃ r, q3 = 4294967296 * q7 + r ∧ r ≤ 134744072) : (q0 + q1 + (q2 + q3)) / 4294967296 = q4 + q5 + (q6 + q7) := by
  obtain ⟨r0, e0, c0⟩ := h0
  obtain ⟨r1, e1, c1⟩ := h1
  obtain ⟨r2, e2, c2⟩ := h2
  obtain ⟨r3, e3, c3⟩ := h3
  omega
theorem sum_packed (x : Nat) : packed 8 x ≤ 580000000000000000 ∧ packed 8 x + packed 8 x / 256 ≤ 590000000000000000 ∧ ∀ y4 y5 y6, y4 = packed 8 x + packed 8 x / 256 → y5 = y4 + y4 / 65536 → y6 = y5 + y5 / 4294967296 → y5 ≤ 600000000000000000 ∧ y6 ≤ 610000000000000000 ∧ y6 % 128 = popN 64 x := by
  have hp := packed_lt 8 x
  have hr : rep 1 8 = 72340172838076673 := by decide
  rw [hr] at hp
  have hs : popN 64 x = popN 8 (x % 256) + (popN 8 (x / 256 % 256) + (popN 8 (x / 256 / 256 % 256) + (popN 8 (x / 256 / 256 / 256 % 256) + (popN 8 (x / 256 / 256 / 256 / 256 % 256) + (popN 8 (x / 256 / 256 / 256 / 256 / 256 % 256) + (popN 8 (x / 256 / 256 / 256 / 256 / 256 / 256 % 256) + (popN 8 (x / 256 / 256 / 256 / 256 / 256 / 256 / 256 % 256) + popN 0 (x / 256 / 256 / 256 / 256 / 256 / 256 / 256 / 256)))))))) := by
    rw [← popN_bytes 0, ← popN_bytes 8, ← popN_bytes 16, ← popN_bytes 24, ← popN_bytes 32, ← popN_bytes 40, ← popN_bytes 48, ← popN_bytes 56]
  have h0 : packed 8 x = 256 * packed 7 (x / 256) + popN 8 (x % 256) := rfl
  have h1 : packed 7 (x / 256) = 256 * packed 6 (x / 256 / 256) + popN 8 (x / 256 % 256) := rfl
  have h2 : packed 6 (x / 256 / 256) = 256 * packed 5 (x / 256 / 256 / 256) + popN 8 (x / 256 / 256 % 256) := rfl
  have h3 : packed 5 (x / 256 / 256 / 256) = 256 * packed 4 (x / 256 / 256 / 256 / 256) + popN 8 (x / 256 / 256 / 256 % 256) := rfl
  have h4 : packed 4 (x / 256 / 256 / 256 / 256) = 256 * packed 3 (x / 256 / 256 / 256 / 256 / 256) + popN 8 (x / 256 / 256 / 256 / 256 % 256) := rfl
  have h5 : packed 3 (x / 256 / 256 / 256 / 256 / 256) = 256 * packed 2 (x / 256 / 256 / 256 / 256 / 256 / 256) + popN 8 (x / 256 / 256 / 256 / 256 / 256 % 256) := rfl
  have h6 : packed 2 (x / 256 / 256 / 256 / 256 / 256 / 256) = 256 * packed 1 (x / 256 / 256 / 256 / 256 / 256 / 256 / 256) + popN 8 (x / 256 / 256 / 256 / 256 / 256 / 256 % 256) := rfl
  have h7 : packed 1 (x / 256 / 256 / 256 / 256 / 256 / 256 / 256) = 256 * 0 + popN 8 (x / 256 / 256 / 256 / 256 / 256 / 256 / 256 % 256) := rfl
  have z : popN 0 (x / 256 / 256 / 256 / 256 / 256 / 256 / 256 / 256) = 0 := rfl
  rw [z] at hs
  have b0 := popN_le 8 (x % 256)
  have b1 := popN_le 8 (x / 256 % 256)
  have b2 := popN_le 8 (x / 256 / 256 % 256)
  have b3 := popN_le 8 (x / 256 / 256 / 256 % 256)
  have b4 := popN_le 8 (x / 256 / 256 / 256 / 256 % 256)
  have b5 := popN_le 8 (x / 256 / 256 / 256 / 256 / 256 % 256)
  have b6 := popN_le 8 (x / 256 / 256 / 256 / 256 / 256 / 256 % 256)
  have b7 := popN_le 8 (x / 256 / 256 / 256 / 256 / 256 / 256 / 256 % 256)
  generalize popN 64 x = S at *
  generalize popN 8 (x % 256) = p0 at *
  generalize popN 8 (x / 256 % 256) = p1 at *
  generalize popN 8 (x / 256 / 256 % 256) = p2 at *
  generalize popN 8 (x / 256 / 256 / 256 % 256) = p3 at *
  generalize popN 8 (x / 256 / 256 / 256 / 256 % 256) = p4 at *
  generalize popN 8 (x / 256 / 256 / 256 / 256 / 256 % 256) = p5 at *
  generalize popN 8 (x / 256 / 256 / 256 / 256 / 256 / 256 % 256) = p6 at *
  generalize popN 8 (x / 256 / 256 / 256 / 256 / 256 / 256 / 256 % 256) = p7 at *
  generalize packed 8 x = q0 at *
  generalize packed 7 (x / 256) = q1 at *
  generalize packed 6 (x / 256 / 256) = q2 at *
  generalize packed 5 (x / 256 / 256 / 256) = q3 at *
  generalize packed 4 (x / 256 / 256 / 256 / 256) = q4 at *
  generalize packed 3 (x / 256 / 256 / 256 / 256 / 256) = q5 at *
  generalize packed 2 (x / 256 / 256 / 256 / 256 / 256 / 256) = q6 at *
  generalize packed 1 (x / 256 / 256 / 256 / 256 / 256 / 256 / 256) = q7 at *
  clear hr z
  have d0 : q0 / 256 = q1 := by clear h1 h2 h3 h4 h5 h6 h7 hs; omega
  refine ⟨by omega, by omega, ?_⟩
  rintro y4 y5 y6 rfl rfl rfl
  have u5 : q0 + q0 / 256 + (q0 + q0 / 256) / 65536 ≤ 600000000000000000 := by clear h0 h1 h2 h3 h4 h5 h6 h7 hs d0; omega
  have u6 : q0 + q0 / 256 + (q0 + q0 / 256) / 65536 + (q0 + q0 / 256 + (q0 + q0 / 256) / 65536) / 4294967296 ≤ 610000000000000000 := by clear h0 h1 h2 h3 h4 h5 h6 h7 hs d0; omega
  refine ⟨u5, u6, ?_⟩
  rw [d0, div_a h0 h1 h2 b0 b1 b2, div_b (four h0 h1 h2 h3 b0 b1 b2 b3) (four h1 h2 h3 h4 b1 b2 b3 b4) (four h2 h3 h4 h5 b2 b3 b4 b5) (four h3 h4 h5 h6 b3 b4 b5 b6), hs]
  exact mod_sum (mod_of h0 b0) (mod_of h1 b1) (mod_of h2 b2) (mod_of h3 b3) (mod_of h4 b4) (mod_of h5 b5) (mod_of h6 b6) (mod_of h7 b7) b0 b1 b2 b3 b4 b5 b6 b7
end Go.Proofs.YtebecpjecchfoaaGreatDoor.Sp
namespace Go.Proofs.YtebecpjecchfoaaGreatDoor.Sp

/-! ### words -/
def wbits (f : Nat → Bool) (b : Nat) : Nat → Nat
  | 0 => 0
  | m + 1 => 2 ^ m * (if f (b + m) then 1 else 0) + wbits f b m
theorem wbits_lt (f : Nat → Bool) (b : Nat) : ∀ m, wbits f b m < 2 ^ m
  | 0 => Nat.zero_lt_one
  | m + 1 => by
    have := wbits_lt f b m
    unfold wbits
    rw [Nat.pow_succ]
    split <;> omega
theorem wbits_bit (f : Nat → Bool) (b : Nat) : ∀ m i, (wbits f b m).testBit i = (decide (i < m) && f (b + i))
  | 0, i => by simp [wbits]
  | m + 1, i => by
    unfold wbits
    rw [Nat.testBit_two_pow_mul_add _ (wbits_lt f b m), wbits_bit f b m]
    by_cases h : i < m
    · rw [if_pos h]; simp [h, Nat.lt_succ_of_lt h]
    · rw [if_neg h]
      by_cases e : i = m
      · subst e
        cases f (b + i) <;> simp
      · have h1 : ¬ i < m + 1 := by omega
        obtain ⟨j, hj⟩ : ∃ j, i - m = j + 1 := ⟨i - m - 1, by omega⟩
        rw [hj]
        cases f (b + m) <;> simp [h1, Nat.testBit_succ]
/-- The k-th word of 64 bits. -/
def word (f : Nat → Bool) (k : Nat) : Nat := wbits f (64 * k) 64
theorem word_lt (f : Nat → Bool) (k : Nat) : word f k < 18446744073709551616 := wbits_lt f (64 * k) 64
theorem word_bit (f : Nat → Bool) (k i : Nat) : (word f k).testBit i = (decide (i < 64) && f (64 * k + i)) := wbits_bit f (64 * k) 64 i
theorem word_congr {f g : Nat → Bool} {k : Nat} (h : ∀ i, i < 64 → f (64 * k + i) = g (64 * k + i)) : word f k = word g k := by
  apply Nat.eq_of_testBit_eq
  intro i
  rw [word_bit, word_bit]
  by_cases hi : i < 64
  · rw [h i hi]
  · simp [hi]
theorem word_put {f g : Nat → Bool} {n : Nat} (hn : g n = true) (h : ∀ i, i ≠ n → g i = f i) : word f (n / 64) ||| 2 ^ (n % 64) = word g (n / 64) := by
  apply Nat.eq_of_testBit_eq
  intro i
  rw [Nat.testBit_or, word_bit, word_bit, Nat.testBit_two_pow]
  by_cases e : n % 64 = i
  · subst e
    have : 64 * (n / 64) + n % 64 = n := by omega
    have h2 : n % 64 < 64 := Nat.mod_lt _ (by decide)
    rw [this, hn]
    simp [h2]
  · by_cases hi : i < 64
    · rw [h (64 * (n / 64) + i) (by omega)]
      simp [e]
    · simp [hi, e]
theorem word_drop {f g : Nat → Bool} {n : Nat} (hn : g n = false) (h : ∀ i, i ≠ n → g i = f i) : bits .andNot .u64 (word f (n / 64) : Int) ((2 ^ (n % 64) : Nat) : Int) = (word g (n / 64) : Int) := by
  have h2 : n % 64 < 64 := Nat.mod_lt _ (by decide)
  have hp : (2 : Nat) ^ (n % 64) < 2 ^ 64 := Nat.pow_lt_pow_right (by decide) h2
  have hw := word_lt f (n / 64)
  have h1 : (BitVec.ofInt 64 (word f (n / 64) : Int)).toNat = word f (n / 64) := by
    rw [BitVec.ofInt_natCast, BitVec.toNat_ofNat]; exact Nat.mod_eq_of_lt (by omega)
  have h3 : (BitVec.ofInt 64 ((2 ^ (n % 64) : Nat) : Int)).toNat = 2 ^ (n % 64) := by
    rw [BitVec.ofInt_natCast, BitVec.toNat_ofNat]; exact Nat.mod_eq_of_lt hp
  have key : (BitVec.ofInt 64 (word f (n / 64) : Int) &&& ~~~ BitVec.ofInt 64 ((2 ^ (n % 64) : Nat) : Int)).toNat = word g (n / 64) := by
    apply Nat.eq_of_testBit_eq
    intro i
    rw [← BitVec.getLsbD, BitVec.getLsbD_and, BitVec.getLsbD_not, BitVec.getLsbD, BitVec.getLsbD, h1, h3, word_bit, word_bit, Nat.testBit_two_pow]
    by_cases e : n % 64 = i
    · subst e
      have : 64 * (n / 64) + n % 64 = n := by omega
      rw [this, hn]
      simp
    · by_cases hi : i < 64
      · rw [h (64 * (n / 64) + i) (by omega)]
        simp [e, hi]
      · simp [hi]
  show IntKind.u64.wrap (((BitVec.ofInt 64 (word f (n / 64) : Int) &&& ~~~ BitVec.ofInt 64 ((2 ^ (n % 64) : Nat) : Int)).toNat : Nat) : Int) = _
  rw [key, IntKind.wrap_u64]
  have := word_lt g (n / 64)
  omega
theorem word_put_bits {f g : Nat → Bool} {n : Nat} (hn : g n = true) (h : ∀ i, i ≠ n → g i = f i) : bits .or .u64 (word f (n / 64) : Int) ((2 ^ (n % 64) : Nat) : Int) = (word g (n / 64) : Int) := by
  have h2 : n % 64 < 64 := Nat.mod_lt _ (by decide)
  have hp : (2 : Nat) ^ (n % 64) < 2 ^ 64 := Nat.pow_lt_pow_right (by decide) h2
  rw [bits_or_u64_nat _ _ (word_lt _ _) hp, word_put hn h]
theorem word_other {f g : Nat → Bool} {n k : Nat} (h : ∀ i, i ≠ n → g i = f i) (hk : k ≠ n / 64) : word g k = word f k := word_congr fun i hi => h _ (by omega)
/-! ### how many, which is the lowest -/
/-- How many numbers below n have it. -/
def cnt (f : Nat → Bool) (n : Nat) : Nat := ((List.range n).filter f).length
theorem cnt_le (f : Nat → Bool) (n : Nat) : cnt f n ≤ n := by
  have := List.length_filter_le f (List.range n)
  rw [List.length_range] at this
  exact this
theorem cnt_succ (f : Nat → Bool) (n : Nat) : cnt f (n + 1) = cnt f n + if f n then 1 else 0 := by
  unfold cnt
  rw [List.range_succ, List.filter_append, List.length_append, List.filter_cons]
  split <;> simp
theorem popN_word (f : Nat → Bool) (k : Nat) : popN 64 (word f k) = ((List.range 64).filter fun i => f (64 * k + i)).length := by
  rw [popN_filter]
  congr 1
  refine List.filter_congr fun i hi => ?_
  rw [List.mem_range] at hi
  rw [word_bit]
  simp [hi]
theorem cnt_word (f : Nat → Bool) (k : Nat) : cnt f (64 * (k + 1)) = cnt f (64 * k) + popN 64 (word f k) := by
  rw [popN_word]
  unfold cnt
  rw [show 64 * (k + 1) = 64 * k + 64 from by omega, List.range_add, List.filter_append, List.length_append, List.filter_map, List.length_map]
  rfl
theorem cnt_beyond {f : Nat → Bool} {n : Nat} (h : ∀ i, n ≤ i → f i = false) : ∀ m, n ≤ m → cnt f m = cnt f n
  | 0, hm => by rw [show n = 0 from by omega]
  | m + 1, hm => by
    rcases Nat.eq_or_lt_of_le hm with e | e
    · rw [e]
    · rw [cnt_succ, cnt_beyond h m (by omega), h m (by omega)]; rfl
theorem cnt_pos {f : Nat → Bool} {n : Nat} (h : cnt f n ≠ 0) : ∃ i, i < n ∧ f i = true := by
  unfold cnt at h
  obtain ⟨i, hi⟩ := List.exists_mem_of_length_pos (Nat.pos_of_ne_zero h)
  rw [List.mem_filter, List.mem_range] at hi
  exact ⟨i, hi⟩
theorem word_zero {f : Nat → Bool} {k : Nat} (h : word f k = 0) : ∀ i, i < 64 → f (64 * k + i) = false := fun i hi => by
  have := word_bit f k i
  rw [h] at this
  simpa [hi] using this.symm
theorem word_ctz {f : Nat → Bool} {k : Nat} (h : word f k ≠ 0) : Lib.ctz 64 (word f k) < 64 ∧ f (64 * k + Lib.ctz 64 (word f k)) = true ∧ ∀ i, i < Lib.ctz 64 (word f k) → f (64 * k + i) = false := by
  obtain ⟨m, hm, ht⟩ := Lib.ctzFrom_spec 64 (word f k) (Nat.pos_of_ne_zero h) (word_lt f k)
  have e : Lib.ctz 64 (word f k) = Lib.ctzFrom 64 (word f k) := by simp [Lib.ctz, h]
  rw [e]
  generalize Lib.ctzFrom 64 (word f k) = t at *
  have hb : ∀ i, (word f k).testBit i = (decide (t ≤ i) && (2 * m + 1).testBit (i - t)) := fun i => by rw [hm, Nat.mul_comm, Nat.testBit_mul_two_pow]
  refine ⟨ht, ?_, fun i hi => ?_⟩
  · have := hb t
    rw [word_bit] at this
    simpa [ht] using this
  · have := hb i
    rw [word_bit] at this
    simpa [show i < 64 from by omega, show ¬ t ≤ i from by omega] using this

/-! ### counts of sectors -/
/-- Is sector i free? -/
def fr (cs : List Nat) (i : Nat) : Bool := decide (2 ≤ i) && (decide (i < cs.length) && decide (cs.getD i 0 = 0))
theorem fr_iff {cs : List Nat} {i : Nat} : fr cs i = true ↔ 2 ≤ i ∧ i < cs.length ∧ cs.getD i 0 = 0 := by simp [fr]
theorem fr_out {cs : List Nat} {i : Nat} (h : cs.length ≤ i) : fr cs i = false := by simp [fr]; omega
/-- The words' number. -/
def nw (n : Nat) : Nat := (n + 63) / 64
def wsOf (cs : List Nat) : List Nat := (List.range (nw cs.length)).map (word (fr cs))
theorem wsOf_len (cs : List Nat) : (wsOf cs).length = nw cs.length := by simp [wsOf]
theorem wsOf_at (cs : List Nat) {k : Nat} (h : k < nw cs.length) : (wsOf cs).getD k 0 = word (fr cs) k := by
  simp [wsOf, List.getD_eq_getElem?_getD, h]
theorem wsOf_get (cs : List Nat) {k : Nat} (h : k < (wsOf cs).length) : (wsOf cs)[k] = word (fr cs) k := by simp [wsOf]
/-- How many are free; which are held; how many. -/
def nfree (cs : List Nat) : Nat := cnt (fr cs) cs.length
theorem nfree_words (cs : List Nat) : cnt (fr cs) (64 * nw cs.length) = nfree cs := cnt_beyond (fun i hi => fr_out hi) _ (by unfold nw; omega)
/-- The lowest that is free. -/
def lo (cs : List Nat) : Nat := ((List.range cs.length).find? (fr cs)).getD 0
theorem lo_spec {cs : List Nat} (h : nfree cs ≠ 0) : fr cs (lo cs) = true ∧ ∀ j, j < lo cs → fr cs j = false := by
  obtain ⟨i, hi, hf⟩ := cnt_pos h
  cases hfd : (List.range cs.length).find? (fr cs) with
  | none =>
    rw [List.find?_eq_none] at hfd
    exact absurd hf (hfd i (List.mem_range.2 hi))
  | some r =>
    have e : lo cs = r := by rw [lo, hfd]; rfl
    rw [List.find?_range_eq_some] at hfd
    rw [e]
    exact ⟨hfd.1, fun j hj => by simpa using hfd.2.2 j hj⟩

/-! ### what calls make of the counts -/
def hasB (cs : List Nat) (n : Int) : Bool := decide (2 ≤ n) && decide (n < (cs.length : Int))
def holdE (cs : List Nat) (n : Int) : Int := if hasB cs n then 0 else 1
def holdC (cs : List Nat) (n : Int) : List Nat := if hasB cs n then cs.set n.toNat (cs.getD n.toNat 0 + 1) else cs
def dropC (cs : List Nat) (n : Int) : List Nat := if hasB cs n then (if cs.getD n.toNat 0 = 0 then cs else cs.set n.toNat (cs.getD n.toNat 0 - 1)) else cs
def takeN (cs : List Nat) : Nat := if nfree cs = 0 then 0 else lo cs
def takeE (cs : List Nat) : Int := if nfree cs = 0 then 50 else 0
def takeC (cs : List Nat) : List Nat := if nfree cs = 0 then cs else cs.set (lo cs) 1
theorem fr_set {cs : List Nat} {n c : Nat} (h2 : 2 ≤ n) (hn : n < cs.length) : fr (cs.set n c) n = decide (c = 0) := by
  simp [fr, List.getD_eq_getElem?_getD, hn, h2]
theorem fr_set_ne {cs : List Nat} {n c i : Nat} (h : i ≠ n) : fr (cs.set n c) i = fr cs i := by
  simp [fr, List.getD_eq_getElem?_getD, List.getElem?_set_ne (fun e => h e.symm)]
theorem ws_set (cs : List Nat) (n c : Nat) : wsOf (cs.set n c) = (wsOf cs).set (n / 64) (word (fr (cs.set n c)) (n / 64)) := by
  apply List.ext_getElem
  · simp [wsOf]
  · intro k h1 h2
    rw [wsOf_get, List.getElem_set]
    split
    · rename_i e; rw [e]
    · rename_i e
      rw [wsOf_get _ (by simpa [wsOf] using h2)]
      exact word_other (fun i hi => fr_set_ne hi) (fun h => e h.symm)
theorem len_hold (cs : List Nat) (n : Int) : (holdC cs n).length = cs.length := by unfold holdC; split <;> simp
theorem len_take (cs : List Nat) : (takeC cs).length = cs.length := by unfold takeC; split <;> simp
/-- No count is above m. -/
def Upto (m : Nat) (cs : List Nat) : Prop := ∀ c ∈ cs, c ≤ m
theorem Upto.at_ {m : Nat} {cs : List Nat} (h : Upto m cs) (n : Nat) : cs.getD n 0 ≤ m := by
  rw [List.getD_eq_getElem?_getD]
  cases e : cs[n]? with
  | none => exact Nat.zero_le _
  | some c => exact h c (List.mem_of_getElem? e)
theorem Upto.set {m m' : Nat} {cs : List Nat} (h : Upto m cs) (hm : m ≤ m') {c : Nat} (hc : c ≤ m') (n : Nat) : Upto m' (cs.set n c) := fun x hx => by
  rcases List.mem_or_eq_of_mem_set hx with h1 | rfl
  · exact Nat.le_trans (h x h1) hm
  · exact hc
theorem Upto.mono {m m' : Nat} {cs : List Nat} (h : Upto m cs) (hm : m ≤ m') : Upto m' cs := fun x hx => Nat.le_trans (h x hx) hm
theorem Upto.hold {m : Nat} {cs : List Nat} (h : Upto m cs) (n : Int) : Upto (m + 1) (holdC cs n) := by
  unfold holdC
  split
  · exact h.set (Nat.le_succ _) (by have := h.at_ n.toNat; omega) _
  · exact h.mono (Nat.le_succ _)
theorem Upto.drop {m : Nat} {cs : List Nat} (h : Upto m cs) (n : Int) : Upto (m + 1) (dropC cs n) := by
  unfold dropC
  split
  · split
    · exact h.mono (Nat.le_succ _)
    · exact h.set (Nat.le_succ _) (by have := h.at_ n.toNat; omega) _
  · exact h.mono (Nat.le_succ _)
theorem Upto.take {m : Nat} {cs : List Nat} (h : Upto m cs) : Upto (m + 1) (takeC cs) := by
  unfold takeC
  split
  · exact h.mono (Nat.le_succ _)
  · exact h.set (Nat.le_succ _) (by omega) _
end Go.Proofs.YtebecpjecchfoaaGreatDoor.Sp
namespace Go.Proofs.YtebecpjecchfoaaGreatDoor.Sp
open Go.RowKit

/-! ### rows of numbers -/
/-- Block g begins with the numbers zs of kind k. -/
def RowK (k : IntKind) (t : TypeId) (w : World) (g : Nat) (zs : List Nat) : Prop := ∃ c : Array Value, w.heap[g]? = some (.cells c t (0, 0)) ∧ ∀ (i u : Nat), zs[i]? = some u → c[i]? = some (.int k (u : Int))
theorem RowK.lt {k : IntKind} {t : TypeId} {w : World} {g : Nat} {zs : List Nat} (h : RowK k t w g zs) : g < w.heap.size := by
  obtain ⟨c, hb, _⟩ := h
  exact (Array.getElem?_eq_some_iff.1 hb).1
theorem RowK.cell {k : IntKind} {t : TypeId} {w : World} {g : Nat} {zs : List Nat} (h : RowK k t w g zs) {i : Nat} (hi : i < zs.length) : w.cell? ⟨g, i, none⟩ = some (.int k ((zs.getD i 0 : Nat) : Int)) := by
  obtain ⟨c, hb, hc⟩ := h
  rw [cell_of_row _ _ _ _ _ _ hb, hc i zs[i] (List.getElem?_eq_getElem hi)]
  simp [List.getD_eq_getElem?_getD, hi]
theorem RowK.free {k : IntKind} {t : TypeId} {w : World} {g : Nat} {zs : List Nat} (h : RowK k t w g zs) (i : Nat) : w.frozen? ⟨g, i, none⟩ = false := by
  obtain ⟨c, hb, _⟩ := h
  exact frozen_of_row w g i _ _ hb
theorem RowK.set {k : IntKind} {t : TypeId} {w : World} {g : Nat} {zs : List Nat} (h : RowK k t w g zs) (i u : Nat) : RowK k t (w.setCell ⟨g, i, none⟩ (.int k (u : Int))) g (zs.set i u) := by
  obtain ⟨c, hb, hc⟩ := h
  refine ⟨_, heap_setCell_same w g i _ t _ hb, fun j v hj => ?_⟩
  rw [List.getElem?_set] at hj
  split at hj
  · rename_i e
    subst e
    split at hj
    · rename_i hl
      cases hj
      have := hc i zs[i] (List.getElem?_eq_getElem hl)
      have hs := (Array.getElem?_eq_some_iff.1 this).1
      simp [hs]
    · cases hj
  · rename_i e
    rw [Array.getElem?_setIfInBounds_ne e]
    exact hc j v hj
theorem RowK.block {k : IntKind} {t : TypeId} {w w' : World} {g : Nat} {zs : List Nat} (h : RowK k t w g zs) (hb : w'.heap[g]? = w.heap[g]?) : RowK k t w' g zs := by
  obtain ⟨c, e, r⟩ := h
  exact ⟨c, hb.trans e, r⟩
theorem RowK.made (k : IntKind) (w : World) (n : Nat) (t : TypeId) : RowK k t (w.alloc (.cells (madeCells #[.int k 0] n) t)) w.heap.size (List.replicate n 0) := by
  obtain ⟨c, hb, hn, hc⟩ := World.rowIs_made w (.int k 0) n t
  refine ⟨c, hb, fun i u hu => ?_⟩
  rw [List.getElem?_replicate] at hu
  split at hu
  · rename_i h
    cases hu
    exact hc i h
  · cases hu
/-! ### math/bits -/
/-- The table behind TrailingZeros64 stands in its variable, block 0. -/
def Tab (w : World) : Prop := TabAt 0 Lib.deBruijn64tab w
theorem Tab.keep {w w' : World} (h : Tab w) (hb : w'.heap[0]? = w.heap[0]?) : Tab w' := fun j hj => (World.cell?_of_block (w := w) (w' := w') (a := ⟨0, j, none⟩) hb).trans (h j hj)
theorem Tab.pos {w : World} (h : Tab w) : 0 < w.heap.size := World.block_lt_of_cell? _ _ (h 0 (by decide))
theorem Tab.below {w w' : World} (h : Tab w) {B : Nat} (hb : Below B w w') (hB : 0 < B) : Tab w' := h.keep (hb.block 0 hB)

set_option maxRecDepth 100000 in
set_option maxHeartbeats 400000 in
theorem tz_core (x k idx : Nat) (w : World) (hx0 : ((x : Int) == 0) = false)
    (key : IntKind.u64.wrap (bits BinOp.and IntKind.u64 (x : Int) (IntKind.u64.wrap (-(x : Int))) * 285870213051353865) / 288230376151711744 = (idx : Int))
    (hi : idx < 64) (hk : k < 64) (hcell : w.cell? ⟨0, idx, none⟩ = some (.int .u8 (k : Int))) :
    Calls Tryz.prog 228 #[.int .u64 x] w fun e w' => e = .returned (.int .i64 k) ∧ w = w' := by
  go_enter Tryz.func228, Tryz.ntmps228
  go_wp2_with (simp only [key])
  go_ret
  exact ⟨rfl, rfl⟩
theorem tz_any (x : Nat) (hx : x < 18446744073709551616) (h0 : x ≠ 0) (w : World) (hT : Tab w) :
    Calls Tryz.prog 228 #[.int .u64 x] w fun e w' => e = .returned (.int .i64 (Lib.ctz 64 x : Nat)) ∧ w = w' := by
  obtain ⟨hlow, hk⟩ := Lib.lowest_bit 64 x h0 hx
  obtain ⟨hi, htab⟩ := Lib.deBruijn64_at _ hk
  have hcell := hT _ hi
  rw [htab] at hcell
  exact tz_core x _ _ w (by simp; omega) (tz64_key x _ hx h0 hlow) hi hk hcell

set_option maxRecDepth 100000 in
set_option maxHeartbeats 400000 in
theorem ones_core (x y1 y2 y3 y4 y5 y6 p : Nat) (w : World)
    (k1 : bits .and .u64 ((x : Int) / 2) 6148914691236517205 + bits .and .u64 (x : Int) 6148914691236517205 = (y1 : Int))
    (w1 : IntKind.u64.wrap (y1 : Int) = (y1 : Int))
    (k2 : bits .and .u64 ((y1 : Int) / 4) 3689348814741910323 + bits .and .u64 (y1 : Int) 3689348814741910323 = (y2 : Int))
    (w2 : IntKind.u64.wrap (y2 : Int) = (y2 : Int))
    (w3 : IntKind.u64.wrap ((y2 : Int) / 16 + (y2 : Int)) = (y2 : Int) / 16 + (y2 : Int))
    (k3 : bits .and .u64 ((y2 : Int) / 16 + (y2 : Int)) 1085102592571150095 = (y3 : Int))
    (k4 : IntKind.u64.wrap ((y3 : Int) + (y3 : Int) / 256) = (y4 : Int))
    (k5 : IntKind.u64.wrap ((y4 : Int) + (y4 : Int) / 65536) = (y5 : Int))
    (k6 : IntKind.u64.wrap ((y5 : Int) + (y5 : Int) / 4294967296) = (y6 : Int))
    (w6 : IntKind.i64.wrap (y6 : Int) = (y6 : Int))
    (k7 : bits .and .i64 (y6 : Int) 127 = (p : Int)) :
    Calls Tryz.prog 177 #[.int .u64 x] w fun e w' => e = .returned (.int .i64 p) ∧ w = w' := by
  go_enter Tryz.func177, Tryz.ntmps177
  go_wp2_with (first | simp only [k1, w1] | simp only [k2, w2] | simp only [w3] | simp only [k3] | simp only [k4] | simp only [k5] | simp only [k6] | simp only [w6] | simp only [k7])
  go_ret
  exact ⟨rfl, rfl⟩
theorem and_i64 (y : Nat) (hy : y < 9223372036854775808) : bits .and .i64 (y : Int) 127 = ((y % 128 : Nat) : Int) := by
  have h1 : (BitVec.ofInt 64 (y : Int)).toNat = y := by
    rw [BitVec.ofInt_natCast, BitVec.toNat_ofNat]; exact Nat.mod_eq_of_lt (by omega)
  have h2 : (BitVec.ofInt 64 (127 : Int)).toNat = 127 := by decide
  show IntKind.i64.wrap ((BitVec.ofInt 64 (y : Int) &&& BitVec.ofInt 64 127).toNat : Int) = _
  rw [BitVec.toNat_and, h1, h2, show (127 : Nat) = 2 ^ 7 - 1 from rfl, Nat.and_two_pow_sub_one_eq_mod]
  exact IntWalk.i64_in _ (by omega)
theorem ones_any (x : Nat) (hx : x < 18446744073709551616) (w : World) :
    Calls Tryz.prog 177 #[.int .u64 x] w fun e w' => e = .returned (.int .i64 (popN 64 x : Nat)) ∧ w = w' := by
  obtain ⟨a1, a2⟩ := cnt1_lt x
  have hy1 : cnt1 x < 18446744073709551616 := by unfold cnt1; omega
  obtain ⟨b1, b2⟩ := cnt2_lt (cnt1 x)
  have hy2 : cnt2 (cnt1 x) < 8000000000000000000 := by unfold cnt2; omega
  have hp := cnt_packed x
  obtain ⟨p1, p2, hq⟩ := sum_packed x
  obtain ⟨q1, q2, q3⟩ := hq _ _ _ rfl rfl rfl
  have e1 := bits_and_u64_nat (x / 2) 6148914691236517205 (by omega) (by decide)
  have e2 := bits_and_u64_nat x 6148914691236517205 hx (by decide)
  have e3 := bits_and_u64_nat (cnt1 x / 4) 3689348814741910323 (by omega) (by decide)
  have e4 := bits_and_u64_nat (cnt1 x) 3689348814741910323 hy1 (by decide)
  have e5 := bits_and_u64_nat (cnt2 (cnt1 x) / 16 + cnt2 (cnt1 x)) 1085102592571150095 (by omega) (by decide)
  have e6 := and_i64 (packed 8 x + packed 8 x / 256 + (packed 8 x + packed 8 x / 256) / 65536 + (packed 8 x + packed 8 x / 256 + (packed 8 x + packed 8 x / 256) / 65536) / 4294967296) (by omega)
  rw [q3] at e6
  change bits .and .u64 ((x / 2 : Nat) : Int) 6148914691236517205 = _ at e1
  change bits .and .u64 (x : Int) 6148914691236517205 = _ at e2
  change bits .and .u64 ((cnt1 x / 4 : Nat) : Int) 3689348814741910323 = _ at e3
  change bits .and .u64 (cnt1 x : Int) 3689348814741910323 = _ at e4
  change bits .and .u64 ((cnt2 (cnt1 x) / 16 + cnt2 (cnt1 x) : Nat) : Int) 1085102592571150095 = _ at e5
  have e7 : (cnt2 (cnt1 x) / 16 + cnt2 (cnt1 x) &&& 1085102592571150095) = packed 8 x := hp
  rw [e7] at e5
  clear hp q3 e7
  refine ones_core x (cnt1 x) (cnt2 (cnt1 x)) (packed 8 x) (packed 8 x + packed 8 x / 256) (packed 8 x + packed 8 x / 256 + (packed 8 x + packed 8 x / 256) / 65536) (packed 8 x + packed 8 x / 256 + (packed 8 x + packed 8 x / 256) / 65536 + (packed 8 x + packed 8 x / 256 + (packed 8 x + packed 8 x / 256) / 65536) / 4294967296) (popN 64 x) w ?_ ?_ ?_ ?_ ?_ ?_ ?_ ?_ ?_ ?_ e6
  · rw [show ((x : Int) / 2) = ((x / 2 : Nat) : Int) from by omega, e1, e2]; unfold cnt1; omega
  · rw [IntKind.wrap_u64]; omega
  · rw [show ((cnt1 x : Int) / 4) = ((cnt1 x / 4 : Nat) : Int) from by omega, e3, e4]; unfold cnt2; omega
  · rw [IntKind.wrap_u64]; omega
  · rw [IntKind.wrap_u64]; omega
  · rw [show ((cnt2 (cnt1 x) : Int) / 16 + (cnt2 (cnt1 x) : Int)) = ((cnt2 (cnt1 x) / 16 + cnt2 (cnt1 x) : Nat) : Int) from by omega, e5]
  · rw [IntKind.wrap_u64]; omega
  · rw [IntKind.wrap_u64]; omega
  · rw [IntKind.wrap_u64]; omega
  · exact IntWalk.i64_in _ (by omega)

/-! ### the set -/
theorem pow_wrap (m : Nat) (hm : m < 64) : IntKind.u64.wrap ((2 : Int) ^ m) = ((2 ^ m : Nat) : Int) := by
  have hp : (2 : Nat) ^ m < 2 ^ 64 := Nat.pow_lt_pow_right (by decide) hm
  have e : ((2 ^ m : Nat) : Int) = (2 : Int) ^ m := by simp
  rw [IntKind.wrap_u64, ← e]
  clear e
  generalize (2 : Nat) ^ m = s at *
  omega
set_option maxRecDepth 100000 in
set_option maxHeartbeats 400000 in
theorem put_any {w : World} {b : Nat} {ws : List Nat} (h : RowK .u64 40 w b ws) (n c : Nat) (hn : n / 64 < ws.length) (hl : ws.length ≤ 64) (u : Nat)
    (hu : bits .or .u64 ((ws.getD (n / 64) 0 : Nat) : Int) ((2 ^ (n % 64) : Nat) : Int) = (u : Int)) :
    Calls Tryz.prog 174 #[.slice (some ⟨b, 0, none⟩) ws.length c, .int .i64 n] w fun e w' => e = .returned (.tuple #[]) ∧ RowK .u64 40 w' b (ws.set (n / 64) u) ∧ Keeps (· = b) w w' := by
  have hc := h.cell hn
  have hf := h.free (n / 64)
  have H := Lib.hid (h.set (n / 64) u)
  have hm : n % 64 < 64 := Nat.mod_lt _ (by decide)
  rw [← pow_wrap _ hm] at hu
  have e5 : (n : Int).tmod 64 = ((n % 64 : Nat) : Int) := by rw [Int.tmod_eq_emod_of_nonneg (by omega)]; omega
  generalize ws.getD (n / 64) 0 = x at *
  generalize n % 64 = m at *
  have e1 : IntKind.i64.wrap ((n : Int) / 64) = (n : Int) / 64 := IntWalk.i64_in _ (by omega)
  have e2 : (0 : Int) ≤ (n : Int) / 64 := by omega
  have e3 : (n : Int) / 64 < (ws.length : Int) := by omega
  have e4 : ((n : Int) / 64).toNat = n / 64 := by omega
  clear h
  go_enter Tryz.func174, Tryz.ntmps174
  go_wp2_with fail
  refine wp_region_still_tail 9 (by kernel_rfl) (by kernel_rfl) ?_
  simp only [List.take_succ_cons, List.take_zero, List.drop_succ_cons, List.drop_zero]
  change wpStill _ _ w.drew (fun a' => wpList _ _ _ _ a' w.drew) _ _
  have K := Lib.hid ((Keeps.setCell (· = b) w ⟨b, n / 64, none⟩ (.int .u64 (u : Int)) rfl).trans (Keeps.drew (· = b) _))
  change w.drew.cell? _ = _ at hc
  change w.drew.frozen? _ = _ at hf
  still_step
  still_step
  still_step
  still_step
  still_step
  still_step
  still_step
  still_step
  still_step
  refine wpStill_nil ?_
  go_wp2_with fail
  go_end0
  exact ⟨rfl, H.out, K.out⟩
set_option maxRecDepth 100000 in
set_option maxHeartbeats 400000 in
theorem drop_any {w : World} {b : Nat} {ws : List Nat} (h : RowK .u64 40 w b ws) (n c : Nat) (hn : n / 64 < ws.length) (hl : ws.length ≤ 64) (u : Nat)
    (hu : bits .andNot .u64 ((ws.getD (n / 64) 0 : Nat) : Int) ((2 ^ (n % 64) : Nat) : Int) = (u : Int)) :
    Calls Tryz.prog 176 #[.slice (some ⟨b, 0, none⟩) ws.length c, .int .i64 n] w fun e w' => e = .returned (.tuple #[]) ∧ RowK .u64 40 w' b (ws.set (n / 64) u) ∧ Keeps (· = b) w w' := by
  have hc := h.cell hn
  have hf := h.free (n / 64)
  have H := Lib.hid (h.set (n / 64) u)
  have hm : n % 64 < 64 := Nat.mod_lt _ (by decide)
  rw [← pow_wrap _ hm] at hu
  have e5 : (n : Int).tmod 64 = ((n % 64 : Nat) : Int) := by rw [Int.tmod_eq_emod_of_nonneg (by omega)]; omega
  generalize ws.getD (n / 64) 0 = x at *
  generalize n % 64 = m at *
  have e1 : IntKind.i64.wrap ((n : Int) / 64) = (n : Int) / 64 := IntWalk.i64_in _ (by omega)
  have e2 : (0 : Int) ≤ (n : Int) / 64 := by omega
  have e3 : (n : Int) / 64 < (ws.length : Int) := by omega
  have e4 : ((n : Int) / 64).toNat = n / 64 := by omega
  clear h
  go_enter Tryz.func176, Tryz.ntmps176
  go_wp2_with fail
  refine wp_region_still_tail 9 (by kernel_rfl) (by kernel_rfl) ?_
  simp only [List.take_succ_cons, List.take_zero, List.drop_succ_cons, List.drop_zero]
  change wpStill _ _ w.drew (fun a' => wpList _ _ _ _ a' w.drew) _ _
  have K := Lib.hid ((Keeps.setCell (· = b) w ⟨b, n / 64, none⟩ (.int .u64 (u : Int)) rfl).trans (Keeps.drew (· = b) _))
  change w.drew.cell? _ = _ at hc
  change w.drew.frozen? _ = _ at hf
  still_step
  still_step
  still_step
  still_step
  still_step
  still_step
  still_step
  still_step
  still_step
  refine wpStill_nil ?_
  go_wp2_with fail
  go_end0
  exact ⟨rfl, H.out, K.out⟩
/-- How many are in the first k words. -/
theorem cnt_words_le (f : Nat → Bool) (k : Nat) : cnt f (64 * k) ≤ 64 * k := cnt_le f _
set_option maxRecDepth 100000 in
set_option maxHeartbeats 400000 in
theorem many_any {w : World} {b : Nat} {f : Nat → Bool} {m : Nat} (h : m ≠ 0 → RowK .u64 40 w b ((List.range m).map (word f))) (A : Option Addr) (hA : m ≠ 0 → A = some ⟨b, 0, none⟩) (c : Nat) (hm : m ≤ 64) :
    Calls Tryz.prog 136 #[.slice A m c] w fun e w' => e = .returned (.int .i64 (cnt f (64 * m) : Nat)) ∧ w = w' := by
  go_enter Tryz.func136, Tryz.ntmps136
  go_wp2_with fail
  go_loop [8, 3, 5] (fun i s _ => ∃ k : Nat, k ≤ m ∧ i = .int .i64 (k : Int) ∧ s = .int .i64 (cnt f (64 * k) : Nat)) (fun i _ _ => m - (intOf i).toNat)
  case atStart => exact ⟨0, by omega, rfl, rfl⟩
  case round =>
    obtain ⟨k, hk, rfl, rfl⟩ := hrel
    by_cases hlt : k < m
    · obtain rfl := hA (by omega)
      have hc := (h (by omega)).cell (i := k) (by simpa using hlt)
      have e : ((List.range m).map (word f)).getD k 0 = word f k := by simp [List.getD_eq_getElem?_getD, hlt]
      rw [e] at hc
      have hp := ones_any (word f k) (word_lt f k) w
      have hs := cnt_word f k
      have b1 := cnt_words_le f k
      have b2 := popN_le 64 (word f k)
      have HS := Lib.hid hs
      clear h hs e hA
      generalize cnt f (64 * k) = S at *
      generalize popN 64 (word f k) = p at *
      generalize word f k = x at *
      go_wp2_with fail
      refine hp.mono ?_
      rintro e w' ⟨rfl, rfl⟩
      go_wp2_with fail
      go_round
      case rel => exact ⟨k + 1, by omega, by go_num, by rw [HS.out]; go_num⟩
      case measure => simp [intOf]; omega
    · obtain rfl : k = m := by omega
      go_wp2_with fail
      go_ret
      exact ⟨rfl, rfl⟩
set_option maxRecDepth 100000 in
set_option maxHeartbeats 400000 in
theorem lowest_any {w : World} {b : Nat} {f : Nat → Bool} {m : Nat} (hT : Tab w) (h : RowK .u64 40 w b ((List.range m).map (word f))) (c : Nat) (hm : m ≤ 64) (r : Nat) (hr : f r = true) (hr' : r < 64 * m) (hj : ∀ j, j < r → f j = false) :
    Calls Tryz.prog 208 #[.slice (some ⟨b, 0, none⟩) m c] w fun e w' => e = .returned (.int .i64 (r : Int)) ∧ w = w' := by
  go_enter Tryz.func208, Tryz.ntmps208
  go_wp2_with fail
  go_loop [7, 3, 4] (fun i _ _ => ∃ k : Nat, 64 * k ≤ r ∧ i = .int .i64 (k : Int)) (fun i _ _ => m - (intOf i).toNat)
  case atStart => exact ⟨0, by omega, rfl⟩
  case round =>
    obtain ⟨k, hk, rfl⟩ := hrel
    have hlt : k < m := by omega
    have hc := h.cell (i := k) (by simpa using hlt)
    have e : ((List.range m).map (word f)).getD k 0 = word f k := by simp [List.getD_eq_getElem?_getD, hlt]
    rw [e] at hc
    by_cases hz : word f k = 0
    · have hw := word_zero hz
      have hnx : 64 * (k + 1) ≤ r := by
        rcases Nat.lt_or_ge r (64 * (k + 1)) with h1 | h1
        · have := hw (r - 64 * k) (by omega)
          rw [show 64 * k + (r - 64 * k) = r from by omega, hr] at this
          cases this
        · exact h1
      rw [hz] at hc
      clear h e hr hj hw
      go_wp2_with fail
      go_round
      case rel => exact ⟨k + 1, hnx, by go_num⟩
      case measure => simp [intOf]; omega
    · obtain ⟨h1, h2, h3⟩ := word_ctz hz
      have htz := tz_any (word f k) (word_lt f k) hz w hT
      generalize Lib.ctz 64 (word f k) = t at *
      have hrt : r = 64 * k + t := by
        rcases Nat.lt_trichotomy r (64 * k + t) with h4 | h4 | h4
        · have := h3 (r - 64 * k) (by omega)
          rw [show 64 * k + (r - 64 * k) = r from by omega, hr] at this
          cases this
        · exact h4
        · have := hj _ h4
          rw [h2] at this
          cases this
      have hne : ((word f k : Int) != 0) = true := by simp; omega
      have HR := Lib.hid hrt
      clear h e hr hj h2 h3 hrt hz
      generalize word f k = x at *
      go_wp2_with fail
      refine htz.mono ?_
      rintro e w' ⟨rfl, rfl⟩
      go_wp2_with fail
      go_ret
      exact ⟨by rw [HR.out]; go_num, rfl⟩
end Go.Proofs.YtebecpjecchfoaaGreatDoor.Sp
namespace Go.Proofs.YtebecpjecchfoaaGreatDoor.Sp
open Go.RowKit

end Go.Proofs.YtebecpjecchfoaaGreatDoor.Sp
namespace Go.Proofs.YtebecpjecchfoaaGreatDoor.Sp
open Go.RowKit

structure MapAt (w : World) (p : Nat) (a b : Addr) (bc bf cc cf : Nat) (cs : List Nat) : Prop where
  head : w.heap[p]? = some (.cells #[.slice (some a) cs.length cc, .slice (some b) (nw cs.length) cf] 189 (0, 0))
  len : cs.length ≤ 2000
  adr : cs ≠ [] → a = ⟨bc, 0, none⟩ ∧ b = ⟨bf, 0, none⟩
  rowc : cs ≠ [] → RowK .i64 3 w bc cs
  rowf : cs ≠ [] → RowK .u64 40 w bf (wsOf cs)
  d1 : bc ≠ bf
  d2 : bc ≠ p
  d3 : bf ≠ p
/-- A map behind block p, all its blocks from lo on, below hi. -/
def MapS (w : World) (lo hi p : Nat) (cs : List Nat) : Prop := ∃ a b bc bf cc cf, MapAt w p a b bc bf cc cf cs ∧ lo ≤ p ∧ p < hi ∧ lo ≤ bc ∧ bc < hi ∧ lo ≤ bf ∧ bf < hi

section
variable {w : World} {p bc bf cc cf : Nat} {a b : Addr} {cs : List Nat}
theorem MapAt.lt (h : MapAt w p a b bc bf cc cf cs) : p < w.heap.size := (Array.getElem?_eq_some_iff.1 h.head).1
theorem MapAt.c (h : MapAt w p a b bc bf cc cf cs) : w.cell? ⟨p, 0, none⟩ = some (.slice (some a) cs.length cc) ∧ w.cell? ⟨p, 1, none⟩ = some (.slice (some b) (nw cs.length) cf) := by
  constructor <;> rw [cell_of_row _ _ _ _ _ _ h.head] <;> rfl
theorem MapAt.keep {w' : World} (h : MapAt w p a b bc bf cc cf cs) {X : Nat → Prop} (k : Keeps X w w') (hp : ¬ X p) (hr : cs ≠ [] → ¬ X bc ∧ ¬ X bf) : MapAt w' p a b bc bf cc cf cs :=
  ⟨(k.block p h.lt hp).trans h.head, h.len, h.adr, fun hn => (h.rowc hn).block (k.block _ (h.rowc hn).lt (hr hn).1), fun hn => (h.rowf hn).block (k.block _ (h.rowf hn).lt (hr hn).2), h.d1, h.d2, h.d3⟩
theorem MapS.keep {w' : World} {lo hi : Nat} (h : MapS w lo hi p cs) {X : Nat → Prop} (k : Keeps X w w') (hX : ∀ i, lo ≤ i → i < hi → ¬ X i) : MapS w' lo hi p cs := by
  obtain ⟨a, b, bc, bf, cc, cf, h, h1, h2, h3, h4, h5, h6⟩ := h
  exact ⟨a, b, bc, bf, cc, cf, h.keep k (hX p h1 h2) (fun _ => ⟨hX _ h3 h4, hX _ h5 h6⟩), h1, h2, h3, h4, h5, h6⟩
theorem MapS.below {w' : World} {lo hi : Nat} (h : MapS w lo hi p cs) (k : Below w.heap.size w w') : MapS w' lo hi p cs := h.keep (keeps_below k) fun _ _ _ h => h
theorem ne_nil_of {i : Nat} (h : i < cs.length) : cs ≠ [] := fun e => by subst e; simp at h

set_option maxRecDepth 100000 in
set_option maxHeartbeats 400000 in
theorem made_at (h : MapAt w p a b bc bf cc cf cs) : Calls Tryz.prog 134 #[.pointer (some ⟨p, 0, none⟩)] w fun e w' => e = .returned (.bool true) ∧ w = w' := by
  obtain ⟨c0, _⟩ := h.c
  have hq := run_neq_slice_nil_any (P := Tryz.prog) w 44 3 (some a) cs.length cc 0 0 Tryz.underlying44
  go_enter Tryz.func134, Tryz.ntmps134
  go_wp2
  go_ret
  exact ⟨rfl, rfl⟩
set_option maxRecDepth 100000 in
set_option maxHeartbeats 400000 in
theorem has_at (h : MapAt w p a b bc bf cc cf cs) (n : Int) : Calls Tryz.prog 175 #[.pointer (some ⟨p, 0, none⟩), .int .i64 n] w fun e w' => e = .returned (.bool (hasB cs n)) ∧ w = w' := by
  obtain ⟨c0, _⟩ := h.c
  have hl := h.len
  have HM := Lib.hid (made_at h)
  clear h
  by_cases h2 : 2 ≤ n
  · by_cases hn : n < (cs.length : Int)
    · have hb : hasB cs n = true := by simp [hasB, h2, hn]
      rw [hb]
      clear hb
      go_enter Tryz.func175, Tryz.ntmps175
      go_wp2_with fail
      refine HM.out.mono ?_
      rintro e w' ⟨rfl, rfl⟩
      go_wp2_with fail
      go_ret
      exact ⟨rfl, rfl⟩
    · have hb : hasB cs n = false := by simp [hasB]; omega
      have hd : decide (n < (cs.length : Int)) = false := by simpa using hn
      have HD := Lib.hid hd
      rw [hb]
      clear hb hd
      go_enter Tryz.func175, Tryz.ntmps175
      go_wp2_with fail
      refine HM.out.mono ?_
      rintro e w' ⟨rfl, rfl⟩
      go_wp2_with fail
      go_ret
      exact ⟨by rw [← HD.out]; rfl, rfl⟩
  · have hb : hasB cs n = false := by simp [hasB, h2]
    rw [hb]
    clear hb
    go_enter Tryz.func175, Tryz.ntmps175
    go_wp2_with fail
    refine HM.out.mono ?_
    rintro e w' ⟨rfl, rfl⟩
    go_wp2_with fail
    go_ret
    exact ⟨rfl, rfl⟩
theorem nw_zero (cs : List Nat) (h : nw cs.length ≠ 0) : cs ≠ [] := fun e => by subst e; exact h rfl
set_option maxRecDepth 100000 in
set_option maxHeartbeats 400000 in
theorem free_at (h : MapAt w p a b bc bf cc cf cs) : Calls Tryz.prog 76 #[.pointer (some ⟨p, 0, none⟩)] w fun e w' => e = .returned (.int .i64 (nfree cs : Nat)) ∧ w = w' := by
  obtain ⟨_, c1⟩ := h.c
  have hl := h.len
  have HM := Lib.hid (made_at h)
  have hmy := many_any (w := w) (b := bf) (f := fr cs) (m := nw cs.length) (fun hn => h.rowf (nw_zero cs hn)) (some b) (fun hn => by rw [(h.adr (nw_zero cs hn)).2]) cf (by unfold nw; omega)
  rw [nfree_words] at hmy
  have HY := Lib.hid hmy
  clear hmy h
  go_enter Tryz.func76, Tryz.ntmps76
  go_wp2_with fail
  refine HM.out.mono ?_
  rintro e w' ⟨rfl, rfl⟩
  go_wp2_with fail
  refine HY.out.mono ?_
  rintro e w' ⟨rfl, rfl⟩
  go_wp2_with fail
  go_ret
  exact ⟨rfl, rfl⟩
theorem MapAt.upd (h : MapAt w p a b bc bf cc cf cs) {w2 : World} {cs' : List Nat} (hl : cs'.length = cs.length) (k : Keeps (fun i => i = bc ∨ i = bf) w w2) (hc : RowK .i64 3 w2 bc cs') (hf : RowK .u64 40 w2 bf (wsOf cs')) : MapAt w2 p a b bc bf cc cf cs' := by
  have hne : cs' ≠ [] → cs ≠ [] := fun h1 e => h1 (by subst e; exact List.eq_nil_of_length_eq_zero (by simpa using hl))
  refine ⟨?_, by rw [hl]; exact h.len, fun hn => h.adr (hne hn), fun _ => hc, fun _ => hf, h.d1, h.d2, h.d3⟩
  rw [hl]
  exact (k.block p h.lt (fun e => by rcases e with e | e; exact h.d2 e.symm; exact h.d3 e.symm)).trans h.head
/-- What Hold leaves. -/
def Held (w : World) (p : Nat) (a b : Addr) (bc bf cc cf : Nat) (cs' : List Nat) (v : Value) (e : Ending) (w' : World) : Prop := e = .returned v ∧ MapAt w' p a b bc bf cc cf cs' ∧ Keeps (fun i => i = bc ∨ i = bf) w w'
set_option maxRecDepth 100000 in
set_option maxHeartbeats 600000 in
theorem hold_at (h : MapAt w p a b bc bf cc cf cs) (n : Int) {K : Nat} (hu : Upto K cs) (hK : K < 1000000000000) : Calls Tryz.prog 133 #[.pointer (some ⟨p, 0, none⟩), .int .i64 n] w (Held w p a b bc bf cc cf (holdC cs n) (.int .i64 (holdE cs n))) := by
  obtain ⟨c0, c1⟩ := h.c
  have hh := has_at h n
  have h0 := h
  unfold holdE holdC
  cases hb : hasB cs n
  · rw [hb] at hh
    have HM := Lib.hid hh
    have H0 := Lib.hid h0
    clear hh h hb h0
    go_enter Tryz.func133, Tryz.ntmps133
    go_wp2_with fail
    refine HM.out.mono ?_
    rintro e w' ⟨rfl, rfl⟩
    go_wp2_with fail
    go_ret
    exact ⟨rfl, H0.out, Keeps.refl _ _⟩
  · rw [hb] at hh
    simp [hasB] at hb
    obtain ⟨m, rfl⟩ := Int.eq_ofNat_of_zero_le (show 0 ≤ n by omega)
    have hm : m < cs.length := by omega
    have hm2 : 2 ≤ m := by omega
    have hne := ne_nil_of hm
    have hl := h.len
    obtain ⟨rfl, rfl⟩ := h.adr hne
    have rc := h.rowc hne
    have hc := rc.cell hm
    have hf := rc.free m
    have hx := hu.at_ m
    have hwl : (wsOf cs).length = nw cs.length := wsOf_len cs
    have hmw : m / 64 < (wsOf cs).length := by rw [hwl]; unfold nw; omega
    have hd := word_drop (f := fr cs) (g := fr (cs.set m (cs.getD m 0 + 1))) (n := m) (by rw [fr_set hm2 hm]; simp) (fun i hi => fr_set_ne hi)
    rw [← wsOf_at cs (by omega)] at hd
    have rc1 := rc.set m (cs.getD m 0 + 1)
    have k1 : Keeps (fun i => i = bc ∨ i = bf) w (w.setCell ⟨bc, m, none⟩ (.int .i64 ((cs.getD m 0 + 1 : Nat) : Int))) := Keeps.setCell _ _ _ _ (Or.inl rfl)
    have k1' : Keeps (fun i => i = bc) w (w.setCell ⟨bc, m, none⟩ (.int .i64 ((cs.getD m 0 + 1 : Nat) : Int))) := Keeps.setCell _ _ _ _ rfl
    have rf1 := (h.rowf hne).block (k1'.block bf (h.rowf hne).lt (fun e => h.d1 e.symm))
    have c1' := (k1'.cell p 1 h.lt (fun e => h.d2 e.symm)).trans c1
    have hdr := drop_any rf1 m cf hmw (by rw [hwl]; unfold nw; omega) _ hd
    rw [hwl, ← ws_set] at hdr
    have hset := ws_set cs m (cs.getD m 0 + 1)
    have HM := Lib.hid hh
    rw [Int.toNat_natCast, if_pos rfl, if_pos rfl]
    have HF : Hid (∀ w2, RowK .u64 40 w2 bf (wsOf (cs.set m (cs.getD m 0 + 1))) → Keeps (· = bf) (w.setCell ⟨bc, m, none⟩ (.int .i64 ((cs.getD m 0 + 1 : Nat) : Int))) w2 → MapAt w2 p ⟨bc, 0, none⟩ ⟨bf, 0, none⟩ bc bf cc cf (cs.set m (cs.getD m 0 + 1)) ∧ Keeps (fun i => i = bc ∨ i = bf) w w2) := fun w2 r2 k2 => by
      have k3 := k1.trans (k2.mono fun i _ e => Or.inr e)
      exact ⟨h.upd (by simp) k3 (rc1.block (k2.block bc rc1.lt (fun e => h.d1 e))) r2, k3⟩
    have HD := Lib.hid hdr
    clear hdr hset hd rc1 k1 k1' rf1 rc hh h hb hne h0 hu hwl hmw
    generalize hcs : cs.set m (cs.getD m 0 + 1) = cs' at *
    clear hcs
    rw [show ((cs.getD m 0 + 1 : Nat) : Int) = ((cs.getD m 0 : Nat) : Int) + 1 from rfl] at c1' HD HF
    generalize cs.getD m 0 = x at *
    go_enter Tryz.func133, Tryz.ntmps133
    go_wp2_with fail
    refine HM.out.mono ?_
    rintro e w' ⟨rfl, rfl⟩
    go_wp2_with fail
    refine HD.out.mono ?_
    rintro e w2 ⟨rfl, r2, k2⟩
    obtain ⟨f1, f2⟩ := HF.out w2 r2 k2
    have F1 := Lib.hid f1
    clear f1 r2 k2 HF HD c1' hf hc
    go_wp2_with fail
    go_ret
    exact ⟨rfl, F1.out, f2⟩
end
end Go.Proofs.YtebecpjecchfoaaGreatDoor.Sp
namespace Go.Proofs.YtebecpjecchfoaaGreatDoor.Sp
open Go.RowKit

section
variable {w : World} {p bc bf cc cf : Nat} {a b : Addr} {cs : List Nat}
set_option maxRecDepth 100000 in
set_option maxHeartbeats 600000 in
theorem take_at (h : MapAt w p a b bc bf cc cf cs) (hT : Tab w) {K : Nat} (hu : Upto K cs) (hK : K < 1000000000000) : Calls Tryz.prog 181 #[.pointer (some ⟨p, 0, none⟩)] w (Held w p a b bc bf cc cf (takeC cs) (.tuple #[.int .i64 (takeN cs : Nat), .int .i64 (takeE cs)])) := by
  have hfr := free_at h
  unfold takeN takeE takeC
  by_cases hz : nfree cs = 0
  · rw [if_pos hz, if_pos hz, if_pos hz]
    rw [hz] at hfr
    have HM := Lib.hid hfr
    have H0 := Lib.hid h
    clear h hfr hz
    go_enter Tryz.func181, Tryz.ntmps181
    go_wp2_with fail
    refine HM.out.mono ?_
    rintro e w' ⟨rfl, rfl⟩
    go_wp2_with fail
    go_ret2
    exact ⟨rfl, H0.out, Keeps.refl _ _⟩
  · rw [if_neg hz, if_neg hz, if_neg hz]
    obtain ⟨_, c1⟩ := h.c
    obtain ⟨hr, hj⟩ := lo_spec hz
    obtain ⟨r2, rl, r0⟩ := fr_iff.1 hr
    have hne := ne_nil_of rl
    have hl := h.len
    obtain ⟨rfl, rfl⟩ := h.adr hne
    have hlow := lowest_any hT (h.rowf hne) cf (by unfold nw; omega) (lo cs) hr (by unfold nw; omega) hj
    have hho := hold_at h (lo cs : Nat) hu hK
    have hb : hasB cs (lo cs : Nat) = true := by simp [hasB]; omega
    unfold holdE holdC at hho
    rw [if_pos hb, if_pos hb, Int.toNat_natCast, r0] at hho
    have HM := Lib.hid hfr
    have HL := Lib.hid hlow
    have HH := Lib.hid hho
    have hz' : ((nfree cs : Nat) : Int) ≠ 0 := by omega
    have hze : (((nfree cs : Nat) : Int) == 0) = false := by simpa using hz'
    clear h hfr hz hlow hho hr hj r0 hne hb hz'
    generalize lo cs = r at *
    generalize nfree cs = f at *
    go_enter Tryz.func181, Tryz.ntmps181
    go_wp2_with fail
    refine HM.out.mono ?_
    rintro e w' ⟨rfl, rfl⟩
    go_wp2_with fail
    refine HL.out.mono ?_
    rintro e w' ⟨rfl, rfl⟩
    go_wp2_with fail
    refine HH.out.mono ?_
    rintro e w2 ⟨rfl, h2, k2⟩
    have H2 := Lib.hid h2
    clear h2 HH HL HM c1
    go_wp2_with fail
    go_ret2
    exact ⟨rfl, H2.out, k2⟩
end
end Go.Proofs.YtebecpjecchfoaaGreatDoor.Sp
namespace Go.Proofs.YtebecpjecchfoaaGreatDoor.Sp
open Go.RowKit

theorem infoU64 : (Tryz.prog.info? 40).map (fun i => (i.zero, i.size, i.bytes)) = some (some (.int .u64 0), 1, 8) := by kernel_rfl
theorem make_set (n : Nat) (hn : n ≤ 1000000) (w : World) :
    (Instr.makeSlice 187 (.int .i64 (n : Int)) (.int .i64 (n : Int))).run Tryz.prog w = .ok (.slice (some ⟨w.heap.size, 0, none⟩) n n) (w.alloc (.cells (madeCells #[.int .u64 0] n) 40)) := by
  obtain ⟨i0, hi, hz0, hz1, hz2⟩ := info_parts infoU64
  exact run_make_row 187 40 i0 (.int .u64 0) Tryz.underlying187 hi hz0 hz1 rfl .i64 .i64 n (by rw [hz2]; omega) (by omega) w
theorem make_int (n : Nat) (hn : n ≤ 1000000) (w : World) :
    (Instr.makeSlice 44 (.int .i64 (n : Int)) (.int .i64 (n : Int))).run Tryz.prog w = .ok (.slice (some ⟨w.heap.size, 0, none⟩) n n) (w.alloc (.cells (madeCells #[.int .i64 0] n) 3)) := by
  obtain ⟨i0, hi, hz0, hz1, hz2⟩ := info_parts Tryz.infoInt
  exact run_make_row 44 3 i0 (.int .i64 0) Tryz.underlying44 hi hz0 hz1 rfl .i64 .i64 n (by rw [hz2]; omega) (by omega) w
theorem ex_makeSlice {P : Program} {w w' : World} {o : Oper} {ρ : Operand → Value} (t : TypeId) (x y : Operand) (ho : o.op = .makeSlice t x y) (a b v : Value) (hx : ρ x = a) (hy : ρ y = b) (hrun : (Instr.makeSlice t a b).run P w = .ok v w') : (execOp ρ o).run P w = .ok (.value v) w' := by
  unfold execOp
  simp only [ho, hx, hy, Sem.run_bind, hrun, Result.andThen_ok, Sem.run_pure]
/-- How many sectors New makes. -/
def nS (i : Int) : Nat := min i.toNat 2000
set_option maxRecDepth 100000 in
set_option maxHeartbeats 400000 in
theorem newSet_any (n : Nat) (hn : n ≤ 2000) (w : World) : Calls Tryz.prog 173 #[.int .i64 n] w fun e w' => e = .returned (.slice (some ⟨w.heap.size, 0, none⟩) (nw n) (nw n)) ∧ w' = w.alloc (.cells (madeCells #[.int .u64 0] (nw n)) 40) := by
  have hmk := make_set (nw n) (by unfold nw; omega) w
  have he : ((n : Int) + 64 - 1) / 64 = ((nw n : Nat) : Int) := by unfold nw; omega
  have MK := Lib.hid hmk
  clear hmk
  generalize nw n = m at *
  generalize madeCells #[.int .u64 0] m = C at *
  go_enter Tryz.func173, Tryz.ntmps173
  go_wp2_with ((with_reducible refine at_ (op := .makeSlice 187 (.tmp 6) (.tmp 6)) ?_); simp only [he]; refine wpList_val rfl _ (ex_makeSlice 187 (.tmp 6) (.tmp 6) rfl _ _ _ rfl rfl MK.out) ?_)
  go_ret
  exact ⟨rfl, rfl⟩

/-! ### New -/
/-- What is free of n sectors when those below 2 + i were put in. -/
def upTo (i j : Nat) : Bool := decide (2 ≤ j) && decide (j < 2 + i)
theorem words_zero (m : Nat) : List.replicate m 0 = (List.range m).map (word (upTo 0)) := by
  have h : ∀ k, word (upTo 0) k = 0 := fun k => by
    apply Nat.eq_of_testBit_eq
    intro i
    rw [word_bit]
    have : upTo 0 (64 * k + i) = false := by simp [upTo]
    simp [this]
  apply List.ext_getElem
  · simp
  · intro i h1 h2
    simp [h]
theorem map_set {f g : Nat → Bool} {n m : Nat} (h : ∀ i, i ≠ n → g i = f i) : ((List.range m).map (word f)).set (n / 64) (word g (n / 64)) = (List.range m).map (word g) := by
  apply List.ext_getElem
  · simp
  · intro k h1 h2
    rw [List.getElem_set]
    split
    · rename_i e; simp [e]
    · rename_i e
      simp only [List.getElem_map, List.getElem_range]
      exact (word_other h (fun h => e h.symm)).symm
theorem upTo_all (n : Nat) : (List.range (nw n)).map (word (upTo (n - 2))) = wsOf (List.replicate n 0) := by
  unfold wsOf
  rw [List.length_replicate]
  refine List.map_congr_left fun k _ => word_congr fun i hi => ?_
  by_cases h : 64 * k + i < n
  · simp [upTo, fr, List.getD_eq_getElem?_getD, h]; omega
  · rw [fr_out (by simpa using Nat.le_of_not_lt h)]
    simp [upTo]; omega
/-- What New leaves. -/
def NewM (w : World) (n : Nat) (e : Ending) (w' : World) : Prop := ∃ p, e = .returned (.pointer (some ⟨p, 0, none⟩)) ∧ MapS w' w.heap.size w'.heap.size p (List.replicate n 0) ∧ Below w.heap.size w w'
/-- The map while it is made. -/
structure Half (w wr : World) (n i p bc bf : Nat) : Prop where
  head : wr.heap[p]? = some (.cells #[.slice (some ⟨bc, 0, none⟩) n n, .slice (some ⟨bf, 0, none⟩) (nw n) (nw n)] 189 (0, 0))
  rc : RowK .i64 3 wr bc (List.replicate n 0)
  rf : RowK .u64 40 wr bf ((List.range (nw n)).map (word (upTo i)))
  kp : Keeps (fun k => w.heap.size ≤ k) w wr
  d1 : bc ≠ bf
  d2 : bc ≠ p
  d3 : bf ≠ p
  b1 : w.heap.size ≤ bc
  b2 : w.heap.size ≤ bf
  b3 : w.heap.size ≤ p
theorem Half.start {w w2 : World} {n bc bf : Nat} (hc : RowK .i64 3 w2 bc (List.replicate n 0)) (hf : RowK .u64 40 w2 bf (List.replicate (nw n) 0)) (kp : Keeps (fun _ => False) w w2) (d1 : bc ≠ bf) (b1 : w.heap.size ≤ bc) (b2 : w.heap.size ≤ bf) :
    Half w (w2.alloc (.cells #[.slice (some ⟨bc, 0, none⟩) n n, .slice (some ⟨bf, 0, none⟩) (nw n) (nw n)] 189)) n 0 w2.heap.size bc bf := by
  have ka : Keeps (fun _ => False) w2 (w2.alloc (.cells #[.slice (some ⟨bc, 0, none⟩) n n, .slice (some ⟨bf, 0, none⟩) (nw n) (nw n)] 189)) := Keeps.alloc _ _ _
  refine ⟨heap_alloc_new _ _, hc.block (ka.block _ hc.lt fun h => h), ?_, (kp.trans ka).mono (fun _ _ h => h.elim), d1, ?_, ?_, b1, b2, kp.size⟩
  · rw [← words_zero]
    exact hf.block (ka.block _ hf.lt fun h => h)
  · have := hc.lt; omega
  · have := hf.lt; omega
theorem Half.done {w wr : World} {n p bc bf : Nat} (h : Half w wr n (n - 2) p bc bf) (hn : n ≤ 2000) : NewM w n (.returned (.pointer (some ⟨p, 0, none⟩))) wr := by
  have hp : p < wr.heap.size := (Array.getElem?_eq_some_iff.1 h.head).1
  refine ⟨p, rfl, ⟨_, _, bc, bf, n, nw n, ⟨?_, by simpa using hn, fun _ => ⟨rfl, rfl⟩, fun _ => h.rc, fun _ => by rw [← upTo_all]; exact h.rf, h.d1, h.d2, h.d3⟩, h.b3, hp, h.b1, h.rc.lt, h.b2, h.rf.lt⟩, h.kp.toBelow _ (Nat.le_refl _) fun _ h => h⟩
  rw [List.length_replicate]
  exact h.head
theorem Half.next {w wr w2 : World} {n i p bc bf : Nat} (h : Half w wr n i p bc bf) (hf : RowK .u64 40 w2 bf ((List.range (nw n)).map (word (upTo (i + 1))))) (k : Keeps (· = bf) wr w2) : Half w w2 n (i + 1) p bc bf := by
  have hp : p < wr.heap.size := (Array.getElem?_eq_some_iff.1 h.head).1
  exact ⟨(k.block p hp (fun e => h.d3 e.symm)).trans h.head, h.rc.block (k.block bc h.rc.lt (fun e => h.d1 e)), hf, h.kp.trans (k.mono fun j _ e => by rw [e]; exact h.b2), h.d1, h.d2, h.d3, h.b1, h.b2, h.b3⟩
set_option maxRecDepth 100000 in
set_option maxHeartbeats 1000000 in
theorem new_in (i : Int) (n : Nat) (w : World) (hi : (if 2000 < (if i < 0 then 0 else i) then 2000 else (if i < 0 then 0 else i)) = (n : Int)) (hn : n ≤ 2000) : Calls Tryz.prog 132 #[.int .i64 i] w (NewM w n) := by
  go_enter Tryz.func132, Tryz.ntmps132
  go_wp2_with fail
  all_goals
    refine wp_region_any (by kernel_rfl) ?_
    change wpAny _ _ _ _ _ _ _ w.drew
    have kd : Keeps (fun _ => False) w w.drew := Keeps.drew _ _
    generalize w.drew = w0 at *
    refine wpAny_take (oi := ⟨_, _, _, _, _, _⟩) (i := 0) (v := .int .i64 (n : Int)) rfl (by kernel_rfl) (by kernel_rfl) (by kernel_rfl) (fun _ _ _ h => h) (Or.inl ⟨by rfl, fun _ => rfl⟩) ?_
    refine wpAny_take (oi := ⟨_, _, _, _, _, _⟩) (i := 2) (v := .int .i64 (n : Int)) rfl (by kernel_rfl) (by kernel_rfl) (by kernel_rfl) (fun _ _ _ h => h) (Or.inl ⟨by rfl, fun _ => rfl⟩) ?_
    simp only [Act.put, List.setIfInBounds_toArray, List.set_cons_zero, List.set_cons_succ]
    refine wpAny_all (rs := [1, 3]) (by kernel_rfl) (by simp) fun j hj => ?_
    have hj2 : j = 1 ∨ j = 3 := by simpa using hj
    clear hj
    rcases hj2 with rfl | rfl
    · refine op_run (om := ⟨_, _, _, _, _, _⟩) rfl rfl (ex_makeSlice 44 (.tmp 9) (.tmp 9) rfl _ _ _ rfl rfl (make_int n (by omega) w0)) _ _ rfl rfl ?_
      rintro u w1 ⟨rfl, rfl⟩
      simp only [Act.put, List.setIfInBounds_toArray, List.set_cons_zero, List.set_cons_succ]
      refine any_call 3 ⟨_, _, _, _, _, _⟩ 173 #[.int .i64 (n : Int)] rfl (by kernel_rfl) rfl (by go_simp) (fun u w' => u = .slice (some ⟨w0.heap.size + 1, 0, none⟩) (nw n) (nw n) ∧ w' = (w0.alloc (.cells (madeCells #[.int .i64 0] n) 3)).alloc (.cells (madeCells #[.int .u64 0] (nw n)) 40)) ((newSet_any n hn _).mono fun e w' ⟨he, hw⟩ => ⟨_, he, by simp, hw⟩) ?_
      rintro u w2 ⟨rfl, hw2⟩
      have rc : RowK .i64 3 w2 w0.heap.size (List.replicate n 0) := by
        rw [hw2]
        exact (RowK.made .i64 w0 n 3).block (Below.heap_alloc _ _ _ (by simp))
      have rf : RowK .u64 40 w2 (w0.heap.size + 1) (List.replicate (nw n) 0) := by
        rw [hw2]
        have := RowK.made .u64 (w0.alloc (.cells (madeCells #[.int .i64 0] n) 3)) (nw n) 40
        rwa [World.size_alloc] at this
      have kk : Keeps (fun _ => False) w0 w2 := by rw [hw2]; exact (Keeps.alloc _ _ _).trans (Keeps.alloc _ _ _)
      have HH := Lib.hid (Half.start rc rf (kd.trans kk) (by omega) kd.size (by have := kd.size; omega))
      clear rc rf kk hw2 kd
      generalize w0.heap.size = bc at *
      generalize bc + 1 = bf at *
      generalize hpe : w2.heap.size = p at *
      have hpn := Lib.hid hpe
      clear hpe
      simp only [Act.put, List.setIfInBounds_toArray, List.set_cons_zero, List.set_cons_succ]
      refine wpAny_of_chain [4, 5, 6] [_, _, _] _ _ _ rfl (by kernel_rfl) ?_
      have HH2 : Hid (Half w (w2.alloc (.cells #[.slice (some ⟨bc, 0, none⟩) n n, .slice (some ⟨bf, 0, none⟩) (nw n) (nw n)] 189)) n 0 w2.heap.size bc bf) := by
        have e := hpn.out
        subst e
        exact HH
      clear HH hpn
      go_wp2_with fail
      go_loopw [17, 5] (fun i _ wr => ∃ k : Nat, k ≤ n - 2 ∧ i = .int .i64 (k : Int) ∧ Half w wr n k w2.heap.size bc bf) (fun i _ _ => (n - 2) - (intOf i).toNat)
      case atStart => exact ⟨0, by omega, rfl, HH2.out⟩
      case round =>
        obtain ⟨k, hk, rfl, hf⟩ := hrel
        clear HH2
        generalize w2.heap.size = p at *
        by_cases hlt : k < n - 2
        · have c1 : wr.cell? ⟨p, 1, none⟩ = some (.slice (some ⟨bf, 0, none⟩) (nw n) (nw n)) := by rw [cell_of_row _ _ _ _ _ _ hf.head]; rfl
          have hl : ((List.range (nw n)).map (word (upTo k))).length = nw n := by simp
          have hq : (2 + k) / 64 < nw n := by unfold nw; omega
          have hne : ∀ i, i ≠ 2 + k → upTo (k + 1) i = upTo k i := fun i hi => by
            unfold upTo
            have : (i < 2 + (k + 1)) = (i < 2 + k) := by rw [eq_iff_iff]; omega
            simp only [this]
          have hu := word_put_bits (f := upTo k) (g := upTo (k + 1)) (n := 2 + k) (by simp [upTo]) hne
          rw [show word (upTo k) ((2 + k) / 64) = ((List.range (nw n)).map (word (upTo k))).getD ((2 + k) / 64) 0 from by simp [List.getD_eq_getElem?_getD, hq]] at hu
          have hput := put_any hf.rf (2 + k) (nw n) (by rw [hl]; exact hq) (by rw [hl]; unfold nw; omega) _ hu
          rw [hl, map_set hne] at hput
          rw [show ((2 + k : Nat) : Int) = 2 + (k : Int) from by omega] at hput
          have HP := Lib.hid hput
          have HF := Lib.hid hf
          clear hput hu hne hl hf
          go_wp2_with fail
          all_goals
            refine HP.out.mono ?_
            rintro e w3 ⟨rfl, r3, k3⟩
            have H3 := Lib.hid (HF.out.next r3 k3)
            clear HP HF r3 k3 c1
            go_wp2_with fail
            go_roundw
            case rel => exact ⟨k + 1, by omega, by go_num, H3.out⟩
            case measure => simp [intOf]; omega
        · obtain rfl : k = n - 2 := by omega
          have HF := Lib.hid (hf.done hn)
          clear hf
          go_wp2_with fail
          go_ret
          exact HF.out
    · refine op_call (om := ⟨_, _, _, _, _, _⟩) (fn := 173) (args := #[.int .i64 (n : Int)]) (R := fun u w' => u = .slice (some ⟨w0.heap.size, 0, none⟩) (nw n) (nw n) ∧ w' = w0.alloc (.cells (madeCells #[.int .u64 0] (nw n)) 40)) rfl rfl (by go_simp) ((newSet_any n hn _).mono fun e w' ⟨he, hw⟩ => ⟨_, he, rfl, hw⟩) _ _ rfl rfl ?_
      rintro u w1 ⟨rfl, hw1⟩
      simp only [Act.put, List.setIfInBounds_toArray, List.set_cons_zero, List.set_cons_succ]
      refine wpAny_all (rs := [1]) (by kernel_rfl) (by simp) fun j hj => ?_
      obtain rfl : j = 1 := by simpa using hj
      refine op_run (om := ⟨_, _, _, _, _, _⟩) rfl rfl (ex_makeSlice 44 (.tmp 9) (.tmp 9) rfl _ _ _ rfl rfl (make_int n (by omega) w1)) _ _ rfl rfl ?_
      rintro u w2 ⟨rfl, hw2⟩
      have hs1 : w1.heap.size = w0.heap.size + 1 := by rw [hw1]; simp
      have rf : RowK .u64 40 w2 w0.heap.size (List.replicate (nw n) 0) := by
        rw [hw2]
        refine RowK.block (w := w1) ?_ (Below.heap_alloc _ _ _ (by omega))
        rw [hw1]
        exact RowK.made .u64 w0 (nw n) 40
      have rc : RowK .i64 3 w2 w1.heap.size (List.replicate n 0) := by rw [hw2]; exact RowK.made .i64 w1 n 3
      have kk : Keeps (fun _ => False) w0 w2 := by rw [hw2, hw1]; exact (Keeps.alloc _ _ _).trans (Keeps.alloc _ _ _)
      have HH := Lib.hid (Half.start rc rf (kd.trans kk) (by omega) (by have := kd.size; omega) kd.size)
      clear rc rf kk hw2 kd hs1 hj
      generalize w1.heap.size = bc at *
      generalize w0.heap.size = bf at *
      clear hw1
      generalize hpe : w2.heap.size = p at *
      have hpn := Lib.hid hpe
      clear hpe
      simp only [Act.put, List.setIfInBounds_toArray, List.set_cons_zero, List.set_cons_succ]
      refine wpAny_of_chain [4, 5, 6] [_, _, _] _ _ _ rfl (by kernel_rfl) ?_
      have HH2 : Hid (Half w (w2.alloc (.cells #[.slice (some ⟨bc, 0, none⟩) n n, .slice (some ⟨bf, 0, none⟩) (nw n) (nw n)] 189)) n 0 w2.heap.size bc bf) := by
        have e := hpn.out
        subst e
        exact HH
      clear HH hpn
      go_wp2_with fail
      go_loopw [17, 5] (fun i _ wr => ∃ k : Nat, k ≤ n - 2 ∧ i = .int .i64 (k : Int) ∧ Half w wr n k w2.heap.size bc bf) (fun i _ _ => (n - 2) - (intOf i).toNat)
      case atStart => exact ⟨0, by omega, rfl, HH2.out⟩
      case round =>
        obtain ⟨k, hk, rfl, hf⟩ := hrel
        clear HH2
        generalize w2.heap.size = p at *
        by_cases hlt : k < n - 2
        · have c1 : wr.cell? ⟨p, 1, none⟩ = some (.slice (some ⟨bf, 0, none⟩) (nw n) (nw n)) := by rw [cell_of_row _ _ _ _ _ _ hf.head]; rfl
          have hl : ((List.range (nw n)).map (word (upTo k))).length = nw n := by simp
          have hq : (2 + k) / 64 < nw n := by unfold nw; omega
          have hne : ∀ i, i ≠ 2 + k → upTo (k + 1) i = upTo k i := fun i hi => by
            unfold upTo
            have : (i < 2 + (k + 1)) = (i < 2 + k) := by rw [eq_iff_iff]; omega
            simp only [this]
          have hu := word_put_bits (f := upTo k) (g := upTo (k + 1)) (n := 2 + k) (by simp [upTo]) hne
          rw [show word (upTo k) ((2 + k) / 64) = ((List.range (nw n)).map (word (upTo k))).getD ((2 + k) / 64) 0 from by simp [List.getD_eq_getElem?_getD, hq]] at hu
          have hput := put_any hf.rf (2 + k) (nw n) (by rw [hl]; exact hq) (by rw [hl]; unfold nw; omega) _ hu
          rw [hl, map_set hne] at hput
          rw [show ((2 + k : Nat) : Int) = 2 + (k : Int) from by omega] at hput
          have HP := Lib.hid hput
          have HF := Lib.hid hf
          clear hput hu hne hl hf
          go_wp2_with fail
          all_goals
            refine HP.out.mono ?_
            rintro e w3 ⟨rfl, r3, k3⟩
            have H3 := Lib.hid (HF.out.next r3 k3)
            clear HP HF r3 k3 c1
            go_wp2_with fail
            go_roundw
            case rel => exact ⟨k + 1, by omega, by go_num, H3.out⟩
            case measure => simp [intOf]; omega
        · obtain rfl : k = n - 2 := by omega
          have HF := Lib.hid (hf.done hn)
          clear hf
          go_wp2_with fail
          go_ret
          exact HF.out
theorem new_any (i : Int) (w : World) : Calls Tryz.prog 132 #[.int .i64 i] w (NewM w (nS i)) := by
  refine new_in i _ w ?_ (by unfold nS; omega)
  unfold nS
  split <;> split at * <;> omega
end Go.Proofs.YtebecpjecchfoaaGreatDoor.Sp
namespace Go.Proofs.YtebecpjecchfoaaGreatDoor.Sp
open Go.RowKit

/-! ### Copy -/
/-- The map's own cells. -/
def HeadM (p : Nat) (a b : Addr) (n cc m cf : Nat) (W : World) : Prop := W.heap[p]? = some (.cells #[.slice (some a) n cc, .slice (some b) m cf] 189 (0, 0))
theorem HeadM.c {p : Nat} {a b : Addr} {n cc m cf : Nat} {W : World} (h : HeadM p a b n cc m cf W) : W.cell? ⟨p, 0, none⟩ = some (.slice (some a) n cc) ∧ W.cell? ⟨p, 1, none⟩ = some (.slice (some b) m cf) := by
  constructor <;> rw [cell_of_row _ _ _ _ _ _ h] <;> rfl
end Go.Proofs.YtebecpjecchfoaaGreatDoor.Sp
namespace Go.Proofs.YtebecpjecchfoaaGreatDoor.Sp
open Go.RowKit

section
variable {w : World} {q bh ch : Nat} {cs : List Nat}
end
end Go.Proofs.YtebecpjecchfoaaGreatDoor.Sp
namespace Go.Proofs.YtebecpjecchfoaaGreatDoor.Sp
open Go.RowKit

section
variable {w : World} {q bh ch : Nat} {cs : List Nat}
end

/-! ### New -/
end Go.Proofs.YtebecpjecchfoaaGreatDoor.Sp
namespace Go.Proofs.YtebecpjecchfoaaGreatDoor.Sp
open Go.RowKit

section
variable {w : World} {lo hi p q : Nat} {cs : List Nat}
def HeldS (w : World) (lo hi p : Nat) (cs' : List Nat) (v : Value) (e : Ending) (w' : World) : Prop := e = .returned v ∧ MapS w' lo hi p cs' ∧ Keeps (fun i => lo ≤ i ∧ i < hi) w w'
theorem hold_s (h : MapS w lo hi p cs) (n : Int) {K : Nat} (hu : Upto K cs) (hK : K < 1000000000000) : Calls Tryz.prog 133 #[.pointer (some ⟨p, 0, none⟩), .int .i64 n] w (HeldS w lo hi p (holdC cs n) (.int .i64 (holdE cs n))) := by
  obtain ⟨a, b, bc, bf, cc, cf, h, h1, h2, h3, h4, h5, h6⟩ := h
  refine (hold_at h n hu hK).mono ?_
  rintro e w' ⟨he, hm, k⟩
  exact ⟨he, ⟨a, b, bc, bf, cc, cf, hm, h1, h2, h3, h4, h5, h6⟩, k.mono fun i _ e => by rcases e with e | e <;> subst e <;> exact ⟨by assumption, by assumption⟩⟩
theorem take_s (h : MapS w lo hi p cs) (hT : Tab w) {K : Nat} (hu : Upto K cs) (hK : K < 1000000000000) : Calls Tryz.prog 181 #[.pointer (some ⟨p, 0, none⟩)] w (HeldS w lo hi p (takeC cs) (.tuple #[.int .i64 (takeN cs : Nat), .int .i64 (takeE cs)])) := by
  obtain ⟨a, b, bc, bf, cc, cf, h, h1, h2, h3, h4, h5, h6⟩ := h
  refine (take_at h hT hu hK).mono ?_
  rintro e w' ⟨he, hm, k⟩
  exact ⟨he, ⟨a, b, bc, bf, cc, cf, hm, h1, h2, h3, h4, h5, h6⟩, k.mono fun i _ e => by rcases e with e | e <;> subst e <;> exact ⟨by assumption, by assumption⟩⟩
theorem free_s (h : MapS w lo hi p cs) : Calls Tryz.prog 76 #[.pointer (some ⟨p, 0, none⟩)] w fun e w' => e = .returned (.int .i64 (nfree cs : Nat)) ∧ w = w' := by
  obtain ⟨a, b, bc, bf, cc, cf, h, _⟩ := h
  exact free_at h
theorem MapS.len (h : MapS w lo hi p cs) : cs.length ≤ 2000 := by
  obtain ⟨a, b, bc, bf, cc, cf, h, _⟩ := h
  exact h.len
end
theorem Tab.keeps {w w' : World} (h : Tab w) {F : Nat → Prop} (k : Keeps F w w') (hF : ¬ F 0) : Tab w' := h.keep (k.block 0 h.pos hF)

end Go.Proofs.YtebecpjecchfoaaGreatDoor.Sp
