/-
  Plain lists: counts of sectors, words of bits that tell which are free, the lowest one. No function of the program is named here.
-/
import Derived.Test.YtajagjhhpciocaaDoorSpPlain
namespace Go.Proofs.YtajagjhhpciocaaDoor.Sp

/-! ### words -/
def wbits (f : Nat → Bool) (b : Nat) : Nat → Nat
  | 0 => 0
  | m + 1 => 2 ^ m * (if f (b + m) then 1 else 0) + wbits f b m
theorem wbits_lt (f : Nat → Bool) (b : Nat) : ∀ m, wbits f b m < 2 ^ m
  | 0 => Nat.zero_lt_one
  | m + 1 => by
    have := wbits_lt f b m
    unfold wbits
    rw [Nat.pow_succ]
    split <;> omega
theorem wbits_bit (f : Nat → Bool) (b : Nat) : ∀ m i, (wbits f b m).testBit i = (decide (i < m) && f (b + i))
  | 0, i => by simp [wbits]
  | m + 1, i => by
    unfold wbits
    rw [Nat.testBit_two_pow_mul_add _ (wbits_lt f b m), wbits_bit f b m]
    by_cases h : i < m
    · rw [if_pos h]; simp [h, Nat.lt_succ_of_lt h]
    · rw [if_neg h]
      by_cases e : i = m
      · subst e
        cases f (b + i) <;> simp
      · have h1 : ¬ i < m + 1 := by omega
        obtain ⟨j, hj⟩ : ∃ j, i - m = j + 1 := ⟨i - m - 1, by omega⟩
        rw [hj]
        cases f (b + m) <;> simp [h1, Nat.testBit_succ]
/-- The k-th word of 64 bits. -/
def word (f : Nat → Bool) (k : Nat) : Nat := wbits f (64 * k) 64
theorem word_lt (f : Nat → Bool) (k : Nat) : word f k < 18446744073709551616 := wbits_lt f (64 * k) 64
theorem word_bit (f : Nat → Bool) (k i : Nat) : (word f k).testBit i = (decide (i < 64) && f (64 * k + i)) := wbits_bit f (64 * k) 64 i
theorem word_congr {f g : Nat → Bool} {k : Nat} (h : ∀ i, i < 64 → f (64 * k + i) = g (64 * k + i)) : word f k = word g k := by
  apply Nat.eq_of_testBit_eq
  intro i
  rw [word_bit, word_bit]
  by_cases hi : i < 64
  · rw [h i hi]
  · simp [hi]
theorem word_put {f g : Nat → Bool} {n : Nat} (hn : g n = true) (h : ∀ i, i ≠ n → g i = f i) : word f (n / 64) ||| 2 ^ (n % 64) = word g (n / 64) := by
  apply Nat.eq_of_testBit_eq
  intro i
  rw [Nat.testBit_or, word_bit, word_bit, Nat.testBit_two_pow]
  by_cases e : n % 64 = i
  · subst e
    have : 64 * (n / 64) + n % 64 = n := by omega
    have h2 : n % 64 < 64 := Nat.mod_lt _ (by decide)
    rw [this, hn]
    simp [h2]
  · by_cases hi : i < 64
    · rw [h (64 * (n / 64) + i) (by omega)]
      simp [e]
    · simp [hi, e]
theorem word_drop {f g : Nat → Bool} {n : Nat} (hn : g n = false) (h : ∀ i, i ≠ n → g i = f i) : bits .andNot .u64 (word f (n / 64) : Int) ((2 ^ (n % 64) : Nat) : Int) = (word g (n / 64) : Int) := by
  have h2 : n % 64 < 64 := Nat.mod_lt _ (by decide)
  have hp : (2 : Nat) ^ (n % 64) < 2 ^ 64 := Nat.pow_lt_pow_right (by decide) h2
  have hw := word_lt f (n / 64)
  have h1 : (BitVec.ofInt 64 (word f (n / 64) : Int)).toNat = word f (n / 64) := by
    rw [BitVec.ofInt_natCast, BitVec.toNat_ofNat]; exact Nat.mod_eq_of_lt (by omega)
  have h3 : (BitVec.ofInt 64 ((2 ^ (n % 64) : Nat) : Int)).toNat = 2 ^ (n % 64) := by
    rw [BitVec.ofInt_natCast, BitVec.toNat_ofNat]; exact Nat.mod_eq_of_lt hp
  have key : (BitVec.ofInt 64 (word f (n / 64) : Int) &&& ~~~ BitVec.ofInt 64 ((2 ^ (n % 64) : Nat) : Int)).toNat = word g (n / 64) := by
    apply Nat.eq_of_testBit_eq
    intro i
    rw [← BitVec.getLsbD, BitVec.getLsbD_and, BitVec.getLsbD_not, BitVec.getLsbD, BitVec.getLsbD, h1, h3, word_bit, word_bit, Nat.testBit_two_pow]
    by_cases e : n % 64 = i
    · subst e
      have : 64 * (n / 64) + n % 64 = n := by omega
      rw [this, hn]
      simp
    · by_cases hi : i < 64
      · rw [h (64 * (n / 64) + i) (by omega)]
        simp [e, hi]
      · simp [hi]
  show IntKind.u64.wrap (((BitVec.ofInt 64 (word f (n / 64) : Int) &&& ~~~ BitVec.ofInt 64 ((2 ^ (n % 64) : Nat) : Int)).toNat : Nat) : Int) = _
  rw [key, IntKind.wrap_u64]
  have := word_lt g (n / 64)
  omega
theorem word_put_bits {f g : Nat → Bool} {n : Nat} (hn : g n = true) (h : ∀ i, i ≠ n → g i = f i) : bits .or .u64 (word f (n / 64) : Int) ((2 ^ (n % 64) : Nat) : Int) = (word g (n / 64) : Int) := by
  have h2 : n % 64 < 64 := Nat.mod_lt _ (by decide)
  have hp : (2 : Nat) ^ (n % 64) < 2 ^ 64 := Nat.pow_lt_pow_right (by decide) h2
  rw [bits_or_u64_nat _ _ (word_lt _ _) hp, word_put hn h]
theorem word_other {f g : Nat → Bool} {n k : Nat} (h : ∀ i, i ≠ n → g i = f i) (hk : k ≠ n / 64) : word g k = word f k := word_congr fun i hi => h _ (by omega)
theorem word_and1 (f : Nat → Bool) (k i : Nat) (hi : i < 64) : bits .and .u64 ((word f k / 2 ^ i : Nat) : Int) 1 = if f (64 * k + i) then 1 else 0 := by
  have h1 : word f k / 2 ^ i < 18446744073709551616 := Nat.lt_of_le_of_lt (Nat.div_le_self _ _) (word_lt _ _)
  have := bits_and_u64_nat (word f k / 2 ^ i) 1 h1 (by decide)
  rw [show ((1 : Nat) : Int) = 1 from rfl] at this
  rw [this, Nat.and_one_is_mod]
  have hb := word_bit f k i
  rw [Nat.testBit_eq_decide_div_mod_eq] at hb
  simp only [hi, decide_true, Bool.true_and] at hb
  have h01 : word f k / 2 ^ i % 2 = 0 ∨ word f k / 2 ^ i % 2 = 1 := by omega
  rcases h01 with e | e
  · rw [e] at hb ⊢
    have : f (64 * k + i) = false := by rw [← hb]; rfl
    rw [this]; rfl
  · rw [e] at hb ⊢
    have : f (64 * k + i) = true := by rw [← hb]; rfl
    rw [this]; rfl

/-! ### how many, which is the lowest -/
/-- How many numbers below n have it. -/
def cnt (f : Nat → Bool) (n : Nat) : Nat := ((List.range n).filter f).length
theorem cnt_le (f : Nat → Bool) (n : Nat) : cnt f n ≤ n := by
  have := List.length_filter_le f (List.range n)
  rw [List.length_range] at this
  exact this
theorem cnt_succ (f : Nat → Bool) (n : Nat) : cnt f (n + 1) = cnt f n + if f n then 1 else 0 := by
  unfold cnt
  rw [List.range_succ, List.filter_append, List.length_append, List.filter_cons]
  split <;> simp
theorem popN_word (f : Nat → Bool) (k : Nat) : popN 64 (word f k) = ((List.range 64).filter fun i => f (64 * k + i)).length := by
  rw [popN_filter]
  congr 1
  refine List.filter_congr fun i hi => ?_
  rw [List.mem_range] at hi
  rw [word_bit]
  simp [hi]
theorem cnt_word (f : Nat → Bool) (k : Nat) : cnt f (64 * (k + 1)) = cnt f (64 * k) + popN 64 (word f k) := by
  rw [popN_word]
  unfold cnt
  rw [show 64 * (k + 1) = 64 * k + 64 from by omega, List.range_add, List.filter_append, List.length_append, List.filter_map, List.length_map]
  rfl
theorem cnt_beyond {f : Nat → Bool} {n : Nat} (h : ∀ i, n ≤ i → f i = false) : ∀ m, n ≤ m → cnt f m = cnt f n
  | 0, hm => by rw [show n = 0 from by omega]
  | m + 1, hm => by
    rcases Nat.eq_or_lt_of_le hm with e | e
    · rw [e]
    · rw [cnt_succ, cnt_beyond h m (by omega), h m (by omega)]; rfl
theorem cnt_zero {f : Nat → Bool} : ∀ {n : Nat}, cnt f n = 0 → ∀ i, i < n → f i = false
  | 0, _, i, hi => by omega
  | n + 1, h, i, hi => by
    rw [cnt_succ] at h
    have h1 : cnt f n = 0 := by omega
    rcases Nat.lt_or_ge i n with e | e
    · exact cnt_zero h1 i e
    · obtain rfl : i = n := by omega
      cases hf : f i
      · rfl
      · rw [hf] at h; simp at h
theorem cnt_pos {f : Nat → Bool} {n : Nat} (h : cnt f n ≠ 0) : ∃ i, i < n ∧ f i = true := by
  unfold cnt at h
  obtain ⟨i, hi⟩ := List.exists_mem_of_length_pos (Nat.pos_of_ne_zero h)
  rw [List.mem_filter, List.mem_range] at hi
  exact ⟨i, hi⟩
theorem word_zero {f : Nat → Bool} {k : Nat} (h : word f k = 0) : ∀ i, i < 64 → f (64 * k + i) = false := fun i hi => by
  have := word_bit f k i
  rw [h] at this
  simpa [hi] using this.symm
theorem word_ctz {f : Nat → Bool} {k : Nat} (h : word f k ≠ 0) : Lib.ctz 64 (word f k) < 64 ∧ f (64 * k + Lib.ctz 64 (word f k)) = true ∧ ∀ i, i < Lib.ctz 64 (word f k) → f (64 * k + i) = false := by
  obtain ⟨m, hm, ht⟩ := Lib.ctzFrom_spec 64 (word f k) (Nat.pos_of_ne_zero h) (word_lt f k)
  have e : Lib.ctz 64 (word f k) = Lib.ctzFrom 64 (word f k) := by simp [Lib.ctz, h]
  rw [e]
  generalize Lib.ctzFrom 64 (word f k) = t at *
  have hb : ∀ i, (word f k).testBit i = (decide (t ≤ i) && (2 * m + 1).testBit (i - t)) := fun i => by rw [hm, Nat.mul_comm, Nat.testBit_mul_two_pow]
  refine ⟨ht, ?_, fun i hi => ?_⟩
  · have := hb t
    rw [word_bit] at this
    simpa [ht] using this
  · have := hb i
    rw [word_bit] at this
    simpa [show i < 64 from by omega, show ¬ t ≤ i from by omega] using this

/-! ### counts of sectors -/
/-- Is sector i free? -/
def fr (cs : List Nat) (i : Nat) : Bool := decide (2 ≤ i) && (decide (i < cs.length) && decide (cs.getD i 0 = 0))
theorem fr_iff {cs : List Nat} {i : Nat} : fr cs i = true ↔ 2 ≤ i ∧ i < cs.length ∧ cs.getD i 0 = 0 := by simp [fr]
theorem fr_out {cs : List Nat} {i : Nat} (h : cs.length ≤ i) : fr cs i = false := by simp [fr]; omega
/-- The words' number. -/
def nw (n : Nat) : Nat := (n + 63) / 64
def wsOf (cs : List Nat) : List Nat := (List.range (nw cs.length)).map (word (fr cs))
theorem wsOf_len (cs : List Nat) : (wsOf cs).length = nw cs.length := by simp [wsOf]
theorem wsOf_at (cs : List Nat) {k : Nat} (h : k < nw cs.length) : (wsOf cs).getD k 0 = word (fr cs) k := by
  simp [wsOf, List.getD_eq_getElem?_getD, h]
theorem wsOf_get (cs : List Nat) {k : Nat} (h : k < (wsOf cs).length) : (wsOf cs)[k] = word (fr cs) k := by simp [wsOf]
/-- How many are free; which are held; how many. -/
def nfree (cs : List Nat) : Nat := cnt (fr cs) cs.length
def heldB (cs : List Nat) (i : Nat) : Bool := decide (2 ≤ i) && !decide (cs.getD i 0 = 0)
def usedOf (cs : List Nat) (n : Nat) : List Nat := (List.range n).filter (heldB cs)
theorem usedOf_succ (cs : List Nat) (n : Nat) : usedOf cs (n + 1) = usedOf cs n ++ (if heldB cs n then [n] else []) := by
  unfold usedOf
  rw [List.range_succ, List.filter_append, List.filter_cons]
  split <;> simp
theorem usedOf_two (cs : List Nat) : usedOf cs 2 = [] := by
  simp [usedOf, List.range_succ, heldB]
theorem usedOf_le (cs : List Nat) (n : Nat) : (usedOf cs n).length ≤ n := by
  have := List.length_filter_le (heldB cs) (List.range n)
  rw [List.length_range] at this
  exact this
theorem usedOf_mem {cs : List Nat} {n x : Nat} (h : x ∈ usedOf cs n) : 2 ≤ x ∧ x < n ∧ cs.getD x 0 ≠ 0 := by
  unfold usedOf at h
  rw [List.mem_filter, List.mem_range] at h
  simp only [heldB, Bool.and_eq_true, decide_eq_true_eq, Bool.not_eq_true', decide_eq_false_iff_not] at h
  exact ⟨h.2.1, h.1, h.2.2⟩
theorem usedOf_rise (cs : List Nat) (n : Nat) : (usedOf cs n).Pairwise (· < ·) := List.Pairwise.filter _ List.pairwise_lt_range
theorem free_used (cs : List Nat) : ∀ n, n ≤ cs.length → cnt (fr cs) n + (usedOf cs n).length = n - 2
  | 0, _ => rfl
  | n + 1, h => by
    have ih := free_used cs n (by omega)
    rw [cnt_succ, usedOf_succ, List.length_append]
    by_cases h2 : 2 ≤ n
    · by_cases hz : cs.getD n 0 = 0
      · have a : fr cs n = true := fr_iff.2 ⟨h2, by omega, hz⟩
        have b : heldB cs n = false := by simp only [heldB, hz]; simp
        rw [a, b]
        simp
        omega
      · have a : fr cs n = false := by simp only [fr, hz]; simp
        have b : heldB cs n = true := by simp only [heldB, hz]; simpa using h2
        rw [a, b]
        simp
        omega
    · have a : fr cs n = false := by simp [fr, h2]
      have b : heldB cs n = false := by simp [heldB, h2]
      rw [a, b]
      simp
      omega
theorem nfree_used (cs : List Nat) : nfree cs + (usedOf cs cs.length).length = cs.length - 2 := free_used cs _ (Nat.le_refl _)
theorem nfree_words (cs : List Nat) : cnt (fr cs) (64 * nw cs.length) = nfree cs := cnt_beyond (fun i hi => fr_out hi) _ (by unfold nw; omega)
/-- The lowest that is free. -/
def lo (cs : List Nat) : Nat := ((List.range cs.length).find? (fr cs)).getD 0
theorem lo_eq {cs : List Nat} {r : Nat} (h : fr cs r = true) (hj : ∀ j, j < r → fr cs j = false) : lo cs = r := by
  have hr := (fr_iff.1 h).2.1
  have : (List.range cs.length).find? (fr cs) = some r := by
    rw [List.find?_range_eq_some]
    exact ⟨h, List.mem_range.2 hr, fun j hj' => by simp [hj j hj']⟩
  rw [lo, this]
  rfl
theorem lo_spec {cs : List Nat} (h : nfree cs ≠ 0) : fr cs (lo cs) = true ∧ ∀ j, j < lo cs → fr cs j = false := by
  obtain ⟨i, hi, hf⟩ := cnt_pos h
  cases hfd : (List.range cs.length).find? (fr cs) with
  | none =>
    rw [List.find?_eq_none] at hfd
    exact absurd hf (hfd i (List.mem_range.2 hi))
  | some r =>
    have e : lo cs = r := by rw [lo, hfd]; rfl
    rw [List.find?_range_eq_some] at hfd
    rw [e]
    exact ⟨hfd.1, fun j hj => by simpa using hfd.2.2 j hj⟩

/-! ### what calls make of the counts -/
def hasB (cs : List Nat) (n : Int) : Bool := decide (2 ≤ n) && decide (n < (cs.length : Int))
def holdE (cs : List Nat) (n : Int) : Int := if hasB cs n then 0 else 1
def holdC (cs : List Nat) (n : Int) : List Nat := if hasB cs n then cs.set n.toNat (cs.getD n.toNat 0 + 1) else cs
def dropE (cs : List Nat) (n : Int) : Int := if hasB cs n then (if cs.getD n.toNat 0 = 0 then 3 else 0) else 1
def dropC (cs : List Nat) (n : Int) : List Nat := if hasB cs n then (if cs.getD n.toNat 0 = 0 then cs else cs.set n.toNat (cs.getD n.toNat 0 - 1)) else cs
def takeN (cs : List Nat) : Nat := if nfree cs = 0 then 0 else lo cs
def takeE (cs : List Nat) : Int := if nfree cs = 0 then 50 else 0
def takeC (cs : List Nat) : List Nat := if nfree cs = 0 then cs else cs.set (lo cs) 1
def countOf (cs : List Nat) (n : Int) : Nat := if hasB cs n then cs.getD n.toNat 0 else 0
theorem fr_set {cs : List Nat} {n c : Nat} (h2 : 2 ≤ n) (hn : n < cs.length) : fr (cs.set n c) n = decide (c = 0) := by
  simp [fr, List.getD_eq_getElem?_getD, hn, h2]
theorem fr_set_ne {cs : List Nat} {n c i : Nat} (h : i ≠ n) : fr (cs.set n c) i = fr cs i := by
  simp [fr, List.getD_eq_getElem?_getD, List.getElem?_set_ne (fun e => h e.symm)]
theorem ws_set (cs : List Nat) (n c : Nat) : wsOf (cs.set n c) = (wsOf cs).set (n / 64) (word (fr (cs.set n c)) (n / 64)) := by
  apply List.ext_getElem
  · simp [wsOf]
  · intro k h1 h2
    rw [wsOf_get, List.getElem_set]
    split
    · rename_i e; rw [e]
    · rename_i e
      rw [wsOf_get _ (by simpa [wsOf] using h2)]
      exact word_other (fun i hi => fr_set_ne hi) (fun h => e h.symm)
theorem ws_same {cs : List Nat} {n c : Nat} (h2 : 2 ≤ n) (hn : n < cs.length) (h : decide (c = 0) = decide (cs.getD n 0 = 0)) : wsOf (cs.set n c) = wsOf cs := by
  have hf : ∀ i, fr (cs.set n c) i = fr cs i := fun i => by
    by_cases e : i = n
    · subst e
      rw [fr_set h2 hn, h]
      simp [fr, h2, hn]
    · exact fr_set_ne e
  have : fr (cs.set n c) = fr cs := funext hf
  unfold wsOf
  rw [this, List.length_set]
theorem len_hold (cs : List Nat) (n : Int) : (holdC cs n).length = cs.length := by unfold holdC; split <;> simp
theorem len_drop (cs : List Nat) (n : Int) : (dropC cs n).length = cs.length := by
  unfold dropC
  split
  · split <;> simp
  · rfl
theorem len_take (cs : List Nat) : (takeC cs).length = cs.length := by unfold takeC; split <;> simp
/-- No count is above m. -/
def Upto (m : Nat) (cs : List Nat) : Prop := ∀ c ∈ cs, c ≤ m
theorem Upto.at_ {m : Nat} {cs : List Nat} (h : Upto m cs) (n : Nat) : cs.getD n 0 ≤ m := by
  rw [List.getD_eq_getElem?_getD]
  cases e : cs[n]? with
  | none => exact Nat.zero_le _
  | some c => exact h c (List.mem_of_getElem? e)
theorem Upto.set {m m' : Nat} {cs : List Nat} (h : Upto m cs) (hm : m ≤ m') {c : Nat} (hc : c ≤ m') (n : Nat) : Upto m' (cs.set n c) := fun x hx => by
  rcases List.mem_or_eq_of_mem_set hx with h1 | rfl
  · exact Nat.le_trans (h x h1) hm
  · exact hc
theorem Upto.mono {m m' : Nat} {cs : List Nat} (h : Upto m cs) (hm : m ≤ m') : Upto m' cs := fun x hx => Nat.le_trans (h x hx) hm
theorem Upto.hold {m : Nat} {cs : List Nat} (h : Upto m cs) (n : Int) : Upto (m + 1) (holdC cs n) := by
  unfold holdC
  split
  · exact h.set (Nat.le_succ _) (by have := h.at_ n.toNat; omega) _
  · exact h.mono (Nat.le_succ _)
theorem Upto.drop {m : Nat} {cs : List Nat} (h : Upto m cs) (n : Int) : Upto (m + 1) (dropC cs n) := by
  unfold dropC
  split
  · split
    · exact h.mono (Nat.le_succ _)
    · exact h.set (Nat.le_succ _) (by have := h.at_ n.toNat; omega) _
  · exact h.mono (Nat.le_succ _)
theorem Upto.take {m : Nat} {cs : List Nat} (h : Upto m cs) : Upto (m + 1) (takeC cs) := by
  unfold takeC
  split
  · exact h.mono (Nat.le_succ _)
  · exact h.set (Nat.le_succ _) (by omega) _
end Go.Proofs.YtajagjhhpciocaaDoor.Sp
