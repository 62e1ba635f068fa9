/-
  Plain facts on records: their bytes, what is read of them, and that the two ways to tell a record come to the same. No function of the program is named here.
-/
import Derived.Test.YtlefpnplibmgiaaRt
namespace Go.Proofs.Ytlefpnplibmgiaa
open Go.RowKit

theorem num_add (xs : List UInt8) (a : Int) (k : Nat) : num xs a (k + 1) = num xs a k + (byt xs (a + k)).toNat * 2 ^ (8 * k) := by
  rw [num, Nat.or_comm, ← Nat.shiftLeft_add_eq_or_of_lt (num_lt xs a k), Nat.shiftLeft_eq, Nat.add_comm]
/-- The bytes of a number that was read. -/
theorem byteN_num (xs : List UInt8) (a : Int) (k j : Nat) (hj : j < k) : byteN (num xs a k) j = byt xs (a + j) := by
  apply UInt8.toNat_inj.1
  have hb := (byt xs (a + j)).toNat_lt
  show ((UInt8.ofNat (num xs a k / 2 ^ (8 * j))).toNat) = _
  rw [UInt8.toNat_ofNat']
  induction k with
  | zero => omega
  | succ k ih =>
    rw [num_add]
    by_cases e : j = k
    · subst e
      rw [Nat.add_mul_div_right _ _ (Nat.two_pow_pos _), Nat.div_eq_of_lt (num_lt xs a j), Nat.zero_add]
      exact Nat.mod_eq_of_lt hb
    · rw [← ih (by omega)]
      have e2 : 2 ^ (8 * k) = 2 ^ (8 * j) * (256 * 2 ^ (8 * (k - j - 1))) := by
        rw [show (256 : Nat) = 2 ^ 8 from rfl, ← Nat.pow_add, ← Nat.pow_add]; congr 1; omega
      rw [e2, show (byt xs (a + k)).toNat * (2 ^ (8 * j) * (256 * 2 ^ (8 * (k - j - 1)))) = 2 ^ (8 * j) * (256 * (2 ^ (8 * (k - j - 1)) * (byt xs (a + k)).toNat)) from by
        rw [Nat.mul_comm, Nat.mul_assoc, Nat.mul_assoc], Nat.add_mul_div_left _ _ (Nat.two_pow_pos _)]
      show (_ + 256 * _) % 256 = _ % 256
      rw [Nat.add_mul_mod_self_left]

theorem headL_get (g n i : Nat) (hi : i < 64) : (headL g n).getD i 0 = if i < 4 then byteN 1280459075 i else if i < 12 then byteN g (i - 4) else if i < 14 then byteN n (i - 12) else 0 := by
  unfold headL
  rw [putL_get _ 12 n 2 i (by omega) (by simp [putL_len]; omega), putL_get _ 4 g 8 i (by omega) (by simp [putL_len]; omega), putL_get _ 0 1280459075 4 i (by omega) (by simp; omega)]
  have hz : (List.replicate 64 (0 : UInt8)).getD i 0 = 0 := by rw [List.getD_eq_getElem?_getD, List.getElem?_replicate]; split <;> rfl
  rw [hz]
  by_cases h1 : i < 4
  · rw [if_neg (by omega), if_neg (by omega), if_pos (by omega), if_pos h1]; congr 1
  · rw [if_neg h1]
    by_cases h2 : i < 12
    · rw [if_neg (by omega), if_pos (by omega), if_pos h2]; congr 1; omega
    · rw [if_neg h2]
      by_cases h3 : i < 14
      · rw [if_pos (by omega), if_pos h3]; congr 1; omega
      · rw [if_neg (by omega), if_neg (by omega), if_neg (by omega), if_neg h3]
/-- A byte of the checkpoints. -/
def snByte (l : List Sn) (i : Nat) : UInt8 := if (i - 14) % 10 < 8 then byteN (l.getD ((i - 14) / 10) sn0).g ((i - 14) % 10) else byteN (l.getD ((i - 14) / 10) sn0).t.toNat ((i - 14) % 10 - 8)
theorem snapL_get (g : Nat) (l : List Sn) (k i : Nat) (hk : k ≤ 4) (hi : i < 64) : (snapL g l k).getD i 0 = if i < 14 then (headL g l.length).getD i 0 else if i < 14 + 10 * k then snByte l i else 0 := by
  induction k with
  | zero =>
    show (headL g l.length).getD i 0 = _
    by_cases h : i < 14
    · rw [if_pos h]
    · rw [if_neg h, if_neg (by omega), headL_get _ _ _ hi, if_neg (by omega), if_neg (by omega), if_neg h]
  | succ k ih =>
    rw [snapL, putL_get _ (22 + 10 * (k : Int)) _ 2 i (by omega) (by simp [putL_len, snapL_len]; omega), putL_get _ (14 + 10 * (k : Int)) _ 8 i (by omega) (by simp [snapL_len]; omega), ih (by omega)]
    by_cases h0 : i < 14
    · rw [if_neg (by omega), if_neg (by omega), if_pos h0, if_pos h0]
    · rw [if_neg h0, if_neg h0]
      by_cases h1 : i < 14 + 10 * k
      · rw [if_neg (by omega), if_neg (by omega), if_pos h1, if_pos (by omega)]
      · rw [if_neg h1]
        by_cases h2 : i < 14 + 10 * (k + 1)
        · rw [if_pos h2]
          unfold snByte
          have e : (i - 14) / 10 = k := by omega
          rw [e]
          by_cases h3 : i < 22 + 10 * k
          · rw [if_neg (by omega), if_pos (by omega), if_pos (by omega)]; congr 1; omega
          · rw [if_pos (by omega), if_neg (by omega)]; congr 1; omega
        · rw [if_neg h2, if_neg (by omega), if_neg (by omega)]
theorem encL_get (g : Nat) (l : List Sn) (i : Nat) (hl : l.length ≤ 4) (hi : i < 64) : (encL g l).getD i 0 = if i < 14 then (headL g l.length).getD i 0 else if i < 14 + 10 * l.length then snByte l i else if i < 60 then 0 else byteN (crcOf ((snapL g l l.length).take 60)) (i - 60) := by
  rw [encL, putL_get _ 60 _ 4 i (by omega) (by rw [snapL_len]; exact hi), snapL_get g l l.length i hl hi]
  by_cases h : i < 60
  · rw [if_neg (by omega)]
    by_cases h0 : i < 14
    · rw [if_pos h0, if_pos h0]
    · rw [if_neg h0, if_neg h0]
      by_cases h1 : i < 14 + 10 * l.length
      · rw [if_pos h1, if_pos h1]
      · rw [if_neg h1, if_neg h1, if_pos h]
  · rw [if_pos (by omega), if_neg (by omega), if_neg (by omega), if_neg h]; congr 1; omega

theorem list_ext64 {xs ys : List UInt8} (hx : xs.length = 64) (hy : ys.length = 64) (h : ∀ i, i < 64 → xs.getD i 0 = ys.getD i 0) : xs = ys := by
  refine List.ext_getElem (by omega) fun i h1 h2 => ?_
  have := h i (by omega)
  simpa [List.getD_eq_getElem?_getD, List.getElem?_eq_getElem h1, List.getElem?_eq_getElem h2] using this
theorem take_of_get {xs ys : List UInt8} (n : Nat) (hx : n ≤ xs.length) (hy : n ≤ ys.length) (h : ∀ i, i < n → xs.getD i 0 = ys.getD i 0) : xs.take n = ys.take n := by
  refine List.ext_getElem (by simp; omega) fun i h1 h2 => ?_
  have h1' : i < n := by simp at h1; omega
  have := h i h1'
  simpa [List.getD_eq_getElem?_getD, List.getElem?_eq_getElem (show i < xs.length by omega), List.getElem?_eq_getElem (show i < ys.length by omega)] using this

/-- What is read of 64 bytes. -/
def genOf (b : List UInt8) : Nat := num b 4 8
def manyOf (b : List UInt8) : Nat := num b 12 2
def rdSn (b : List UInt8) (k : Nat) : Sn := ⟨num b (14 + 10 * k) 8, (num b (22 + 10 * k) 2 : Nat)⟩
def rdL (b : List UInt8) (n : Nat) : List Sn := (List.range n).map (rdSn b)
theorem rdL_len (b : List UInt8) (n : Nat) : (rdL b n).length = n := by simp [rdL]
theorem rdL_get (b : List UInt8) (n k : Nat) (h : k < n) : (rdL b n).getD k sn0 = rdSn b k := by simp [rdL, List.getD_eq_getElem?_getD, h]
/-- A record, as the document tells it. -/
def decB (b : List UInt8) : Bool := decide (b.length = 64) && decide (manyOf b ≤ 4) && mayB (genOf b) (rdL b (manyOf b)) && decide (encL (genOf b) (rdL b (manyOf b)) = b)
/-- Noughts, by twos, from a place up to 60. -/
def zerosB (b : List UInt8) (n : Nat) : Bool := decide (∀ j, j < 23 - 5 * n → num b (14 + 10 * n + 2 * j) 2 = 0)
/-- A record, as it is read. -/
def recB (b : List UInt8) : Bool := decide (b.length = 64) && decide (num b 0 4 = 1280459075) && decide (manyOf b ≤ 4) && mayB (genOf b) (rdL b (manyOf b)) && zerosB b (manyOf b) && decide (num b 60 4 = crcOf (b.take 60))

theorem num2_zero (b : List UInt8) (a : Int) : num b a 2 = 0 ↔ byt b a = 0 ∧ byt b (a + 1) = 0 := by
  rw [num_add, num_add]
  have h0 : num b a 0 = 0 := rfl
  rw [h0]
  have e0 : a + ((0 : Nat) : Int) = a := by omega
  have e1 : a + ((0 + 1 : Nat) : Int) = a + 1 := by omega
  rw [e0, e1]
  constructor
  · intro h
    have h1 : (byt b a).toNat = 0 := by omega
    have h2 : (byt b (a + 1)).toNat = 0 := by omega
    exact ⟨UInt8.toNat_inj.1 h1, UInt8.toNat_inj.1 h2⟩
  · rintro ⟨h1, h2⟩
    rw [h1, h2]; rfl
theorem zerosB_iff (b : List UInt8) (n : Nat) (hn : n ≤ 4) : zerosB b n = true ↔ ∀ i, 14 + 10 * n ≤ i → i < 60 → b.getD i 0 = 0 := by
  unfold zerosB
  rw [decide_eq_true_eq]
  constructor
  · intro h i h1 h2
    have h3 := (num2_zero b _).1 (h ((i - (14 + 10 * n)) / 2) (by omega))
    by_cases e : (i - (14 + 10 * n)) % 2 = 0
    · have := h3.1
      rw [byt_in _ _ (by omega)] at this
      rw [← this]; congr 1; omega
    · have := h3.2
      rw [byt_in _ _ (by omega)] at this
      rw [← this]; congr 1; omega
  · intro h j hj
    rw [num2_zero, byt_in _ _ (by omega), byt_in _ _ (by omega)]
    exact ⟨h _ (by omega) (by omega), h _ (by omega) (by omega)⟩

theorem num_of_get (zs : List UInt8) (a n k : Nat) (h : ∀ j, j < k → zs.getD (a + j) 0 = byteN n j) : num zs (a : Int) k = n % 2 ^ (8 * k) := by
  refine num_of_bytes zs a n k fun j hj => ?_
  rw [byt_in _ _ (by omega), ← h j hj]; congr 1
theorem get_num (b : List UInt8) (a k i : Nat) (h1 : a ≤ i) (h2 : i < a + k) : byteN (num b (a : Int) k) (i - a) = b.getD i 0 := by
  rw [byteN_num b _ k _ (by omega), byt_in _ _ (by omega)]; congr 1; omega

/-- Of a record that is read all bytes are told by what was read. -/
theorem enc_of_rec (b : List UInt8) (h64 : b.length = 64) (hm : num b 0 4 = 1280459075) (h4 : manyOf b ≤ 4) (hz : zerosB b (manyOf b) = true) (hs : num b 60 4 = crcOf (b.take 60)) : encL (genOf b) (rdL b (manyOf b)) = b := by
  rw [zerosB_iff b _ h4] at hz
  have key : ∀ i, i < 60 → (if i < 14 then (headL (genOf b) (manyOf b)).getD i 0 else if i < 14 + 10 * manyOf b then snByte (rdL b (manyOf b)) i else 0) = b.getD i 0 := by
    intro i hi
    by_cases h0 : i < 14
    · rw [if_pos h0, headL_get _ _ _ (by omega)]
      by_cases h1 : i < 4
      · rw [if_pos h1, ← hm]; exact get_num b 0 4 i (by omega) (by omega)
      · rw [if_neg h1]
        by_cases h2 : i < 12
        · rw [if_pos h2]; exact get_num b 4 8 i (by omega) (by omega)
        · rw [if_neg h2, if_pos h0]; exact get_num b 12 2 i (by omega) (by omega)
    · rw [if_neg h0]
      by_cases h1 : i < 14 + 10 * manyOf b
      · rw [if_pos h1]
        unfold snByte
        rw [rdL_get _ _ _ (by omega)]
        by_cases h2 : (i - 14) % 10 < 8
        · rw [if_pos h2]
          have := get_num b (14 + 10 * ((i - 14) / 10)) 8 i (by omega) (by omega)
          rw [← this, show i - (14 + 10 * ((i - 14) / 10)) = (i - 14) % 10 from by omega]
          rfl
        · rw [if_neg h2]
          have := get_num b (22 + 10 * ((i - 14) / 10)) 2 i (by omega) (by omega)
          rw [← this, show i - (22 + 10 * ((i - 14) / 10)) = (i - 14) % 10 - 8 from by omega]
          rfl
      · rw [if_neg h1]; exact (hz i (by omega) hi).symm
  have htake : (snapL (genOf b) (rdL b (manyOf b)) (rdL b (manyOf b)).length).take 60 = b.take 60 := by
    refine take_of_get 60 (by rw [snapL_len]; omega) (by omega) fun i hi => ?_
    rw [snapL_get _ _ _ _ (by rw [rdL_len]; exact h4) (by omega), rdL_len]
    exact key i hi
  refine list_ext64 (encL_len _ _) h64 fun i hi => ?_
  rw [encL_get _ _ _ (by rw [rdL_len]; exact h4) hi, htake, ← hs, rdL_len]
  by_cases h : i < 60
  · rw [← key i h]
    by_cases h0 : i < 14
    · rw [if_pos h0, if_pos h0]
    · rw [if_neg h0, if_neg h0, if_pos h]
  · rw [if_neg (by omega), if_neg (by omega), if_neg h]
    exact get_num b 60 4 i (by omega) (by omega)
/-- What a record that the document tells is, as it is read. -/
theorem rec_of_enc (g : Nat) (l : List Sn) (hl : l.length ≤ 4) : num (encL g l) 0 4 = 1280459075 ∧ zerosB (encL g l) l.length = true ∧ num (encL g l) 60 4 = crcOf ((encL g l).take 60) ∧ manyOf (encL g l) = l.length ∧ genOf (encL g l) = g % 2 ^ 64 := by
  have hget := fun i (hi : i < 64) => encL_get g l i hl hi
  refine ⟨?_, ?_, ?_, ?_, ?_⟩
  · have := num_of_get (encL g l) 0 1280459075 4 fun j hj => by rw [hget _ (by omega), if_pos (by omega), headL_get _ _ _ (by omega), if_pos (by omega)]; congr 1; omega
    exact this
  · rw [zerosB_iff _ _ hl]
    intro i h1 h2
    rw [hget i (by omega), if_neg (by omega), if_neg (by omega), if_pos h2]
  · have ht : (encL g l).take 60 = (snapL g l l.length).take 60 := by
      refine take_of_get 60 (by rw [encL_len]; omega) (by rw [snapL_len]; omega) fun i hi => ?_
      rw [hget i (by omega), snapL_get g l _ i hl (by omega)]
      by_cases h0 : i < 14
      · rw [if_pos h0, if_pos h0]
      · rw [if_neg h0, if_neg h0, if_pos hi]
    have := num_of_get (encL g l) 60 (crcOf ((snapL g l l.length).take 60)) 4 fun j hj => by rw [hget _ (by omega), if_neg (by omega), if_neg (by omega), if_neg (by omega)]; congr 1; omega
    rw [ht]
    refine this.trans ?_
    exact Nat.mod_eq_of_lt (Nat.xor_lt_two_pow (n := 32) (by omega) (crcL_lt _ _ (by omega)))
  · have := num_of_get (encL g l) 12 l.length 2 fun j hj => by rw [hget _ (by omega), if_pos (by omega), headL_get _ _ _ (by omega), if_neg (by omega), if_neg (by omega), if_pos (by omega)]; congr 1; omega
    refine this.trans (Nat.mod_eq_of_lt (by omega))
  · exact num_of_get (encL g l) 4 g 8 fun j hj => by rw [hget _ (by omega), if_pos (by omega), headL_get _ _ _ (by omega), if_neg (by omega), if_pos (by omega)]; congr 1; omega
/-- The two ways to tell a record come to the same. -/
theorem recB_decB (b : List UInt8) : recB b = decB b := by
  rw [Bool.eq_iff_iff]
  unfold recB decB
  simp only [Bool.and_eq_true, decide_eq_true_eq]
  constructor
  · rintro ⟨⟨⟨⟨⟨h1, h2⟩, h3⟩, h4⟩, h5⟩, h6⟩
    exact ⟨⟨⟨h1, h3⟩, h4⟩, enc_of_rec b h1 h2 h3 h5 h6⟩
  · rintro ⟨⟨⟨h1, h3⟩, h4⟩, h5⟩
    obtain ⟨r1, r2, r3, -, -⟩ := rec_of_enc (genOf b) (rdL b (manyOf b)) (by rw [rdL_len]; exact h3)
    rw [rdL_len] at r2
    rw [h5] at r1 r2 r3
    exact ⟨⟨⟨⟨⟨h1, r1⟩, h3⟩, h4⟩, r2⟩, r3⟩
/-- What is written is read again. -/
theorem rd_enc (g : Nat) (l : List Sn) (hl : l.length ≤ 4) (hg : ∀ s ∈ l, s.g < 2 ^ 64) (ht : okTo l l.length = true) : rdL (encL g l) l.length = l := by
  refine List.ext_getElem (rdL_len _ _) fun i h1 h2 => ?_
  have e1 : (rdL (encL g l) l.length)[i] = rdSn (encL g l) i := by simp [rdL]
  have e2 : l.getD i sn0 = l[i] := by simp [List.getD_eq_getElem?_getD, h2]
  have hT := okTo_at ht h2
  simp only [okAt, Bool.and_eq_true] at hT
  have hT := hT.1
  rw [e2] at hT
  simp only [topB, Bool.and_eq_true, decide_eq_true_eq] at hT
  have hgi := hg l[i] (List.getElem_mem h2)
  have n1 := num_of_get (encL g l) (14 + 10 * i) l[i].g 8 fun j hj => by
    rw [encL_get g l _ hl (by omega), if_neg (by omega), if_pos (by omega)]
    unfold snByte
    rw [show (14 + 10 * i + j - 14) % 10 = j from by omega, show (14 + 10 * i + j - 14) / 10 = i from by omega, if_pos (by omega), e2]
  have n2 := num_of_get (encL g l) (22 + 10 * i) l[i].t.toNat 2 fun j hj => by
    rw [encL_get g l _ hl (by omega), if_neg (by omega), if_pos (by omega)]
    unfold snByte
    rw [show (22 + 10 * i + j - 14) % 10 = 8 + j from by omega, show (22 + 10 * i + j - 14) / 10 = i from by omega, if_neg (by omega), e2]
    congr 1; omega
  rw [e1]
  unfold rdSn
  rw [show (14 + 10 * (i : Int)) = ((14 + 10 * i : Nat) : Int) from by omega, show (22 + 10 * (i : Int)) = ((22 + 10 * i : Nat) : Int) from by omega, n1, n2, Nat.mod_eq_of_lt (by omega), Nat.mod_eq_of_lt (by omega)]
  show (⟨l[i].g, ((l[i].t.toNat : Nat) : Int)⟩ : Sn) = l[i]
  rw [Int.toNat_of_nonneg hT.1.1]
theorem dec_enc (g : Nat) (l : List Sn) (hm : mayB g l = true) (hgg : g < 2 ^ 64) (hg : ∀ s ∈ l, s.g < 2 ^ 64) : decB (encL g l) = true ∧ genOf (encL g l) = g ∧ rdL (encL g l) (manyOf (encL g l)) = l := by
  obtain ⟨_, h4, h5, _⟩ := mayB_parts hm
  obtain ⟨_, _, _, r4, r5⟩ := rec_of_enc g l h4
  rw [Nat.mod_eq_of_lt hgg] at r5
  have r6 := rd_enc g l h4 hg h5
  refine ⟨?_, r5, by rw [r4, r6]⟩
  unfold decB
  rw [r4, r5, r6]
  simp [encL_len, h4, hm]
end Go.Proofs.Ytlefpnplibmgiaa
