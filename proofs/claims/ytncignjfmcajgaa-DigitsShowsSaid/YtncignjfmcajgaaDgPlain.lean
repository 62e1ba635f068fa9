/-
  DgPlain
-/
import Derived.Test.YtncignjfmcajgaaGA
namespace Go.Proofs.Ytncignjfmcajgaa.Dgt

/-- A base, as it counts. -/
def bsN (n : Int) : Nat := if n < 2 ∨ 36 < n then 10 else n.toNat
theorem bsN_range (n : Int) : 2 ≤ bsN n ∧ bsN n ≤ 36 := by unfold bsN; split <;> omega
/-- What a byte counts as a digit; 99: it is none. -/
def worthV (c : Nat) : Nat := if 48 ≤ c ∧ c ≤ 57 then c - 48 else if 65 ≤ c ∧ c ≤ 90 then c - 55 else if 97 ≤ c ∧ c ≤ 122 then c - 87 else 99
theorem worth_le (c : Nat) : worthV c ≤ 99 := by unfold worthV; repeat' split
                                                 all_goals omega
theorem worth_high (c : Nat) (h : 123 ≤ c) : worthV c = 99 := by unfold worthV; rw [if_neg (by omega), if_neg (by omega), if_neg (by omega)]
/-- The number of these digits behind n. -/
def sumV (b : Nat) : List UInt8 → Nat → Option Nat
  | [], n => some n
  | c :: t, n => if worthV c.toNat < b then sumV b t (n * b + worthV c.toNat) else none
theorem sumV_append (b : Nat) : ∀ (xs ys : List UInt8) (n : Nat), sumV b (xs ++ ys) n = (sumV b xs n).bind (sumV b ys)
  | [], ys, n => rfl
  | c :: t, ys, n => by
    simp only [List.cons_append, sumV]
    split
    · exact sumV_append b t ys _
    · rfl
/-- A digit's letter. -/
def letN (d : Nat) : UInt8 := UInt8.ofNat (if d < 10 then 48 + d else 55 + d)
theorem letN_nat (d : Nat) (h : d < 36) : (letN d).toNat = if d < 10 then 48 + d else 55 + d := by
  unfold letN
  rw [UInt8.toNat_ofNat']
  split <;> omega
theorem worth_let (d : Nat) (h : d < 36) : worthV (letN d).toNat = d := by
  rw [letN_nat d h]
  unfold worthV
  split
  · rw [if_pos (by omega)]; omega
  · rw [if_neg (by omega), if_pos (by omega)]; omega
/-- The digits of n in base b, f of them at most. -/
def digsF : Nat → Nat → Nat → List UInt8
  | 0, _, _ => []
  | f + 1, b, n => (if n < b then [] else digsF f b (n / b)) ++ [letN (n % b)]
def digs (b n : Nat) : List UInt8 := digsF 64 b n
theorem half_lt {b n f : Nat} (hb : 2 ≤ b) (h : n < 2 ^ (f + 1)) : n / b < 2 ^ f := by
  rw [Nat.pow_succ] at h
  refine (Nat.div_lt_iff_lt_mul (by omega)).2 (Nat.lt_of_lt_of_le h ?_)
  exact Nat.mul_le_mul_left _ hb
theorem digsF_sum (b : Nat) (h2 : 2 ≤ b) (h36 : b ≤ 36) : ∀ (f n : Nat), n < 2 ^ (f + 1) → sumV b (digsF (f + 1) b n) 0 = some n
  | f, n, h => by
    have hm : n % b < b := Nat.mod_lt _ (by omega)
    have hs : ∀ a, sumV b [letN (n % b)] a = some (a * b + n % b) := fun a => by
      simp only [sumV, worth_let _ (by omega : n % b < 36), if_pos hm]
    unfold digsF
    rw [sumV_append]
    split
    · rename_i hlt
      simp only [sumV, Option.bind_some]
      have := hs 0
      simp only [sumV] at this
      rw [this, Nat.mod_eq_of_lt hlt]
      simp
    · rename_i hge
      cases f with
      | zero =>
        exfalso
        have : n < 2 := by simpa using h
        omega
      | succ g =>
        rw [digsF_sum b h2 h36 g (n / b) (half_lt h2 h), Option.bind_some, hs]
        congr 1
        have := Nat.div_add_mod n b
        rw [Nat.mul_comm] at this
        exact this
theorem digs_sum (b n : Nat) (h2 : 2 ≤ b) (h36 : b ≤ 36) (h : n < 18446744073709551616) : sumV b (digs b n) 0 = some n := digsF_sum b h2 h36 63 n (by simpa using h)
/-- What every byte of such a word is. -/
def digC (c : UInt8) : Prop := (48 ≤ c.toNat ∧ c.toNat ≤ 57) ∨ (65 ≤ c.toNat ∧ c.toNat ≤ 90)
theorem digsF_all (b : Nat) (h2 : 2 ≤ b) (h36 : b ≤ 36) : ∀ (f n : Nat), ∀ c ∈ digsF f b n, digC c
  | 0, n, c, h => by cases h
  | f + 1, n, c, h => by
    unfold digsF at h
    rcases List.mem_append.1 h with h | h
    · split at h
      · cases h
      · exact digsF_all b h2 h36 f _ c h
    · rw [List.mem_singleton.1 h]
      have hm : n % b < b := Nat.mod_lt _ (by omega)
      unfold digC
      rw [letN_nat _ (by omega)]
      split <;> omega
theorem digsF_ne (b f n : Nat) : digsF (f + 1) b n ≠ [] := by unfold digsF; simp
theorem digsF_len (b : Nat) : ∀ (f n : Nat), (digsF f b n).length ≤ f
  | 0, n => by simp [digsF]
  | f + 1, n => by
    unfold digsF
    rw [List.length_append]
    split
    · simp
    · have := digsF_len b f (n / b)
      simp; omega
/-- Small letters. -/
def lowC (c : UInt8) : UInt8 := if 65 ≤ c.toNat ∧ c.toNat ≤ 90 then c + 32 else c
theorem lowC_nat (c : UInt8) : (lowC c).toNat = if 65 ≤ c.toNat ∧ c.toNat ≤ 90 then c.toNat + 32 else c.toNat := by
  unfold lowC
  split
  · rw [UInt8.toNat_add]
    show (c.toNat + 32) % 256 = _
    omega
  · rfl
theorem worth_low (c : UInt8) : worthV (lowC c).toNat = worthV c.toNat := by
  rw [lowC_nat]
  split
  · unfold worthV
    rw [if_neg (by omega), if_neg (by omega), if_pos (by omega), if_neg (by omega), if_pos (by omega)]
    omega
  · rfl
theorem sum_low (b : Nat) : ∀ (xs : List UInt8) (n : Nat), sumV b (xs.map lowC) n = sumV b xs n
  | [], n => rfl
  | c :: t, n => by
    simp only [List.map_cons, sumV, worth_low]
    rw [sum_low b t]

/-- Is it a byte between quotes? -/
def quotV (xs : List UInt8) : Bool := decide (xs.length = 3) && (xs.getD 0 0 == 39) && (xs.getD 2 0 == 39)
/-- The base, and what stands behind a mark. -/
def markB (b : Nat) : List UInt8 → Nat
  | [] => b
  | c :: _ => if c = 35 then 10 else if c = 36 then 16 else if c = 37 then 2 else b
def markT : List UInt8 → List UInt8
  | [] => []
  | c :: t => if c = 35 ∨ c = 36 ∨ c = 37 then t else c :: t
def minB : List UInt8 → Bool
  | [] => false
  | c :: _ => c == 45
def minT : List UInt8 → List UInt8
  | [] => []
  | c :: t => if c = 45 then t else c :: t
theorem markT_len (xs : List UInt8) : (markT xs).length ≤ xs.length := by
  cases xs with
  | nil => exact Nat.le_refl _
  | cons c t => simp only [markT]; split <;> simp
theorem minT_len (xs : List UInt8) : (minT xs).length ≤ xs.length := by
  cases xs with
  | nil => exact Nat.le_refl _
  | cons c t => simp only [minT]; split <;> simp
theorem markB_range (b : Nat) (h2 : 2 ≤ b) (h36 : b ≤ 36) (xs : List UInt8) : 2 ≤ markB b xs ∧ markB b xs ≤ 36 := by
  cases xs with
  | nil => exact ⟨h2, h36⟩
  | cons c t => unfold markB; repeat' split
                all_goals omega
/-- A word's number, and whether it is one. -/
def wordV (b : Nat) (minus : Bool) (s : List UInt8) : Int × Bool :=
  match sumV b s 0 with
  | none => (0, false)
  | some n => if s = [] then (0, false) else (IntKind.i64.wrap (if minus then -(n : Int) else n), true)
def numV (xs : List UInt8) (base : Int) : Int × Bool :=
  if quotV xs = true then (((xs.getD 1 0).toNat : Int), true) else wordV (markB (bsN base) xs) (minB (markT xs)) (minT (markT xs))
/-- The word that a number is. -/
def showV (n : Int) (base : Int) : List UInt8 := if n < 0 then 45 :: digs (bsN base) (-n).toNat else digs (bsN base) n.toNat
end Go.Proofs.Ytncignjfmcajgaa.Dgt
