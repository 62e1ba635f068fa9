/-
  SkCont
-/
import Derived.Test.YtmaoaeebggpbbaaSkRefL
namespace Go.Proofs.Ytmaoaeebggpbbaa.Sk
open Go.RowKit Mm
set_option linter.unusedVariables false
set_option linter.unusedSimpArgs false

/-! ### a cell set to what it tells -/
theorem byteN_num (xs : List UInt8) (a : Int) : ∀ k j : Nat, j < k → byteN (num xs a k) j = byt xs (a + j)
  | 0, _, h => by omega
  | k + 1, j, h => by
    have hl := num_lt xs a k
    have hb : (byt xs (a + k)).toNat < 256 := (byt xs (a + k)).toNat_lt
    have e : num xs a (k + 1) = num xs a k + (byt xs (a + k)).toNat * 2 ^ (8 * k) := by
      rw [num, Nat.or_comm, ← Nat.shiftLeft_add_eq_or_of_lt hl, Nat.shiftLeft_eq]
      omega
    by_cases hj : j = k
    · subst hj
      unfold byteN
      rw [e, Nat.add_mul_div_right _ _ (Nat.two_pow_pos _), Nat.div_eq_of_lt hl, Nat.zero_add, UInt8.ofNat_toNat]
    · have ih := byteN_num xs a k j (by omega)
      rw [← ih]
      unfold byteN
      have e2 : (byt xs (a + k)).toNat * 2 ^ (8 * k) = ((byt xs (a + k)).toNat * 2 ^ (8 * (k - j) - 8) * 256) * 2 ^ (8 * j) := by
        rw [Nat.mul_assoc, Nat.mul_assoc, show (256 : Nat) = 2 ^ 8 from rfl, ← Nat.pow_add, ← Nat.pow_add, show 8 * (k - j) - 8 + (8 + 8 * j) = 8 * k by omega]
      rw [e, e2, Nat.add_mul_div_right _ _ (Nat.two_pow_pos _)]
      apply UInt8.toNat_inj.1
      simp only [UInt8.toNat_ofNat']
      omega
theorem wrap_cel (xs : List UInt8) (a : Int) : (IntKind.u64.wrap (cel xs a)).toNat = num xs a 8 := by
  have hl := num_lt xs a 8
  unfold cel wrap64
  rw [IntKind.wrap_u64]
  have : (2 : Nat) ^ (8 * 8) = 18446744073709551616 := by decide
  omega
theorem set_same (M : List UInt8) (a : Int) (ha : 0 ≤ a) : setM M a (cel M a) = M := by
  refine ext_getD (setM_len _ _ _) fun i hi => ?_
  rw [setM_len] at hi
  rw [setM_get _ _ _ _ ha hi]
  split
  · rename_i h
    rw [wrap_cel, byteN_num _ _ _ _ (by omega), byt_in _ _ (by omega)]
    congr 1
    omega
  · rfl

/-! ### what a stack holds -/
/-- One stack holds these cells, the first one deepest. -/
structure Hold (M : List UInt8) (a lo hi : Int) (l : List Int) : Prop where
  len : M.length = 8192
  top : topL M a lo hi = hi - 8 * (l.length : Int)
  few : l.length ≤ 32
  at_ : ∀ j, j < l.length → cel M (hi - 8 * (j : Int) - 8) = l.getD j 0
variable {M M' : List UInt8} {a lo hi ov un a' lo' hi' ov' un' : Int} {l : List Int}
theorem Hold.dep (h : Hold M a lo hi l) : dpt M a lo hi = l.length := by
  unfold dpt
  rw [h.top]
  omega
theorem Hold.off (h : Hold M a lo hi l) (pa : Pa a lo hi ov un) (hl : M'.length = 8192) (hc : ∀ x, x = a ∨ (lo ≤ x ∧ x + 8 ≤ hi) → cel M' x = cel M x) : Hold M' a lo hi l := by
  have bd := pa.bd
  have f := h.few
  refine ⟨hl, ?_, f, fun j hj => ?_⟩
  · unfold topL
    rw [hc a (.inl rfl)]
    exact h.top
  · rw [hc _ (.inr (by omega))]
    exact h.at_ j hj
theorem lays_one (M : List UInt8) (a t n : Int) : laysL M a t [n] = setM (setM M a (t - 8)) (t - 8) n := by
  unfold laysL
  rw [if_neg (by simp)]
  simp only [layC, List.length_singleton]
  rw [show t - 8 * ((1 : Nat) : Int) = t - 8 by omega]
theorem take_one_is (M : List UInt8) (a t : Int) : takM M a t 1 = setM M a (t + 8) := by
  unfold takM
  rw [if_neg (by omega), show t + 8 * ((1 : Nat) : Int) = t + 8 by omega]
theorem getD_snoc (l : List Int) (n : Int) (j : Nat) (hj : j < l.length + 1) : (l ++ [n]).getD j 0 = if j < l.length then l.getD j 0 else n := by
  simp only [List.getD_eq_getElem?_getD]
  split
  · rw [List.getElem?_append_left (by assumption)]
  · rw [List.getElem?_append_right (by omega), show j - l.length = 0 by omega]
    rfl
theorem Hold.push (h : Hold M a lo hi l) (pa : Pa a lo hi ov un) (hl : l.length < 32) (n : Int) (h1 : -9223372036854775808 ≤ n) (h2 : n ≤ 9223372036854775807) : Hold (laysL M a (hi - 8 * (l.length : Int)) [n]) a lo hi (l ++ [n]) := by
  have bd := pa.bd
  have ml := h.len
  rw [lays_one]
  have m1 : (setM M a (hi - 8 * (l.length : Int) - 8)).length = 8192 := by rw [setM_len, ml]
  refine ⟨by rw [setM_len, m1], ?_, by simp; omega, fun j hj => ?_⟩
  · unfold topL
    rw [cel_off _ _ _ _ (by omega) (by omega) (by omega) (by omega), cel_set _ _ _ (by omega) (by omega) (by omega) (by omega), topV_is (by omega) (by omega) (by omega) (by omega)]
    simp
    omega
  · have hj' : j < l.length + 1 := by simpa using hj
    rw [getD_snoc l n j hj']
    by_cases e : j < l.length
    · rw [if_pos e, cel_off _ _ _ _ (by omega) (by omega) (by omega) (by omega), cel_off _ _ _ _ (by omega) (by omega) (by omega) (by omega)]
      exact h.at_ j e
    · rw [if_neg e, show j = l.length by omega, cel_set _ _ _ (by omega) (by omega) h1 h2]
theorem Hold.pushO (h : Hold M a lo hi l) (pa : Pa a lo hi ov un) (pb : Pa a' lo' hi' ov' un') (hne : a ≠ a') (t n : Int) (h1 : lo' < t) (h2 : t ≤ hi') (h3 : t % 8 = 0) : Hold (laysL M a' t [n]) a lo hi l := by
  have b1 := pa.bd
  have b2 := pb.bd
  have ml := h.len
  have ap : (a + 8 ≤ a' ∨ a' + 8 ≤ a) ∧ (hi ≤ lo' ∨ hi' ≤ lo) := by
    rcases pa.it with x | x <;> rcases pb.it with y | y <;> omega
  rw [lays_one]
  refine h.off pa (by simp only [setM_len, ml]) fun x hx => ?_
  rw [cel_off _ _ _ _ (by omega) (by omega) (by simp only [setM_len, ml]; omega) (by omega), cel_off _ _ _ _ (by omega) (by omega) (by omega) (by omega)]
theorem Hold.pop {x : Int} (h : Hold M a lo hi (l ++ [x])) (pa : Pa a lo hi ov un) : cel M (hi - 8 * ((l.length + 1 : Nat) : Int)) = x ∧ Hold (takM M a (hi - 8 * ((l.length + 1 : Nat) : Int)) 1) a lo hi l := by
  have bd := pa.bd
  have ml := h.len
  have f := h.few
  have f' : l.length + 1 ≤ 32 := by simpa using f
  constructor
  · have := h.at_ l.length (by simp)
    rw [getD_snoc _ _ _ (by omega), if_neg (by omega)] at this
    rw [← this]
    congr 1
    omega
  · rw [take_one_is]
    refine ⟨by rw [setM_len, ml], ?_, by omega, fun j hj => ?_⟩
    · unfold topL
      rw [cel_set _ _ _ (by omega) (by omega) (by omega) (by omega), topV_is (by omega) (by omega) (by omega) (by omega)]
      omega
    · rw [cel_off _ _ _ _ (by omega) (by omega) (by omega) (by omega), h.at_ j (by simp; omega), getD_snoc _ _ _ (by omega), if_pos hj]
theorem Hold.popO (h : Hold M a lo hi l) (pa : Pa a lo hi ov un) (pb : Pa a' lo' hi' ov' un') (hne : a ≠ a') (t : Int) : Hold (takM M a' t 1) a lo hi l := by
  have b1 := pa.bd
  have b2 := pb.bd
  have ml := h.len
  have ap : a + 8 ≤ a' ∨ a' + 8 ≤ a := by
    rcases pa.it with x | x <;> rcases pb.it with y | y <;> omega
  rw [take_one_is]
  refine h.off pa (by rw [setM_len, ml]) fun x hx => ?_
  rw [cel_off _ _ _ _ (by omega) (by omega) (by omega) (by omega)]
theorem Hold.empty (pa : Pa a lo hi ov un) (hl : M.length = 8192) (h : topL M a lo hi = hi) : Hold M a lo hi [] := ⟨hl, by rw [h]; simp, by simp, fun j hj => by simp at hj⟩
/-- Both stacks. -/
structure Both2 (M : List UInt8) (l k : List Int) : Prop where
  d : Hold M 32 256 512 l
  b : Hold M 40 512 768 k
theorem topV_low {n lo hi : Int} (h : n < lo) : topV n lo hi = hi := if_pos (.inl h)
theorem Both2.start (hl : M.length = 8192) (h : ∀ a, cel M a = 0) : Both2 M [] [] := ⟨Hold.empty paD hl (by unfold topL; rw [h]; exact topV_low (by omega)), Hold.empty paB hl (by unfold topL; rw [h]; exact topV_low (by omega))⟩
theorem Both2.clear (hl : M.length = 8192) : Both2 (setM (setM M 32 512) 40 768) [] [] := by
  refine ⟨Hold.empty paD (by simp only [setM_len, hl]) ?_, Hold.empty paB (by simp only [setM_len, hl]) ?_⟩
  · unfold topL
    rw [cel_off _ _ _ _ (by omega) (by omega) (by simp only [setM_len, hl]; omega) (by omega), cel_set _ _ _ (by omega) (by omega) (by omega) (by omega), topV_is (by omega) (by omega) (by omega) (by omega)]
  · unfold topL
    rw [cel_set _ _ _ (by omega) (by simp only [setM_len, hl]; omega) (by omega) (by omega), topV_is (by omega) (by omega) (by omega) (by omega)]
variable {k : List Int}
theorem Both2.dd (h : Both2 M l k) : dD M = l.length := h.d.dep
theorem Both2.db (h : Both2 M l k) : dB M = k.length := h.b.dep
theorem Both2.push (h : Both2 M l k) (hl : l.length < 32) (n : Int) (h1 : -9223372036854775808 ≤ n) (h2 : n ≤ 9223372036854775807) : Both2 (laysL M 32 (512 - 8 * (dD M : Int)) [n]) (l ++ [n]) k := by
  rw [h.dd]
  exact ⟨h.d.push paD hl n h1 h2, h.b.pushO paB paD (by omega) _ n (by omega) (by omega) (by omega)⟩
theorem Both2.rpush (h : Both2 M l k) (hl : k.length < 32) (n : Int) (h1 : -9223372036854775808 ≤ n) (h2 : n ≤ 9223372036854775807) : Both2 (laysL M 40 (768 - 8 * (dB M : Int)) [n]) l (k ++ [n]) := by
  rw [h.db]
  exact ⟨h.d.pushO paD paB (by omega) _ n (by omega) (by omega) (by omega), h.b.push paB hl n h1 h2⟩
theorem Both2.pop {x : Int} (h : Both2 M (l ++ [x]) k) : cel M (512 - 8 * (dD M : Int)) = x ∧ Both2 (takM M 32 (512 - 8 * (dD M : Int)) 1) l k := by
  have e := h.dd
  rw [List.length_append, List.length_singleton] at e
  rw [e]
  obtain ⟨h1, h2⟩ := h.d.pop paD
  exact ⟨h1, h2, h.b.popO paB paD (by omega) _⟩
theorem Both2.rpop {x : Int} (h : Both2 M l (k ++ [x])) : cel M (768 - 8 * (dB M : Int)) = x ∧ Both2 (takM M 40 (768 - 8 * (dB M : Int)) 1) l k := by
  have e := h.db
  rw [List.length_append, List.length_singleton] at e
  rw [e]
  obtain ⟨h1, h2⟩ := h.b.pop paB
  exact ⟨h1, h.d.popO paD paB (by omega) _, h2⟩
end Go.Proofs.Ytmaoaeebggpbbaa.Sk
