/-
  MmPlain
-/
import Derived.Test.YtdbphindnnchfaaMmPut
import Derived.Test.YtdbphindnnchfaaGA
namespace Go.Proofs.Ytdbphindnnchfaa.Mm
open Go.RowKit
set_option linter.unusedVariables false

/-- c bytes from a on, those from t on being 0 as yet. -/
def loadT (M : List UInt8) (a : Int) (c : Nat) (t : Int) : List UInt8 := (List.range c).map fun (i : Nat) => if a + i < t then byt M (a + i) else 0
/-- c bytes from a on. -/
def loadL (M : List UInt8) (a : Int) (c : Nat) : List UInt8 := (List.range c).map fun (i : Nat) => byt M (a + i)
theorem loadT_len (M : List UInt8) (a : Int) (c : Nat) (t : Int) : (loadT M a c t).length = c := by simp [loadT]
theorem loadL_len (M : List UInt8) (a : Int) (c : Nat) : (loadL M a c).length = c := by simp [loadL]
theorem getD_loadT (M : List UInt8) (a : Int) (c : Nat) (t : Int) (k : Nat) (hk : k < c) : (loadT M a c t).getD k 0 = if a + k < t then byt M (a + k) else 0 := by
  simp [loadT, List.getD_eq_getElem?_getD, hk]
theorem getD_loadL (M : List UInt8) (a : Int) (c : Nat) (k : Nat) (hk : k < c) : (loadL M a c).getD k 0 = byt M (a + k) := by
  simp [loadL, List.getD_eq_getElem?_getD, hk]
theorem loadT_start (M : List UInt8) (a : Int) (c : Nat) (t : Int) (h : t ≤ a ∨ t ≤ 0) : loadT M a c t = List.replicate c 0 := by
  refine ext_getD (by rw [loadT_len, List.length_replicate]) fun k hk => ?_
  rw [loadT_len] at hk
  rw [getD_loadT _ _ _ _ _ hk]
  have e : (List.replicate c (0 : UInt8)).getD k 0 = 0 := by simp [List.getD_eq_getElem?_getD, hk]
  rw [e]
  split
  · exact byt_out _ _ (by omega)
  · rfl
theorem loadT_done (M : List UInt8) (hm : M.length = 8192) (a : Int) (c : Nat) (t : Int) (h : a + c ≤ t ∨ 8192 ≤ t) : loadT M a c t = loadL M a c := by
  refine ext_getD (by rw [loadT_len, loadL_len]) fun k hk => ?_
  rw [loadT_len] at hk
  rw [getD_loadT _ _ _ _ _ hk, getD_loadL _ _ _ _ hk]
  split
  · rfl
  · exact (byt_out _ _ (by omega)).symm
/-- Nothing of it is inside. -/
theorem loadL_none (M : List UInt8) (hm : M.length = 8192) (a : Int) (c : Nat) (h : a + c ≤ 0 ∨ 8192 ≤ a) : loadL M a c = List.replicate c 0 := by
  refine ext_getD (by rw [loadL_len, List.length_replicate]) fun k hk => ?_
  rw [loadL_len] at hk
  rw [getD_loadL _ _ _ _ hk]
  have e : (List.replicate c (0 : UInt8)).getD k 0 = 0 := by simp [List.getD_eq_getElem?_getD, hk]
  rw [e]
  exact byt_out _ _ (by omega)
theorem loadT_step (M : List UInt8) (hm : M.length = 8192) (a : Int) (c t k : Nat) (h0 : a ≤ t) (h1 : t + k ≤ a + c) (h2 : t % 64 + k ≤ 64) (h3 : t < 8192) :
    splice (loadT M a c t) (t - a).toNat (((page M (t / 64)).drop (t % 64)).take k) = loadT M a c (t + k : Nat) := by
  have hp := page_len hm (n := t / 64) (by omega)
  have hl : (((page M (t / 64)).drop (t % 64)).take k).length = k := by rw [List.length_take, List.length_drop, hp]; omega
  have hs : (splice (loadT M a c t) (t - a).toNat (((page M (t / 64)).drop (t % 64)).take k)).length = c := by
    unfold splice
    simp only [List.length_append, hl, List.length_take, List.length_drop, loadT_len]
    omega
  refine ext_getD (by rw [loadT_len, hs]) fun i hi => ?_
  rw [hs] at hi
  rw [getD_splice _ _ _ _ (by rw [hl, loadT_len]; omega), hl, getD_loadT _ _ _ _ _ hi, getD_loadT _ _ _ _ _ hi]
  by_cases c1 : i < (t - a).toNat
  · rw [if_pos c1, if_pos (by omega), if_pos (by omega)]
  · rw [if_neg c1]
    by_cases c2 : i < (t - a).toNat + k
    · rw [if_pos c2, if_pos (by omega), byt_in _ _ (by omega)]
      have e : (((page M (t / 64)).drop (t % 64)).take k).getD (i - (t - a).toNat) 0 = (page M (t / 64)).getD (t % 64 + (i - (t - a).toNat)) 0 := by
        simp only [List.getD_eq_getElem?_getD]
        rw [List.getElem?_take_of_lt (by omega), List.getElem?_drop]
      rw [e, getD_page _ _ _ (by omega)]
      congr 1
      omega
    · rw [if_neg c2, if_neg (by omega), if_neg (by omega)]

/-- Bytes laid at a, those up to t. -/
def layT (M : List UInt8) (a : Int) (xs : List UInt8) (t : Int) : List UInt8 := (List.range M.length).map fun (i : Nat) => if a ≤ i ∧ (i : Int) < t ∧ (i : Int) < a + xs.length then byt xs (i - a) else M.getD i 0
/-- Bytes laid at a. -/
def layL (M : List UInt8) (a : Int) (xs : List UInt8) : List UInt8 := (List.range M.length).map fun (i : Nat) => if a ≤ i ∧ (i : Int) < a + xs.length then byt xs (i - a) else M.getD i 0
theorem layT_len (M : List UInt8) (a : Int) (xs : List UInt8) (t : Int) : (layT M a xs t).length = M.length := by simp [layT]
theorem layL_len (M : List UInt8) (a : Int) (xs : List UInt8) : (layL M a xs).length = M.length := by simp [layL]
theorem getD_layT (M : List UInt8) (a : Int) (xs : List UInt8) (t : Int) (k : Nat) (hk : k < M.length) : (layT M a xs t).getD k 0 = if a ≤ k ∧ (k : Int) < t ∧ (k : Int) < a + xs.length then byt xs (k - a) else M.getD k 0 := by
  simp [layT, List.getD_eq_getElem?_getD, hk]
theorem getD_layL (M : List UInt8) (a : Int) (xs : List UInt8) (k : Nat) (hk : k < M.length) : (layL M a xs).getD k 0 = if a ≤ k ∧ (k : Int) < a + xs.length then byt xs (k - a) else M.getD k 0 := by
  simp [layL, List.getD_eq_getElem?_getD, hk]
theorem layT_start (M : List UInt8) (a : Int) (xs : List UInt8) (t : Int) (h : t ≤ a ∨ t ≤ 0) : layT M a xs t = M := by
  refine ext_getD (layT_len _ _ _ _) fun k hk => ?_
  rw [layT_len] at hk
  rw [getD_layT _ _ _ _ _ hk, if_neg (by omega)]
theorem layT_done (M : List UInt8) (hm : M.length = 8192) (a : Int) (xs : List UInt8) (t : Int) (h : a + xs.length ≤ t ∨ 8192 ≤ t) : layT M a xs t = layL M a xs := by
  refine ext_getD (by rw [layT_len, layL_len]) fun k hk => ?_
  rw [layT_len] at hk
  rw [getD_layT _ _ _ _ _ hk, getD_layL _ _ _ _ hk]
  by_cases c : a ≤ k ∧ (k : Int) < a + xs.length
  · rw [if_pos c, if_pos (by omega)]
  · rw [if_neg c, if_neg (by omega)]
theorem layL_none (M : List UInt8) (hm : M.length = 8192) (a : Int) (xs : List UInt8) (h : a + xs.length ≤ 0 ∨ 8192 ≤ a) : layL M a xs = M := by
  refine ext_getD (layL_len _ _ _) fun k hk => ?_
  rw [layL_len] at hk
  rw [getD_layL _ _ _ _ hk, if_neg (by omega)]
/-- A page is taken, some of its bytes written over, and put back. -/
theorem layT_step (M : List UInt8) (hm : M.length = 8192) (a : Int) (xs : List UInt8) (t k : Nat) (h0 : a ≤ t) (h1 : t + k ≤ a + xs.length) (h2 : t % 64 + k ≤ 64) (h3 : t < 8192) :
    setPage (layT M a xs t) (t / 64) (splice (page (layT M a xs t) (t / 64)) (t % 64) ((xs.drop (t - a).toNat).take k)) = layT M a xs (t + k : Nat) := by
  have hL : (layT M a xs t).length = 8192 := by rw [layT_len, hm]
  have hp := page_len hL (n := t / 64) (by omega)
  have hl : ((xs.drop (t - a).toNat).take k).length = k := by rw [List.length_take, List.length_drop]; omega
  have hsp : (splice (page (layT M a xs t) (t / 64)) (t % 64) ((xs.drop (t - a).toNat).take k)).length = 64 := by
    unfold splice
    simp only [List.length_append, hl, List.length_take, List.length_drop, hp]
    omega
  refine ext_getD (by rw [setPage_len hL hsp (by omega), layT_len, hm]) fun i hi => ?_
  rw [setPage_len hL hsp (by omega)] at hi
  unfold setPage
  rw [getD_splice _ _ _ _ (by omega), hsp, getD_layT _ _ _ _ _ (by omega), getD_layT _ _ _ _ _ (by omega)]
  by_cases c1 : i < t / 64 * 64
  · rw [if_pos c1]
    by_cases c : a ≤ i ∧ (i : Int) < t ∧ (i : Int) < a + xs.length
    · rw [if_pos c, if_pos (by omega)]
    · rw [if_neg c, if_neg (by omega)]
  · rw [if_neg c1]
    by_cases c2 : i < t / 64 * 64 + 64
    · rw [if_pos c2, getD_splice _ _ _ _ (by rw [hl, hp]; omega), hl]
      by_cases c3 : i - t / 64 * 64 < t % 64
      · rw [if_pos c3, getD_page _ _ _ (by omega), getD_layT _ _ _ _ _ (by omega)]
        have e : t / 64 * 64 + (i - t / 64 * 64) = i := by omega
        rw [e]
        by_cases c : a ≤ i ∧ (i : Int) < t ∧ (i : Int) < a + xs.length
        · rw [if_pos c, if_pos (by omega)]
        · rw [if_neg c, if_neg (by omega)]
      · rw [if_neg c3]
        by_cases c4 : i - t / 64 * 64 < t % 64 + k
        · rw [if_pos c4, if_pos (by omega), byt_in _ _ (by omega)]
          simp only [List.getD_eq_getElem?_getD]
          rw [List.getElem?_take_of_lt (by omega), List.getElem?_drop]
          congr 2
          omega
        · rw [if_neg c4, getD_page _ _ _ (by omega), getD_layT _ _ _ _ _ (by omega)]
          have e : t / 64 * 64 + (i - t / 64 * 64) = i := by omega
          rw [e]
          by_cases c : a ≤ i ∧ (i : Int) < t ∧ (i : Int) < a + xs.length
          · omega
          · rw [if_neg c, if_neg (by omega)]
    · rw [if_neg c2]
      by_cases c : a ≤ i ∧ (i : Int) < t ∧ (i : Int) < a + xs.length
      · omega
      · rw [if_neg c, if_neg (by omega)]

/-- Where the bytes from a on that are inside begin and end. -/
def inX (a : Int) : Int := if 0 > a then 0 else a
def inY (a n : Int) : Int := if 8192 < wrap64 (a + n) then 8192 else wrap64 (a + n)
theorem inX_lo (a : Int) : 0 ≤ inX a ∧ a ≤ inX a := by unfold inX; split <;> omega
theorem inX_eq (a : Int) : inX a = a ∨ (inX a = 0 ∧ a < 0) := by unfold inX; split <;> omega
theorem inY_hi (a n : Int) : inY a n ≤ 8192 := by unfold inY; split <;> omega
theorem in_yes {a n : Int} (ha : -9223372036854775808 ≤ a) (hn : 0 ≤ n) (h : a + n ≤ 9223372036854775807) : inY a n ≤ a + n ∧ (inY a n = a + n ∨ inY a n = 8192) := by
  have e : wrap64 (a + n) = a + n := by unfold wrap64; omega
  unfold inY
  rw [e]
  split <;> omega
theorem in_no {a n : Int} (ha : a ≤ 9223372036854775807) (hn : n ≤ 1000000000000000) (h : 9223372036854775807 < a + n) : inY a n < 0 := by
  have e : wrap64 (a + n) = a + n - 18446744073709551616 := by unfold wrap64; omega
  unfold inY
  rw [e]
  split <;> omega
end Go.Proofs.Ytdbphindnnchfaa.Mm
