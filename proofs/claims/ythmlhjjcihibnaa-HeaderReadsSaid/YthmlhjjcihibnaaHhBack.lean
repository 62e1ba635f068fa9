/-
  HhBack
-/
import Derived.Test.YthmlhjjcihibnaaHhMrkR
import Derived.Test.YthmlhjjcihibnaaPutLaws
namespace Go.Proofs.Ythmlhjjcihibnaa.Hh
open Go.RowKit Mm Sk
set_option linter.unusedVariables false
set_option linter.unusedSimpArgs false

/-- The memory behind: the header's bytes laid at a, and the cell of Here set. -/
def laidH (M : List UInt8) (a : Int) (xs : List UInt8) (y : Int) : List UInt8 := setM (layL M a xs) 0 y
theorem laid_get (M : List UInt8) (hM : M.length = 8192) (a : Int) (xs : List UInt8) (y : Int) (j : Nat) (h0 : 8 ≤ a) (hj : j < xs.length) (h1 : a + xs.length ≤ 8192) : byt (laidH M a xs y) (a + j) = xs.getD j 0 := by
  obtain ⟨k, rfl⟩ := Int.eq_ofNat_of_zero_le (show 0 ≤ a by omega)
  unfold laidH
  rw [byt_in _ _ (by omega), show ((k : Int) + j).toNat = k + j by omega, setM_get _ _ _ _ (by omega) (by rw [layL_len, hM]; omega), if_neg (by omega), getD_layL _ _ _ _ (by rw [hM]; omega), if_pos (by omega), byt_in _ _ (by omega)]
  congr 1
  omega
theorem laid_here (M : List UInt8) (hM : M.length = 8192) (a : Int) (xs : List UInt8) (y : Int) (h0 : 1536 ≤ y) (h1 : y ≤ 5632) : hereV (laidH M a xs y) = y := by
  unfold hereV laidH
  rw [cel_set _ _ _ (by omega) (by rw [layL_len, hM]; omega) (by omega) (by omega), if_neg (by omega)]
theorem bytes_get (l : Int) (n : List UInt8) (i h : Bool) (hn : n.length ≤ 31) (j : Nat) : (bytesL l n i h).getD j 0 = if 9 ≤ j ∧ j < 9 + n.length then n.getD (j - 9) 0 else if j = 8 then markB n.length i h else (headL l n).getD j 0 := by
  have sb := sizeN_bd n hn
  unfold bytesL
  rw [setsL_get _ _ _ _ (by rw [List.length_set, headL_len]; omega)]
  by_cases c : 9 ≤ j ∧ j < 9 + n.length
  · rw [if_pos c, if_pos c]
  · rw [if_neg c, if_neg c]
    by_cases e : j = 8
    · subst e
      rw [if_pos rfl]
      simp only [List.getD_eq_getElem?_getD]
      rw [List.getElem?_set_self (by rw [headL_len]; omega)]
      rfl
    · rw [if_neg e]
      simp only [List.getD_eq_getElem?_getD]
      rw [List.getElem?_set_ne (fun x => e x.symm)]
theorem mark_facts (n : Nat) (hn : n ≤ 31) (i h : Bool) : (markB n i h).toNat % 32 = n ∧ decide (128 ≤ (markB n i h).toNat) = i ∧ decide ((markB n i h).toNat / 64 % 2 = 1) = h := by
  rw [markB_val (by omega)]
  cases i <;> cases h <;> simp [markN] <;> omega
theorem laid_read (M : List UInt8) (hM : M.length = 8192) (a l : Int) (n : List UInt8) (i h : Bool) (y : Int) (a0 : 1536 ≤ a) (a8 : a.tmod 8 = 0) (hl0 : -9223372036854775808 ≤ l) (hl1 : l ≤ 9223372036854775807) (n1 : 1 ≤ n.length) (hn : n.length ≤ 31) (hy : a + sizeN n ≤ y - 8) (y1 : y ≤ 5632) :
    IsH (laidH M a (bytesL l n i h) y) a ∧ rdV (laidH M a (bytesL l n i h) y) a = ⟨a, l, n, i, h, a + sizeN n⟩ := by
  have sb := sizeN_bd n hn
  have bl := bytesL_len l n i h
  have he := laid_here M hM a (bytesL l n i h) y (by omega) y1
  have g := fun j (hj : j < sizeN n) => laid_get M hM a (bytesL l n i h) y j (by omega) (by rw [bl]; exact hj) (by rw [bl]; omega)
  have mf := mark_facts n.length hn i h
  have MF := Lib.hid mf
  clear mf
  generalize laidH M a (bytesL l n i h) y = L at *
  have mk : mkV L a = markB n.length i h := by
    have := g 8 (by omega)
    rw [bytes_get _ _ _ _ hn, if_neg (by omega), if_pos rfl] at this
    exact this
  have lg : lgV L a = n.length := by unfold lgV; rw [mk]; exact MF.out.1
  have a8' : a % 8 = 0 := by rw [← Int.tmod_eq_emod_of_nonneg (by omega)]; exact a8
  have xt : xtV L a = a + sizeN n := by
    have e := alignV_small (n := a + 9 + (n.length : Int)) (by omega) (by omega)
    unfold xtV
    rw [lg, e]
    unfold sizeN
    clear e g he bl mk lg sb hy
    omega
  have cl : cel L a = l := by
    have e1 : cel L a = cel (headL l n) 0 := by
      unfold cel
      rw [num_congr (ys := headL l n) (b := 0) 8 fun j hj => ?_]
      have := g j (by omega)
      rw [bytes_get _ _ _ _ hn, if_neg (by omega), if_neg (by omega)] at this
      rw [this, byt_in _ _ (by omega)]
      congr 1
      omega
    rw [e1]
    exact cel_set (List.replicate (sizeN n) 0) 0 l (by omega) (by simp; omega) hl0 hl1
  have nm : loadL L (a + 9) n.length = n := by
    refine ext_getD (loadL_len _ _ _) fun k hk => ?_
    rw [loadL_len] at hk
    have := g (9 + k) (by omega)
    rw [bytes_get _ _ _ _ hn, if_pos (by omega), show 9 + k - 9 = k by omega] at this
    rw [getD_loadL _ _ _ _ hk, show a + 9 + (k : Int) = a + ((9 + k : Nat) : Int) by omega, this]
  refine ⟨⟨a0, by rw [he]; omega, a8, by rw [lg]; omega, by rw [xt, he]; exact hy⟩, ?_⟩
  unfold rdV
  rw [lg, cl, nm, mk, xt, MF.out.2.1, MF.out.2.2]
end Go.Proofs.Ythmlhjjcihibnaa.Hh
