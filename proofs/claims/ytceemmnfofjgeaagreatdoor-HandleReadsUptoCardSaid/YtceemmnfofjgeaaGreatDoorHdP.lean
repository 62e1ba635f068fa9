/-
  HdP
-/
import Derived.Test.YtceemmnfofjgeaaGreatDoorHdRd
import Derived.Test.YtceemmnfofjgeaaGreatDoorGFg
namespace Go.Proofs.YtceemmnfofjgeaaGreatDoor.Hd
open Go.RowKit Ex Ino Mm Fs
set_option linter.unusedVariables false
set_option linter.unusedSimpArgs false

variable {M : List UInt8}
theorem cel_same {A B : List UInt8} {a : Int} (h0 : 0 ≤ a) (h : ∀ i : Nat, a ≤ i → (i : Int) < a + 8 → A.getD i 0 = B.getD i 0) : cel A a = cel B a := by
  unfold cel
  rw [num_congr (xs := A) (ys := B) (a := a) (b := a) 8 fun j hj => by
    rw [byt_in _ _ (by omega), byt_in _ _ (by omega)]
    exact h _ (by omega) (by omega)]
theorem setM_else {M : List UInt8} {a v : Int} {i : Nat} (ha : 0 ≤ a) (hi : i < M.length) (h : (i : Int) < a ∨ a + 8 ≤ i) : (setM M a v).getD i 0 = M.getD i 0 := back_else M a _ i ha hi h
theorem layH_len (M : List UInt8) (h : Nat) (a b : Int) : (layH M h a b).length = M.length := by unfold layH; rw [setM_len, setM_len]
theorem hA_in {h : Nat} (h1 : 1 ≤ h) (h4 : h ≤ 4) : 64 ≤ hA h ∧ hA h ≤ 112 := by unfold hA; omega
theorem layH_else {M : List UInt8} {h : Nat} (h1 : 1 ≤ h) (a b : Int) {i : Nat} (hi : i < M.length) (hx : (i : Int) < hA h ∨ hA h + 16 ≤ i) : (layH M h a b).getD i 0 = M.getD i 0 := by
  have : 0 ≤ hA h := by unfold hA; omega
  unfold layH
  rw [setM_else (by omega) (by rw [setM_len]; exact hi) (by omega), setM_else this hi (by omega)]
theorem getD_ext {A B : List UInt8} (hl : A.length = B.length) (h : ∀ i, i < A.length → A.getD i 0 = B.getD i 0) : A = B := by
  refine List.ext_getElem hl fun i h1 h2 => ?_
  have := h i h1
  rwa [List.getD_eq_getElem?_getD, List.getD_eq_getElem?_getD, List.getElem?_eq_getElem h1, List.getElem?_eq_getElem h2] at this
theorem regB_layH (hm : M.length = 8192) {h : Nat} (h1 : 1 ≤ h) (h4 : h ≤ 4) (a b : Int) : regB (layH M h a b) = regB M := by
  have hb := hA_in h1 h4
  unfold regB
  refine getD_ext (by simp [layH_len]) fun i hi => ?_
  rw [List.length_drop, layH_len] at hi
  have := layH_else h1 a b (M := M) (i := 6144 + i) (by omega) (by omega)
  simp only [List.getD_eq_getElem?_getD, List.getElem?_drop] at this ⊢
  exact this
theorem hF_same (hm : M.length = 8192) {h : Nat} (h1 : 1 ≤ h) (h4 : h ≤ 4) (a b : Int) (ha : -9223372036854775808 ≤ a ∧ a ≤ 9223372036854775807) : hF (layH M h a b) h = a := by
  have hb := hA_in h1 h4
  unfold hF
  rw [cel_same (B := setM M (hA h) a) (by omega) fun i h1 h2 => by unfold layH; exact setM_else (by omega) (by rw [setM_len]; omega) (by omega)]
  exact back_cel M (hA h) a (by omega) (by omega) ha.1 ha.2
theorem hP_same (hm : M.length = 8192) {h : Nat} (h1 : 1 ≤ h) (h4 : h ≤ 4) (a b : Int) (ha : -9223372036854775808 ≤ b ∧ b ≤ 9223372036854775807) : hP (layH M h a b) h = b := by
  have hb := hA_in h1 h4
  unfold hP layH
  exact back_cel _ (hA h + 8) b (by omega) (by rw [setM_len]; omega) ha.1 ha.2
theorem hF_other (hm : M.length = 8192) {h k : Nat} (h1 : 1 ≤ h) (k1 : 1 ≤ k) (k4 : k ≤ 4) (hne : k ≠ h) (a b : Int) : hF (layH M h a b) k = hF M k := by
  unfold hF
  have hb := hA_in k1 k4
  have : hA k + 16 ≤ hA h ∨ hA h + 16 ≤ hA k := by unfold hA; omega
  exact cel_same (by omega) fun i h2 h3 => layH_else h1 a b (by omega) (by omega)
theorem hP_other (hm : M.length = 8192) {h k : Nat} (h1 : 1 ≤ h) (k1 : 1 ≤ k) (k4 : k ≤ 4) (hne : k ≠ h) (a b : Int) : hP (layH M h a b) k = hP M k := by
  unfold hP
  have hb := hA_in k1 k4
  have : hA k + 16 ≤ hA h ∨ hA h + 16 ≤ hA k := by unfold hA; omega
  exact cel_same (by omega) fun i h2 h3 => layH_else h1 a b (by omega) (by omega)
theorem hF_lay (hm : M.length = 8192) {k : Nat} (k1 : 1 ≤ k) (k4 : k ≤ 4) (xs : List UInt8) : hF (layL M 6144 xs) k = hF M k := by
  unfold hF
  have hb := hA_in k1 k4
  exact cel_same (by omega) fun i h2 h3 => by rw [getD_layL _ _ _ _ (by omega), if_neg (by omega)]
theorem hP_lay (hm : M.length = 8192) {k : Nat} (k1 : 1 ≤ k) (k4 : k ≤ 4) (xs : List UInt8) : hP (layL M 6144 xs) k = hP M k := by
  unfold hP
  have hb := hA_in k1 k4
  exact cel_same (by omega) fun i h2 h3 => by rw [getD_layL _ _ _ _ (by omega), if_neg (by omega)]
end Go.Proofs.YtceemmnfofjgeaaGreatDoor.Hd
