/-
  HdSt
-/
import Derived.Test.YtceemmnfofjgeaaGreatDoorHdGrow
import Derived.Test.YtceemmnfofjgeaaGreatDoorHdFst
namespace Go.Proofs.YtceemmnfofjgeaaGreatDoor.Hd
open Go.RowKit Ex Ino Mm Fs
set_option linter.unusedVariables false
set_option linter.unusedSimpArgs false

/-- One file of these bytes; handle 1's place is a, handle 2's is q. -/
structure HS (M : List UInt8) (c : UInt8) (all : List UInt8) (a q : Int) : Prop where
  hc : c = 97 ∨ c = 102
  le : all.length ≤ 1472
  has : ∃ g, Has M g ∧ g.ns = nsK c (all.length : Int) (nd (all.length : Int)) ∧ dataV g ⟨[c], (all.length : Int), extK (nd (all.length : Int))⟩ = all
  f1 : hF M 1 = 1
  f2 : hF M 2 = 1
  p1 : hP M 1 = a
  p2 : hP M 2 = q
variable {M : List UInt8} {c : UInt8} {all : List UInt8} {a q : Int} {w : World} {p gb mb : Nat} {G : List UInt8}
theorem HS.ok (h : HS M c all a q) : okR (regB M) := by
  obtain ⟨g, hh, _⟩ := h.has
  exact hh.ok
theorem HS.ml (h : HS M c all a q) : M.length = 8192 := by
  obtain ⟨g, hh, _⟩ := h.has
  exact hh.ml
theorem HS.hN1 (h : HS M c all a q) : hN M 1 = 0 := hN_of h.f1 (by omega)
theorem HS.hN2 (h : HS M c all a q) : hN M 2 = 0 := hN_of h.f2 (by omega)
theorem HS.ns (h : HS M c all a q) : readN (regB M) = nsK c (all.length : Int) (nd (all.length : Int)) := by
  obtain ⟨g, hh, hn, _⟩ := h.has
  rw [Has_ns hh, hn]
theorem HS.o1 (h : HS M c all a q) : isO M 1 = true := by
  unfold isO
  rw [h.ns, h.hN1, nsK_first c h.hc]
  rfl
theorem HS.o2 (h : HS M c all a q) : isO M 2 = true := by
  unfold isO
  rw [h.ns, h.hN2, nsK_first c h.hc]
  rfl
theorem szX_nsK (c : UInt8) (hc : c = 97 ∨ c = 102) (s : Int) (k : Nat) : szX (nodeX (nsK c s k) 0) = s := by rw [nsK_x c hc]; rfl
theorem HS.hS1 (h : HS M c all a q) : hS M 1 = (all.length : Int) := by
  unfold hS
  rw [h.ns, h.hN1, szX_nsK c h.hc]
theorem HS.hS2 (h : HS M c all a q) : hS M 2 = (all.length : Int) := by
  unfold hS
  rw [h.ns, h.hN2, szX_nsK c h.hc]
theorem HS.hL1 (h : HS M c all a q) (h0 : 0 ≤ a) (h1 : a ≤ (all.length : Int)) : hL M 1 = a := by
  unfold hL cntV
  rw [h.p1, h.hS1, if_neg (by omega)]
theorem HS.hL2 (h : HS M c all a q) (h0 : 0 ≤ q) (h1 : q ≤ (all.length : Int)) : hL M 2 = q := by
  unfold hL cntV
  rw [h.p2, h.hS2, if_neg (by omega)]
/-- A write at the end by handle 1. -/
theorem HS.write (h : HS M c all (all.length : Int) q) (x : List UInt8) (hx : all.length + x.length ≤ 1472) :
    (wrV M 1 x).1 = 0 ∧ HS (wrM M 1 (hN M 1) (hL M 1) x.length (wrV M 1 x)) c (all ++ x) ((all ++ x).length : Int) q := by
  have hL := h.hL1 (by omega) (by omega)
  have hN := h.hN1
  have hml := h.ml
  have hgood := good_of hml h.ok
  obtain ⟨g, hh, hn, hd⟩ := h.has
  have hns := h.ns
  have heq := hh.eq
  rw [hn] at heq
  rw [heq] at hgood
  have hgl : g.ns.length = 8 := by rw [hn]; rfl
  have hv : wrV M 1 x = writeV ⟨bytesL g, nsK c (all.length : Int) (nd (all.length : Int))⟩ 0 (all.length : Int) x := by
    unfold wrV
    rw [hL, hN, heq]
  obtain ⟨w1, w2, w3⟩ := grow_write c h.hc (all.length : Int) (by omega) hgood x (by omega)
  have w4 := grow_data c h.hc (all.length : Int) (by omega) hgood x (by omega)
  have hda := data_again (g := g) hgl ⟨[c], (all.length : Int), extK (nd (all.length : Int))⟩
  rw [hn] at hda
  rw [hda, hd] at w4
  rw [← hv] at w1 w2 w3 w4
  generalize wrV M 1 x = rv at *
  have e1 : ((all ++ x).length : Int) = (all.length : Int) + (x.length : Int) := by rw [List.length_append]; omega
  refine ⟨w1, ?_⟩
  unfold wrM
  rw [if_pos w1, hL, hN]
  have hl := Has.lay hml w3
  have hlm := hl.ml
  refine ⟨h.hc, by rw [List.length_append]; exact hx, ⟨rv.2, Has_layH hl (by omega) (by omega) _ _, by rw [w2, e1], ?_⟩, ?_, ?_, ?_, ?_⟩
  · rw [e1, ← w4, w2]
    rfl
  · rw [hF_same hlm (by omega) (by omega) _ _ (by omega)]; rfl
  · rw [hF_other hlm (by omega) (by omega) (by omega) (by omega), hF_lay hml (by omega) (by omega)]; exact h.f2
  · rw [hP_same hlm (by omega) (by omega) _ _ (by omega), e1]
  · rw [hP_other hlm (by omega) (by omega) (by omega) (by omega), hP_lay hml (by omega) (by omega)]; exact h.p2
/-- A read by handle 2. -/
theorem HS.read (h : HS M c all a q) (h0 : 0 ≤ q) (h1 : q ≤ (all.length : Int)) (K : Int) (hK : 0 ≤ K) :
    rdE M 2 K = 0 ∧ rdX M 2 K = (all.drop q.toNat).take K.toNat ∧ HS (rdM M 2 (hN M 2) (hL M 2) (rdX M 2 K).length (rdE M 2 K)) c all a (q + (((all.drop q.toNat).take K.toNat).length : Int)) := by
  have hL := h.hL2 h0 h1
  have hN := h.hN2
  have hml := h.ml
  have hle := h.le
  obtain ⟨g, hh, hn, hd⟩ := h.has
  have heq := hh.eq
  have hgl : g.ns.length = 8 := by rw [hn]; rfl
  have hda := data_again (g := g) hgl ⟨[c], (all.length : Int), extK (nd (all.length : Int))⟩
  rw [hd] at hda
  rw [hn] at heq hda
  have hE : rdE M 2 K = 0 := by
    unfold rdE readE
    rw [hN, hL, heq]
    rw [if_neg (show ¬ nodeE (nsK c (all.length : Int) (nd (all.length : Int))) 0 ≠ 0 by rw [nsK_first c h.hc]; decide), if_neg (by omega)]
  have hX : rdX M 2 K = (all.drop q.toNat).take K.toNat := by
    unfold rdE at hE
    unfold rdX readX
    rw [if_pos hE, hN, hL, heq]
    show ((wholeV (bytesL g) (nodeX (nsK c (all.length : Int) (nd (all.length : Int))) 0).ext).drop (rdAt (nodeX (nsK c (all.length : Int) (nd (all.length : Int))) 0) q)).take (rdN (nodeX (nsK c (all.length : Int) (nd (all.length : Int))) 0) q K) = _
    rw [nsK_x c h.hc]
    unfold dataV at hda
    unfold rdAt rdN
    simp only at hda ⊢
    generalize wholeV (bytesL g) (extK (nd (all.length : Int))) = W at *
    have hm : (min q (all.length : Int)).toNat = q.toNat := by omega
    rw [hm]
    have e : all = W.take all.length := by
      have := hda.symm
      simpa using this
    have hW : all.length ≤ W.length := by
      have := congrArg List.length e
      rw [List.length_take] at this
      omega
    have hn2 : (min K ((all.length : Int) - min q (all.length : Int))).toNat = min K.toNat (all.length - q.toNat) := by omega
    rw [hn2]
    conv => rhs; rw [e]
    rw [List.drop_take, List.take_take]
  refine ⟨hE, hX, ?_⟩
  rw [hE, hX]
  unfold rdM
  rw [if_pos rfl, hL, hN]
  have hbd : (((all.drop q.toNat).take K.toNat).length : Int) ≤ 1472 := by
    rw [List.length_take, List.length_drop]; omega
  refine ⟨h.hc, hle, ⟨g, Has_layH hh (by omega) (by omega) _ _, hn, hd⟩, ?_, ?_, ?_, ?_⟩
  · rw [hF_other hml (by omega) (by omega) (by omega) (by omega)]; exact h.f1
  · rw [hF_same hml (by omega) (by omega) _ _ (by omega)]; rfl
  · rw [hP_other hml (by omega) (by omega) (by omega) (by omega)]; exact h.p1
  · rw [hP_same hml (by omega) (by omega) _ _ (by omega)]
end Go.Proofs.YtceemmnfofjgeaaGreatDoor.Hd
