/-
  HdGrow
-/
import Derived.Test.YtceemmnfofjgeaaGreatDoorHdNew
import Derived.Test.YtceemmnfofjgeaaGreatDoorGFd
import Derived.Test.YtceemmnfofjgeaaGreatDoorGFh
import Derived.Test.YtceemmnfofjgeaaGreatDoorGFm
namespace Go.Proofs.YtceemmnfofjgeaaGreatDoor.Hd
open Go.RowKit Ex Ino Mm Fs
set_option linter.unusedVariables false
set_option linter.unusedSimpArgs false

/-- The blocks of the one file. -/
def extK (k : Nat) : List EX := if k = 0 then [] else [(9, (k : Int))]
def nsK (c : UInt8) (s : Int) (k : Nat) : List IN := [⟨[c], s, extK k⟩, in0, in0, in0, in0, in0, in0, in0]
theorem fit_all : ∀ n : Fin 24, ∀ k : Fin 24, k.val ≤ n.val → fitE (extK k.val) (setN (blkO (extK k.val))) n.val = 0 ∧ fitX (extK k.val) (setN (blkO (extK k.val))) n.val = extK n.val := by decide +kernel
theorem used_all (c : UInt8) (hc : c = 97 ∨ c = 102) (s : Int) (k : Nat) : usedN (nsK c s k) = setN (blkO (extK k)) := by
  have h1 : idxL (nsK c s k) = [0] := by rcases hc with rfl | rfl <;> rfl
  unfold usedN
  rw [h1]
  unfold usedF
  simp only [List.foldl_cons, List.foldl_nil, Nat.zero_or]
  rfl
theorem nsK_first (c : UInt8) (hc : c = 97 ∨ c = 102) (s : Int) (k : Nat) : nodeE (nsK c s k) 0 = 0 := by
  unfold nodeE
  rw [if_neg (by omega)]
  rfl
theorem nsK_isF (c : UInt8) (s : Int) (k : Nat) : isF (at' (nsK c s k) 0) = true := rfl
theorem nsK_x (c : UInt8) (hc : c = 97 ∨ c = 102) (s : Int) (k : Nat) : nodeX (nsK c s k) 0 = ⟨[c], s, extK k⟩ := by
  unfold nodeX
  rw [if_pos (nsK_first c hc s k)]
  rfl
/-- So many blocks. -/
def nd (s : Int) : Nat := (needI s).toNat
theorem nd_lt {s : Int} (h : s ≤ 1472) : nd s < 24 := by unfold nd needI; split <;> omega
theorem nd_le {s t : Int} (h : s ≤ t) : nd s ≤ nd t := by
  unfold nd needI
  split <;> split <;> omega
/-- A Write at the end of the one file. -/
theorem grow_write {B : List UInt8} (c : UInt8) (hc : c = 97 ∨ c = 102) (s : Int) (hs : 0 ≤ s) (hg : RGood ⟨B, nsK c s (nd s)⟩) (b : List UInt8) (hb : s + (b.length : Int) ≤ 1472) :
    (writeV ⟨B, nsK c s (nd s)⟩ 0 s b).1 = 0 ∧ (writeV ⟨B, nsK c s (nd s)⟩ 0 s b).2.ns = nsK c (s + (b.length : Int)) (nd (s + (b.length : Int))) ∧ RGood (writeV ⟨B, nsK c s (nd s)⟩ 0 s b).2 := by
  have h1 := nsK_first c hc s (nd s)
  have h2 := nsK_x c hc s (nd s)
  have h4 := used_all c hc s (nd s)
  have hfit := fit_all ⟨nd (s + (b.length : Int)), nd_lt hb⟩ ⟨nd s, nd_lt (by omega)⟩ (nd_le (by omega))
  simp only at hfit
  have hr : (reachV ⟨B, nsK c s (nd s)⟩ 0 s b.length).1 = 0 ∧ (reachV ⟨B, nsK c s (nd s)⟩ 0 s b.length).2.ns = nsK c (s + (b.length : Int)) (nd (s + (b.length : Int))) := by
    unfold reachV
    rw [show (⟨B, nsK c s (nd s)⟩ : RG).ns = nsK c s (nd s) from rfl, if_neg (by rw [h1]; decide), h2]
    rw [if_neg (show ¬ (s < 0 ∨ (⟨[c], s, extK (nd s)⟩ : IN).size < s) by show ¬ (s < 0 ∨ s < s); omega)]
    by_cases hl : s < s + (b.length : Int)
    · rw [if_pos (show (⟨[c], s, extK (nd s)⟩ : IN).size < s + (b.length : Int) from hl)]
      have hE : resizeE ⟨B, nsK c s (nd s)⟩ 0 (s + (b.length : Int)) = 0 := by
        unfold resizeE
        rw [show (⟨B, nsK c s (nd s)⟩ : RG).ns = nsK c s (nd s) from rfl, if_neg (by rw [h1]; decide), if_neg (by omega), if_neg (by omega), h2, h4]
        exact hfit.1
      unfold resizeV
      rw [if_pos hE]
      refine ⟨rfl, ?_⟩
      show (resizeG ⟨B, nsK c s (nd s)⟩ 0 (s + (b.length : Int))).ns = _
      rw [resizeG_ns, show (⟨B, nsK c s (nd s)⟩ : RG).ns = nsK c s (nd s) from rfl, h2, h4]
      show (nsK c s (nd s)).set 0 ⟨[c], s + (b.length : Int), fitX (extK (nd s)) (setN (blkO (extK (nd s)))) (nd (s + (b.length : Int)))⟩ = _
      rw [hfit.2]
      rfl
    · rw [if_neg (show ¬ (⟨[c], s, extK (nd s)⟩ : IN).size < s + (b.length : Int) from hl)]
      have : b.length = 0 := by omega
      refine ⟨rfl, ?_⟩
      rw [this, show s + ((0 : Nat) : Int) = s by omega]
  obtain ⟨_, ha, hf, hgd⟩ := reach_good hg (n := 0) (a := s) (k := b.length) hr.1
  have hp := put_good hgd (n := 0) (a := s) (b := b) hs hf
  unfold writeV
  rw [if_pos hr.1]
  exact ⟨rfl, hr.2, hp⟩
theorem grow_data {B : List UInt8} (c : UInt8) (hc : c = 97 ∨ c = 102) (s : Int) (hs : 0 ≤ s) (hg : RGood ⟨B, nsK c s (nd s)⟩) (b : List UInt8) (hb : s + (b.length : Int) ≤ 1472) :
    dataV (writeV ⟨B, nsK c s (nd s)⟩ 0 s b).2 (at' (writeV ⟨B, nsK c s (nd s)⟩ 0 s b).2.ns 0) = dataV ⟨B, nsK c s (nd s)⟩ ⟨[c], s, extK (nd s)⟩ ++ b :=
  write_data hg (i := 0) (by omega) (nsK_isF c s (nd s)) b (grow_write c hc s hs hg b hb).1
end Go.Proofs.YtceemmnfofjgeaaGreatDoor.Hd
