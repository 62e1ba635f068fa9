/-
  FrWriP
-/
import Derived.Test.YtefgabnmcfpdcaaGreatDoorFrRsz
namespace Go.Proofs.YtefgabnmcfpdcaaGreatDoor.Fr
open Go.RowKit Ex Ino Mm Fs
set_option linter.unusedVariables false
set_option linter.unusedSimpArgs false
def wrK (R : List UInt8) (bl : List Nat) (a : Nat) (b : List UInt8) : Nat → List UInt8
 | 0 => R
 | k + 1 => splice (wrK R bl a b k) (bl.getD ((a + k) / 64) 0 * 64 + (a + k) % 64) [b.getD k 0]
theorem wrK_len {R : List UInt8} {bl : List Nat} {a : Nat} {b : List UInt8} (hR : R.length = 2048) (hg : ∀ x ∈ bl, x < 32) : ∀ k, a + k ≤ 64 * bl.length → (wrK R bl a b k).length = 2048
 | 0, _ => hR
 | k + 1, h => by
  have ih := wrK_len (a := a) (b := b) hR hg k (by omega)
  have h1 := (getD_lt hg (k := (a + k) / 64) (by omega)).1
  show (splice _ _ _).length = _
  rw [splice_len _ _ _ (by rw [List.length_singleton]; omega), ih]
theorem wrK_at {R : List UInt8} {bl : List Nat} {a : Nat} {b : List UInt8} (hR : R.length = 2048) (hg : ∀ x ∈ bl, x < 32) (hn : bl.Nodup) : ∀ k, a + k ≤ 64 * bl.length →
  (∀ c, c < 32 → c ∉ bl → page (wrK R bl a b k) c = page R c) ∧ (∀ j, j < bl.length → ∀ i, i < 64 → (page (wrK R bl a b k) (bl.getD j 0)).getD i 0 = if a ≤ j * 64 + i ∧ j * 64 + i < a + k then b.getD (j * 64 + i - a) 0 else (page R (bl.getD j 0)).getD i 0)
 | 0, _ => ⟨fun _ _ _ => rfl, fun j _ i _ => by rw [if_neg (by omega)]; rfl⟩
 | k + 1, h => by
  obtain ⟨h1, h2⟩ := wrK_at (a := a) (b := b) hR hg hn k (by omega)
  have hl := wrK_len (a := a) (b := b) hR hg k (by omega)
  obtain ⟨hm, hmm⟩ := getD_lt hg (k := (a + k) / 64) (by omega)
  have hp := fun c (hc : c < 32) => page_in (zs := [b.getD k 0]) hl hm hc (o := (a + k) % 64) (by rw [List.length_singleton]; omega)
  refine ⟨fun c hc hcb => ?_, fun j hj i hi => ?_⟩
  ·show page (splice _ _ _) c = _
   rw [hp c hc, if_neg (fun e => hcb (by rw [e]; exact hmm)), h1 c hc hcb]
  ·obtain ⟨hj1, hj2⟩ := getD_lt hg hj
   show (page (splice _ _ _) _).getD i 0 = _
   rw [hp _ hj1]
   by_cases e : j = (a + k) / 64
   ·rw [← e, if_pos rfl, Mm.getD_splice _ _ _ _ (by rw [List.length_singleton, page_len' hl hj1]; omega), List.length_singleton, h2 j hj i hi]
    by_cases h3 : i < (a + k) % 64
    ·rw [if_pos h3]
     by_cases h4 : a ≤ j * 64 + i
     ·rw [if_pos (by omega), if_pos (by omega)]
     ·rw [if_neg (by omega), if_neg (by omega)]
    ·rw [if_neg h3]
     by_cases h4 : i = (a + k) % 64
     ·rw [if_pos (by omega), if_pos (by omega), show i - (a + k) % 64 = 0 by omega, show j * 64 + i - a = k by omega]
      rfl
     ·rw [if_neg (by omega), if_neg (by omega), if_neg (by omega)]
   ·rw [if_neg ?_, h2 j hj i hi]
    ·by_cases h4 : a ≤ j * 64 + i ∧ j * 64 + i < a + k
     ·rw [if_pos h4, if_pos (by omega)]
     ·rw [if_neg h4, if_neg (by omega)]
    ·intro e2
     rw [List.getD_eq_getElem?_getD, List.getD_eq_getElem?_getD, List.getElem?_eq_getElem hj, List.getElem?_eq_getElem (show (a + k) / 64 < bl.length by omega)] at e2
     exact e ((List.getElem_inj hn).1 e2)
theorem wr_bytes {g : RG} (hb : g.bs.length = 2048) (hn : g.ns.length = 8) {n : Nat} {X : List EX} (hX : (at' g.ns n).ext = X) (hok : ok X = true) (a : Nat) (b : List UInt8) (h : a + b.length ≤ 64 * (blkL X).length) :
  wrK (bytesL g) (blkL X) a b b.length = bytesL (putV g (n : Int) (a : Int) b) := by
 have hg := ok_good X hok
 have hg32 : ∀ x ∈ blkL X, x < 32 := fun x hx => (hg.2 x hx).2
 have hbl := bytesL_len hb hn
 obtain ⟨h1, h2⟩ := wrK_at (a := a) (b := b) hbl hg32 hg.1 b.length h
 have hl := wrK_len (a := a) (b := b) hbl hg32 b.length h
 have hW : (wholeV g.bs X).length = 64 * (blkL X).length := by rw [wholeV_len hb, blkO_yes hok]
 have hsl : (splice (wholeV g.bs X) a b).length = 64 * (blkL X).length := by rw [splice_len _ _ _ (by omega), hW]
 have hpv : putV g (n : Int) (a : Int) b = ⟨spreadV g.bs X (splice (wholeV g.bs X) a b), g.ns⟩ := by
  unfold putV
  rw [Int.toNat_natCast, Int.toNat_natCast, hX]
 rw [hpv]
 have hS : (spreadV g.bs X (splice (wholeV g.bs X) a b)).length = 2048 := by
  unfold spreadV
  exact spreadK_len _ hb (fun x hx => ((blkO_good _).2 x hx).2) _ (Nat.le_refl _) (by rw [hsl, blkO_yes hok]; omega)
 have hD : ∀ c, 9 ≤ c → page (bytesL ⟨spreadV g.bs X (splice (wholeV g.bs X) a b), g.ns⟩) c = page (spreadV g.bs X (splice (wholeV g.bs X) a b)) c := fun c h => bytesL_data (g := ⟨spreadV g.bs X (splice (wholeV g.bs X) a b), g.ns⟩) hn h
 have hNd : ∀ j, j < 8 → page (bytesL ⟨spreadV g.bs X (splice (wholeV g.bs X) a b), g.ns⟩) (1 + j) = nodeL (at' g.ns j) := fun j h => bytesL_node (g := ⟨spreadV g.bs X (splice (wholeV g.bs X) a b), g.ns⟩) hn h
 refine page_ext hl (bytesL_len hS hn) fun c hc => ?_
 by_cases hcX : c ∈ blkL X
 ·have c9 := (hg.2 c hcX).1
  rw [hD _ c9]
  obtain ⟨j, hj, rfl⟩ := List.getElem_of_mem hcX
  have hgd : (blkL X).getD j 0 = (blkL X)[j] := by rw [List.getD_eq_getElem?_getD, List.getElem?_eq_getElem hj]; rfl
  have hsp := spread_at (all := splice (wholeV g.bs X) a b) hb hg32 hg.1 (blkL X).length (Nat.le_refl _) (by rw [hsl]; omega) j hj
  rw [hgd] at hsp
  show _ = page (spreadK g.bs (blkO X) _ (blkO X).length) _
  rw [blkO_yes hok, hsp]
  refine ext_getD (by rw [page_len' hl hc, page_all (by rw [hsl]; omega)]) fun i hi => ?_
  rw [page_len' hl hc] at hi
  have := h2 j hj i hi
  rw [hgd] at this
  rw [this, getD_page (splice (wholeV g.bs X) a b) j i hi, Mm.getD_splice _ _ _ _ (by omega), bytesL_data hn c9, whole_at hb hok hj hi, hgd]
  by_cases h3 : j * 64 + i < a
  ·rw [if_pos h3, if_neg (by omega)]
  ·rw [if_neg h3]
   by_cases h4 : j * 64 + i < a + b.length
   ·rw [if_pos h4, if_pos (by omega)]
   ·rw [if_neg h4, if_neg (by omega)]
 ·rw [h1 c hc hcX]
  by_cases c0 : c = 0
  ·subst c0
   rw [bytesL_0, bytesL_0]
  by_cases c9 : c < 9
  ·obtain ⟨j, rfl⟩ : ∃ j, c = 1 + j := ⟨c - 1, by omega⟩
   rw [bytesL_node hn (by omega), hNd j (by omega)]
  ·rw [bytesL_data hn (by omega), hD _ (by omega)]
   show _ = page (spreadK g.bs (blkO X) _ (blkO X).length) _
   rw [blkO_yes hok, spread_other hb hg32 hc hcX _ (Nat.le_refl _) (by rw [hsl]; omega)]
end Go.Proofs.YtefgabnmcfpdcaaGreatDoor.Fr
