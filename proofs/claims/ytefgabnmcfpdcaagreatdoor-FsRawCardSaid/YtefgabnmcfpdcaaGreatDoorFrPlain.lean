/-
  FrPlain
-/
import Derived.Test.YtefgabnmcfpdcaaGreatDoorFrRow
namespace Go.Proofs.YtefgabnmcfpdcaaGreatDoor.Fr
open Go.RowKit Ex Ino Mm Fs
set_option linter.unusedVariables false
set_option linter.unusedSimpArgs false
def ApartTo (ns : List IN) (n : Nat) : Prop := ∀ i j, i < j → j < n → isF (at' ns i) = true → isF (at' ns j) = true → Sep ns i j
theorem apart_to (ns : List IN) : Apart ns ↔ ApartTo ns 8 :=
 ⟨fun h i j hij hj fi fj => h i j (by omega) hj (by omega) fi fj, fun h i j hi hj hne fi fj => by
  rcases Nat.lt_or_gt_of_ne hne with hl | hl
  ·exact h i j hl hj fi fj
  ·exact (h j i hl hi fj fi).symm⟩
def allTo (ns : List IN) : Nat → List Nat
 | 0 => []
 | n + 1 => allTo ns n ++ blkO (at' ns n).ext
theorem allTo_mem {ns : List IN} {b : Nat} : ∀ {n : Nat}, b ∈ allTo ns n ↔ ∃ i, i < n ∧ b ∈ blkO (at' ns i).ext
 | 0 => by simp [allTo]
 | n + 1 => by
  unfold allTo
  rw [List.mem_append, allTo_mem]
  constructor
  ·rintro (⟨i, h1, h2⟩ | h)
   ·exact ⟨i, by omega, h2⟩
   ·exact ⟨n, by omega, h⟩
  ·rintro ⟨i, h1, h2⟩
   by_cases e : i = n
   ·subst e; exact .inr h2
   ·exact .inl ⟨i, by omega, h2⟩
def Bare (ns : List IN) : Prop := ∀ i, isF (at' ns i) = false → blkO (at' ns i).ext = []
theorem bare_read (bs : List UInt8) : Bare (readN bs) := fun i h => by
 by_cases hi : i < 8
 ·rw [readN_at bs hi] at h ⊢
  rcases decX_or (page bs (1 + i)) with e | e
  ·rw [e]; rfl
  ·rw [isF_chk e] at h; cases h
 ·have : at' (readN bs) i = in0 := by unfold at'; rw [List.getD_eq_getElem?_getD, List.getElem?_eq_none (by rw [readN_len]; omega)]; rfl
  rw [this]; rfl
theorem apart_next {ns : List IN} {n : Nat} (h : ApartTo ns n) (hn : ∀ k, k < n → (at' ns n).name ≠ [] → (at' ns k).name ≠ (at' ns n).name) (hb : ∀ b ∈ blkO (at' ns n).ext, b ∉ allTo ns n) : ApartTo ns (n + 1) := by
 intro i j hij hj fi fj
 by_cases e : j = n
 ·subst e
  have hne : (at' ns j).name ≠ [] := by simpa [isF] using fj
  exact ⟨hn i hij hne, fun b h1 h2 => hb b h2 (allTo_mem.2 ⟨i, hij, h1⟩)⟩
 ·exact h i j hij (by omega) fi fj
theorem apart_name {ns : List IN} {n k : Nat} (hk : k < n) (h0 : (at' ns n).name ≠ []) (he : (at' ns k).name = (at' ns n).name) (hn : n < 8) : ¬ Apart ns := fun h => by
 refine (h k n (by omega) hn (by omega) ?_ ?_).1 he
 ·simp [isF, he, h0]
 ·simp [isF, h0]
theorem apart_block {ns : List IN} (hba : Bare ns) {n b : Nat} (hb : b ∈ blkO (at' ns n).ext) (ha : b ∈ allTo ns n) (hn : n < 8) : ¬ Apart ns := fun h => by
 obtain ⟨k, hk, hkb⟩ := allTo_mem.1 ha
 have fi : ∀ i, b ∈ blkO (at' ns i).ext → isF (at' ns i) = true := fun i hi => by
  cases hf : isF (at' ns i) with
  | true => rfl
  | false => rw [hba i hf] at hi; cases hi
 exact (h k n (by omega) hn (by omega) (fi k hkb) (fi n hb)).2 b hkb hb
theorem used_all {ns : List IN} (hba : Bare ns) : setN (allTo ns 8) = usedN ns := by
 refine Nat.eq_of_testBit_eq fun b => ?_
 rw [setN_bit, Bool.eq_iff_iff, decide_eq_true_eq, usedN_bit, allTo_mem]
 constructor
 ·rintro ⟨i, hi, hb⟩
  refine ⟨i, hi, ?_, hb⟩
  cases hf : isF (at' ns i) with
  | true => rfl
  | false => rw [hba i hf] at hb; cases hb
 ·rintro ⟨i, hi, _, hb⟩
  exact ⟨i, hi, hb⟩
theorem okR_iff (bs : List UInt8) : okR bs ↔ (∀ n, n < 8 → decE (page bs (1 + n)) = 0) ∧ Apart (readN bs) ∧ page bs 0 = headL (usedN (readN bs)) := by
 unfold okR decP wholeP
 rw [apart_iff]
end Go.Proofs.YtefgabnmcfpdcaaGreatDoor.Fr
