/-
  FrRszP
-/
import Derived.Test.YtefgabnmcfpdcaaGreatDoorFrRen
namespace Go.Proofs.YtefgabnmcfpdcaaGreatDoor.Fr
open Go.RowKit Ex Ino Mm Fs
set_option linter.unusedVariables false
set_option linter.unusedSimpArgs false
def rzD (l : List EX) (u N : Nat) : List EX × Nat × Int := if (blkL l).length ≤ N then growV l u ((N : Int) - (blkL l).length) else shrinkV l u N
theorem grow_zero {l : List EX} (h : ok l = true) (u : Nat) : growV l u 0 = (l, u, 0) := by
 unfold growV
 rw [if_neg (by rw [h]; rintro (h | h); cases h; omega), if_neg (by omega)]
 simp [extV, setN]
theorem shrink_all {l : List EX} (h : ok l = true) {u : Nat} (hu : u < 4294967296) : shrinkV l u (blkL l).length = (l, u, 0) := by
 unfold shrinkV
 rw [if_neg (by rw [h]; rintro (h | h | h); cases h; omega; omega), Int.toNat_natCast, List.take_length, List.drop_length, ext_blk h, andN_none hu]
theorem rzD_ok {l : List EX} (h : ok l = true) {u : Nat} (hu : u < 4294967296) (hb : ∀ b ∈ blkL l, u.testBit b = true) {N : Nat} (he : fitE l u N = 0) : (rzD l u N).1 = fitX l u N ∧ (rzD l u N).2.2 = 0 := by
 have hk := (fit_zero h hb N).1 he
 unfold rzD fitX
 rw [blkO_yes h]
 by_cases h1 : (blkL l).length < N
 ·rw [if_pos (by omega), if_pos h1, show ((N : Int) - ((blkL l).length : Int)) = ((N - (blkL l).length : Nat) : Int) by omega]
  have := (grow_blk h hb hk).1
  rw [if_pos this]
  exact ⟨rfl, this⟩
 rw [if_neg h1]
 by_cases h2 : (blkL l).length ≤ N
 ·obtain rfl : N = (blkL l).length := by omega
  rw [if_pos h2, show (((blkL l).length : Int) - ((blkL l).length : Int)) = 0 by omega, grow_zero h, shrink_all h hu]
  exact ⟨rfl, rfl⟩
 ·rw [if_neg h2]
  exact ⟨rfl, (shrink_blk h u (m := N) (by omega)).1⟩
theorem rzD_no {l : List EX} (h : ok l = true) {u : Nat} (hu : u < 4294967296) (hb : ∀ b ∈ blkL l, u.testBit b = true) {N : Nat} (he : fitE l u N ≠ 0) : fitE l u N = 125 ∧ (blkL l).length ≤ N ∧ (rzD l u N).2.2 ≠ 0 := by
 have h125 := (fit_full h hb N).resolve_left he
 have hk : ¬ N - (blkL l).length ≤ (freeL u).length := fun hk => he ((fit_zero h hb N).2 hk)
 refine ⟨h125, by omega, ?_⟩
 unfold rzD
 rw [if_pos (by omega), show ((N : Int) - ((blkL l).length : Int)) = ((N - (blkL l).length : Nat) : Int) by omega, grow_full h (by omega)]
 decide
def rzN (l : List EX) (u N : Nat) : List Nat := (freeL u).take (N - (blkL l).length)
theorem rzN_mem {l : List EX} {u N b : Nat} (h : b ∈ rzN l u N) : 9 ≤ b ∧ b < 32 ∧ u.testBit b = false := by
 have := frL_mem.1 (List.mem_of_mem_take h)
 exact ⟨this.2.1, this.1, this.2.2⟩
theorem rzD_used {bs : List UInt8} (ho : okR bs) {i : Nat} (hi : i < 8) (hf : isF (at' (readN bs) i) = true) (hok : ok (at' (readN bs) i).ext = true) (hb : ∀ b ∈ blkL (at' (readN bs) i).ext, (usedN (readN bs)).testBit b = true) (name : List UInt8) (hnm : name ≠ []) (size : Int) {N : Nat}
  (he : fitE (at' (readN bs) i).ext (usedN (readN bs)) N = 0) :
  (rzD (at' (readN bs) i).ext (usedN (readN bs)) N).2.1 = usedN ((readN bs).set i ⟨name, size, fitX (at' (readN bs) i).ext (usedN (readN bs)) N⟩) := bit_eq fun k => by
 have hr := readN_len bs
 have hap := ((okR_iff bs).1 ho).2.1
 obtain ⟨f1, f2, f3⟩ := fit_blk hok hb he
 have hk := (fit_zero hok hb N).1 he
 have hfO : blkO (fitX (at' (readN bs) i).ext (usedN (readN bs)) N) = _ := blkO_yes f1
 have hns : isF (⟨name, size, fitX (at' (readN bs) i).ext (usedN (readN bs)) N⟩ : IN) = true := by simp [isF, hnm]
 have hsub : (blkL (at' (readN bs) i).ext).length ≤ N → ((N : Int) - ((blkL (at' (readN bs) i).ext).length : Int)) = ((N - (blkL (at' (readN bs) i).ext).length : Nat) : Int) := fun h => by omega
 have hg : (blkL (at' (readN bs) i).ext).length ≤ N → (growV (at' (readN bs) i).ext (usedN (readN bs)) ((N - (blkL (at' (readN bs) i).ext).length : Nat) : Int)).2.1 = usedN (readN bs) ||| setN (rzN (at' (readN bs) i).ext (usedN (readN bs)) N) := fun h2 => by
  unfold growV
  rw [if_neg (by rw [hok]; rintro (h | h); cases h; omega), if_neg (by omega), Int.toNat_natCast]
  rfl
 have hsh : ¬ (blkL (at' (readN bs) i).ext).length ≤ N → (shrinkV (at' (readN bs) i).ext (usedN (readN bs)) (N : Int)).2.1 = andN (usedN (readN bs)) (setN ((blkL (at' (readN bs) i).ext).drop N)) ∧ rzN (at' (readN bs) i).ext (usedN (readN bs)) N = [] := fun h2 => by
  refine ⟨?_, ?_⟩
  ·unfold shrinkV
   rw [if_neg (by rw [hok]; rintro (h | h | h); cases h; omega; omega), Int.toNat_natCast]
  ·unfold rzN
   rw [show N - (blkL (at' (readN bs) i).ext).length = 0 by omega, List.take_zero]
 have key : (usedN ((readN bs).set i ⟨name, size, fitX (at' (readN bs) i).ext (usedN (readN bs)) N⟩)).testBit k = true ↔ (k ∈ (blkL (at' (readN bs) i).ext).take N ∨ k ∈ rzN (at' (readN bs) i).ext (usedN (readN bs)) N) ∨ ∃ j, j < 8 ∧ j ≠ i ∧ isF (at' (readN bs) j) = true ∧ k ∈ blkO (at' (readN bs) j).ext := by
  rw [usedN_bit]
  constructor
  ·rintro ⟨j, hj, fj, hb⟩
   rw [at_set _ (by omega)] at fj hb
   by_cases e : j = i
   ·rw [if_pos e, hfO, f3] at hb
    exact .inl (List.mem_append.1 hb)
   ·rw [if_neg e] at fj hb
    exact .inr ⟨j, hj, e, fj, hb⟩
  ·rintro (h | ⟨j, hj, e, fj, hb⟩)
   ·refine ⟨i, hi, by rw [at_set _ (by omega), if_pos rfl]; exact hns, ?_⟩
    rw [at_set _ (by omega), if_pos rfl, hfO, f3]
    exact List.mem_append.2 h
   ·exact ⟨j, hj, by rw [at_set _ (by omega), if_neg e]; exact fj, by rw [at_set _ (by omega), if_neg e]; exact hb⟩
 have old : (usedN (readN bs)).testBit k = true ↔ k ∈ blkL (at' (readN bs) i).ext ∨ ∃ j, j < 8 ∧ j ≠ i ∧ isF (at' (readN bs) j) = true ∧ k ∈ blkO (at' (readN bs) j).ext := by
  rw [usedN_bit]
  constructor
  ·rintro ⟨j, hj, fj, hj2⟩
   by_cases e : j = i
   ·rw [e, blkO_yes hok] at hj2
    exact .inl hj2
   ·exact .inr ⟨j, hj, e, fj, hj2⟩
  ·rintro (h | ⟨j, hj, _, fj, hb⟩)
   ·exact ⟨i, hi, hf, by rw [blkO_yes hok]; exact h⟩
   ·exact ⟨j, hj, fj, hb⟩
 have other : ∀ j, j < 8 → j ≠ i → isF (at' (readN bs) j) = true → k ∈ blkO (at' (readN bs) j).ext → k ∉ blkL (at' (readN bs) i).ext := fun j hj e fj hb hc => (hap j i hj hi e fj hf).2 k hb (by rw [blkO_yes hok]; exact hc)
 rw [Bool.eq_iff_iff, key]
 unfold rzD
 by_cases h2 : (blkL (at' (readN bs) i).ext).length ≤ N
 ·rw [if_pos h2, hsub h2]
  rw [hg h2, Nat.testBit_or, setN_bit, Bool.or_eq_true, decide_eq_true_eq, old, List.take_of_length_le h2]
  constructor
  ·rintro ((h | h) | h)
   ·exact .inl (.inl h)
   ·exact .inr h
   ·exact .inl (.inr h)
  ·rintro ((h | h) | h)
   ·exact .inl (.inl h)
   ·exact .inr h
   ·exact .inl (.inr h)
 ·rw [if_neg h2]
  obtain ⟨e, en⟩ := hsh h2
  have hnd := (ok_good _ hok).1
  rw [e, andN_bit, setN_bit, en]
  simp only [Bool.and_eq_true, decide_eq_true_eq, Bool.not_eq_true', decide_eq_false_iff_not, old, List.not_mem_nil, or_false]
  have split : ∀ a, a ∈ blkL (at' (readN bs) i).ext ↔ a ∈ (blkL (at' (readN bs) i).ext).take N ∨ a ∈ (blkL (at' (readN bs) i).ext).drop N := fun a => by
   rw [← List.mem_append, List.take_append_drop]
  have disj : ∀ a, a ∈ (blkL (at' (readN bs) i).ext).take N → a ∉ (blkL (at' (readN bs) i).ext).drop N := fun a h1 h2 => by
   rw [← List.take_append_drop N (blkL (at' (readN bs) i).ext)] at hnd
   exact (List.nodup_append.1 hnd).2.2 a h1 a h2 rfl
  constructor
  ·rintro ⟨⟨hk32, h | h⟩, hn⟩
   ·exact .inl (((split k).1 h).resolve_right hn)
   ·exact .inr h
  ·rintro (h | ⟨j, hj, e, fj, hb⟩)
   ·exact ⟨⟨((ok_good _ hok).2 k ((split k).2 (.inl h))).2, .inl ((split k).2 (.inl h))⟩, disj k h⟩
   ·exact ⟨⟨((blkO_good _).2 k hb).2, .inr ⟨j, hj, e, fj, hb⟩⟩, fun hc => other j hj e fj hb ((split k).2 (.inr hc))⟩
end Go.Proofs.YtefgabnmcfpdcaaGreatDoor.Fr
