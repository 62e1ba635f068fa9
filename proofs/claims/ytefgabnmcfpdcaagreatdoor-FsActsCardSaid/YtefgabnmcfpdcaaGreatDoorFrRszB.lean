/-
  FrRszB
-/
import Derived.Test.YtefgabnmcfpdcaaGreatDoorFrRszP
namespace Go.Proofs.YtefgabnmcfpdcaaGreatDoor.Fr
open Go.RowKit Ex Ino Mm Fs
set_option linter.unusedVariables false
set_option linter.unusedSimpArgs false
def zeroK (bs : List UInt8) (bl : List Nat) (k : Nat) : List UInt8 := spreadK bs bl (List.replicate (64 * bl.length) 0) k
theorem page_zero {n k : Nat} (h : 64 * (k + 1) ≤ n) : page (List.replicate n (0 : UInt8)) k = List.replicate 64 0 := by
 unfold page
 rw [List.drop_replicate, List.take_replicate]
 congr 1
 omega
theorem zeroK_next {bs : List UInt8} {bl : List Nat} {k : Nat} (hk : k < bl.length) : setPage (zeroK bs bl k) (bl.getD k 0) (List.replicate 64 0) = zeroK bs bl (k + 1) := by
 show _ = setPage (spreadK bs bl _ k) _ (page _ k)
 rw [page_zero (by omega)]
 rfl
theorem zeroK_len {bs : List UInt8} {bl : List Nat} (hb : bs.length = 2048) (hg : ∀ b ∈ bl, b < 32) {k : Nat} (hk : k ≤ bl.length) : (zeroK bs bl k).length = 2048 := spreadK_len bl hb hg k hk (by simp; omega)
theorem zeroK_page {bs : List UInt8} {bl : List Nat} (hb : bs.length = 2048) (hg : ∀ b ∈ bl, b < 32) (hn : bl.Nodup) {c : Nat} (hc : c < 32) : page (zeroK bs bl bl.length) c = if c ∈ bl then List.replicate 64 0 else page bs c := by
 by_cases h : c ∈ bl
 ·rw [if_pos h]
  obtain ⟨j, hj, rfl⟩ := List.getElem_of_mem h
  have := spread_at (all := List.replicate (64 * bl.length) 0) hb hg hn bl.length (Nat.le_refl _) (by simp) j hj
  rw [List.getD_eq_getElem?_getD, List.getElem?_eq_getElem hj, page_zero (by omega)] at this
  exact this
 ·rw [if_neg h]
  exact spread_other hb hg hc h _ (Nat.le_refl _) (by simp)
theorem page_in {R zs : List UInt8} (hR : R.length = 2048) {b o c : Nat} (hb : b < 32) (hc : c < 32) (h : o + zs.length ≤ 64) : page (splice R (b * 64 + o) zs) c = if c = b then splice (page R b) o zs else page R c := by
 have hs : (splice R (b * 64 + o) zs).length = 2048 := by rw [splice_len _ _ _ (by omega), hR]
 have hp := page_len' hR hb
 refine ext_getD ?_ fun k hk => ?_
 ·rw [page_len' hs hc]
  split
  ·rw [splice_len _ _ _ (by omega), hp]
  ·exact (page_len' hR hc).symm
 ·rw [page_len' hs hc] at hk
  rw [getD_page _ _ _ hk, Mm.getD_splice _ _ _ _ (by omega)]
  by_cases e : c = b
  ·subst e
   rw [if_pos rfl, Mm.getD_splice _ _ _ _ (by omega), getD_page _ _ _ hk]
   by_cases h1 : k < o
   ·rw [if_pos (by omega), if_pos h1]
   ·rw [if_neg (by omega), if_neg h1]
    by_cases h2 : k < o + zs.length
    ·rw [if_pos (by omega), if_pos h2]
     congr 1
     omega
    ·rw [if_neg (by omega), if_neg h2]
  ·rw [if_neg e, getD_page _ _ _ hk]
   by_cases h1 : c * 64 + k < b * 64 + o
   ·rw [if_pos h1]
   ·rw [if_neg h1, if_neg (by omega)]
theorem getD_fit {xs : List UInt8} {k size p : Nat} (hp : p < k) : (fitL xs k size).getD p 0 = if p < size then xs.getD p 0 else 0 := by
 unfold fitL
 simp only [List.getD_eq_getElem?_getD]
 by_cases h1 : p < (xs.take (min k size)).length
 ·rw [List.getElem?_append_left h1]
  rw [List.length_take] at h1
  rw [List.getElem?_take_of_lt (by omega), if_pos (by omega)]
 ·rw [List.getElem?_append_right (by omega), List.getElem?_replicate]
  rw [List.length_take] at h1 ⊢
  have hz : (if p - min (min k size) xs.length < k - min (min k size) xs.length then some (0 : UInt8) else none).getD 0 = 0 := by split <;> rfl
  rw [hz]
  by_cases h2 : p < size
  ·rw [if_pos h2, List.getElem?_eq_none (by omega)]
   rfl
  ·rw [if_neg h2]
theorem whole_at {bs : List UInt8} (hb : bs.length = 2048) {l : List EX} (hok : ok l = true) {j : Nat} (hj : j < (blkL l).length) {i : Nat} (hi : i < 64) : (wholeV bs l).getD (j * 64 + i) 0 = (page bs ((blkL l).getD j 0)).getD i 0 := by
 have key : ∀ (bl : List Nat), (∀ b ∈ bl, b < 32) → ∀ j, j < bl.length → (bl.flatMap (page bs)).getD (j * 64 + i) 0 = (page bs (bl.getD j 0)).getD i 0 := by
  intro bl
  induction bl with
  | nil => intro _ j hj; simp at hj
  | cons x r ih =>
   intro hg j hj
   have hx := page_len' hb (hg x (by simp))
   rw [List.flatMap_cons]
   simp only [List.getD_eq_getElem?_getD] at ih ⊢
   cases j with
   | zero =>
    rw [List.getElem?_append_left (by omega)]
    simp
   | succ j =>
    rw [List.getElem?_append_right (by omega), show (j + 1) * 64 + i - (page bs x).length = j * 64 + i by omega, ih (fun b h => hg b (by simp [h])) j (by simpa using hj)]
    simp
 unfold wholeV
 rw [blkO_yes hok]
 exact key _ (fun b h => ((ok_good l hok).2 b h).2) j hj
def tailK (R : List UInt8) (X : List EX) (N : Nat) (size : Int) : List UInt8 := if 0 < size % 64 then splice R ((blkL X).getD (N - 1) 0 * 64 + (size % 64).toNat) (List.replicate (64 - (size % 64).toNat) 0) else R
theorem rz_bytes {bs : List UInt8} (hb : bs.length = 2048) (ho : okR bs) {i : Nat} (hi : i < 8) (hf : isF (at' (readN bs) i) = true) (hok : ok (at' (readN bs) i).ext = true) (hbt : ∀ b ∈ blkL (at' (readN bs) i).ext, (usedN (readN bs)).testBit b = true)
  {size : Int} (h0 : 0 ≤ size) (h1 : size ≤ 1472) {N : Nat} (hN : needI size = N) (he : fitE (at' (readN bs) i).ext (usedN (readN bs)) N = 0) {X : List EX} (hX : fitX (at' (readN bs) i).ext (usedN (readN bs)) N = X) {y : IN} (hy : y = ⟨(at' (readN bs) i).name, size, X⟩) :
  tailK (setPage (setPage (zeroK bs (rzN (at' (readN bs) i).ext (usedN (readN bs)) N) (rzN (at' (readN bs) i).ext (usedN (readN bs)) N).length) (1 + i) (nodeL y)) 0 (headL (usedN ((readN bs).set i y)))) X N size
   = bytesL ⟨spreadV bs X (fitL (wholeV bs (at' (readN bs) i).ext) (N * 64) size.toNat), (readN bs).set i y⟩ := by
 have hr := readN_len bs
 have hrs : ((readN bs).set i y).length = 8 := by rw [List.length_set, hr]
 obtain ⟨f1, f2, f3⟩ := fit_blk hok hbt he
 rw [hX] at f1 f2 f3
 change blkL X = _ ++ rzN _ _ _ at f3
 have hgX := ok_good X f1
 have hgn : ∀ b ∈ rzN (at' (readN bs) i).ext (usedN (readN bs)) N, b < 32 := fun b h => (rzN_mem h).2.1
 have hg9 : ∀ b ∈ rzN (at' (readN bs) i).ext (usedN (readN bs)) N, 9 ≤ b := fun b h => (rzN_mem h).1
 have hnn : (rzN (at' (readN bs) i).ext (usedN (readN bs)) N).Nodup := ((freeL_good _).take _).1
 have hdis : ∀ b ∈ rzN (at' (readN bs) i).ext (usedN (readN bs)) N, b ∉ blkL (at' (readN bs) i).ext := fun b h hc => by
  have e1 := (rzN_mem h).2.2
  rw [hbt b hc] at e1
  cases e1
 have hWl := wholeV_len hb (at' (readN bs) i).ext
 rw [blkO_yes hok] at hWl
 have hnb := needI_bd h0 h1
 have hwat := fun j hj k hk => whole_at (bs := bs) hb hok (j := j) hj (i := k) hk
 have hlen1 := zeroK_len hb hgn (k := (rzN (at' (readN bs) i).ext (usedN (readN bs)) N).length) (Nat.le_refl _)
 have hzp := fun c (hc : c < 32) => zeroK_page hb hgn hnn hc
 have hat : ∀ j, j < 8 → j ≠ i → nodeL (at' ((readN bs).set i y) j) = page bs (1 + j) := fun j hj e => by
  rw [at_set _ (by omega), if_neg e, readN_at _ hj, node_back (ho.1 j hj)]
 have hati : at' ((readN bs).set i y) i = y := by rw [at_set _ (by omega), if_pos rfl]
 generalize rzN (at' (readN bs) i).ext (usedN (readN bs)) N = new at *
 generalize hl : (at' (readN bs) i).ext = l at *
 generalize zeroK bs new new.length = R1 at *
 have hlen2 := setP_len hlen1 (n := 1 + i) (by omega) (nodeL_len y)
 have hlen3 := setP_len hlen2 (n := 0) (by omega) (headL_len (usedN ((readN bs).set i y)))
 have hp3 : ∀ c, c < 32 → page (setPage (setPage R1 (1 + i) (nodeL y)) 0 (headL (usedN ((readN bs).set i y)))) c = if c = 0 then headL (usedN ((readN bs).set i y)) else if c = 1 + i then nodeL y else if c ∈ new then List.replicate 64 0 else page bs c := fun c hc => by
  rw [page_setP hlen2 (headL_len _) (by omega) hc, page_setP hlen1 (nodeL_len y) (by omega) hc, hzp c hc]
 generalize setPage (setPage R1 (1 + i) (nodeL y)) 0 (headL (usedN ((readN bs).set i y))) = R3 at *
 have hXl : (blkL X).length = N := f2
 have hXm : ∀ j, j < N → (blkL X).getD j 0 ∈ blkL X ∧ 9 ≤ (blkL X).getD j 0 ∧ (blkL X).getD j 0 < 32 := fun j hj => by
  rw [List.getD_eq_getElem?_getD, List.getElem?_eq_getElem (by omega)]
  have := hgX.2 _ (List.getElem_mem (show j < (blkL X).length by omega))
  exact ⟨List.getElem_mem _, this.1, this.2⟩
 have htp : ∀ c, c < 32 → page (tailK R3 X N size) c = if 0 < size % 64 ∧ c = (blkL X).getD (N - 1) 0 then splice (page R3 c) (size % 64).toNat (List.replicate (64 - (size % 64).toNat) 0) else page R3 c := fun c hc => by
  unfold tailK
  by_cases hs : 0 < size % 64
  ·have hm := hXm (N - 1) (by omega)
   rw [if_pos hs, page_in hlen3 hm.2.2 hc (by rw [List.length_replicate]; omega)]
   by_cases e : c = (blkL X).getD (N - 1) 0
   ·rw [if_pos e, if_pos ⟨hs, e⟩, e]
   ·rw [if_neg e, if_neg (fun h => e h.2)]
  ·rw [if_neg hs, if_neg (fun h => hs h.1)]
 have hlT : (tailK R3 X N size).length = 2048 := by
  unfold tailK
  by_cases hs : 0 < size % 64
  ·have hm := hXm (N - 1) (by omega)
   rw [if_pos hs, splice_len _ _ _ (by rw [List.length_replicate]; omega), hlen3]
  ·rw [if_neg hs, hlen3]
 have hfl := fitL_len (wholeV bs l) (N * 64) size.toNat
 have hSl : (spreadV bs X (fitL (wholeV bs l) (N * 64) size.toNat)).length = 2048 := by
  unfold spreadV
  exact spreadK_len _ hb (fun b h => ((blkO_good _).2 b h).2) _ (Nat.le_refl _) (by rw [hfl, blkO_yes f1, f2]; omega)
 refine page_ext hlT (bytesL_len hSl hrs) fun c hc => ?_
 rw [htp c hc]
 by_cases c9 : c < 9
 ·rw [if_neg (show ¬ (0 < size % 64 ∧ c = (blkL X).getD (N - 1) 0) from fun h => by have := h.1; have := h.2; have := (hXm (N - 1) (by omega)).2.1; omega), hp3 c hc]
  by_cases c0 : c = 0
  ·subst c0
   rw [if_pos rfl, bytesL_0]
  rw [if_neg c0]
  obtain ⟨j, rfl⟩ : ∃ j, c = 1 + j := ⟨c - 1, by omega⟩
  rw [bytesL_node hrs (by omega)]
  show _ = nodeL (at' ((readN bs).set i y) j)
  by_cases ej : j = i
  ·subst ej
   rw [if_pos rfl, hati]
  ·rw [if_neg (by omega), if_neg (fun h => by have := hg9 _ h; omega), hat j (by omega) ej]
 have hpc : page R3 c = if c ∈ new then List.replicate 64 0 else page bs c := by rw [hp3 c hc, if_neg (show ¬ c = 0 by omega), if_neg (show ¬ c = 1 + i by omega)]
 rw [bytesL_data hrs (by omega), hpc]
 show _ = page (spreadK bs (blkO X) _ (blkO X).length) c
 rw [blkO_yes f1]
 by_cases hcX : c ∈ blkL X
 ·obtain ⟨j, hj, rfl⟩ := List.getElem_of_mem hcX
  have hsp := spread_at (all := fitL (wholeV bs l) (N * 64) size.toNat) hb (fun b h => (hgX.2 b h).2) hgX.1 (blkL X).length (Nat.le_refl _) (by rw [hfl]; omega) j hj
  have hgd : (blkL X).getD j 0 = (blkL X)[j] := by rw [List.getD_eq_getElem?_getD, List.getElem?_eq_getElem hj]; rfl
  rw [hgd] at hsp
  rw [hsp]
  have hlast : (blkL X)[j] = (blkL X).getD (N - 1) 0 ↔ j = N - 1 := by
   rw [← hgd]
   constructor
   ·intro e
    rw [List.getD_eq_getElem?_getD, List.getD_eq_getElem?_getD, List.getElem?_eq_getElem hj, List.getElem?_eq_getElem (show N - 1 < (blkL X).length by omega)] at e
    exact (List.getElem_inj hgX.1).1 e
   ·intro e; rw [e]
  have hbase : ∀ k, k < 64 → (if (blkL X)[j] ∈ new then List.replicate 64 (0 : UInt8) else page bs (blkL X)[j]).getD k 0 = (wholeV bs l).getD (j * 64 + k) 0 := fun k hk => by
   by_cases hjl : j < (blkL l).length
   ·have e : (blkL X)[j] = (blkL l).getD j 0 := by
     have : (blkL X)[j]? = (blkL l)[j]? := by rw [f3, List.getElem?_append_left (by rw [List.length_take]; omega), List.getElem?_take_of_lt (by omega)]
     rw [List.getElem?_eq_getElem hj, List.getElem?_eq_getElem hjl] at this
     rw [List.getD_eq_getElem?_getD, List.getElem?_eq_getElem hjl]
     exact Option.some.inj this
    rw [e, hwat j hjl k hk, if_neg (fun h => hdis _ h (by rw [List.getD_eq_getElem?_getD, List.getElem?_eq_getElem hjl]; exact List.getElem_mem _))]
   ·have hm : (blkL X)[j] ∈ new := by
     have : (blkL X)[j]? = new[j - ((blkL l).take N).length]? := by rw [f3, List.getElem?_append_right (by rw [List.length_take]; omega)]
     rw [List.getElem?_eq_getElem hj] at this
     exact List.mem_of_getElem? this.symm
    rw [if_pos hm, List.getD_eq_getElem?_getD, List.getD_eq_getElem?_getD, List.getElem?_replicate, if_pos hk, List.getElem?_eq_none (by omega)]
    rfl
  have hbl : (if (blkL X)[j] ∈ new then List.replicate 64 (0 : UInt8) else page bs (blkL X)[j]).length = 64 := by
   split
   ·simp
   ·exact page_len' hb (hgX.2 _ (List.getElem_mem _)).2
  generalize (if (blkL X)[j] ∈ new then List.replicate 64 (0 : UInt8) else page bs (blkL X)[j]) = P at *
  have hpf : (page (fitL (wholeV bs l) (N * 64) size.toNat) j).length = 64 := page_all (by rw [hfl]; omega)
  refine ext_getD ?_ fun k hk => ?_
  ·rw [hpf]
   split
   ·rw [splice_len _ _ _ (by simp; omega), hbl]
   ·exact hbl
  ·have hk64 : k < 64 := by
    split at hk
    ·rw [splice_len _ _ _ (by simp; omega), hbl] at hk; exact hk
    ·rw [hbl] at hk; exact hk
   rw [getD_page _ _ _ hk64, getD_fit (by omega)]
   by_cases hs : 0 < size % 64 ∧ (blkL X)[j] = (blkL X).getD (N - 1) 0
   ·have ej := hlast.1 hs.2
    rw [if_pos hs, Mm.getD_splice _ _ _ _ (by simp; omega)]
    by_cases hlt : k < (size % 64).toNat
    ·rw [if_pos hlt, if_pos (by omega), hbase k hk64]
    ·rw [if_neg hlt, if_pos (show k < (size % 64).toNat + (List.replicate (64 - (size % 64).toNat) (0 : UInt8)).length by rw [List.length_replicate]; omega), if_neg (show ¬ j * 64 + k < size.toNat by omega), List.getD_eq_getElem?_getD, List.getElem?_replicate]
     split <;> rfl
   ·rw [if_neg hs, if_pos ?_, hbase k hk64]
    by_cases hs2 : 0 < size % 64
    ·have ej : j ≠ N - 1 := fun e => hs ⟨hs2, hlast.2 e⟩
     omega
    ·omega
 ·rw [if_neg (show ¬ (0 < size % 64 ∧ c = (blkL X).getD (N - 1) 0) from ?_), spread_other hb (fun b h => (hgX.2 b h).2) hc hcX _ (Nat.le_refl _) (by rw [hfl]; omega)]
  ·rw [if_neg (fun h => hcX (by rw [f3]; exact List.mem_append.2 (.inr h)))]
  ·rintro ⟨hs, e⟩
   exact hcX (by rw [e]; exact (hXm (N - 1) (by omega)).1)
end Go.Proofs.YtefgabnmcfpdcaaGreatDoor.Fr
