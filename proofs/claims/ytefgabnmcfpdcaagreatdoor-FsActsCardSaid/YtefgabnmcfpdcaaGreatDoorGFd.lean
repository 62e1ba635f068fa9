/-
  Merged by wip/tools/merge.py: FsApt FsGood FsOps FsFind FsName FsData
-/
import Derived.Test.YtefgabnmcfpdcaaGreatDoorGFc
namespace Go.Proofs.YtefgabnmcfpdcaaGreatDoor.Fs
open Go.RowKit Ex Ino Mm
set_option linter.unusedVariables false
theorem usedF_bit (ns : List IN) (b : Nat) : ∀ pre, (usedF ns pre).testBit b = true ↔ ∃ i ∈ pre, b ∈ blkO (at' ns i).ext := snoc_ind (by simp [usedF]) fun q i ih => by
 rw [usedF_snoc, Nat.testBit_or, Bool.or_eq_true, ih, bitsF, setN_bit, decide_eq_true_iff]
 constructor
 ·rintro (⟨j, hj, h⟩ | h)
  ·exact ⟨j, List.mem_append_left _ hj, h⟩
  ·exact ⟨i, by simp, h⟩
 ·rintro ⟨j, hj, h⟩
  rcases List.mem_append.1 hj with hj | hj
  ·exact .inl ⟨j, hj, h⟩
  ·rw [List.mem_singleton] at hj
   subst hj
   exact .inr h
theorem and_zero (a b : Nat) : a &&& b = 0 ↔ ∀ i, b.testBit i = true → ¬ a.testBit i = true := by
 constructor
 ·intro h i hb ha
  have := congrArg (fun n => n.testBit i) h
  simp only [Nat.testBit_and, Nat.zero_testBit, ha, hb] at this
  cases this
 ·intro h
  refine bit_eq fun i => ?_
  rw [Nat.testBit_and, Nat.zero_testBit]
  cases hb : b.testBit i with
  | false => simp
  | true =>
   have := h i hb
   simp only [Bool.not_eq_true] at this
   rw [this]
   rfl
def Sep (ns : List IN) (i j : Nat) : Prop := (at' ns i).name ≠ (at' ns j).name ∧ ∀ b ∈ blkO (at' ns i).ext, b ∉ blkO (at' ns j).ext
theorem Sep.symm {ns : List IN} {i j : Nat} (h : Sep ns i j) : Sep ns j i := ⟨fun e => h.1 e.symm, fun b hb hc => h.2 b hc hb⟩
theorem apartB_iff (ns : List IN) (q : List Nat) (i : Nat) : apartB ns q i = true ↔ ∀ j ∈ q, Sep ns j i := by
 unfold apartB
 rw [Bool.and_eq_true, decide_eq_true_iff, and_zero, Bool.not_eq_true', List.contains_eq_mem, decide_eq_false_iff_not]
 constructor
 ·rintro ⟨h1, h2⟩ j hj
  refine ⟨fun e => h1 (List.mem_map.2 ⟨j, hj, e⟩), fun b hb hc => ?_⟩
  exact h2 b (by rw [bitsF, setN_bit]; exact decide_eq_true hc) ((usedF_bit ns b q).2 ⟨j, hj, hb⟩)
 ·intro h
  refine ⟨fun hm => ?_, fun b hb hu => ?_⟩
  ·obtain ⟨j, hj, e⟩ := List.mem_map.1 hm
   exact (h j hj).1 e
  ·rw [bitsF, setN_bit, decide_eq_true_iff] at hb
   obtain ⟨j, hj, hc⟩ := (usedF_bit ns b q).1 hu
   exact (h j hj).2 b hc hb
theorem apartP_pair (ns : List IN) : ∀ pre, apartP ns pre ↔ pre.Pairwise (Sep ns) := snoc_ind (by simp [apartP_nil]) fun q i ih => by
 rw [apartP_snoc, ih, apartB_iff, List.pairwise_append]
 simp
theorem pairwise_rise {R : Nat → Nat → Prop} : ∀ {l : List Nat}, l.Pairwise (· < ·) → (l.Pairwise R ↔ ∀ i ∈ l, ∀ j ∈ l, i < j → R i j)
 | [], _ => by simp
 | a :: l, h => by
  obtain ⟨h1, h2⟩ := List.pairwise_cons.1 h
  rw [List.pairwise_cons, pairwise_rise h2]
  constructor
  ·rintro ⟨k1, k2⟩ i hi j hj hlt
   rcases List.mem_cons.1 hi with e1 | hi2
   ·subst e1
    rcases List.mem_cons.1 hj with e2 | hj2
    ·omega
    ·exact k1 j hj2
   ·rcases List.mem_cons.1 hj with e2 | hj2
    ·have := h1 i hi2; omega
    ·exact k2 i hi2 j hj2 hlt
  ·intro k
   exact ⟨fun j hj => k a (by simp) j (by simp [hj]) (h1 j hj), fun i hi j hj hlt => k i (by simp [hi]) j (by simp [hj]) hlt⟩
theorem idxL_rise (ns : List IN) : (idxL ns).Pairwise (· < ·) := List.Pairwise.filter _ List.pairwise_lt_range
theorem idxL_mem {ns : List IN} {i : Nat} : i ∈ idxL ns ↔ i < 8 ∧ isF (at' ns i) = true := by simp [idxL]
def Apart (ns : List IN) : Prop := ∀ i j, i < 8 → j < 8 → i ≠ j → isF (at' ns i) = true → isF (at' ns j) = true → Sep ns i j
theorem apart_iff (ns : List IN) : apartP ns (idxL ns) ↔ Apart ns := by
 rw [apartP_pair, pairwise_rise (idxL_rise ns)]
 constructor
 ·intro h i j hi hj hne fi fj
  rcases Nat.lt_or_gt_of_ne hne with h1 | h1
  ·exact h i (idxL_mem.2 ⟨hi, fi⟩) j (idxL_mem.2 ⟨hj, fj⟩) h1
  ·exact (h j (idxL_mem.2 ⟨hj, fj⟩) i (idxL_mem.2 ⟨hi, fi⟩) h1).symm
 ·intro h i hi j hj hlt
  exact h i j (idxL_mem.1 hi).1 (idxL_mem.1 hj).1 (by omega) (idxL_mem.1 hi).2 (idxL_mem.1 hj).2
theorem usedN_bit (ns : List IN) (b : Nat) : (usedN ns).testBit b = true ↔ ∃ i, i < 8 ∧ isF (at' ns i) = true ∧ b ∈ blkO (at' ns i).ext := by
 unfold usedN
 rw [usedF_bit]
 constructor
 ·rintro ⟨i, hi, h⟩
  exact ⟨i, (idxL_mem.1 hi).1, (idxL_mem.1 hi).2, h⟩
 ·rintro ⟨i, h1, h2, h3⟩
  exact ⟨i, idxL_mem.2 ⟨h1, h2⟩, h3⟩
end Go.Proofs.YtefgabnmcfpdcaaGreatDoor.Fs
namespace Go.Proofs.YtefgabnmcfpdcaaGreatDoor.Fs
open Go.RowKit Ex Ino Mm
set_option linter.unusedVariables false
structure RGood (g : RG) : Prop where
 bl : g.bs.length = 2048
 nl : g.ns.length = 8
 nd : ∀ i, i < 8 → at' g.ns i = in0 ∨ chkB (at' g.ns i) = true
 ap : Apart g.ns
theorem readN_at (bs : List UInt8) {i : Nat} (h : i < 8) : at' (readN bs) i = decX (page bs (1 + i)) := by
 unfold at' readN
 simp [List.getD_eq_getElem?_getD, h]
theorem decX_or (b : List UInt8) : decX b = in0 ∨ chkB (decX b) = true := by
 unfold decX
 by_cases h : isIn b = true
 ·rw [if_pos h]
  unfold isIn at h
  simp only [Bool.and_eq_true] at h
  exact .inr h.1
 ·rw [if_neg h]
  exact .inl rfl
theorem good_of {M : List UInt8} (hm : M.length = 8192) (h : okP M) : RGood ⟨regB M, readN (regB M)⟩ := by
 refine ⟨by simp [regB, hm], readN_len _, fun i hi => ?_, ?_⟩
 ·simp only [readN_at _ hi]
  exact decX_or _
 ·exact (apart_iff _).1 h.2.1
theorem chk_in0 : chkB in0 = false := by simp [chkB, in0, nameB]
theorem nodeL_in0 : nodeL in0 = zr64 := by simp [nodeL, encO, chk_in0, padB, zr64]
theorem nodeL_chk {x : IN} (h : chkB x = true) : nodeL x = encL x := by
 unfold nodeL padB encO
 rw [if_pos h, encL_len]
 simp
theorem decX_node {x : IN} (h : x = in0 ∨ chkB x = true) : decX (nodeL x) = x ∧ decE (nodeL x) = 0 := by
 rcases h with rfl | h
 ·rw [nodeL_in0]
  exact ⟨by simp [decX, isIn_zero], decE_zero⟩
 ·rw [nodeL_chk h]
  unfold decX decE
  rw [isIn_enc h]
  exact ⟨by rw [if_pos rfl, (read_enc h).1], rfl⟩
theorem flat_len (ns : List IN) : (ns.flatMap nodeL).length = 64 * ns.length := by
 induction ns with
 | nil => rfl
 | cons x r ih => rw [List.flatMap_cons, List.length_append, nodeL_len, ih, List.length_cons]; omega
theorem bytesL_len {g : RG} (h1 : g.bs.length = 2048) (h2 : g.ns.length = 8) : (bytesL g).length = 2048 := by
 unfold bytesL
 rw [List.length_append, List.length_append, headL_len, flat_len, List.length_drop]
 omega
theorem page_flat : ∀ (ns : List IN) (r : List UInt8) (i : Nat), i < ns.length → page (ns.flatMap nodeL ++ r) i = nodeL (at' ns i)
 | [], _, _, h => by simp at h
 | x :: ns, r, 0, _ => by
  unfold page
  rw [List.flatMap_cons, List.append_assoc, Nat.zero_mul, List.drop_zero, List.take_append_of_le_length (by rw [nodeL_len]; exact Nat.le_refl _), List.take_of_length_le (by rw [nodeL_len]; exact Nat.le_refl _)]
  rfl
 | x :: ns, r, i + 1, h => by
  have ih := page_flat ns r i (by simpa using h)
  unfold page at ih ⊢
  rw [List.flatMap_cons, List.append_assoc, show (i + 1) * 64 = (nodeL x).length + i * 64 by rw [nodeL_len]; omega, List.drop_append, List.drop_of_length_le (by omega), List.nil_append, show (nodeL x).length + i * 64 - (nodeL x).length = i * 64 by omega, ih]
  rfl
theorem page_head {h r : List UInt8} (hl : h.length = 64) (i : Nat) : page (h ++ r) 0 = h ∧ page (h ++ r) (1 + i) = page r i := by
 unfold page
 constructor
 ·rw [Nat.zero_mul, List.drop_zero, List.take_append_of_le_length (by omega), List.take_of_length_le (by omega)]
 ·rw [show (1 + i) * 64 = h.length + i * 64 by omega, List.drop_append, List.drop_of_length_le (by omega), List.nil_append, show h.length + i * 64 - h.length = i * 64 by omega]
theorem bytesL_0 (g : RG) : page (bytesL g) 0 = headL (usedN g.ns) := (page_head (headL_len _) 0).1
theorem bytesL_node {g : RG} (h : g.ns.length = 8) {i : Nat} (hi : i < 8) : page (bytesL g) (1 + i) = nodeL (at' g.ns i) := by
 unfold bytesL
 rw [(page_head (headL_len _) i).2, page_flat _ _ _ (by omega)]
theorem bytesL_data {g : RG} (h : g.ns.length = 8) {b : Nat} (hb : 9 ≤ b) : page (bytesL g) b = page g.bs b := by
 obtain ⟨k, rfl⟩ : ∃ k, b = 1 + (8 + k) := ⟨b - 9, by omega⟩
 unfold bytesL
 rw [(page_head (headL_len _) _).2]
 unfold page
 rw [show (8 + k) * 64 = (g.ns.flatMap nodeL).length + k * 64 by rw [flat_len, h]; omega, List.drop_append, List.drop_of_length_le (by omega), List.nil_append, show (g.ns.flatMap nodeL).length + k * 64 - (g.ns.flatMap nodeL).length = k * 64 by omega, List.drop_drop]
 congr 2
 omega
theorem list_at {ns ms : List IN} (h1 : ns.length = 8) (h2 : ms.length = 8) (h : ∀ i, i < 8 → at' ns i = at' ms i) : ns = ms := by
 apply List.ext_getElem (by omega)
 intro i h3 h4
 have := h i (by omega)
 unfold at' at this
 rw [List.getD_eq_getElem?_getD, List.getD_eq_getElem?_getD, List.getElem?_eq_getElem h3, List.getElem?_eq_getElem h4] at this
 simpa using this
theorem read_bytes {g : RG} (h : RGood g) : readN (bytesL g) = g.ns ∧ decP (bytesL g) ∧ wholeP ⟨bytesL g, g.ns⟩ := by
 refine ⟨list_at (readN_len _) h.nl fun i hi => ?_, fun i hi => ?_, (apart_iff _).2 h.ap, bytesL_0 g⟩
 ·rw [readN_at _ hi, bytesL_node h.nl hi, (decX_node (h.nd i hi)).1]
 ·rw [bytesL_node h.nl hi, (decX_node (h.nd i hi)).2]
theorem regB_lay {M xs : List UInt8} (hm : M.length = 8192) (hx : xs.length = 2048) : regB (layL M 6144 xs) = xs := by
 refine ext_getD (by simp [regB, layL_len, hm, hx]) fun k hk => ?_
 have hk' : k < 2048 := by simpa [regB, layL_len, hm] using hk
 have e : (regB (layL M 6144 xs)).getD k 0 = (layL M 6144 xs).getD (6144 + k) 0 := by
  unfold regB
  simp only [List.getD_eq_getElem?_getD, List.getElem?_drop]
 rw [e, getD_layL _ _ _ _ (by omega), if_pos (by omega), byt_in _ _ (by omega)]
 congr 1
 omega
theorem reread {M : List UInt8} {g : RG} (hm : M.length = 8192) (h : RGood g) : okP (layL M 6144 (bytesL g)) ∧ regB (layL M 6144 (bytesL g)) = bytesL g ∧ readN (bytesL g) = g.ns := by
 obtain ⟨h1, h2, h3⟩ := read_bytes h
 have e := regB_lay hm (bytesL_len h.bl h.nl)
 refine ⟨?_, e, h1⟩
 unfold okP
 rw [e, h1]
 exact ⟨h2, h3⟩
theorem RGood.again {g : RG} (h : RGood g) : RGood ⟨bytesL g, g.ns⟩ := ⟨bytesL_len h.bl h.nl, h.nl, h.nd, h.ap⟩
end Go.Proofs.YtefgabnmcfpdcaaGreatDoor.Fs
namespace Go.Proofs.YtefgabnmcfpdcaaGreatDoor.Fs
open Go.RowKit Ex Ino Mm
set_option linter.unusedVariables false
theorem at_set {ns : List IN} (h : ns.length = 8) {i : Nat} (hi : i < 8) (x : IN) (j : Nat) : at' (ns.set i x) j = if j = i then x else at' ns j := by
 unfold at'
 rw [List.getD_eq_getElem?_getD, List.getElem?_set]
 by_cases e : i = j
 ·subst e
  simp [h, hi]
 ·rw [if_neg e, if_neg (fun e' => e e'.symm), List.getD_eq_getElem?_getD]
theorem isF_chk {x : IN} (h : chkB x = true) : isF x = true := by
 have := (chk_parts h).1.1
 unfold isF
 rw [decide_eq_true_iff]
 intro e
 rw [e] at this
 simp at this
theorem isF_in0 : isF in0 = false := rfl
theorem RGood.isF_iff {g : RG} (h : RGood g) {i : Nat} (hi : i < 8) : isF (at' g.ns i) = true ↔ chkB (at' g.ns i) = true := by
 rcases h.nd i hi with e | e
 ·rw [e, isF_in0, chk_in0]
 ·exact ⟨fun _ => e, fun _ => isF_chk e⟩
theorem RGood.free {g : RG} (h : RGood g) {i : Nat} (hi : i < 8) (hn : (at' g.ns i).name = []) : at' g.ns i = in0 := by
 rcases h.nd i hi with e | e
 ·exact e
 ·have := isF_chk e
  unfold isF at this
  rw [decide_eq_true_iff] at this
  exact absurd hn this
theorem good_set {g : RG} (h : RGood g) {i : Nat} (hi : i < 8) {x : IN} (hx : x = in0 ∨ chkB x = true) {bs : List UInt8} (hb : bs.length = 2048)
  (hs : isF x = true → ∀ j, j < 8 → j ≠ i → isF (at' g.ns j) = true → x.name ≠ (at' g.ns j).name ∧ ∀ b ∈ blkO x.ext, b ∉ blkO (at' g.ns j).ext) : RGood ⟨bs, g.ns.set i x⟩ := by
 refine ⟨hb, by simp [h.nl], fun j hj => ?_, fun j k hj hk hne fj fk => ?_⟩
 ·simp only [at_set h.nl hi]
  split
  ·exact hx
  ·exact h.nd j hj
 ·simp only [at_set h.nl hi] at fj fk ⊢
  unfold Sep
  rw [at_set h.nl hi, at_set h.nl hi]
  by_cases e1 : j = i
  ·subst e1
   rw [if_pos rfl] at fj
   rw [if_neg (fun e => hne e.symm)] at fk
   rw [if_pos rfl, if_neg (fun e => hne e.symm)]
   exact hs fj k hk (fun e => hne e.symm) fk
  ·rw [if_neg e1] at fj
   rw [if_neg e1]
   by_cases e2 : k = i
   ·subst e2
    rw [if_pos rfl] at fk
    rw [if_pos rfl]
    have := hs fk j hj e1 fj
    exact ⟨fun e => this.1 e.symm, fun b h1 h2 => this.2 b h2 h1⟩
   ·rw [if_neg e2] at fk
    rw [if_neg e2]
    exact h.ap j k hj hk hne fj fk
theorem find_some {ns : List IN} {name : List UInt8} {i : Nat} (h : findI ns name = some i) : i < 8 ∧ isF (at' ns i) = true ∧ (at' ns i).name = name := by
 have h1 := List.find?_some h
 have h2 := List.mem_of_find?_eq_some h
 rw [idxL_mem] at h2
 exact ⟨h2.1, h2.2, by simpa using h1⟩
theorem find_none {ns : List IN} {name : List UInt8} (h : findI ns name = none) {i : Nat} (hi : i < 8) (hf : isF (at' ns i) = true) : (at' ns i).name ≠ name := by
 have := List.find?_eq_none.1 h i (idxL_mem.2 ⟨hi, hf⟩)
 simpa using this
theorem findE_zero {ns : List IN} {name : List UInt8} : findE ns name = 0 ↔ nameB name = true ∧ ∃ i, findI ns name = some i := by
 unfold findE
 cases nameB name with
 | false => simp
 | true =>
  cases findI ns name with
  | none => simp
  | some i => simp
theorem findE_miss {ns : List IN} {name : List UInt8} : findE ns name = 123 ↔ nameB name = true ∧ findI ns name = none := by
 unfold findE
 cases nameB name with
 | false => simp
 | true =>
  cases findI ns name with
  | none => simp
  | some i => simp
theorem absent_zero {ns : List IN} {name : List UInt8} : absentE ns name = 0 ↔ nameB name = true ∧ findI ns name = none := by
 unfold absentE
 rw [← findE_miss]
 by_cases h0 : findE ns name = 0
 ·rw [if_pos h0, h0]
  simp
 ·rw [if_neg h0]
  by_cases h1 : findE ns name = 123
  ·rw [if_pos h1]
   simp [h1]
  ·rw [if_neg h1]
   simp [h0, h1]
theorem nodeE_zero {ns : List IN} {n : Int} : nodeE ns n = 0 ↔ (0 ≤ n ∧ n < 8) ∧ isF (at' ns n.toNat) = true := by
 unfold nodeE isF
 by_cases h : n < 0 ∨ 8 ≤ n
 ·rw [if_pos h]
  constructor
  ·intro e; cases e
  ·rintro ⟨⟨_, _⟩, _⟩; omega
 ·rw [if_neg h]
  by_cases h1 : (at' ns n.toNat).name = []
  ·rw [if_pos h1]
   simp [h1]
  ·rw [if_neg h1]
   simp only [h1, ne_eq, not_false_eq_true, decide_true, and_true, true_iff]
   omega
theorem nameB_ne {s : List UInt8} (h : nameB s = true) : s ≠ [] := by
 unfold nameB at h
 simp only [Bool.and_eq_true, decide_eq_true_eq] at h
 intro e
 rw [e] at h
 simp at h
theorem ok_nil : ok [] = true := rfl
theorem blkO_nil : blkO [] = [] := rfl
theorem chk_new {name : List UInt8} (h : nameB name = true) : chkB ⟨name, 0, []⟩ = true := by
 unfold chkB
 simp [h, ok_nil, blkO_nil, needI]
theorem free_some {ns : List IN} {i : Nat} (h : freeI ns = some i) : i < 8 ∧ (at' ns i).name = [] := by
 have h1 := List.find?_some h
 have h2 := List.mem_of_find?_eq_some h
 exact ⟨by simpa using h2, by simpa using h1⟩
theorem create_good {g : RG} (h : RGood g) (name : List UInt8) (he : (createV g name).1 = 0) :
  ∃ i, freeI g.ns = some i ∧ absentE g.ns name = 0 ∧ createV g name = (0, i, ⟨g.bs, g.ns.set i ⟨name, 0, []⟩⟩) ∧ RGood ⟨g.bs, g.ns.set i ⟨name, 0, []⟩⟩ := by
 unfold createV at he ⊢
 by_cases ha : absentE g.ns name = 0
 ·rw [if_pos ha] at he
  rw [if_pos ha]
  cases hf : freeI g.ns with
  | none => rw [hf] at he; cases he
  | some i =>
   obtain ⟨hi, hn⟩ := free_some hf
   obtain ⟨h1, h2⟩ := absent_zero.1 ha
   refine ⟨i, rfl, ha, ?_, good_set h hi (.inr (chk_new h1)) h.bl fun _ j hj hne fj => ⟨fun e => find_none h2 hj fj e.symm, fun b hb => by cases hb⟩⟩
   simp only [h.free hi hn]
   rfl
 ·rw [if_neg ha] at he
  exact absurd he ha
theorem remove_good {g : RG} (h : RGood g) (name : List UInt8) (he : (removeV g name).1 = 0) :
  ∃ i, findI g.ns name = some i ∧ i < 8 ∧ removeV g name = (0, ⟨g.bs, g.ns.set i in0⟩) ∧ RGood ⟨g.bs, g.ns.set i in0⟩ := by
 unfold removeV at he ⊢
 by_cases hf : findE g.ns name = 0
 ·rw [if_pos hf]
  obtain ⟨h1, i, h2⟩ := findE_zero.1 hf
  have e : findN g.ns name = i := by unfold findN; rw [h1, h2]; rfl
  rw [e]
  exact ⟨i, h2, (find_some h2).1, rfl, good_set h (find_some h2).1 (.inl rfl) h.bl fun hx => by rw [isF_in0] at hx; cases hx⟩
 ·rw [if_neg hf] at he
  exact absurd he hf
theorem chk_named {x : IN} (h : chkB x = true) {t : List UInt8} (ht : nameB t = true) : chkB { x with name := t } = true := by
 unfold chkB at h ⊢
 simp only [Bool.and_eq_true] at h ⊢
 exact ⟨ht, h.2⟩
theorem rename_good {g : RG} (h : RGood g) (f t : List UInt8) (he : (renameV g f t).1 = 0) :
  ∃ i, findI g.ns f = some i ∧ i < 8 ∧ absentE g.ns t = 0 ∧ renameV g f t = (0, ⟨g.bs, g.ns.set i { at' g.ns i with name := t }⟩) ∧ RGood ⟨g.bs, g.ns.set i { at' g.ns i with name := t }⟩ := by
 unfold renameV at he ⊢
 by_cases hn : nameB f = false ∨ nameB t = false
 ·rw [if_pos hn] at he; cases he
 rw [if_neg hn] at he ⊢
 by_cases hf : findE g.ns f = 0
 ·rw [if_pos hf] at he ⊢
  obtain ⟨h1, i, h2⟩ := findE_zero.1 hf
  have e : findN g.ns f = i := by unfold findN; rw [h1, h2]; rfl
  rw [e] at he ⊢
  by_cases ha : absentE g.ns t = 0
  ·rw [if_pos ha]
   obtain ⟨hi, fi, ni⟩ := find_some h2
   obtain ⟨g1, g2⟩ := absent_zero.1 ha
   refine ⟨i, h2, hi, ha, rfl, good_set h hi (.inr (chk_named ((h.isF_iff hi).1 fi) g1)) h.bl fun _ j hj hne fj => ⟨fun e => find_none g2 hj fj e.symm, ?_⟩⟩
   exact (h.ap i j hi hj (fun e => hne e.symm) fi fj).2
  ·rw [if_neg ha] at he
   exact absurd he ha
 ·rw [if_neg hf] at he
  exact absurd he hf
theorem shrink_blk {l : List EX} (h : ok l = true) (u : Nat) {m : Nat} (hm : m ≤ (blkL l).length) : (shrinkV l u m).2.2 = 0 ∧ ok (shrinkV l u m).1 = true ∧ blkL (shrinkV l u m).1 = (blkL l).take m := by
 have e : shrinkV l u m = (extV [] ((blkL l).take m), andN u (setN ((blkL l).drop m)), 0) := by
  unfold shrinkV
  rw [if_neg (by rw [h]; rintro (h | h | h); cases h; omega; omega), Int.toNat_natCast]
 rw [e]
 have := extV_ok ((blkL l).take m) [] rfl (by simpa [blkL] using (ok_good l h).take m)
 exact ⟨rfl, this.1, by simpa [blkL] using this.2⟩
theorem grow_blk {l : List EX} (h : ok l = true) {u : Nat} (hu : ∀ b ∈ blkL l, u.testBit b = true) {k : Nat} (hk : k ≤ (freeL u).length) : (growV l u k).2.2 = 0 ∧ ok (growV l u k).1 = true ∧ blkL (growV l u k).1 = blkL l ++ (freeL u).take k := by
 have e : growV l u k = (extV l ((freeL u).take k), u ||| setN ((freeL u).take k), 0) := by
  unfold growV
  rw [if_neg (by rw [h]; rintro (h | h); cases h; omega), if_neg (by omega), Int.toNat_natCast]
 rw [e]
 have hg := (freeL_good u).take k
 have hz : ∀ b ∈ (freeL u).take k, u.testBit b = false := fun b hb => (frL_mem.1 (List.mem_of_mem_take hb)).2.2
 have := extV_ok ((freeL u).take k) l h ⟨List.nodup_append.2 ⟨(ok_good l h).1, hg.1, fun a ha b hb' e => by
  subst e
  have h1 := hu a ha
  rw [hz a hb'] at h1
  cases h1⟩, fun b hb' => by
   rcases List.mem_append.1 hb' with h1 | h1
   ·exact (ok_good l h).2 b h1
   ·exact hg.2 b h1⟩
 exact ⟨rfl, this⟩
theorem grow_full {l : List EX} (h : ok l = true) {u : Nat} {k : Nat} (hk : (freeL u).length < k) : (growV l u k).2.2 = 50 := by
 unfold growV
 rw [if_neg (by rw [h]; rintro (h | h); cases h; omega), if_pos (by omega)]
theorem fit_zero {l : List EX} (h : ok l = true) {u : Nat} (hu : ∀ b ∈ blkL l, u.testBit b = true) (m : Nat) : fitE l u m = 0 ↔ m - (blkL l).length ≤ (freeL u).length := by
 unfold fitE
 rw [blkO_yes h]
 by_cases hlt : (blkL l).length < m
 ·rw [if_pos hlt, show ((m : Int) - ((blkL l).length : Int)) = ((m - (blkL l).length : Nat) : Int) by omega]
  by_cases hk : m - (blkL l).length ≤ (freeL u).length
  ·rw [if_pos (grow_blk h hu hk).1]
   simp [hk]
  ·rw [if_neg (by rw [grow_full h (by omega)]; decide)]
   constructor
   ·intro e; cases e
   ·intro e; exact absurd e hk
 ·rw [if_neg hlt]
  have := (shrink_blk h u (m := m) (by omega)).1
  rw [this]
  simp only [true_iff]
  omega
theorem fit_full {l : List EX} (h : ok l = true) {u : Nat} (hu : ∀ b ∈ blkL l, u.testBit b = true) (m : Nat) : fitE l u m = 0 ∨ fitE l u m = 125 := by
 unfold fitE
 rw [blkO_yes h]
 by_cases hlt : (blkL l).length < m
 ·rw [if_pos hlt]
  split
  ·exact .inl rfl
  ·exact .inr rfl
 ·rw [if_neg hlt]
  exact .inl (shrink_blk h u (m := m) (by omega)).1
theorem fit_blk {l : List EX} (h : ok l = true) {u : Nat} (hu : ∀ b ∈ blkL l, u.testBit b = true) {m : Nat} (he : fitE l u m = 0) :
  ok (fitX l u m) = true ∧ (blkL (fitX l u m)).length = m ∧ blkL (fitX l u m) = (blkL l).take m ++ (freeL u).take (m - (blkL l).length) := by
 have hk := (fit_zero h hu m).1 he
 unfold fitX
 rw [blkO_yes h]
 by_cases hlt : (blkL l).length < m
 ·rw [if_pos hlt, show ((m : Int) - ((blkL l).length : Int)) = ((m - (blkL l).length : Nat) : Int) by omega]
  obtain ⟨h1, h2, h3⟩ := grow_blk h hu hk
  rw [if_pos h1, List.take_of_length_le (by omega)]
  refine ⟨h2, ?_, h3⟩
  rw [h3, List.length_append, List.length_take]
  omega
 ·rw [if_neg hlt]
  obtain ⟨_, h2, h3⟩ := shrink_blk h u (m := m) (by omega)
  refine ⟨h2, by rw [h3, List.length_take]; omega, ?_⟩
  rw [h3, show m - (blkL l).length = 0 by omega]
  simp
theorem spreadK_len {bs all : List UInt8} (bl : List Nat) (hb : bs.length = 2048) (hg : ∀ b ∈ bl, b < 32) : ∀ k, k ≤ bl.length → 64 * k ≤ all.length → (spreadK bs bl all k).length = 2048
 | 0, _, _ => hb
 | k + 1, hk, ha => by
  have ih := spreadK_len (all := all) bl hb hg k (by omega) (by omega)
  have h1 : bl.getD k 0 < 32 := by
   rw [List.getD_eq_getElem?_getD, List.getElem?_eq_getElem (by omega)]
   exact hg _ (List.getElem_mem _)
  have h2 : (page all k).length = 64 := by unfold page; rw [List.length_take, List.length_drop]; omega
  show (splice _ _ _).length = _
  unfold splice
  simp only [List.length_append, List.length_take, List.length_drop, h2, ih]
  omega
theorem wholeV_len {bs : List UInt8} (hb : bs.length = 2048) (l : List EX) : (wholeV bs l).length = 64 * (blkO l).length := by
 unfold wholeV
 have hg := fun b hb => ((blkO_good l).2 b hb).2
 generalize blkO l = bl at *
 induction bl with
 | nil => rfl
 | cons x r ih =>
  rw [List.flatMap_cons, List.length_append, ih (fun b h => hg b (by simp [h])), List.length_cons]
  have := hg x (by simp)
  unfold page
  rw [List.length_take, List.length_drop]
  omega
theorem fitL_len (xs : List UInt8) (k size : Nat) : (fitL xs k size).length = k := by
 unfold fitL
 rw [List.length_append, List.length_replicate, List.length_take]
 omega
theorem RGood.bits {g : RG} (h : RGood g) {i : Nat} (hi : i < 8) (fi : isF (at' g.ns i) = true) : ok (at' g.ns i).ext = true ∧ ∀ b ∈ blkL (at' g.ns i).ext, (usedN g.ns).testBit b = true := by
 have h1 := (chk_parts ((h.isF_iff hi).1 fi)).2.2.2.1
 refine ⟨h1, fun b hb => (usedN_bit _ _).2 ⟨i, hi, fi, by rw [blkO_yes h1]; exact hb⟩⟩
theorem needI_bd {n : Int} (h0 : 0 ≤ n) (h1 : n ≤ 1472) : 0 ≤ needI n ∧ needI n ≤ 23 ∧ n ≤ needI n * 64 ∧ needI n * 64 < n + 64 := by
 unfold needI
 split <;> omega
theorem resize_good {g : RG} (h : RGood g) {n size : Int} (he : resizeE g n size = 0) :
  ((0 ≤ n ∧ n < 8) ∧ isF (at' g.ns n.toNat) = true) ∧ (0 ≤ size ∧ size ≤ 1472) ∧ fitE (at' g.ns n.toNat).ext (usedN g.ns) (needI size).toNat = 0 ∧ nodeX g.ns n = at' g.ns n.toNat ∧ RGood (resizeG g n size) := by
 unfold resizeE at he
 by_cases h0 : nodeE g.ns n ≠ 0
 ·rw [if_pos h0] at he; exact absurd he h0
 rw [if_neg h0] at he
 have h0 : nodeE g.ns n = 0 := by simpa using h0
 obtain ⟨hn, fn⟩ := nodeE_zero.1 h0
 by_cases h1 : size < 0
 ·rw [if_pos h1] at he; cases he
 rw [if_neg h1] at he
 by_cases h2 : 1472 < size
 ·rw [if_pos h2] at he; cases he
 rw [if_neg h2] at he
 have ex : nodeX g.ns n = at' g.ns n.toNat := by unfold nodeX; rw [if_pos h0]
 rw [ex] at he
 refine ⟨⟨hn, fn⟩, ⟨by omega, by omega⟩, he, ex, ?_⟩
 obtain ⟨b1, b2⟩ := h.bits (show n.toNat < 8 by omega) fn
 obtain ⟨f1, f2, f3⟩ := fit_blk b1 b2 he
 have nb := needI_bd (show 0 ≤ size by omega) (show size ≤ 1472 by omega)
 have hc := (h.isF_iff (show n.toNat < 8 by omega)).1 fn
 unfold resizeG
 simp only [ex]
 refine good_set h (by omega) (.inr ?_) ?_ ?_
 ·unfold chkB at hc ⊢
  simp only [Bool.and_eq_true, decide_eq_true_eq] at hc ⊢
  rw [blkO_yes f1, f2]
  exact ⟨hc.1, by omega, by omega, f1, by omega⟩
 ·unfold spreadV
  refine spreadK_len _ h.bl (fun b hb => ((blkO_good _).2 b hb).2) _ (Nat.le_refl _) ?_
  rw [fitL_len, blkO_yes f1, f2]
  omega
 ·intro _ j hj hne fj
  have sp := h.ap n.toNat j (by omega) hj (fun e => hne e.symm) fn fj
  refine ⟨sp.1, fun b hb hc2 => ?_⟩
  simp only at hb
  rw [blkO_yes f1, f3] at hb
  rcases List.mem_append.1 hb with hb | hb
  ·exact sp.2 b (by rw [blkO_yes b1]; exact List.mem_of_mem_take hb) hc2
  ·have h3 := (frL_mem.1 (List.mem_of_mem_take hb)).2.2
   rw [(usedN_bit _ _).2 ⟨j, hj, fj, hc2⟩] at h3
   cases h3
theorem put_good {g : RG} (h : RGood g) {n a : Int} {b : List UInt8} (ha : 0 ≤ a) (hf : a.toNat + b.length ≤ 64 * (blkO (at' g.ns n.toNat).ext).length) : RGood (putV g n a b) := by
 refine ⟨?_, h.nl, h.nd, h.ap⟩
 unfold putV spreadV
 refine spreadK_len _ h.bl (fun b hb => ((blkO_good _).2 b hb).2) _ (Nat.le_refl _) ?_
 have hw := wholeV_len h.bl (at' g.ns n.toNat).ext
 unfold splice
 simp only [List.length_append, List.length_take, List.length_drop, hw]
 omega
end Go.Proofs.YtefgabnmcfpdcaaGreatDoor.Fs
namespace Go.Proofs.YtefgabnmcfpdcaaGreatDoor.Fs
open Go.RowKit Go.Shelf Ex Ino Mm
attribute [local go_sem] Oper.semAt_some
set_option linter.unusedVariables false
set_option linter.unusedSimpArgs false
def refE (ss : List (List UInt8)) : Int := if ss.all nameB = true then 0 else 121
def TextR (w : World) (g : Nat) (ss : List (List UInt8)) : Prop := g < w.heap.size ∧ ∀ k, k < ss.length → w.cell? ⟨g, k, none⟩ = some (St (ss.getD k []))
theorem TextR.below {w w' : World} {g : Nat} {ss : List (List UInt8)} (h : TextR w g ss) (hb : Below w.heap.size w w') : TextR w' g ss := ⟨Nat.lt_of_lt_of_le h.1 hb.size, fun k hk => (hb.cell (p := ⟨g, k, none⟩) h.1).trans (h.2 k hk)⟩
set_option maxRecDepth 100000 in
set_option maxHeartbeats 1000000 in
theorem refusal_any {w : World} {g : Nat} {ss : List (List UInt8)} (c : Nat) (h : TextR w g ss) (hl : ss.length ≤ 100) (hs : ∀ s ∈ ss, s.length ≤ 9223372036854775807) :
  Calls Tryz.prog 145 #[.slice (some ⟨g, 0, none⟩) ss.length c] w (Gives w (.int .i64 (refE ss))) := by
 have HG : Hid (∀ x w', x = refE ss → Below w.heap.size w w' → Gives w (.int .i64 (refE ss)) (.returned (.int .i64 x)) w') := fun x w' h1 h2 => ⟨by rw [h1], h2⟩
 generalize Gives w (.int .i64 (refE ss)) = G at *
 have HT := Lib.hid h
 have HS := Lib.hid hs
 clear h hs
 go_enter Tryz.func145, Tryz.ntmps145
 go_wp2_with fail
 go_loopw [7] (fun i wr => ∃ k : Nat, i = .int .i64 (k : Int) ∧ k ≤ ss.length ∧ (ss.take k).all nameB = true ∧ Below w.heap.size w wr) (fun i _ => ss.length - (RowKit.intOf i).toNat)
 case atStart => exact ⟨0, rfl, Nat.zero_le _, by simp, Below.refl _ _⟩
 case round =>
  obtain ⟨k, rfl, hk, hall, hb⟩ := hrel
  by_cases hlt : k < ss.length
  ·have h2 := HT.out.below hb
   have ck := h2.2 k hlt
   have hg := h2.1
   have hm : ss.getD k [] ∈ ss := by rw [List.getD_eq_getElem?_getD, List.getElem?_eq_getElem hlt]; exact List.getElem_mem _
   have hlen := HS.out _ hm
   have hstep : (ss.take (k + 1)).all nameB = ((ss.take k).all nameB && nameB (ss.getD k [])) := by
    rw [List.take_succ_eq_append_getElem hlt, List.all_append, List.getD_eq_getElem?_getD, List.getElem?_eq_getElem hlt]
    simp
   rw [hall, Bool.true_and] at hstep
   have hno : nameB (ss.getD k []) = false → refE ss = 121 := fun hf => by
    unfold refE
    rw [if_neg]
    intro ha
    rw [List.all_eq_true] at ha
    rw [ha _ hm] at hf
    cases hf
   have hN : Calls Tryz.prog 128 #[St (ss.getD k [])] wr (Gives wr (.bool (nameB (ss.getD k [])))) := name_any _ wr hlen
   have HN := Lib.hid hN
   have HST := Lib.hid hstep
   have HNO := Lib.hid hno
   have HB := Lib.hid hb
   clear h2 hm hlen hall hstep hno hN hb
   generalize hq : ss.getD k [] = s at *
   generalize nameB s = b at *
   clear hq
   cases b with
   | true =>
    go_wp2_with fail
    refine HN.out.mono ?_
    rintro e w2 ⟨rfl, b2⟩
    have HB2 := Lib.hid (HB.out.trans (b2.mono HB.out.size))
    clear b2 HN HB HNO
    go_wp2_with fail
    go_roundw
    case rel => exact ⟨k + 1, by go_num, by omega, HST.out, HB2.out⟩
    case measure => simp [RowKit.intOf]; omega
   | false =>
    have HX := Lib.hid (HNO.out rfl)
    clear HNO HST
    go_wp2_with fail
    refine HN.out.mono ?_
    rintro e w2 ⟨rfl, b2⟩
    have HB2 := Lib.hid (HB.out.trans (b2.mono HB.out.size))
    clear b2 HN HB
    go_wp2_with fail
    exact HG.out _ _ HX.out.symm HB2.out
  ·obtain rfl : k = ss.length := by omega
   rw [List.take_length] at hall
   have HX : Hid ((0 : Int) = refE ss) := by show _ = _; unfold refE; rw [if_pos hall]
   have HB := Lib.hid hb
   clear hall hb
   go_wp2_with fail
   exact HG.out _ _ HX.out HB.out
structure InF (w : World) (name : List UInt8) (n e : Int) (W : World) : Prop where
 s0 : Boxed W w.heap.size 9 (St name)
 n0 : Boxed W (w.heap.size + 1) 3 (.int .i64 n)
 e0 : Boxed W (w.heap.size + 1 + 1) 36 (.int .i64 e)
theorem inF_own (w : World) (name : List UInt8) (n e : Int) {β : Type} : Own (fun (_ : β) W => InF w name n e W) := fun _ _ _ _ hs hg hr => ⟨cells_kept hs.s0 hg hr, cells_kept hs.n0 hg hr, cells_kept hs.e0 hg hr⟩
theorem InF.below {w : World} {name : List UInt8} {n e : Int} {W W' : World} (h : InF w name n e W) (k : Below W.heap.size W W') : InF w name n e W' :=
 ⟨(k.block _ h.s0.lt).trans h.s0, (k.block _ h.n0.lt).trans h.n0, (k.block _ h.e0.lt).trans h.e0⟩
theorem InF.store {w : World} {name : List UInt8} {n e : Int} {W : World} (h : InF w name n e W) (n' e' : Int) : InF w name n' e' ((W.setCell ⟨w.heap.size + 1, 0, none⟩ (.int .i64 n')).setCell ⟨w.heap.size + 1 + 1, 0, none⟩ (.int .i64 e')) :=
 ⟨(h.s0.other (by omega) _).other (by omega) _, (h.n0.set _).other (by omega) _, (show Boxed (W.setCell ⟨w.heap.size + 1, 0, none⟩ (.int .i64 n')) (w.heap.size + 1 + 1) 36 (.int .i64 e) from h.e0.other (by omega) _).set _⟩
def fVal (ns : List IN) (name : List UInt8) : Value := .tuple #[.int .i64 (findN ns name : Nat), .int .i64 (findE ns name)]
def NoneP (ns : List IN) (name : List UInt8) (pre : List Nat) : Prop := ∀ i ∈ pre, (at' ns i).name ≠ name
def InFi (w : World) (ns : List IN) (name : List UInt8) (pre : List Nat) (W : World) : Prop := NoneP ns name pre ∧ InF w name 0 0 W ∧ Below w.heap.size w W
def InFx (w : World) (ns : List IN) (name : List UInt8) (c : Code) (pre : List Nat) (W : World) : Prop := c = .ret ∧ ∃ q i, pre = q ++ [i] ∧ NoneP ns name q ∧ (at' ns i).name = name ∧ InF w name (i : Int) 0 W ∧ Below w.heap.size w W
theorem inFi_own (w : World) (ns : List IN) (name : List UInt8) {B : Nat} (hB : w.heap.size ≤ B) : OwnFrom B (InFi w ns name) := fun pre W W' row ⟨h1, h2, h3⟩ hg hr =>
 ⟨h1, inF_own w name 0 0 () W W' row h2 hg (fun r e => (hr r e).2), ownFrom_below (Nat.le_refl _) hB () W W' row h3 hg hr⟩
theorem inFx_own (w : World) (ns : List IN) (name : List UInt8) {B : Nat} (hB : w.heap.size ≤ B) (c : Code) : OwnFrom B (InFx w ns name c) := fun pre W W' row ⟨h1, q, i, h2, h3, h4, h5, h6⟩ hg hr =>
 ⟨h1, q, i, h2, h3, h4, inF_own w name i 0 () W W' row h5 hg (fun r e => (hr r e).2), ownFrom_below (Nat.le_refl _) hB () W W' row h6 hg hr⟩
theorem NoneP.snoc {ns : List IN} {name : List UInt8} {q : List Nat} {i : Nat} (h : NoneP ns name q) (hi : (at' ns i).name ≠ name) : NoneP ns name (q ++ [i]) := fun j hj => by
 rcases List.mem_append.1 hj with hj | hj
 ·exact h j hj
 ·rw [List.mem_singleton] at hj; subst hj; exact hi
theorem find_first {ns : List IN} {name : List UInt8} {q : List Nat} {i : Nat} (hp : q ++ [i] <+: idxL ns) (h : NoneP ns name q) (hi : (at' ns i).name = name) : findI ns name = some i := by
 obtain ⟨t, ht⟩ := hp
 unfold findI
 rw [← ht, List.append_assoc, List.find?_append]
 have : q.find? (fun i => decide ((at' ns i).name = name)) = none := by
  rw [List.find?_eq_none]
  intro j hj
  simpa using h j hj
 rw [this]
 simp [hi]
theorem find_all {ns : List IN} {name : List UInt8} (h : NoneP ns name (idxL ns)) : findI ns name = none := by
 unfold findI
 rw [List.find?_eq_none]
 intro j hj
 simpa using h j hj
def actF (w : World) (l : List ND) (name : List UInt8) (r g b i : Nat) : Act := { tmps := #[.pointer (some ⟨r, 0, none⟩), St name, undef, .pointer (some ⟨w.heap.size, 0, none⟩), .pointer (some ⟨w.heap.size + 1, 0, none⟩), .pointer (some ⟨w.heap.size + 1 + 1, 0, none⟩), .int .i64 0, .int .i64 (i : Int), .pointer (some ⟨b, 0, none⟩), St name, .slice (some ⟨w.heap.size + 1 + 1 + 1, 0, none⟩) 1 1, .int .i64 0, .int .i64 0, .bool false, undef, .pointer (some ⟨r, 0, none⟩), itf g, .int .i64 (i : Int), Ino.ag (ndAt l i).x (ndAt l i).A (ndAt l i).c, undef, undef, undef, undef, undef], defers := [] }
def MidF (w : World) (l : List ND) (name : List UInt8) (r g : Nat) (pre : List Nat) (i : Nat) (a : Act) (W : World) : Prop := ∃ b, a = actF w l name r g b i ∧ BoxN W b (ndAt l i) ∧ InFi w (nsOf l) name pre W
theorem midF_own (w : World) (l : List ND) (name : List UInt8) (r g : Nat) (pre : List Nat) (i : Nat) {B : Nat} (hB : w.heap.size ≤ B) : OwnFrom B (MidF w l name r g pre i) := fun a W W' row ⟨b, e, h1, h2⟩ hg hr =>
 ⟨b, e, h1.grown hg (fun r e => (hr r e).2), inFi_own w _ name hB pre W W' row h2 hg hr⟩
set_option maxRecDepth 100000 in
set_option maxHeartbeats 1000000 in
theorem find_any {w : World} {r : Nat} {bs : List UInt8} {l : List ND} (h : RegAt w r bs l) (name : List UInt8) (hn : name.length ≤ 9223372036854775807) :
  Calls Tryz.prog 114 #[.pointer (some ⟨r, 0, none⟩), St name] w (Gives w (fVal (nsOf l) name)) := by
 have hb1 : Below w.heap.size w ((((w.alloc (.cells #[St name] 9)).alloc (.cells #[.int .i64 0] 3)).alloc (.cells #[.int .i64 0] 36)).alloc (.cells #[St name] 9)) := ((((Below.refl _ _).alloc (Nat.le_refl _) _).alloc (by simp) _).alloc (by simp; omega) _).alloc (by simp; omega) _
 have hi1 : InF w name 0 0 ((((w.alloc (.cells #[St name] 9)).alloc (.cells #[.int .i64 0] 3)).alloc (.cells #[.int .i64 0] 36)).alloc (.cells #[St name] 9)) := by
  refine ⟨(((Boxed.new w 9 (St name)).alloc _).alloc _).alloc _, ?_, ?_⟩
  ·have := ((Boxed.new (w.alloc (.cells #[St name] 9)) 3 (.int .i64 0)).alloc (.cells #[.int .i64 0] 36)).alloc (.cells #[St name] 9)
   rwa [World.size_alloc] at this
  ·have := (Boxed.new ((w.alloc (.cells #[St name] 9)).alloc (.cells #[.int .i64 0] 3)) 36 (.int .i64 0)).alloc (.cells #[St name] 9)
   rwa [World.size_alloc, World.size_alloc] at this
 have ht1 : TextR ((((w.alloc (.cells #[St name] 9)).alloc (.cells #[.int .i64 0] 3)).alloc (.cells #[.int .i64 0] 36)).alloc (.cells #[St name] 9)) (w.heap.size + 1 + 1 + 1) [name] := by
  have hx := Boxed.new (((w.alloc (.cells #[St name] 9)).alloc (.cells #[.int .i64 0] 3)).alloc (.cells #[.int .i64 0] 36)) 9 (St name)
  rw [World.size_alloc, World.size_alloc, World.size_alloc] at hx
  refine ⟨hx.lt, fun k hk => ?_⟩
  simp only [List.length_singleton] at hk
  obtain rfl : k = 0 := by omega
  exact hx.cell
 have hrf : refE [name] = if nameB name = true then 0 else 121 := by simp [refE]
 have hrefl := refusal_any (ss := [name]) 1 ht1 (by simp) (by simpa using hn)
 rw [hrf] at hrefl
 have HR := Lib.hid hrefl
 have HI1 := Lib.hid hi1
 have HB1 := Lib.hid hb1
 have HREG := Lib.hid h
 clear hb1 hi1 ht1 hrf hrefl h
 refine (callsIn_wide (n := 8)).1 ?_
 refine callsIn_of_wp_marks Tryz.func114 rfl trivial ?_ rfl
 simp only [Tryz.ntmps114, List.size_toArray, List.length_cons, List.length_nil, Nat.reduceAdd, Nat.reduceSub, Array.replicate_succ, Array.replicate_zero, List.push_toArray, List.append_toArray, List.nil_append, List.cons_append]
 by_cases hnb : nameB name = true
 ·rw [if_pos hnb] at HR
  have HFV : Hid (∀ i, findI (nsOf l) name = some i → fVal (nsOf l) name = .tuple #[.int .i64 (i : Int), .int .i64 0]) := fun i hi => by
   unfold fVal findN findE
   rw [hnb, hi]
   rfl
  have HFN : Hid (findI (nsOf l) name = none → fVal (nsOf l) name = .tuple #[.int .i64 0, .int .i64 123]) := fun hi => by
   unfold fVal findN findE
   rw [hnb, hi]
   rfl
  clear hnb
  gi_wp2
  generalize ((((w.alloc (.cells #[St name] 9)).alloc (.cells #[.int .i64 0] 3)).alloc (.cells #[.int .i64 0] 36)).alloc (.cells #[St name] 9)) = w0 at *
  refine ⟨trivial, ?_⟩
  refine (callsIn_wide.2 HR.out).mono ?_
  clear HR
  rintro e w1 ⟨rfl, b1⟩
  have HI2 := Lib.hid (HI1.out.below b1)
  have HB2 := Lib.hid (HB1.out.trans (b1.mono HB1.out.size))
  have HR2 := Lib.hid (HREG.out.below HB2.out)
  clear b1 HI1 HB1
  gi_wp2
  refine ⟨trivial, ?_⟩
  refine (callsIn_wide.2 (files_any r w1)).mono ?_
  rintro e w2 ⟨rfl, rfl⟩
  have hbox := Boxed.new w1 93 (.pointer (some ⟨r, 0, none⟩))
  have hb2 : Below w1.heap.size w1 (w1.alloc (.cells #[.pointer (some ⟨r, 0, none⟩)] 93)) := (Below.refl _ _).alloc (Nat.le_refl _) _
  have H3 := Lib.hid (HR2.out.below hb2)
  have HF3 : Hid (InFi w (nsOf l) name [] (w1.alloc (.cells #[.pointer (some ⟨r, 0, none⟩)] 93))) := ⟨(fun i hi => by cases hi), HI2.out.below hb2, HB2.out.trans (hb2.mono HB2.out.size)⟩
  have HBOX := Lib.hid hbox
  have HS3 : Hid (w.heap.size ≤ (w1.alloc (.cells #[.pointer (some ⟨r, 0, none⟩)] 93)).heap.size) := HF3.out.2.2.size
  clear hbox hb2 HI2 HB2 HR2 HREG
  gi_wp2
  generalize w1.alloc (.cells #[.pointer (some ⟨r, 0, none⟩)] 93) = w2 at *
  generalize w1.heap.size = g at *
  have hs3 := HS3.out
  refine wpIn_range_new rfl (by omega) (gf := 137) (lb := #[.pointer (some ⟨g, 0, none⟩)]) rfl trivial (enters_of Tryz.func137 (by kernel_rfl) rfl)
   (files_stops Fence.wide _ trivial rfl (by omega) g r bs l w2 HBOX.out H3.out) (Below.refl _ _) (fun _ => rfl)
   (InFi w (nsOf l) name) (InFx w (nsOf l) name) (MidF w l name r g)
   (inFi_own w _ name hs3) (fun c => inFx_own w _ name hs3 c) (fun pre i => midF_own w l name r g pre i hs3) HF3.out ?assign ?body ?done ?stop
  case assign =>
   intro y pre i W hi _
   have hk : KeepsOthers W (W.alloc (.cells #[St (ndAt l i).x.name, .int .i64 (ndAt l i).x.size, .slice (ndAt l i).A (ndAt l i).x.ext.length (ndAt l i).c] 123)) := KeepsOthers.alloc _ _
   have hm : MidF w l name r g pre i (actF w l name r g W.heap.size i) (W.alloc (.cells #[St (ndAt l i).x.name, .int .i64 (ndAt l i).x.size, .slice (ndAt l i).A (ndAt l i).x.ext.length (ndAt l i).c] 123)) :=
    ⟨W.heap.size, rfl, heap_alloc_new W _, hi.1, hi.2.1.below ((Below.refl _ _).alloc (Nat.le_refl _) _), hi.2.2.alloc hi.2.2.size _⟩
   have HK := Lib.hid hk
   have HM := Lib.hid hm
   clear hi hs3 hk hm
   gi_wp2
   exact ⟨HK.out, HM.out⟩
  case body =>
   rintro y pre i a W ⟨b, rfl, hnn, hu⟩
   obtain ⟨c0, c1, c2⟩ := hnn.c
   have cs := hu.2.1.s0.cell
   have cn := hu.2.1.n0.cell
   have fn := hu.2.1.n0.frozen
   have ce := hu.2.1.e0.cell
   have fe := hu.2.1.e0.frozen
   have hlt := hu.2.1.s0.lt
   unfold actF
   clear hs3 c1 c2 hnn
   by_cases hx : (at' (nsOf l) i).name = name
   ·have HX : Hid (decide ((ndAt l i).x.name = name) = true) := by rw [at_nd] at hx; show _ = _; simpa using hx
    have hk2 := (hu.2.2.setCell (p := ⟨w.heap.size + 1, 0, none⟩) (by show w.heap.size ≤ w.heap.size + 1; omega) (.int .i64 (i : Int))).setCell (p := ⟨w.heap.size + 1 + 1, 0, none⟩) (by show w.heap.size ≤ w.heap.size + 1 + 1; omega) (.int .i64 0)
    have HE : Hid (InFx w (nsOf l) name .ret (pre ++ [i]) ((W.setCell ⟨w.heap.size + 1, 0, none⟩ (.int .i64 (i : Int))).setCell ⟨w.heap.size + 1 + 1, 0, none⟩ (.int .i64 0))) := ⟨rfl, pre, i, rfl, hu.1, hx, hu.2.1.store i 0, hk2⟩
    clear hu hx hk2
    gi_wp2_with (first | ((with_reducible refine atIn_ (op := .binOp .eql 9 (.tmp 20) (.tmp 21) 9) ?_); refine wpListIn_val rfl (by intro c h; cases h) rfl _ (HX.out ▸ ex_eqlS (.tmp 20) (.tmp 21) rfl _ _ rfl rfl) ?_))
    exact ⟨(KeepsOthers.setCell _ _ _).trans (KeepsOthers.setCell _ _ _), HE.out⟩
   ·have HX : Hid (decide ((ndAt l i).x.name = name) = false) := by rw [at_nd] at hx; show _ = _; simpa using hx
    have HE : Hid (InFi w (nsOf l) name (pre ++ [i]) W) := ⟨hu.1.snoc hx, hu.2⟩
    clear hu hx
    gi_wp2_with (first | ((with_reducible refine atIn_ (op := .binOp .eql 9 (.tmp 20) (.tmp 21) 9) ?_); refine wpListIn_val rfl (by intro c h; cases h) rfl _ (HX.out ▸ ex_eqlS (.tmp 20) (.tmp 21) rfl _ _ rfl rfl) ?_))
    exact ⟨KeepsOthers.refl _, trivial, HE.out⟩
  case done =>
   rintro D ys W hD rfl ⟨hne, hb, hk⟩ hK
   have hv := HFN.out (find_all hne)
   have cb := hb.n0.cell
   have fb := hb.n0.frozen
   have ce := hb.e0.cell
   have fe := hb.e0.frozen
   have hk' := (hk.setCell (p := ⟨w.heap.size + 1, 0, none⟩) (by show w.heap.size ≤ w.heap.size + 1; omega) (.int .i64 0)).setCell (p := ⟨w.heap.size + 1 + 1, 0, none⟩) (by show w.heap.size ≤ w.heap.size + 1 + 1; omega) (.int .i64 123)
   have hst := hb.store 0 123
   have hKd := (KeepsOthers.setCell _ ⟨w.heap.size + 1 + 1, 0, none⟩ (.int .i64 123)).same D _ ((KeepsOthers.setCell W ⟨w.heap.size + 1, 0, none⟩ (.int .i64 0)).same D _ hK rfl) rfl
   have HV := Lib.hid hv
   have HKK := Lib.hid hk'
   have HST := Lib.hid hst
   have HKD := Lib.hid hKd
   clear hne hb hk hv hk' hst hKd
   gi_wp2
   have g2 := grownBy_putObj' ((W.setCell ⟨w.heap.size + 1, 0, none⟩ (.int .i64 0)).setCell ⟨w.heap.size + 1 + 1, 0, none⟩ (.int .i64 123)) D (.deferred none)
   have x2 := inF_own w name 0 123 () _ _ _ HST.out g2 (fun r e => by cases e; exact ⟨_, HKD.out, rfl⟩)
   have k2 := HKK.out.trans (belowK_b (w := w) (Nat.le_refl _) _ D _ (.deferred none) (by omega) HKD.out rfl rfl)
   refine ⟨by simp, .inl ⟨D, _, rfl, run_takeDeferred HKD.out, ?_⟩⟩
   have c1 := x2.n0.cell
   have c2 := x2.e0.cell
   refine ⟨.tuple #[.int .i64 0, .int .i64 123], ?_, by rw [HV.out], k2⟩
   simp [results, Tryz.f114, go_sem, c1, c2]
  case stop =>
   rintro D c2 pre W hD hpre ⟨rfl, q, i, rfl, hq, hi, hb, hk⟩ hK
   have hv := HFV.out i (find_first hpre hq hi)
   have HV := Lib.hid hv
   clear hv hpre hq hi
   gi_wp2
   have g2 := grownBy_putObj' W D (.deferred none)
   have x2 := inF_own w name i 0 () _ _ _ hb g2 (fun r e => by cases e; exact ⟨_, hK, rfl⟩)
   have k2 := hk.trans (belowK_b (w := w) (Nat.le_refl _) _ D _ (.deferred none) (by omega) hK rfl rfl)
   refine ⟨by simp, .inl ⟨D, _, rfl, run_takeDeferred hK, ?_⟩⟩
   have c1 := x2.n0.cell
   have c2 := x2.e0.cell
   refine ⟨.tuple #[.int .i64 (i : Int), .int .i64 0], ?_, by rw [HV.out], k2⟩
   simp [results, Tryz.f114, go_sem, c1, c2]
 ·have hnb : nameB name = false := by simpa using hnb
  rw [if_neg (by rw [hnb]; decide)] at HR
  have HV : Hid (fVal (nsOf l) name = .tuple #[.int .i64 0, .int .i64 121]) := by
   show _ = _
   unfold fVal findN findE
   rw [hnb]
   rfl
  clear hnb
  gi_wp2
  generalize ((((w.alloc (.cells #[St name] 9)).alloc (.cells #[.int .i64 0] 3)).alloc (.cells #[.int .i64 0] 36)).alloc (.cells #[St name] 9)) = w0 at *
  refine ⟨trivial, ?_⟩
  refine (callsIn_wide.2 HR.out).mono ?_
  clear HR
  rintro e w1 ⟨rfl, b1⟩
  have HI2 := Lib.hid (HI1.out.below b1)
  have cb := HI2.out.n0.cell
  have fb := HI2.out.n0.frozen
  have ce := HI2.out.e0.cell
  have fe := HI2.out.e0.frozen
  have hk := (HB1.out.trans (b1.mono HB1.out.size)).setCell (p := ⟨w.heap.size + 1, 0, none⟩) (by show w.heap.size ≤ w.heap.size + 1; omega) (.int .i64 0)
  have hk2 := Lib.hid (hk.setCell (p := ⟨w.heap.size + 1 + 1, 0, none⟩) (by show w.heap.size ≤ w.heap.size + 1 + 1; omega) (.int .i64 121))
  have HI3 := Lib.hid (HI2.out.store 0 121)
  clear b1 HI1 HB1 hk HI2
  gi_wp2
  have c1 := HI3.out.n0.cell
  have c2 := HI3.out.e0.cell
  refine ⟨.tuple #[.int .i64 0, .int .i64 121], ?_, by rw [HV.out], hk2.out⟩
  simp [results, Tryz.f114, go_sem, c1, c2]
end Go.Proofs.YtefgabnmcfpdcaaGreatDoor.Fs
namespace Go.Proofs.YtefgabnmcfpdcaaGreatDoor.Fs
open Go.RowKit Ex Ino Mm
set_option linter.unusedVariables false
set_option linter.unusedSimpArgs false
theorem find_at {w : World} {r : Nat} {bs : List UInt8} {l : List ND} (h : RegAt w r bs l) (name : List UInt8) (hn : name.length ≤ 9223372036854775807) :
  Calls Tryz.prog 114 #[.pointer (some ⟨r, 0, none⟩), St name] w (Gives w (.tuple #[.int .i64 ((findN (nsOf l) name : Nat) : Int), .int .i64 (findE (nsOf l) name)])) := find_any h name hn
set_option maxRecDepth 100000 in
set_option maxHeartbeats 1000000 in
theorem absent_any {w : World} {r : Nat} {bs : List UInt8} {l : List ND} (h : RegAt w r bs l) (name : List UInt8) (hn : name.length ≤ 9223372036854775807) :
  Calls Tryz.prog 134 #[.pointer (some ⟨r, 0, none⟩), St name] w (Gives w (.int .i64 (absentE (nsOf l) name))) := by
 have HF := Lib.hid (find_at h name hn)
 unfold absentE
 clear h hn
 generalize findN (nsOf l) name = N at *
 generalize findE (nsOf l) name = E at *
 by_cases h0 : E = 0
 ·rw [if_pos h0]
  subst h0
  go_enter Tryz.func134, Tryz.ntmps134
  go_wp2_with fail
  refine HF.out.mono ?_
  rintro e w2 ⟨rfl, b2⟩
  go_wp2_with fail
  go_ret
  exact ⟨rfl, b2⟩
 ·rw [if_neg h0]
  by_cases h1 : E = 123
  ·rw [if_pos h1]
   subst h1
   go_enter Tryz.func134, Tryz.ntmps134
   go_wp2_with fail
   refine HF.out.mono ?_
   rintro e w2 ⟨rfl, b2⟩
   go_wp2_with fail
   go_ret
   exact ⟨rfl, b2⟩
  ·rw [if_neg h1]
   have e0 : (E == 0) = false := by simpa using h0
   have e1 : (E == 123) = false := by simpa using h1
   clear h0 h1
   go_enter Tryz.func134, Tryz.ntmps134
   go_wp2_with fail
   refine HF.out.mono ?_
   rintro e w2 ⟨rfl, b2⟩
   go_wp2_with fail
   go_ret
   exact ⟨rfl, b2⟩
def RegIs (w : World) (r : Nat) (g : RG) : Prop := ∃ l, nsOf l = g.ns ∧ RegAt w r g.bs l
theorem RegIs.lt {w : World} {r : Nat} {g : RG} (h : RegIs w r g) : r < w.heap.size := by obtain ⟨l, _, h⟩ := h; exact h.lt
theorem RegIs.below {w w' : World} {r : Nat} {g : RG} (h : RegIs w r g) (b : Below w.heap.size w w') : RegIs w' r g := by obtain ⟨l, e, h⟩ := h; exact ⟨l, e, h.below b⟩
def OutsG (w : World) (r : Nat) (v : Value) (g : RG) (e : Ending) (w' : World) : Prop := e = .returned v ∧ RegIs w' r g ∧ Keeps (· = r) w w'
theorem keeps_below {w w' : World} (r : Nat) (h : Below w.heap.size w w') : Keeps (· = r) w w' := Keeps.below h _ fun i h1 h2 => by omega
theorem outs_same {w w' : World} {r : Nat} {bs : List UInt8} {l : List ND} (h : RegAt w r bs l) (hb : Below w.heap.size w w') (v : Value) : OutsG w r v ⟨bs, nsOf l⟩ (.returned v) w' := ⟨rfl, ⟨l, rfl, h.below hb⟩, keeps_below r hb⟩
def named (d : ND) (name : List UInt8) : ND := ⟨⟨name, d.x.size, d.x.ext⟩, d.A, d.c⟩
theorem ncs_set1 : ∀ (l : List ND) (k : Nat) (d : ND) (name : List UInt8), l[k]? = some d → (ncs l).set (k * 3) (St name) = ncs (l.set k (named d name))
 | [], k, d, name, h => by simp at h
 | x :: r, 0, d, name, h => by
  simp at h
  subst h
  rfl
 | x :: r, k + 1, d, name, h => by
  have ih := ncs_set1 r k d name (by simpa using h)
  unfold ncs at *
  rw [List.set_cons_succ, List.flatMap_cons, List.flatMap_cons, ← ih, List.set_append, if_neg (by rw [ncl_len]; omega), ncl_len, show (k + 1) * 3 - 3 = k * 3 by omega]
theorem absent_len {ns : List IN} {name : List UInt8} (h : absentE ns name = 0) : name.length ≤ 100000 := by
 by_cases hb : nameB name = true
 ·unfold nameB at hb
  simp only [Bool.and_eq_true, decide_eq_true_eq] at hb
  omega
 ·have hf : nameB name = false := by simpa using hb
  have h1 : findE ns name = 121 := by unfold findE; rw [if_pos hf]
  unfold absentE at h
  rw [h1] at h
  exact absurd h (by decide)
theorem RegAt.putName {w : World} {r : Nat} {bs : List UInt8} {l : List ND} (h : RegAt w r bs l) {k : Nat} (hk : k < 8) {d : ND} (hd : l[k]? = some d) (name : List UInt8) (hn : name.length ≤ 100000) :
  RegAt (w.setCell ⟨r, 2048 + k * 3, none⟩ (St name)) r bs (l.set k (named d name)) ∧ Keeps (· = r) w (w.setCell ⟨r, 2048 + k * 3, none⟩ (St name)) := by
 have hkp : Keeps (· = r) w (w.setCell ⟨r, 2048 + k * 3, none⟩ (St name)) := Keeps.setCell _ _ _ _ rfl
 have hdm := h.nd d (List.mem_of_getElem? hd)
 refine ⟨⟨h.bl, by rw [List.length_set, h.nl], ?_, fun e he => ?_⟩, hkp⟩
 ·rw [heap_setCell_same w r (2048 + k * 3) _ _ _ h.hd]
  simp only [List.setIfInBounds_toArray]
  unfold gcl
  rw [← ncs_set1 l k d name hd]
  rw [List.set_append, if_neg (by rw [List.length_map, h.bl]; omega), List.length_map, h.bl, show 2048 + k * 3 - 2048 = k * 3 by omega]
 ·rcases List.mem_or_eq_of_mem_set he with he | rfl
  ·exact h.nds hkp e he
  ·have hz : NdOk w r (named d name) := ⟨⟨hdm.ok.xr, hdm.ok.few, hn, hdm.ok.size⟩, hdm.no⟩
   exact hz.keeps hkp fun hn ad e f => hdm.no hn ad e f
set_option maxRecDepth 100000 in
set_option maxHeartbeats 1000000 in
theorem remove_any {w : World} {r : Nat} {bs : List UInt8} {l : List ND} (h : RegAt w r bs l) (name : List UInt8) (hn : name.length ≤ 9223372036854775807) :
  Calls Tryz.prog 101 #[.pointer (some ⟨r, 0, none⟩), St name] w (OutsG w r (.int .i64 (removeV ⟨bs, nsOf l⟩ name).1) (removeV ⟨bs, nsOf l⟩ name).2) := by
 have HF := Lib.hid (find_at h name hn)
 unfold removeV
 by_cases h0 : findE (nsOf l) name = 0
 ·rw [if_pos h0]
  rw [h0] at HF
  obtain ⟨hnb, i, hi⟩ := findE_zero.1 h0
  have e : findN (nsOf l) name = i := by unfold findN; rw [hnb, hi]; rfl
  rw [e] at HF ⊢
  have hlt := (find_some hi).1
  have HP : Hid (∀ w2, Below w.heap.size w w2 → (Instr.storeAt 123 (.pointer (some ⟨r, 2048 + i * 3, none⟩)) (.agg #[.string ⟨#[]⟩, .int .i64 0, .slice none 0 0])).run Tryz.prog w2 = .ok () (w2.setCells r (2048 + i * 3) (ncl ⟨in0, none, 0⟩)) ∧
    OutsG w r (.int .i64 0) ⟨bs, (nsOf l).set i in0⟩ (.returned (.int .i64 0)) (w2.setCells r (2048 + i * 3) (ncl ⟨in0, none, 0⟩))) := fun w2 b2 => by
   have h2 := h.below b2
   obtain ⟨p1, p2⟩ := h2.putNode hlt ⟨in0, none, 0⟩ ⟨⟨XR.nil, by decide, by decide, by decide⟩, fun hn => absurd rfl hn⟩
   exact ⟨storeNo (d := ⟨in0, none, 0⟩) (h2.there _ _ (by omega)), rfl, ⟨_, nsOf_set _ _ _, p1⟩, (keeps_below r b2).trans p2⟩
  clear h hn h0 e hi hnb
  generalize OutsG w r _ _ = G at *
  go_enter Tryz.func101, Tryz.ntmps101
  go_wp2_with fail
  refine HF.out.mono ?_
  rintro e w2 ⟨rfl, b2⟩
  obtain ⟨s1, s2⟩ := HP.out w2 b2
  have ST := Lib.hid s1
  have HG := Lib.hid s2
  clear s1 s2 b2 HF HP
  go_wp2_with (first | ((with_reducible refine here (op := .store 123 (.tmp 21) (.tmp 18)) ?_); refine wpList_store_run rfl 123 _ _ rfl _ _ rfl rfl ST.out ?_))
  exact HG.out
 ·rw [if_neg h0]
  have HG : Hid (∀ w2, Below w.heap.size w w2 → OutsG w r (.int .i64 (findE (nsOf l) name)) ⟨bs, nsOf l⟩ (.returned (.int .i64 (findE (nsOf l) name))) w2) := fun w2 b2 => outs_same h b2 _
  have e0 : (findE (nsOf l) name != 0) = true := by simpa using h0
  clear h hn h0
  generalize OutsG w r _ _ = G at *
  generalize findE (nsOf l) name = E at *
  generalize findN (nsOf l) name = N at *
  go_enter Tryz.func101, Tryz.ntmps101
  go_wp2_with fail
  refine HF.out.mono ?_
  rintro e w2 ⟨rfl, b2⟩
  have HG2 := Lib.hid (HG.out w2 b2)
  clear b2 HG HF
  go_wp2_with fail
  exact HG2.out
theorem free_at {ns : List IN} {k : Nat} (hk : k < 8) (h : ∀ j, j < k → (at' ns j).name ≠ []) (h0 : (at' ns k).name = []) : freeI ns = some k := by
 unfold freeI
 have e : List.range 8 = List.range k ++ (k :: (List.range' (k + 1) (7 - k))) := by
  rw [List.range_eq_range', List.range_eq_range', show 8 = k + (1 + (7 - k)) by omega, ← List.range'_append, Nat.zero_add, Nat.one_mul, Nat.add_comm 1 (7 - k), List.range'_succ]
 rw [e, List.find?_append]
 have : (List.range k).find? (fun i => decide ((at' ns i).name = [])) = none := by
  rw [List.find?_eq_none]
  intro j hj
  rw [List.mem_range] at hj
  simpa using h j hj
 rw [this]
 simp [h0]
theorem free_no {ns : List IN} (h : ∀ j, j < 8 → (at' ns j).name ≠ []) : freeI ns = none := by
 unfold freeI
 rw [List.find?_eq_none]
 intro j hj
 rw [List.mem_range] at hj
 simpa using h j hj
set_option maxRecDepth 100000 in
set_option maxHeartbeats 2000000 in
theorem create_any {w : World} {r : Nat} {bs : List UInt8} {l : List ND} (h : RegAt w r bs l) (name : List UInt8) (hn : name.length ≤ 9223372036854775807) :
  Calls Tryz.prog 83 #[.pointer (some ⟨r, 0, none⟩), St name] w (OutsG w r (.tuple #[.int .i64 ((createV ⟨bs, nsOf l⟩ name).2.1 : Nat), .int .i64 (createV ⟨bs, nsOf l⟩ name).1]) (createV ⟨bs, nsOf l⟩ name).2.2) := by
 have HF := Lib.hid (absent_any h name hn)
 unfold createV
 by_cases h0 : absentE (nsOf l) name = 0
 ·rw [if_pos h0]
  rw [h0] at HF
  have HREG := Lib.hid h
  have HN := Lib.hid h.nl
  generalize hG : OutsG w r _ _ = G
  have HYES : Hid (∀ k w2, k < 8 → (∀ j, j < k → (at' (nsOf l) j).name ≠ []) → (at' (nsOf l) k).name = [] → Below w.heap.size w w2 → (∀ o, G (.returned (.tuple #[.int .i64 (k : Int), .int .i64 0])) ((w2.setCell ⟨r, 2048 + k * 3, none⟩ (St name)).alloc o)) ∧
    w2.cell? ⟨r, 2048 + k * 3, none⟩ = some (St (at' (nsOf l) k).name) ∧ w2.frozen? ⟨r, 2048 + k * 3, none⟩ = false) := fun k w2 hk h1 h2 b2 => by
   have hr2 := h.below b2
   obtain ⟨d, hd, e, _⟩ := hr2.get hk
   obtain ⟨p1, p2⟩ := hr2.putName hk hd name (absent_len h0)
   refine ⟨fun o => ?_, by rw [e]; exact (hr2.nodeC hd).1, frozen_of_row _ _ _ _ _ hr2.hd⟩
   rw [← hG, free_at hk h1 h2]
   have ba := (Below.refl (w2.setCell ⟨r, 2048 + k * 3, none⟩ (St name)).heap.size (w2.setCell ⟨r, 2048 + k * 3, none⟩ (St name))).alloc (Nat.le_refl _) o
   refine ⟨rfl, ⟨_, ?_, p1.below ba⟩, ((keeps_below r b2).trans p2).trans (keeps_below r ba)⟩
   show nsOf (l.set k (named d name)) = (nsOf l).set k ⟨name, (at' (nsOf l) k).size, (at' (nsOf l) k).ext⟩
   rw [nsOf_set, e]
   rfl
  have HNO : Hid (∀ w2, (∀ j, j < 8 → (at' (nsOf l) j).name ≠ []) → Below w.heap.size w w2 → G (.returned (.tuple #[.int .i64 0, .int .i64 124])) w2) := fun w2 h1 b2 => by
   rw [← hG, free_no h1]
   exact outs_same h b2 _
  clear h h0 hG hn
  go_enter Tryz.func83, Tryz.ntmps83
  go_wp2_with fail
  refine HF.out.mono ?_
  rintro e w2 ⟨rfl, b2⟩
  have L1 := Lib.hid (loadNs HN.out (HREG.out.below b2).nodesR)
  have HB2 := Lib.hid b2
  clear b2 HF
  go_wp2_with (first | ((with_reducible refine here (op := .load 153 (.tmp 17)) ?_); refine wpList_load_run rfl 153 _ rfl _ _ rfl L1.out ?_))
  go_loopw [19] (fun i wr => ∃ k : Nat, i = .int .i64 (k : Int) ∧ k ≤ 8 ∧ (∀ j, j < k → (at' (nsOf l) j).name ≠ []) ∧ Below w.heap.size w wr) (fun i _ => 8 - (RowKit.intOf i).toNat)
  case atStart => exact ⟨0, rfl, by omega, fun j hj => by omega, HB2.out⟩
  case round =>
   clear L1
   obtain ⟨k, rfl, hk, hne, hb⟩ := hrel
   by_cases hlt : k < 8
   ·obtain ⟨d, hd, e, _⟩ := HREG.out.get hlt
    have IX := fun w => Lib.hid (idxNo w HN.out hd)
    have hb3 := hb.alloc hb.size (.cells #[St d.x.name, .int .i64 d.x.size, .slice d.A d.x.ext.length d.c] 123)
    cases hz : decide (d.x.name = []) with
    | true =>
     have HZ := Lib.hid hz
     have hY := HYES.out k _ hlt hne (by rw [e]; simpa using hz) hb
     have hrl : r < wr.heap.size := Nat.lt_of_lt_of_le HREG.out.lt hb.size
     have cc := hY.2.1
     have ff := hY.2.2
     have HY := Lib.hid (hY.1 (.cells #[St d.x.name, .int .i64 d.x.size, .slice d.A d.x.ext.length d.c] 123))
     clear hY hz hne hb hb3 hd e HYES HNO
     go_wp2_with (first
      | ((with_reducible refine at_ (op := .index 153 (.tmp 18) (.tmp 19)) ?_); refine wpList_val rfl _ (ex_index 153 (.tmp 18) (.tmp 19) rfl _ _ _ rfl rfl (IX _).out) ?_)
      | ((with_reducible refine at_ (op := .binOp .eql 9 (.tmp 24) (.const (.string ⟨#[]⟩)) 9) ?_); refine wpList_val rfl _ (ex_eqlE (.tmp 24) (.const (.string ⟨#[]⟩)) rfl _ true HZ.out rfl rfl) ?_))
     exact HY.out
    | false =>
     have HZ := Lib.hid hz
     have HNE : Hid (∀ j, j < k + 1 → (at' (nsOf l) j).name ≠ []) := fun j hj => by
      by_cases e2 : j = k
      ·subst e2; rw [e]; simpa using hz
      ·exact hne j (by omega)
     have HB3 := Lib.hid hb3
     clear hz hne hb hb3 hd e HYES HNO
     go_wp2_with (first
      | ((with_reducible refine at_ (op := .index 153 (.tmp 18) (.tmp 19)) ?_); refine wpList_val rfl _ (ex_index 153 (.tmp 18) (.tmp 19) rfl _ _ _ rfl rfl (IX _).out) ?_)
      | ((with_reducible refine at_ (op := .binOp .eql 9 (.tmp 24) (.const (.string ⟨#[]⟩)) 9) ?_); refine wpList_val rfl _ (ex_eqlE (.tmp 24) (.const (.string ⟨#[]⟩)) rfl _ false HZ.out rfl rfl) ?_))
     go_roundw
     case rel => exact ⟨k + 1, by go_num, by omega, HNE.out, HB3.out⟩
     case measure => simp [RowKit.intOf]; omega
   ·obtain rfl : k = 8 := by omega
    have HY := Lib.hid (HNO.out wr hne hb)
    clear hne hb HYES HNO
    go_wp2_with fail
    exact HY.out
 ·rw [if_neg h0]
  have HG : Hid (∀ w2, Below w.heap.size w w2 → OutsG w r (.tuple #[.int .i64 ((0 : Nat) : Int), .int .i64 (absentE (nsOf l) name)]) ⟨bs, nsOf l⟩ (.returned (.tuple #[.int .i64 0, .int .i64 (absentE (nsOf l) name)])) w2) := fun w2 b2 => outs_same h b2 _
  have e0 : (absentE (nsOf l) name != 0) = true := by simpa using h0
  clear h hn h0
  generalize OutsG w r _ _ = G at *
  generalize absentE (nsOf l) name = E at *
  go_enter Tryz.func83, Tryz.ntmps83
  go_wp2_with fail
  refine HF.out.mono ?_
  rintro e w2 ⟨rfl, b2⟩
  have HG2 := Lib.hid (HG.out w2 b2)
  clear b2 HG HF
  go_wp2_with fail
  exact HG2.out
set_option maxRecDepth 100000 in
set_option maxHeartbeats 2000000 in
theorem rename_any {w : World} {r : Nat} {bs : List UInt8} {l : List ND} (h : RegAt w r bs l) (f t : List UInt8) (hf : f.length ≤ 9223372036854775807) (ht : t.length ≤ 9223372036854775807) :
  Calls Tryz.prog 106 #[.pointer (some ⟨r, 0, none⟩), St f, St t] w (OutsG w r (.int .i64 (renameV ⟨bs, nsOf l⟩ f t).1) (renameV ⟨bs, nsOf l⟩ f t).2) := by
 have hb1 : Below w.heap.size w (w.alloc (.cells #[St f, St t] 9)) := (Below.refl _ _).alloc (Nat.le_refl _) _
 have hx : (w.alloc (.cells #[St f, St t] 9)).heap[w.heap.size]? = some (.cells #[St f, St t] 9 (0, 0)) := heap_alloc_new w _
 have ht1 : TextR (w.alloc (.cells #[St f, St t] 9)) w.heap.size [f, t] := by
  refine ⟨by simp, fun k hk => ?_⟩
  simp only [List.length_cons, List.length_nil] at hk
  rw [cell_of_row _ _ _ _ _ _ hx]
  match k, hk with
  | 0, _ => rfl
  | 1, _ => rfl
 have hrefl := refusal_any (ss := [f, t]) 2 ht1 (by simp) (by simp [hf, ht])
 have HR := Lib.hid hrefl
 have HB1 := Lib.hid hb1
 have HREG := Lib.hid h
 generalize hG : OutsG w r _ _ = G
 clear hb1 hx ht1 hrefl h
 by_cases hnb : nameB f = false ∨ nameB t = false
 ·have e1 : refE [f, t] = 121 := by
   unfold refE
   rw [if_neg]
   simp only [List.all_cons, List.all_nil, Bool.and_true, Bool.and_eq_true]
   rintro ⟨a, b⟩
   rcases hnb with e | e
   ·rw [e] at a; cases a
   ·rw [e] at b; cases b
  have HG : Hid (∀ w2, Below w.heap.size w w2 → G (.returned (.int .i64 121)) w2) := fun w2 b2 => by
   rw [← hG]
   unfold renameV
   rw [if_pos hnb]
   exact outs_same HREG.out b2 _
  rw [e1] at HR
  clear hG hnb e1
  go_enter Tryz.func106, Tryz.ntmps106
  go_wp2_with fail
  refine HR.out.mono ?_
  rintro e w2 ⟨rfl, b2⟩
  have HG2 := Lib.hid (HG.out w2 (HB1.out.trans (b2.mono HB1.out.size)))
  clear b2 HG HR HB1
  go_wp2_with fail
  exact HG2.out
 ·have e1 : refE [f, t] = 0 := by
   unfold refE
   rw [if_pos]
   simp only [List.all_cons, List.all_nil, Bool.and_true, Bool.and_eq_true]
   refine ⟨?_, ?_⟩
   ·cases h : nameB f with
    | true => rfl
    | false => exact absurd (.inl h) hnb
   ·cases h : nameB t with
    | true => rfl
    | false => exact absurd (.inr h) hnb
  rw [e1] at HR
  by_cases h0 : findE (nsOf l) f = 0
  ·obtain ⟨_, i, hi⟩ := findE_zero.1 h0
   have hlt := (find_some hi).1
   have ei : findN (nsOf l) f = i := by unfold findN; rw [(findE_zero.1 h0).1, hi]; rfl
   have HF : Hid (∀ w2, Below w.heap.size w w2 → Calls Tryz.prog 114 #[.pointer (some ⟨r, 0, none⟩), St f] w2 (Gives w2 (.tuple #[.int .i64 ((i : Nat) : Int), .int .i64 0]))) := fun w2 b2 => by
    have := find_at (HREG.out.below b2) f hf
    rwa [ei, h0] at this
   by_cases ha : absentE (nsOf l) t = 0
   ·have HA : Hid (∀ w2, Below w.heap.size w w2 → Calls Tryz.prog 134 #[.pointer (some ⟨r, 0, none⟩), St t] w2 (Gives w2 (.int .i64 0))) := fun w2 b2 => by
     have := absent_any (HREG.out.below b2) t ht
     rwa [ha] at this
    have HYES : Hid (∀ w2, Below w.heap.size w w2 → G (.returned (.int .i64 0)) (w2.setCell ⟨r, 2048 + i * 3, none⟩ (St t)) ∧ (∃ v, w2.cell? ⟨r, 2048 + i * 3, none⟩ = some v) ∧ w2.frozen? ⟨r, 2048 + i * 3, none⟩ = false) := fun w2 b2 => by
     have hr2 := HREG.out.below b2
     obtain ⟨d, hd, e, _⟩ := hr2.get hlt
     obtain ⟨p1, p2⟩ := hr2.putName hlt hd t (absent_len ha)
     refine ⟨?_, ⟨_, (hr2.nodeC hd).1⟩, frozen_of_row _ _ _ _ _ hr2.hd⟩
     rw [← hG]
     unfold renameV
     rw [if_neg hnb, if_pos h0, if_pos ha, ei]
     refine ⟨rfl, ⟨_, ?_, p1⟩, (keeps_below r b2).trans p2⟩
     show nsOf (l.set i (named d t)) = (nsOf l).set i ⟨t, (at' (nsOf l) i).size, (at' (nsOf l) i).ext⟩
     rw [nsOf_set, e]
     rfl
    clear hG hnb e1 h0 hi ei ha HREG
    go_enter Tryz.func106, Tryz.ntmps106
    go_wp2_with fail
    refine HR.out.mono ?_
    rintro e w2 ⟨rfl, b2⟩
    have HB2 := Lib.hid (HB1.out.trans (b2.mono HB1.out.size))
    clear b2 HR HB1
    go_wp2_with fail
    refine (HF.out w2 HB2.out).mono ?_
    rintro e w3 ⟨rfl, b3⟩
    have HB3 := Lib.hid (HB2.out.trans (b3.mono HB2.out.size))
    clear b3 HF HB2
    go_wp2_with fail
    refine (HA.out w3 HB3.out).mono ?_
    rintro e w4 ⟨rfl, b4⟩
    obtain ⟨g1, ⟨v, cc⟩, ff⟩ := HYES.out w4 (HB3.out.trans (b4.mono HB3.out.size))
    have HG2 := Lib.hid g1
    clear b4 HA HB3 HYES g1
    go_wp2_with fail
    exact HG2.out
   ·have HA : Hid (∀ w2, Below w.heap.size w w2 → Calls Tryz.prog 134 #[.pointer (some ⟨r, 0, none⟩), St t] w2 (Gives w2 (.int .i64 (absentE (nsOf l) t)))) := fun w2 b2 => absent_any (HREG.out.below b2) t ht
    have HG : Hid (∀ w2, Below w.heap.size w w2 → G (.returned (.int .i64 (absentE (nsOf l) t))) w2) := fun w2 b2 => by
     rw [← hG]
     unfold renameV
     rw [if_neg hnb, if_pos h0, if_neg ha]
     exact outs_same HREG.out b2 _
    have e0 : (absentE (nsOf l) t != 0) = true := by simpa using ha
    clear hG hnb e1 h0 hi ei ha HREG
    generalize absentE (nsOf l) t = E at *
    go_enter Tryz.func106, Tryz.ntmps106
    go_wp2_with fail
    refine HR.out.mono ?_
    rintro e w2 ⟨rfl, b2⟩
    have HB2 := Lib.hid (HB1.out.trans (b2.mono HB1.out.size))
    clear b2 HR HB1
    go_wp2_with fail
    refine (HF.out w2 HB2.out).mono ?_
    rintro e w3 ⟨rfl, b3⟩
    have HB3 := Lib.hid (HB2.out.trans (b3.mono HB2.out.size))
    clear b3 HF HB2
    go_wp2_with fail
    refine (HA.out w3 HB3.out).mono ?_
    rintro e w4 ⟨rfl, b4⟩
    have HG2 := Lib.hid (HG.out w4 (HB3.out.trans (b4.mono HB3.out.size)))
    clear b4 HA HB3 HG
    go_wp2_with fail
    exact HG2.out
  ·have HF : Hid (∀ w2, Below w.heap.size w w2 → Calls Tryz.prog 114 #[.pointer (some ⟨r, 0, none⟩), St f] w2 (Gives w2 (.tuple #[.int .i64 ((findN (nsOf l) f : Nat) : Int), .int .i64 (findE (nsOf l) f)]))) := fun w2 b2 => find_at (HREG.out.below b2) f hf
   have HG : Hid (∀ w2, Below w.heap.size w w2 → G (.returned (.int .i64 (findE (nsOf l) f))) w2) := fun w2 b2 => by
    rw [← hG]
    unfold renameV
    rw [if_neg hnb, if_neg h0]
    exact outs_same HREG.out b2 _
   have e0 : (findE (nsOf l) f != 0) = true := by simpa using h0
   clear hG hnb e1 h0 HREG
   generalize findE (nsOf l) f = E at *
   generalize findN (nsOf l) f = N at *
   go_enter Tryz.func106, Tryz.ntmps106
   go_wp2_with fail
   refine HR.out.mono ?_
   rintro e w2 ⟨rfl, b2⟩
   have HB2 := Lib.hid (HB1.out.trans (b2.mono HB1.out.size))
   clear b2 HR HB1
   go_wp2_with fail
   refine (HF.out w2 HB2.out).mono ?_
   rintro e w3 ⟨rfl, b3⟩
   have HG2 := Lib.hid (HG.out w3 (HB2.out.trans (b3.mono HB2.out.size)))
   clear b3 HF HB2 HG
   go_wp2_with fail
   exact HG2.out
end Go.Proofs.YtefgabnmcfpdcaaGreatDoor.Fs
namespace Go.Proofs.YtefgabnmcfpdcaaGreatDoor.Fs
open Go.RowKit Ex Ino Mm
set_option linter.unusedVariables false
theorem page_len' {bs : List UInt8} (h : bs.length = 2048) {n : Nat} (hn : n < 32) : (page bs n).length = 64 := by
 unfold page
 rw [List.length_take, List.length_drop, h]
 omega
theorem page_setP {bs x : List UInt8} (h : bs.length = 2048) (hx : x.length = 64) {b c : Nat} (hb : b < 32) (hc : c < 32) : page (setPage bs b x) c = if c = b then x else page bs c := by
 have hs : (setPage bs b x).length = 2048 := by
  unfold setPage splice
  simp only [List.length_append, List.length_take, List.length_drop, hx, h]
  omega
 refine ext_getD ?_ fun k hk => ?_
 ·rw [page_len' hs hc]
  split
  ·exact hx.symm
  ·exact (page_len' h hc).symm
 ·rw [page_len' hs hc] at hk
  rw [getD_page _ _ _ hk]
  unfold setPage
  rw [getD_splice _ _ _ _ (by omega), hx]
  by_cases e : c = b
  ·subst e
   rw [if_pos rfl, if_neg (by omega), if_pos (by omega)]
   congr 1
   omega
  ·rw [if_neg e, getD_page _ _ _ hk]
   by_cases h1 : c * 64 + k < b * 64
   ·rw [if_pos h1]
   ·rw [if_neg h1, if_neg (by omega)]
theorem getD_lt {bl : List Nat} (hg : ∀ b ∈ bl, b < 32) {k : Nat} (hk : k < bl.length) : bl.getD k 0 < 32 ∧ bl.getD k 0 ∈ bl := by
 rw [List.getD_eq_getElem?_getD, List.getElem?_eq_getElem hk]
 exact ⟨hg _ (List.getElem_mem _), List.getElem_mem _⟩
theorem page_all {all : List UInt8} {k : Nat} (h : 64 * (k + 1) ≤ all.length) : (page all k).length = 64 := by
 unfold page
 rw [List.length_take, List.length_drop]
 omega
theorem spread_other {bs all : List UInt8} {bl : List Nat} (hb : bs.length = 2048) (hg : ∀ b ∈ bl, b < 32) {c : Nat} (hc : c < 32) (hn : c ∉ bl) : ∀ k, k ≤ bl.length → 64 * k ≤ all.length → page (spreadK bs bl all k) c = page bs c
 | 0, _, _ => rfl
 | k + 1, hk, ha => by
  show page (setPage _ _ _) c = _
  rw [page_setP (spreadK_len _ hb hg k (by omega) (by omega)) (page_all ha) (getD_lt hg (by omega)).1 hc, if_neg (fun e => hn (by rw [e]; exact (getD_lt hg (by omega)).2))]
  exact spread_other hb hg hc hn k (by omega) (by omega)
theorem spread_at {bs all : List UInt8} {bl : List Nat} (hb : bs.length = 2048) (hg : ∀ b ∈ bl, b < 32) (hn : bl.Nodup) : ∀ k, k ≤ bl.length → 64 * k ≤ all.length → ∀ j, j < k → page (spreadK bs bl all k) (bl.getD j 0) = page all j
 | 0, _, _, j, hj => by omega
 | k + 1, hk, ha, j, hj => by
  show page (setPage _ _ _) _ = _
  rw [page_setP (spreadK_len _ hb hg k (by omega) (by omega)) (page_all ha) (getD_lt hg (by omega)).1 (getD_lt hg (by omega)).1]
  by_cases e : j = k
  ·subst e
   rw [if_pos rfl]
  ·rw [if_neg, spread_at hb hg hn k (by omega) (by omega) j (by omega)]
   rw [List.getD_eq_getElem?_getD, List.getD_eq_getElem?_getD, List.getElem?_eq_getElem (show j < bl.length by omega), List.getElem?_eq_getElem (show k < bl.length by omega)]
   simp only [Option.getD_some]
   intro e2
   exact e ((List.getElem_inj hn).1 e2)
theorem pages_take (all : List UInt8) : ∀ k, 64 * k ≤ all.length → (List.range k).flatMap (page all) = all.take (64 * k)
 | 0, _ => by simp
 | k + 1, h => by
  rw [List.range_succ, List.flatMap_append, pages_take all k (by omega)]
  simp only [List.flatMap_cons, List.flatMap_nil, List.append_nil]
  unfold page
  rw [show 64 * (k + 1) = 64 * k + 64 by omega, List.take_add, show k * 64 = 64 * k by omega]
theorem flat_congr {bs bs' : List UInt8} {bl : List Nat} (h : ∀ b ∈ bl, page bs' b = page bs b) : bl.flatMap (page bs') = bl.flatMap (page bs) := by
 induction bl with
 | nil => rfl
 | cons x r ih => rw [List.flatMap_cons, List.flatMap_cons, h x (by simp), ih fun b hb => h b (by simp [hb])]
theorem whole_spread {bs all : List UInt8} {l : List EX} (hb : bs.length = 2048) (ha : all.length = 64 * (blkO l).length) : wholeV (spreadV bs l all) l = all := by
 have hg := fun b hb => ((blkO_good l).2 b hb).2
 have hn := (blkO_good l).1
 have h1 := spread_at (all := all) hb hg hn (blkO l).length (Nat.le_refl _) (by omega)
 unfold wholeV spreadV
 have e : (blkO l).flatMap (page (spreadK bs (blkO l) all (blkO l).length)) = (List.range (blkO l).length).flatMap (page all) := by
  have e0 : blkO l = (List.range (blkO l).length).map fun j => (blkO l).getD j 0 := by
   apply List.ext_getElem (by simp)
   intro j h2 h3
   simp [List.getD_eq_getElem?_getD, h2]
  conv => lhs; arg 2; rw [e0]
  rw [List.flatMap_map]
  have : ∀ m, m ≤ (blkO l).length → (List.range m).flatMap (fun j => page (spreadK bs (blkO l) all (blkO l).length) ((blkO l).getD j 0)) = (List.range m).flatMap (page all) := by
   intro m
   induction m with
   | zero => intro _; rfl
   | succ m ih =>
    intro hm
    rw [List.range_succ, List.flatMap_append, List.flatMap_append, ih (by omega)]
    simp only [List.flatMap_cons, List.flatMap_nil, List.append_nil]
    rw [h1 m (by omega)]
  exact this _ (Nat.le_refl _)
 rw [e, pages_take _ _ (by omega), List.take_of_length_le (by omega)]
theorem whole_other {bs all : List UInt8} {l m : List EX} (hb : bs.length = 2048) (ha : 64 * (blkO l).length ≤ all.length) (hd : ∀ b ∈ blkO m, b ∉ blkO l) : wholeV (spreadV bs l all) m = wholeV bs m := by
 have hg := fun b hb => ((blkO_good l).2 b hb).2
 unfold wholeV spreadV
 exact flat_congr fun b h => spread_other hb hg ((blkO_good m).2 b h).2 (hd b h) _ (Nat.le_refl _) (by omega)
theorem RGood.size {g : RG} (h : RGood g) {i : Nat} (hi : i < 8) : (0 ≤ (at' g.ns i).size ∧ (at' g.ns i).size ≤ 1472) ∧ ((blkO (at' g.ns i).ext).length : Int) = needI (at' g.ns i).size ∧ (at' g.ns i).size ≤ 64 * (blkO (at' g.ns i).ext).length := by
 rcases h.nd i hi with e | e
 ·rw [e]
  refine ⟨by decide, by decide, by decide⟩
 ·obtain ⟨_, _, h3, _, h5⟩ := chk_parts e
  have := needI_bd h3.1 h3.2
  exact ⟨h3, h5, by omega⟩
theorem resizeG_ns (g : RG) (n size : Int) : (resizeG g n size).ns = g.ns.set n.toNat ⟨(nodeX g.ns n).name, size, fitX (nodeX g.ns n).ext (usedN g.ns) (needI size).toNat⟩ := rfl
theorem resizeG_bs (g : RG) (n size : Int) : (resizeG g n size).bs = spreadV g.bs (fitX (nodeX g.ns n).ext (usedN g.ns) (needI size).toNat) (fitL (wholeV g.bs (nodeX g.ns n).ext) ((needI size).toNat * 64) size.toNat) := rfl
theorem resize_data {g : RG} (h : RGood g) {n size : Int} (he : resizeE g n size = 0) {j : Nat} (hj : j < 8) (fj : isF (at' g.ns j) = true) :
  at' (resizeG g n size).ns j = (if j = n.toNat then ⟨(at' g.ns n.toNat).name, size, fitX (at' g.ns n.toNat).ext (usedN g.ns) (needI size).toNat⟩ else at' g.ns j) ∧
  wholeV (resizeG g n size).bs (at' (resizeG g n size).ns j).ext = if j = n.toNat then fitL (wholeV g.bs (at' g.ns n.toNat).ext) ((needI size).toNat * 64) size.toNat else wholeV g.bs (at' g.ns j).ext := by
 obtain ⟨⟨hn, fn⟩, hs, hf, ex, hr⟩ := resize_good h he
 obtain ⟨b1, b2⟩ := h.bits (show n.toNat < 8 by omega) fn
 obtain ⟨f1, f2, f3⟩ := fit_blk b1 b2 hf
 have nb := needI_bd hs.1 hs.2
 have e1 : at' (resizeG g n size).ns j = (if j = n.toNat then ⟨(at' g.ns n.toNat).name, size, fitX (at' g.ns n.toNat).ext (usedN g.ns) (needI size).toNat⟩ else at' g.ns j) := by
  rw [resizeG_ns, at_set h.nl (by omega), ex]
 refine ⟨e1, ?_⟩
 rw [e1, resizeG_bs, ex]
 by_cases e : j = n.toNat
 ·rw [if_pos e, if_pos e]
  exact whole_spread h.bl (by rw [fitL_len, blkO_yes f1, f2]; omega)
 ·rw [if_neg e, if_neg e]
  refine whole_other h.bl (by rw [fitL_len, blkO_yes f1, f2]; omega) fun b hb hc => ?_
  have sp := h.ap n.toNat j (by omega) hj (fun e' => e e'.symm) fn fj
  rw [blkO_yes f1, f3] at hc
  rcases List.mem_append.1 hc with hc | hc
  ·exact sp.2 b (by rw [blkO_yes b1]; exact List.mem_of_mem_take hc) hb
  ·have h3 := (frL_mem.1 (List.mem_of_mem_take hc)).2.2
   rw [(usedN_bit _ _).2 ⟨j, hj, fj, hb⟩] at h3
   cases h3
theorem put_data {g : RG} (h : RGood g) {n a : Int} {b : List UInt8} (hn : 0 ≤ n ∧ n < 8) (fn : isF (at' g.ns n.toNat) = true) (ha : 0 ≤ a) (hf : a.toNat + b.length ≤ 64 * (blkO (at' g.ns n.toNat).ext).length) {j : Nat} (hj : j < 8) (fj : isF (at' g.ns j) = true) :
  wholeV (putV g n a b).bs (at' g.ns j).ext = if j = n.toNat then splice (wholeV g.bs (at' g.ns n.toNat).ext) a.toNat b else wholeV g.bs (at' g.ns j).ext := by
 have hw := wholeV_len h.bl (at' g.ns n.toNat).ext
 have hl : (splice (wholeV g.bs (at' g.ns n.toNat).ext) a.toNat b).length = 64 * (blkO (at' g.ns n.toNat).ext).length := by
  unfold splice
  simp only [List.length_append, List.length_take, List.length_drop, hw]
  omega
 show wholeV (spreadV g.bs _ _) _ = _
 by_cases e : j = n.toNat
 ·rw [if_pos e, e]
  exact whole_spread h.bl hl
 ·rw [if_neg e]
  refine whole_other h.bl (by omega) fun c hb hc => ?_
  exact (h.ap n.toNat j (by omega) hj (fun e' => e e'.symm) fn fj).2 c hc hb
end Go.Proofs.YtefgabnmcfpdcaaGreatDoor.Fs
