/-
  Merged by wip/tools/merge.py: FsCount FsMp
-/
import Derived.Test.YtceemmnfofjgeaaGreatDoorGFd
import Derived.Test.YtceemmnfofjgeaaGreatDoorGFk
namespace Go.Proofs.YtceemmnfofjgeaaGreatDoor.Fs
open Go.RowKit Ex Ino Mm
set_option linter.unusedVariables false

end Go.Proofs.YtceemmnfofjgeaaGreatDoor.Fs
namespace Go.Proofs.YtceemmnfofjgeaaGreatDoor.Fs
open Go.RowKit Ex Ino Mm
set_option linter.unusedVariables false

structure FV where
  name : List UInt8
  A : Option Addr
  xs : List UInt8
  c : Nat
def fv (d : FV) : List UInt8 × List UInt8 := (d.name, d.xs)
def fg (g : RG) (i : Nat) : List UInt8 × List UInt8 := ((at' g.ns i).name, dataV g (at' g.ns i))
theorem filesV_map (g : RG) : filesV g = (idxL g.ns).map (fg g) := rfl
/-- All files but number i. -/
def restF (g : RG) (i : Nat) : List (List UInt8 × List UInt8) := ((idxL g.ns).filter (· ≠ i)).map (fg g)
theorem filter_one {α : Type} [DecidableEq α] : ∀ {l : List α} {i : α}, l.Nodup → i ∈ l → l.Perm (i :: l.filter (· ≠ i))
  | [], _, _, h => by cases h
  | x :: r, i, hn, h => by
    have hnr := List.nodup_cons.1 hn
    by_cases e : x = i
    · subst e
      have : r.filter (· ≠ x) = r := List.filter_eq_self.2 fun a ha => by
        have : a ≠ x := fun e => hnr.1 (e ▸ ha)
        simpa using this
      rw [List.filter_cons_of_neg (by simp), this]
    · have hr : i ∈ r := (List.mem_cons.1 h).resolve_left fun e' => e e'.symm
      rw [List.filter_cons_of_pos (by simpa using e)]
      exact ((filter_one hnr.2 hr).cons x).trans (List.Perm.swap _ _ _)
theorem files_one {g : RG} {i : Nat} (hi : i ∈ idxL g.ns) : (filesV g).Perm (fg g i :: restF g i) := by
  have := (filter_one (List.Pairwise.filter _ List.nodup_range : (idxL g.ns).Nodup) hi).map (fg g)
  exact this
/-- The list holds just the region's files. -/
def MP (l : List FV) (g : RG) : Prop := (l.map fv).Perm (filesV g)
theorem MP.len {l : List FV} {g : RG} (h : MP l g) : l.length = (filesV g).length := by have := h.length_eq; simpa using this
/-- A name of the list, and its file. -/
theorem MP.find {l : List FV} {g : RG} (h : MP l g) (hg : RGood g) {k : Nat} (hk : k < l.length) : ∃ i, i ∈ idxL g.ns ∧ findI g.ns l[k].name = some i ∧ findE g.ns l[k].name = 0 ∧ findN g.ns l[k].name = i ∧ fg g i = fv l[k] := by
  have hm : fv l[k] ∈ filesV g := h.mem_iff.1 (List.mem_map.2 ⟨_, List.getElem_mem hk, rfl⟩)
  rw [filesV_map] at hm
  obtain ⟨i, hi, e⟩ := List.mem_map.1 hm
  have hn : (at' g.ns i).name = l[k].name := congrArg Prod.fst e
  have hf := findN_file hg hi
  rw [hn] at hf
  obtain ⟨h1, h2⟩ := idxL_mem.1 hi
  refine ⟨i, hi, ?_, hf.2, hf.1, e⟩
  cases hfi : findI g.ns l[k].name with
  | none => exact absurd hn (find_none hfi h1 h2)
  | some j =>
    have hb := (findE_zero.1 hf.2).1
    have : findN g.ns l[k].name = j := by unfold findN; rw [hb, hfi]; rfl
    rw [← this, hf.1]
theorem MP.none {l : List FV} {g : RG} (h : MP l g) {name : List UInt8} (hn : ∀ d ∈ l, d.name ≠ name) : findI g.ns name = none := by
  cases hf : findI g.ns name with
  | none => rfl
  | some i =>
    obtain ⟨h1, h2, h3⟩ := find_some hf
    have hm : fg g i ∈ filesV g := by rw [filesV_map]; exact List.mem_map.2 ⟨i, idxL_mem.2 ⟨h1, h2⟩, rfl⟩
    obtain ⟨d, hd, e⟩ := List.mem_map.1 (h.mem_iff.2 hm)
    exact absurd ((congrArg Prod.fst e).trans h3) (hn d hd)
theorem erase_perm {α : Type} {l : List α} {k : Nat} (hk : k < l.length) : (l[k] :: l.eraseIdx k).Perm l := by
  rw [List.eraseIdx_eq_take_drop_succ]
  have e : l = l.take k ++ l[k] :: l.drop (k + 1) := by rw [← List.drop_eq_getElem_cons hk, List.take_append_drop]
  exact List.perm_middle.symm.trans (by rw [← e])
theorem MP.rest {l : List FV} {g : RG} (h : MP l g) (hg : RGood g) {k : Nat} (hk : k < l.length) {i : Nat} (hi : i ∈ idxL g.ns) (e : fg g i = fv l[k]) : ((l.eraseIdx k).map fv).Perm (restF g i) := by
  have h1 := (erase_perm hk).map fv
  have h2 := (h1.trans h).trans (files_one hi)
  rw [List.map_cons, e] at h2
  exact List.Perm.cons_inv h2
/-! ### the steps -/
theorem Sim.rest {g g' : RG} {i : Nat} (h : Sim (i : Int) g g') : restF g' i = restF g i := by
  unfold restF
  rw [h.idx]
  refine List.map_congr_left fun j hj => ?_
  obtain ⟨h1, h2⟩ := List.mem_filter.1 hj
  have hji : j ≠ i := by simpa using h2
  obtain ⟨h3, h4⟩ := idxL_mem.1 h1
  unfold fg
  rw [h.nm j h3, h.dt j h3 h4 (by omega)]
theorem take_splice (xs b : List UInt8) (a : Nat) (h : a ≤ xs.length) : (splice xs a b).take (a + b.length) = xs.take a ++ b := by
  have hl : (xs.take a ++ b).length = a + b.length := by rw [List.length_append, List.length_take]; omega
  have := List.take_left (l₁ := xs.take a ++ b) (l₂ := xs.drop (a + b.length))
  rw [hl, List.append_assoc] at this
  exact this
/-- The bytes behind a Write at the end. -/
theorem write_data {g : RG} (h : RGood g) {i : Nat} (hi : i < 8) (fi : isF (at' g.ns i) = true) (b : List UInt8) (he : (writeV g (i : Int) (at' g.ns i).size b).1 = 0) :
    dataV (writeV g (i : Int) (at' g.ns i).size b).2 (at' (writeV g (i : Int) (at' g.ns i).size b).2.ns i) = dataV g (at' g.ns i) ++ b := by
  obtain ⟨hz, hz2, hz3⟩ := h.size hi
  have hwl := wholeV_len h.bl (at' g.ns i).ext
  have e0 : nodeE g.ns (i : Int) = 0 := nodeE_zero.2 ⟨⟨by omega, by omega⟩, fi⟩
  have ex : nodeX g.ns (i : Int) = at' g.ns i := by unfold nodeX; rw [if_pos e0]; rfl
  unfold writeV at he ⊢
  by_cases h0 : (reachV g (i : Int) (at' g.ns i).size b.length).1 = 0
  rotate_left
  · rw [if_neg h0] at he; exact absurd he h0
  rw [if_pos h0]
  obtain ⟨-, ha, hf, hg⟩ := reach_good h h0
  have s1 := reach_sim h (i : Int) (at' g.ns i).size b.length h0
  have f1 : isF (at' (reachV g (i : Int) (at' g.ns i).size b.length).2.ns i) = true := by rw [s1.isF hi]; exact fi
  have hp := put_data hg (n := (i : Int)) ⟨by omega, by omega⟩ f1 ha.1 hf hi f1
  rw [if_pos (by simp)] at hp
  show (wholeV (putV _ _ _ _).bs (at' (reachV g (i : Int) (at' g.ns i).size b.length).2.ns i).ext).take _ = _
  rw [hp]
  unfold reachV at h0 hf ⊢
  rw [if_neg (by rw [e0]; decide), ex, if_neg (by omega)] at h0 hf ⊢
  by_cases hk : (at' g.ns i).size < (at' g.ns i).size + (b.length : Int)
  · rw [if_pos hk] at h0 hf ⊢
    unfold resizeV at h0 hf ⊢
    by_cases hr : resizeE g (i : Int) ((at' g.ns i).size + (b.length : Int)) = 0
    rotate_left
    · rw [if_neg hr] at h0; exact absurd h0 hr
    rw [if_pos hr] at hf ⊢
    obtain ⟨d1, d2⟩ := resize_data h hr hi fi
    rw [if_pos (by simp)] at d1 d2
    obtain ⟨-, hs, -⟩ := resize_good h hr
    have nb := needI_bd hs.1 hs.2
    simp only [Int.toNat_natCast] at d1 d2 ⊢
    rw [d2]
    show (splice (fitL _ _ _) _ b).take (at' (resizeG g (i : Int) ((at' g.ns i).size + (b.length : Int))).ns i).size.toNat = _
    rw [d1]
    show (splice (fitL _ _ _) _ b).take ((at' g.ns i).size + (b.length : Int)).toNat = _
    rw [show ((at' g.ns i).size + (b.length : Int)).toNat = (at' g.ns i).size.toNat + b.length by omega, take_splice _ _ _ (by rw [fitL_len]; omega)]
    unfold fitL dataV
    rw [List.take_append_of_le_length (by rw [List.length_take]; omega), List.take_take]
    congr 2
    omega
  · rw [if_neg hk]
    have hb : b = [] := List.length_eq_zero_iff.1 (by omega)
    subst hb
    simp only [Int.toNat_natCast]
    have := take_splice (wholeV g.bs (at' g.ns i).ext) [] (at' g.ns i).size.toNat (by omega)
    simp only [List.length_nil, Nat.add_zero] at this
    exact this
theorem MP.again {l : List FV} {g : RG} (h : MP l g) (hl : g.ns.length = 8) : MP l ⟨bytesL g, g.ns⟩ := by
  unfold MP
  rw [files_again hl]
  exact h
/-- At the end: each file is in the list, with its bytes. -/
theorem MP.back {l : List FV} {g : RG} (h : MP l g) {j : Nat} (hj : j < (filesV g).length) : ∃ k, ∃ hk : k < l.length, fv l[k] = (filesV g).getD j ([], []) := by
  have hm : (filesV g).getD j ([], []) ∈ filesV g := by
    rw [List.getD_eq_getElem?_getD, List.getElem?_eq_getElem hj]
    exact List.getElem_mem _
  obtain ⟨d, hd, e⟩ := List.mem_map.1 (h.mem_iff.2 hm)
  obtain ⟨k, hk, rfl⟩ := List.getElem_of_mem hd
  exact ⟨k, hk, e⟩
end Go.Proofs.YtceemmnfofjgeaaGreatDoor.Fs
