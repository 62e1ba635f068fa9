/-
  Merged by wip/tools/merge.py: FsCount FsMp FsMpC FsMpD
-/
import Derived.Test.YtdihgfagodjicaaDoorGFd
import Derived.Test.YtdihgfagodjicaaDoorGFk
import Derived.Test.YtdihgfagodjicaaDoorGFh
namespace Go.Proofs.YtdihgfagodjicaaDoor.Fs
open Go.RowKit Ex Ino Mm
set_option linter.unusedVariables false

/-- All blocks of these files. -/
def blksF (ns : List IN) (pre : List Nat) : List Nat := pre.flatMap fun i => blkO (at' ns i).ext
theorem nodup_perm {a b : List Nat} (ha : a.Nodup) (hb : b.Nodup) (h : ∀ x, x ∈ a ↔ x ∈ b) : a.Perm b := by
  rw [List.perm_iff_count]
  intro x
  rw [ha.count, hb.count]
  simp only [h]
theorem blks_good {g : RG} (h : RGood g) : (blksF g.ns (idxL g.ns)).Nodup ∧ ∀ b, b ∈ blksF g.ns (idxL g.ns) ↔ (usedN g.ns).testBit b = true := by
  constructor
  · have hp : (idxL g.ns).Pairwise (Sep g.ns) := (apartP_pair _ _).1 ((apart_iff _).2 h.ap)
    generalize idxL g.ns = l at *
    unfold blksF
    induction l with
    | nil => simp
    | cons a r ih =>
      obtain ⟨h1, h2⟩ := List.pairwise_cons.1 hp
      rw [List.flatMap_cons, List.nodup_append]
      refine ⟨(blkO_good _).1, ih h2, fun x hx y hy e => ?_⟩
      subst e
      obtain ⟨j, hj, hm⟩ := List.mem_flatMap.1 hy
      exact (h1 j hj).2 x hx hm
  · intro b
    rw [usedN_bit]
    unfold blksF
    rw [List.mem_flatMap]
    constructor
    · rintro ⟨i, hi, hb⟩
      exact ⟨i, (idxL_mem.1 hi).1, (idxL_mem.1 hi).2, hb⟩
    · rintro ⟨i, h1, h2, h3⟩
      exact ⟨i, idxL_mem.2 ⟨h1, h2⟩, h3⟩
theorem free_count {g : RG} (h : RGood g) : (blksF g.ns (idxL g.ns)).length + (freeL (usedN g.ns)).length = 23 := by
  obtain ⟨h1, h2⟩ := blks_good h
  have hf := freeL_good (usedN g.ns)
  have hp : (blksF g.ns (idxL g.ns) ++ freeL (usedN g.ns)).Perm ((List.range 23).map (· + 9)) := by
    refine nodup_perm (List.nodup_append.2 ⟨h1, hf.1, fun a ha b hb e => ?_⟩) (by decide) fun x => ?_
    · subst e
      have := (frL_mem.1 hb).2.2
      rw [(h2 a).1 ha] at this
      cases this
    · rw [List.mem_append, h2, List.mem_map]
      constructor
      · rintro (hx | hx)
        · obtain ⟨i, hi, _, hb⟩ := (usedN_bit _ _).1 hx
          have := (blkO_good _).2 x hb
          exact ⟨x - 9, by rw [List.mem_range]; omega, by omega⟩
        · have := hf.2 x hx
          exact ⟨x - 9, by rw [List.mem_range]; omega, by omega⟩
      · rintro ⟨k, hk, rfl⟩
        rw [List.mem_range] at hk
        cases hb : (usedN g.ns).testBit (k + 9) with
        | true => exact .inl rfl
        | false => exact .inr (frL_mem.2 ⟨by omega, by omega, hb⟩)
  have := hp.length_eq
  simpa using this
theorem flat_sum (f : Nat → List Nat) (l : List Nat) : (l.flatMap f).length = (l.map fun i => (f i).length).sum := by
  induction l with
  | nil => rfl
  | cons a r ih => simp [ih]
/-- Files' blocks, told by their bytes. -/
def blkSum (l : List (List UInt8 × List UInt8)) : Int := (l.map fun p => needI p.2.length).sum
theorem blkSum_files {g : RG} (h : RGood g) : blkSum (filesV g) = (blksF g.ns (idxL g.ns)).length := by
  unfold blkSum blksF filesV
  rw [flat_sum]
  have : ∀ l : List Nat, (∀ i ∈ l, i < 8) → ((l.map fun i => ((at' g.ns i).name, dataV g (at' g.ns i))).map fun p => needI p.2.length).sum = ((l.map fun i => (blkO (at' g.ns i).ext).length).sum : Nat) := by
    intro l
    induction l with
    | nil => intro _; rfl
    | cons a r ih =>
      intro hl
      have e1 := data_len h (hl a (by simp))
      have e2 := (h.size (hl a (by simp))).2.1
      simp only [List.map_cons, List.sum_cons]
      rw [ih fun i hi => hl i (by simp [hi]), e1]
      omega
  exact this _ fun i hi => (idxL_mem.1 hi).1
/-- Behind a Write at a file's end: whether it fits, told by blocks. -/
theorem grow_fits {g : RG} (h : RGood g) {n : Int} (hn : 0 ≤ n ∧ n < 8) (fn : isF (at' g.ns n.toNat) = true) {size : Int} (h0 : (at' g.ns n.toNat).size ≤ size) :
    resizeE g n size = (if blkSum (filesV g) - needI (at' g.ns n.toNat).size + needI size ≤ 23 then 0 else 125) := by
  obtain ⟨b1, b2⟩ := h.bits (show n.toNat < 8 by omega) fn
  have hz := h.size (show n.toNat < 8 by omega)
  have hc := free_count h
  have e0 : nodeE g.ns n = 0 := nodeE_zero.2 ⟨hn, fn⟩
  have ex : nodeX g.ns n = at' g.ns n.toNat := by unfold nodeX; rw [if_pos e0]
  rw [blkSum_files h]
  have hle : (blkO (at' g.ns n.toNat).ext).length ≤ (blksF g.ns (idxL g.ns)).length := by
    unfold blksF
    have hm : n.toNat ∈ idxL g.ns := idxL_mem.2 ⟨by omega, fn⟩
    obtain ⟨a, b, e⟩ := List.append_of_mem hm
    rw [e]
    simp only [List.flatMap_append, List.flatMap_cons, List.length_append]
    omega
  unfold resizeE
  rw [if_neg (by simp [e0]), if_neg (by omega), ex]
  have hz2 := hz.2.1
  rw [blkO_yes b1] at hz2 hle
  by_cases hm : 1472 < size
  · rw [if_pos hm, if_neg]
    have : 24 ≤ needI size := by unfold needI; split <;> omega
    omega
  · rw [if_neg hm]
    have nb := needI_bd (show 0 ≤ size by omega) (show size ≤ 1472 by omega)
    have hz := fit_zero b1 b2 (needI size).toNat
    have hmono : needI (at' g.ns n.toNat).size ≤ needI size := by unfold needI; split <;> split <;> omega
    by_cases hk : (needI size).toNat - (blkL (at' g.ns n.toNat).ext).length ≤ (freeL (usedN g.ns)).length
    · rw [hz.2 hk, if_pos (by omega)]
    · rw [(fit_full b1 b2 _).resolve_left fun e => hk (hz.1 e), if_neg (by omega)]
end Go.Proofs.YtdihgfagodjicaaDoor.Fs
namespace Go.Proofs.YtdihgfagodjicaaDoor.Fs
open Go.RowKit Ex Ino Mm
set_option linter.unusedVariables false

structure FV where
  name : List UInt8
  A : Option Addr
  xs : List UInt8
  c : Nat
def fv (d : FV) : List UInt8 × List UInt8 := (d.name, d.xs)
def fg (g : RG) (i : Nat) : List UInt8 × List UInt8 := ((at' g.ns i).name, dataV g (at' g.ns i))
theorem filesV_map (g : RG) : filesV g = (idxL g.ns).map (fg g) := rfl
/-- All files but number i. -/
def restF (g : RG) (i : Nat) : List (List UInt8 × List UInt8) := ((idxL g.ns).filter (· ≠ i)).map (fg g)
theorem filter_one {α : Type} [DecidableEq α] : ∀ {l : List α} {i : α}, l.Nodup → i ∈ l → l.Perm (i :: l.filter (· ≠ i))
  | [], _, _, h => by cases h
  | x :: r, i, hn, h => by
    have hnr := List.nodup_cons.1 hn
    by_cases e : x = i
    · subst e
      have : r.filter (· ≠ x) = r := List.filter_eq_self.2 fun a ha => by
        have : a ≠ x := fun e => hnr.1 (e ▸ ha)
        simpa using this
      rw [List.filter_cons_of_neg (by simp), this]
    · have hr : i ∈ r := (List.mem_cons.1 h).resolve_left fun e' => e e'.symm
      rw [List.filter_cons_of_pos (by simpa using e)]
      exact ((filter_one hnr.2 hr).cons x).trans (List.Perm.swap _ _ _)
theorem files_one {g : RG} {i : Nat} (hi : i ∈ idxL g.ns) : (filesV g).Perm (fg g i :: restF g i) := by
  have := (filter_one (List.Pairwise.filter _ List.nodup_range : (idxL g.ns).Nodup) hi).map (fg g)
  exact this
/-- The list holds just the region's files. -/
def MP (l : List FV) (g : RG) : Prop := (l.map fv).Perm (filesV g)
theorem MP.len {l : List FV} {g : RG} (h : MP l g) : l.length = (filesV g).length := by have := h.length_eq; simpa using this
/-- A name of the list, and its file. -/
theorem MP.find {l : List FV} {g : RG} (h : MP l g) (hg : RGood g) {k : Nat} (hk : k < l.length) : ∃ i, i ∈ idxL g.ns ∧ findI g.ns l[k].name = some i ∧ findE g.ns l[k].name = 0 ∧ findN g.ns l[k].name = i ∧ fg g i = fv l[k] := by
  have hm : fv l[k] ∈ filesV g := h.mem_iff.1 (List.mem_map.2 ⟨_, List.getElem_mem hk, rfl⟩)
  rw [filesV_map] at hm
  obtain ⟨i, hi, e⟩ := List.mem_map.1 hm
  have hn : (at' g.ns i).name = l[k].name := congrArg Prod.fst e
  have hf := findN_file hg hi
  rw [hn] at hf
  obtain ⟨h1, h2⟩ := idxL_mem.1 hi
  refine ⟨i, hi, ?_, hf.2, hf.1, e⟩
  cases hfi : findI g.ns l[k].name with
  | none => exact absurd hn (find_none hfi h1 h2)
  | some j =>
    have hb := (findE_zero.1 hf.2).1
    have : findN g.ns l[k].name = j := by unfold findN; rw [hb, hfi]; rfl
    rw [← this, hf.1]
theorem MP.none {l : List FV} {g : RG} (h : MP l g) {name : List UInt8} (hn : ∀ d ∈ l, d.name ≠ name) : findI g.ns name = none := by
  cases hf : findI g.ns name with
  | none => rfl
  | some i =>
    obtain ⟨h1, h2, h3⟩ := find_some hf
    have hm : fg g i ∈ filesV g := by rw [filesV_map]; exact List.mem_map.2 ⟨i, idxL_mem.2 ⟨h1, h2⟩, rfl⟩
    obtain ⟨d, hd, e⟩ := List.mem_map.1 (h.mem_iff.2 hm)
    exact absurd ((congrArg Prod.fst e).trans h3) (hn d hd)
theorem erase_perm {α : Type} {l : List α} {k : Nat} (hk : k < l.length) : (l[k] :: l.eraseIdx k).Perm l := by
  rw [List.eraseIdx_eq_take_drop_succ]
  have e : l = l.take k ++ l[k] :: l.drop (k + 1) := by rw [← List.drop_eq_getElem_cons hk, List.take_append_drop]
  exact List.perm_middle.symm.trans (by rw [← e])
theorem MP.rest {l : List FV} {g : RG} (h : MP l g) (hg : RGood g) {k : Nat} (hk : k < l.length) {i : Nat} (hi : i ∈ idxL g.ns) (e : fg g i = fv l[k]) : ((l.eraseIdx k).map fv).Perm (restF g i) := by
  have h1 := (erase_perm hk).map fv
  have h2 := (h1.trans h).trans (files_one hi)
  rw [List.map_cons, e] at h2
  exact List.Perm.cons_inv h2
/-! ### the steps -/
theorem map_create {l : List FV} {g : RG} (h : MP l g) (hg : RGood g) {name : List UInt8} {i : Nat} (hf : freeI g.ns = some i) (hn : name ≠ []) (c : Nat) : MP (l ++ [⟨name, none, [], c⟩]) ⟨g.bs, g.ns.set i ⟨name, 0, []⟩⟩ := by
  obtain ⟨h1, h2⟩ := free_some hf
  have ea : ∀ j, at' (g.ns.set i ⟨name, 0, []⟩) j = if j = i then ⟨name, 0, []⟩ else at' g.ns j := at_set hg.nl h1 _
  have hi : i ∈ idxL (g.ns.set i ⟨name, 0, []⟩) := idxL_mem.2 ⟨h1, by rw [ea, if_pos rfl]; simpa [isF] using hn⟩
  have hr : restF ⟨g.bs, g.ns.set i ⟨name, 0, []⟩⟩ i = filesV g := by
    have hx : (idxL (g.ns.set i ⟨name, 0, []⟩)).filter (· ≠ i) = idxL g.ns := by
      unfold idxL
      rw [List.filter_filter]
      refine List.filter_congr fun j hj => ?_
      by_cases e : j = i
      · subst e
        have : isF (at' g.ns j) = false := by simp [isF, h2]
        simp [this]
      · rw [ea, if_neg e]; simp [e]
    unfold restF
    rw [filesV_map]
    show List.map _ ((idxL (g.ns.set i ⟨name, 0, []⟩)).filter (· ≠ i)) = _
    rw [hx]
    refine List.map_congr_left fun j hj => ?_
    have hji : j ≠ i := fun e => by
      have := (idxL_mem.1 hj).2
      rw [e] at this
      simp [isF, h2] at this
    unfold fg dataV
    simp only [ea, if_neg hji]
  have hd : fg ⟨g.bs, g.ns.set i ⟨name, 0, []⟩⟩ i = (name, []) := by
    unfold fg dataV
    simp only [ea, if_true]
    rfl
  have := files_one (g := ⟨g.bs, g.ns.set i ⟨name, 0, []⟩⟩) hi
  rw [hr, hd] at this
  unfold MP
  rw [List.map_append]
  refine (List.perm_append_comm.trans ?_).trans this.symm
  exact List.Perm.cons _ h
theorem map_remove {l : List FV} {g : RG} (h : MP l g) (hg : RGood g) {k : Nat} (hk : k < l.length) : (removeV g l[k].name).1 = 0 ∧ MP (l.eraseIdx k) (removeV g l[k].name).2 := by
  obtain ⟨i, hi, -, h1, h2, e⟩ := h.find hg hk
  have hr := h.rest hg hk hi e
  unfold removeV
  rw [if_pos h1, h2]
  refine ⟨rfl, ?_⟩
  obtain ⟨hi8, hif⟩ := idxL_mem.1 hi
  have ea : ∀ j, at' (g.ns.set i in0) j = if j = i then in0 else at' g.ns j := at_set hg.nl hi8 _
  have hx : idxL (g.ns.set i in0) = (idxL g.ns).filter (· ≠ i) := by
    unfold idxL
    rw [List.filter_filter]
    refine List.filter_congr fun j hj => ?_
    rw [ea]
    by_cases e : j = i
    · rw [if_pos e]; simp [e, isF_in0]
    · rw [if_neg e]; simp [e]
  unfold MP
  refine hr.trans ?_
  rw [filesV_map]
  show (restF g i).Perm (List.map _ (idxL (g.ns.set i in0)))
  rw [hx]
  unfold restF
  have : List.map (fg g) ((idxL g.ns).filter (· ≠ i)) = List.map (fg { g with ns := g.ns.set i in0 }) ((idxL g.ns).filter (· ≠ i)) := List.map_congr_left fun j hj => by
    have hji : j ≠ i := by simpa using (List.mem_filter.1 hj).2
    unfold fg dataV
    simp only [ea, if_neg hji]
  rw [this]
theorem Sim.rest {g g' : RG} {i : Nat} (h : Sim (i : Int) g g') : restF g' i = restF g i := by
  unfold restF
  rw [h.idx]
  refine List.map_congr_left fun j hj => ?_
  obtain ⟨h1, h2⟩ := List.mem_filter.1 hj
  have hji : j ≠ i := by simpa using h2
  obtain ⟨h3, h4⟩ := idxL_mem.1 h1
  unfold fg
  rw [h.nm j h3, h.dt j h3 h4 (by omega)]
theorem take_splice (xs b : List UInt8) (a : Nat) (h : a ≤ xs.length) : (splice xs a b).take (a + b.length) = xs.take a ++ b := by
  have hl : (xs.take a ++ b).length = a + b.length := by rw [List.length_append, List.length_take]; omega
  have := List.take_left (l₁ := xs.take a ++ b) (l₂ := xs.drop (a + b.length))
  rw [hl, List.append_assoc] at this
  exact this
/-- The bytes behind a Write at the end. -/
theorem write_data {g : RG} (h : RGood g) {i : Nat} (hi : i < 8) (fi : isF (at' g.ns i) = true) (b : List UInt8) (he : (writeV g (i : Int) (at' g.ns i).size b).1 = 0) :
    dataV (writeV g (i : Int) (at' g.ns i).size b).2 (at' (writeV g (i : Int) (at' g.ns i).size b).2.ns i) = dataV g (at' g.ns i) ++ b := by
  obtain ⟨hz, hz2, hz3⟩ := h.size hi
  have hwl := wholeV_len h.bl (at' g.ns i).ext
  have e0 : nodeE g.ns (i : Int) = 0 := nodeE_zero.2 ⟨⟨by omega, by omega⟩, fi⟩
  have ex : nodeX g.ns (i : Int) = at' g.ns i := by unfold nodeX; rw [if_pos e0]; rfl
  unfold writeV at he ⊢
  by_cases h0 : (reachV g (i : Int) (at' g.ns i).size b.length).1 = 0
  rotate_left
  · rw [if_neg h0] at he; exact absurd he h0
  rw [if_pos h0]
  obtain ⟨-, ha, hf, hg⟩ := reach_good h h0
  have s1 := reach_sim h (i : Int) (at' g.ns i).size b.length h0
  have f1 : isF (at' (reachV g (i : Int) (at' g.ns i).size b.length).2.ns i) = true := by rw [s1.isF hi]; exact fi
  have hp := put_data hg (n := (i : Int)) ⟨by omega, by omega⟩ f1 ha.1 hf hi f1
  rw [if_pos (by simp)] at hp
  show (wholeV (putV _ _ _ _).bs (at' (reachV g (i : Int) (at' g.ns i).size b.length).2.ns i).ext).take _ = _
  rw [hp]
  unfold reachV at h0 hf ⊢
  rw [if_neg (by rw [e0]; decide), ex, if_neg (by omega)] at h0 hf ⊢
  by_cases hk : (at' g.ns i).size < (at' g.ns i).size + (b.length : Int)
  · rw [if_pos hk] at h0 hf ⊢
    unfold resizeV at h0 hf ⊢
    by_cases hr : resizeE g (i : Int) ((at' g.ns i).size + (b.length : Int)) = 0
    rotate_left
    · rw [if_neg hr] at h0; exact absurd h0 hr
    rw [if_pos hr] at hf ⊢
    obtain ⟨d1, d2⟩ := resize_data h hr hi fi
    rw [if_pos (by simp)] at d1 d2
    obtain ⟨-, hs, -⟩ := resize_good h hr
    have nb := needI_bd hs.1 hs.2
    simp only [Int.toNat_natCast] at d1 d2 ⊢
    rw [d2]
    show (splice (fitL _ _ _) _ b).take (at' (resizeG g (i : Int) ((at' g.ns i).size + (b.length : Int))).ns i).size.toNat = _
    rw [d1]
    show (splice (fitL _ _ _) _ b).take ((at' g.ns i).size + (b.length : Int)).toNat = _
    rw [show ((at' g.ns i).size + (b.length : Int)).toNat = (at' g.ns i).size.toNat + b.length by omega, take_splice _ _ _ (by rw [fitL_len]; omega)]
    unfold fitL dataV
    rw [List.take_append_of_le_length (by rw [List.length_take]; omega), List.take_take]
    congr 2
    omega
  · rw [if_neg hk]
    have hb : b = [] := List.length_eq_zero_iff.1 (by omega)
    subst hb
    simp only [Int.toNat_natCast]
    have := take_splice (wholeV g.bs (at' g.ns i).ext) [] (at' g.ns i).size.toNat (by omega)
    simp only [List.length_nil, Nat.add_zero] at this
    exact this
def bsum (l : List FV) : Int := (l.map fun d => needI d.xs.length).sum
theorem perm_sum {a b : List Int} (h : a.Perm b) : a.sum = b.sum := by
  induction h with
  | nil => rfl
  | cons x _ ih => simp [ih]
  | swap x y l => simp only [List.sum_cons]; omega
  | trans _ _ h1 h2 => exact h1.trans h2
theorem MP.sum {l : List FV} {g : RG} (h : MP l g) : bsum l = blkSum (filesV g) := by
  unfold bsum blkSum
  have := perm_sum (h.map fun (p : List UInt8 × List UInt8) => needI (p.2.length : Int))
  rw [List.map_map] at this
  exact this
theorem sum_set (l : List FV) (d : FV) : ∀ k (hk : k < l.length), bsum (l.set k d) = bsum l - needI (l[k].xs.length) + needI d.xs.length := by
  induction l with
  | nil => intro k hk; simp at hk
  | cons x r ih =>
    intro k hk
    cases k with
    | zero => simp [bsum]; omega
    | succ k =>
      have := ih k (by simpa using hk)
      simp only [bsum, List.set_cons_succ, List.map_cons, List.sum_cons, List.getElem_cons_succ] at this ⊢
      omega
/-- Write at a file's end: whether it fits, and what it leaves. -/
theorem map_write {l : List FV} {g : RG} (h : MP l g) (hg : RGood g) {k : Nat} (hk : k < l.length) {i : Nat} (hi : i ∈ idxL g.ns) (e : fg g i = fv l[k]) (b : List UInt8) :
    ((writeV g (i : Int) (l[k].xs.length : Int) b).1 = if bsum (l.set k { l[k] with xs := l[k].xs ++ b }) ≤ 23 then 0 else 125) ∧
    ((writeV g (i : Int) (l[k].xs.length : Int) b).1 = 0 → ∀ A c, MP (l.set k ⟨l[k].name, A, l[k].xs ++ b, c⟩) (writeV g (i : Int) (l[k].xs.length : Int) b).2) := by
  obtain ⟨h1, h2⟩ := idxL_mem.1 hi
  have hsz : (l[k].xs.length : Int) = (at' g.ns i).size := by
    have := data_len hg h1
    rw [← this]
    exact congrArg (fun p => ((Prod.snd p).length : Int)) e.symm
  obtain ⟨hz, hz2, hz3⟩ := hg.size h1
  have e0 : nodeE g.ns (i : Int) = 0 := nodeE_zero.2 ⟨⟨by omega, by omega⟩, h2⟩
  have ex : nodeX g.ns (i : Int) = at' g.ns i := by unfold nodeX; rw [if_pos e0]; rfl
  have hfree := free_count hg
  have hsum : bsum (l.set k { l[k] with xs := l[k].xs ++ b }) = blkSum (filesV g) - needI (at' g.ns i).size + needI ((at' g.ns i).size + (b.length : Int)) := by
    rw [sum_set _ _ k hk, h.sum, hsz]
    simp only [List.length_append]
    rw [show ((l[k].xs.length + b.length : Nat) : Int) = (at' g.ns i).size + (b.length : Int) by omega]
  have hw1 : (writeV g (i : Int) (l[k].xs.length : Int) b).1 = (reachV g (i : Int) (l[k].xs.length : Int) b.length).1 := by
    unfold writeV
    by_cases h0 : (reachV g (i : Int) (l[k].xs.length : Int) b.length).1 = 0
    · rw [if_pos h0, h0]
    · rw [if_neg h0]
  refine ⟨?_, fun h0 A c => ?_⟩
  · rw [hw1, hsum, hsz]
    unfold reachV
    rw [if_neg (by rw [e0]; decide), ex, if_neg (by omega)]
    by_cases hb : (at' g.ns i).size < (at' g.ns i).size + (b.length : Int)
    · rw [if_pos hb]
      have hgf := grow_fits hg (n := (i : Int)) ⟨by omega, by omega⟩ (by simpa using h2) (size := (at' g.ns i).size + (b.length : Int)) (by simp; omega)
      simp only [Int.toNat_natCast] at hgf
      unfold resizeV
      rw [hgf]
      split <;> rfl
    · rw [if_neg hb, show (at' g.ns i).size + (b.length : Int) = (at' g.ns i).size by omega, if_pos]
      rw [blkSum_files hg]
      omega
  · have hs := write_sim hg (i : Int) (l[k].xs.length : Int) b h0
    rw [hsz] at h0 hs ⊢
    have hd := write_data hg h1 h2 b h0
    have hr := h.rest hg hk hi e
    have hi' : i ∈ idxL (writeV g (i : Int) (at' g.ns i).size b).2.ns := by rw [hs.1.idx]; exact hi
    have hfo := files_one hi'
    rw [hs.1.rest] at hfo
    have hfg : fg (writeV g (i : Int) (at' g.ns i).size b).2 i = (l[k].name, l[k].xs ++ b) := by
      unfold fg
      rw [hd, hs.1.nm i h1]
      rw [show (at' g.ns i).name = l[k].name from congrArg Prod.fst e, show dataV g (at' g.ns i) = l[k].xs from congrArg Prod.snd e]
    rw [hfg] at hfo
    have hk' : k < (l.set k ⟨l[k].name, A, l[k].xs ++ b, c⟩).length := by simpa using hk
    have hp := (erase_perm hk').map fv
    rw [List.map_cons, List.getElem_set_self, List.eraseIdx_set_eq] at hp
    unfold MP
    refine hp.symm.trans (((hr.cons _)).trans hfo.symm)
theorem MP.again {l : List FV} {g : RG} (h : MP l g) (hl : g.ns.length = 8) : MP l ⟨bytesL g, g.ns⟩ := by
  unfold MP
  rw [files_again hl]
  exact h
/-- At the end: each file is in the list, with its bytes. -/
theorem MP.back {l : List FV} {g : RG} (h : MP l g) {j : Nat} (hj : j < (filesV g).length) : ∃ k, ∃ hk : k < l.length, fv l[k] = (filesV g).getD j ([], []) := by
  have hm : (filesV g).getD j ([], []) ∈ filesV g := by
    rw [List.getD_eq_getElem?_getD, List.getElem?_eq_getElem hj]
    exact List.getElem_mem _
  obtain ⟨d, hd, e⟩ := List.mem_map.1 (h.mem_iff.2 hm)
  obtain ⟨k, hk, rfl⟩ := List.getElem_of_mem hd
  exact ⟨k, hk, e⟩
end Go.Proofs.YtdihgfagodjicaaDoor.Fs
namespace Go.Proofs.YtdihgfagodjicaaDoor.Fs
open Go.RowKit Ex Ino Mm
set_option linter.unusedVariables false
set_option linter.unusedSimpArgs false

def fvc (d : FV) : List Value := [St d.name, .slice d.A d.xs.length d.c]
theorem fvc_len (d : FV) : (fvc d).length = 2 := rfl
theorem flatV_at (l : List FV) : ∀ (k : Nat) (a : FV), l[k]? = some a → ∀ j v, (fvc a)[j]? = some v → (l.flatMap fvc)[k * 2 + j]? = some v := by
  induction l with
  | nil => intro k a h; simp at h
  | cons x r ih =>
    intro k a h j v hv
    have hj : j < 2 := by have := (List.getElem?_eq_some_iff.1 hv).1; simpa [fvc] using this
    rw [List.flatMap_cons]
    cases k with
    | zero =>
      have e : x = a := by simpa using h
      subst e
      rw [List.getElem?_append_left (by simp [fvc]; omega)]
      simpa using hv
    | succ k =>
      rw [List.getElem?_append_right (by simp [fvc]; omega), show (k + 1) * 2 + j - (fvc x).length = k * 2 + j by simp [fvc]; omega]
      exact ih k a (by simpa using h) j v hv
theorem flatV_len : ∀ l : List FV, (l.flatMap fvc).length = l.length * 2
  | [] => rfl
  | x :: r => by rw [List.flatMap_cons, List.length_append, flatV_len r, fvc_len, List.length_cons]; omega
theorem flatV_set : ∀ (l : List FV) (k : Nat) (hk : k < l.length) (A : Option Addr) (xs : List UInt8) (c : Nat), (l.flatMap fvc).set (k * 2 + 1) (.slice A xs.length c) = (l.set k ⟨l[k].name, A, xs, c⟩).flatMap fvc
  | [], k, hk, _, _, _ => by simp at hk
  | x :: r, 0, hk, A, xs, c => by simp [fvc]
  | x :: r, k + 1, hk, A, xs, c => by
    have ih := flatV_set r k (by simpa using hk) A xs c
    rw [List.flatMap_cons, List.set_cons_succ, List.flatMap_cons, List.set_append, if_neg (by rw [fvc_len]; omega), fvc_len, show (k + 1) * 2 + 1 - 2 = k * 2 + 1 by omega, ih]
    rfl
theorem flatV_one (l : List FV) : ∀ u ∈ l.flatMap fvc, u.oneCell' = true := fun u hu => by
  obtain ⟨d, _, hd⟩ := List.mem_flatMap.1 hu
  simp only [fvc, List.mem_cons, List.not_mem_nil, or_false] at hd
  rcases hd with rfl | rfl <;> rfl
/-- The list lies at G, its own from block B on; its files' bytes lie elsewhere. -/
structure FL (w : World) (B : Nat) (G : Option Addr) (cap : Nat) (l : List FV) : Prop where
  own : w.ownsRow B 45 2 (.slice G l.length cap) l.length (l.flatMap fvc)
  br : ∀ d ∈ l, BR w w.heap.size d.A d.xs
  at_ : ∀ d ∈ l, d.xs ≠ [] → ∀ ad, d.A = some ad → B ≤ ad.block ∧ ∀ g, G = some ⟨g, 0, none⟩ → ad.block ≠ g
variable {w : World} {B : Nat} {G : Option Addr} {cap : Nat} {l : List FV}
theorem FL.nil (w : World) (B : Nat) : FL w B none 0 [] := ⟨World.ownsRow_nil _ _ _ _, (fun d hd => by cases hd), (fun d hd => by cases hd)⟩
theorem FL.cell (h : FL w B G cap l) {k : Nat} (hk : k < l.length) : ∃ g, G = some ⟨g, 0, none⟩ ∧ B ≤ g ∧ g < w.heap.size ∧ w.cell? ⟨g, k * 2, none⟩ = some (St l[k].name) ∧ w.cell? ⟨g, k * 2 + 1, none⟩ = some (.slice l[k].A l[k].xs.length l[k].c) ∧ (∀ j, w.frozen? ⟨g, j, none⟩ = false) ∧ l.length ≤ cap := by
  have how := h.own
  obtain ⟨g, c, hv, hb, hlt⟩ := World.ownsRow.form how (by omega)
  injection hv with e1 _ e3
  subst e1
  refine ⟨g, rfl, hb, hlt, ?_, ?_, fun j => World.ownsRow.frozenAt how j, ?_⟩
  · rw [World.ownsRow.cellAt how (k * 2) (by omega)]
    exact flatV_at l k l[k] (List.getElem?_eq_getElem hk) 0 _ rfl
  · rw [World.ownsRow.cellAt how (k * 2 + 1) (by omega)]
    exact flatV_at l k l[k] (List.getElem?_eq_getElem hk) 1 _ rfl
  · rcases how.2 with ⟨e, _⟩ | ⟨_, _, _, e, _, _, hle, _⟩
    · cases e
    · injection e with _ _ e; omega
theorem FL.keep {w' : World} {F : Nat → Prop} (h : FL w B G cap l) (k : Keeps F w w') (hF : ∀ j, B ≤ j → ¬ F j) : FL w' B G cap l := by
  refine ⟨⟨h.own.1, ?_⟩, fun d hd => k.br (h.br d hd) fun ad e hne => hF _ (h.at_ d hd hne ad e).1, h.at_⟩
  rcases h.own.2 with h0 | ⟨g, c, cur, hv, hb, hg, rest⟩
  · exact .inl h0
  · exact .inr ⟨g, c, cur, hv, hb, (k.block g (Array.getElem?_eq_some_iff.1 hg).1 (hF g hb)).trans hg, rest⟩
theorem FL.store (h : FL w B G cap l) {k : Nat} (hk : k < l.length) {g : Nat} (hG : G = some ⟨g, 0, none⟩) (A : Option Addr) (xs : List UInt8) (c : Nat) (hb : BR w w.heap.size A xs) (hA : xs ≠ [] → ∀ ad, A = some ad → B ≤ ad.block ∧ ad.block ≠ g) :
    FL (w.setCell ⟨g, k * 2 + 1, none⟩ (.slice A xs.length c)) B G cap (l.set k ⟨l[k].name, A, xs, c⟩) := by
  have how := h.own
  rw [hG] at how
  have h1 := (World.ownsRow.stored how (k * 2 + 1) (.slice A xs.length c)).1
  have hbr : ∀ (A' : Option Addr) (ys : List UInt8), BR w w.heap.size A' ys → (ys ≠ [] → ∀ ad, A' = some ad → ad.block ≠ g) → BR (w.setCell ⟨g, k * 2 + 1, none⟩ (.slice A xs.length c)) (w.setCell ⟨g, k * 2 + 1, none⟩ (.slice A xs.length c)).heap.size A' ys := fun A' ys hb hne => by
    have kk := Keeps.setCell (· = g) w ⟨g, k * 2 + 1, none⟩ (.slice A xs.length c) rfl
    exact kk.br hb fun ad e hy => hne hy ad e
  have hm : ∀ d, d ∈ l.set k ⟨l[k].name, A, xs, c⟩ → d ∈ l ∨ d = ⟨l[k].name, A, xs, c⟩ := fun d hd => List.mem_or_eq_of_mem_set hd
  refine ⟨?_, fun d hd => ?_, fun d hd hne ad e => ?_⟩
  · rw [List.length_set, ← flatV_set l k hk, hG]
    exact h1
  · rcases hm d hd with h2 | rfl
    · exact hbr _ _ (h.br d h2) fun hne ad e => (h.at_ d h2 hne ad e).2 g hG
    · exact hbr _ _ hb fun hne ad e => (hA hne ad e).2
  · rcases hm d hd with h2 | rfl
    · exact h.at_ d h2 hne ad e
    · exact ⟨(hA hne ad e).1, fun g' e' => by rw [hG] at e'; cases e'; exact (hA hne ad e).2⟩
theorem FL.form (h : FL w B G cap l) : G = none ∨ ∃ g, G = some ⟨g, 0, none⟩ := by
  rcases h.own.2 with ⟨e, _⟩ | ⟨g, _, _, e, _⟩
  · injection e with e1; exact .inl e1
  · injection e with e1; exact .inr ⟨g, e1⟩
theorem FL.base (h : FL w B G cap l) {g : Nat} (hG : G = some ⟨g, 0, none⟩) : B ≤ g ∧ g < w.heap.size ∧ ∃ cs, w.heap[g]? = some (.cells cs 45 (0, 0)) := by
  subst hG
  rcases h.own.2 with ⟨e, _⟩ | ⟨g', _, cur, e, hb, hg, _⟩
  · cases e
  · have e2 : g = g' := by injection e with e; injection e with e; injection e
    subst e2
    exact ⟨hb, (Array.getElem?_eq_some_iff.1 hg).1, cur, hg⟩
/-- append: some more files, from cells that hold them. -/
theorem FL.app (h : FL w B G cap l) (hB : B ≤ w.heap.size) (hl : l.length ≤ 1000) (ns : List FV) (hn : ns.length ≤ 1000) (ad : Addr) (c : Nat) (ty : TypeId) (hc : ∀ j u, (ns.flatMap fvc)[j]? = some u → w.cell? (ad.add j) = some u)
    (hbr : ∀ d ∈ ns, BR w w.heap.size d.A d.xs) (hat : ∀ d ∈ ns, d.xs ≠ [] → ∀ ad, d.A = some ad → B ≤ ad.block ∧ ∀ g, G = some ⟨g, 0, none⟩ → ad.block ≠ g) :
    ∃ G' cap' w', (Builtin.append_ #[30, 30] ty #[.slice G l.length cap, .slice (some ad) ns.length c]).run Tryd.prog w = .ok (.slice G' (l.length + ns.length) cap') w' ∧ FL w' B G' cap' (l ++ ns) ∧ Keeps (fun j => G = some ⟨j, 0, none⟩) w w' ∧
      (G' = G ∨ G' = some ⟨w.heap.size, 0, none⟩) := by
  obtain ⟨i0, hi, hz0, hz1, hz2⟩ := info_parts Tryd.infoFi
  obtain ⟨v', w', hrun, hown, hg, hnone, hb⟩ := run_append_own_at (P := Tryd.prog) w B 30 ty 45 i0 _ 2 40 Tryd.underlying30 hi hz0 hz1 hz2 rfl (by decide) _ l.length _ h.own ad ns.length c (ns.flatMap fvc) (flatV_len ns) hc (flatV_one ns) (by unfold maxLen; omega) (by omega) hB
  have hown0 := h.own
  have hfin : Keeps (fun j => G = some ⟨j, 0, none⟩) w w' ∧ ∃ G' cap', v' = .slice G' (l.length + ns.length) cap' ∧ (G' = G ∨ G' = some ⟨w.heap.size, 0, none⟩) := by
    have hform : ∃ G' cap', v' = .slice G' (l.length + ns.length) cap' ∧ ((G' = none ∧ l.length + ns.length = 0) ∨ ∃ g', G' = some ⟨g', 0, none⟩) := by
      rcases hown.2 with ⟨e, e0⟩ | ⟨g, c', cur, e, _⟩
      · exact ⟨none, 0, by rw [e, e0], .inl ⟨rfl, e0⟩⟩
      · exact ⟨some ⟨g, 0, none⟩, c', e, .inr ⟨g, rfl⟩⟩
    obtain ⟨G', cap', rfl, hG'⟩ := hform
    rcases h.form with rfl | ⟨g, rfl⟩
    · refine ⟨⟨hg.os, hg.tape, hg.output, hg.size, fun j hj _ => hg.block j hj (by intro e; cases e)⟩, G', cap', rfl, ?_⟩
      rcases hG' with ⟨e, _⟩ | ⟨g', rfl⟩
      · exact .inl e
      · rcases hb with hb | hb
        · cases hb
        · have hb2 : g' = w.heap.size := Option.some.inj hb
          exact .inr (by rw [hb2])
    · refine ⟨⟨hg.os, hg.tape, hg.output, hg.size, fun j hj hn => hg.block j hj (fun e => hn (by have e2 : j = g := Option.some.inj e; rw [e2]))⟩, G', cap', rfl, ?_⟩
      rcases hG' with ⟨rfl, e0⟩ | ⟨g', rfl⟩
      · rcases hb with hb | hb <;> cases hb
      · rcases hb with hb | hb
        · have hb2 : g' = g := Option.some.inj hb
          exact .inl (by rw [hb2])
        · have hb2 : g' = w.heap.size := Option.some.inj hb
          exact .inr (by rw [hb2])
  obtain ⟨hk, hform⟩ := hfin
  obtain ⟨G', cap', rfl, hG'⟩ := hform
  have hne : ∀ d, (d ∈ l ∨ d ∈ ns) → d.xs ≠ [] → ∀ ad, d.A = some ad → BR w w.heap.size d.A d.xs ∧ B ≤ ad.block ∧ ad.block < w.heap.size ∧ ∀ g, G = some ⟨g, 0, none⟩ → ad.block ≠ g := fun d hd hxs a ha => by
    have hb : BR w w.heap.size d.A d.xs := by rcases hd with h1 | h1; exact h.br d h1; exact hbr d h1
    have h2 : B ≤ a.block ∧ ∀ g, G = some ⟨g, 0, none⟩ → a.block ≠ g := by rcases hd with h1 | h1; exact h.at_ d h1 hxs a ha; exact hat d h1 hxs a ha
    obtain ⟨a', e, hl, _⟩ := hb hxs
    rw [ha] at e; cases e
    exact ⟨hb, h2.1, hl, h2.2⟩
  refine ⟨G', cap', w', hrun, ⟨?_, fun d hd => ?_, fun d hd hxs a ha => ?_⟩, hk, hG'⟩
  · rw [List.length_append, List.flatMap_append]
    exact hown
  · have hd' := List.mem_append.1 hd
    have hb0 : BR w w.heap.size d.A d.xs := by rcases hd' with h1 | h1; exact h.br d h1; exact hbr d h1
    refine hk.br hb0 fun a ha hxs e => ?_
    exact (hne d hd' hxs a ha).2.2.2 _ e rfl
  · obtain ⟨-, h1, h2, h3⟩ := hne d (List.mem_append.1 hd) hxs a ha
    refine ⟨h1, fun g hg2 => ?_⟩
    rcases hG' with e | e
    · exact h3 g (e ▸ hg2)
    · rw [e] at hg2
      cases hg2
      omega
/-! ### a file cut out of the list -/
section
variable {P : Program} {o : Oper} {ρ : Operand → Value}
theorem ex_appE {w w' : World} (s x : Operand) (t t' : TypeId) (ho : o.op = .call { callee := .builtin .append, args := #[s, x], argTypes := #[t, t'] }) (u1 u2 v : Value) (h1 : ρ s = u1) (h2 : ρ x = u2) {ty : TypeId} (hty : o.type = ty)
    (hrun : (Builtin.append_ #[t, t'] ty #[u1, u2]).run P w = .ok v w') : (execOp ρ o).run P w = .ok (.value v) w' := by
  subst hty
  exact ex_append2 s x t t' ho v (by rw [h1, h2]; exact hrun)
theorem ex_slA (t : TypeId) (x y : Operand) (ho : o.op = .slice t x none (some y) none) (vx vy v : Value) (hx : ρ x = vx) (hy : ρ y = vy) (hrun : ∀ w, (Instr.sliceAt t vx none (some vy) none).run P w = .ok v w) (w : World) : (execOp ρ o).run P w = .ok (.value v) w := by
  unfold execOp
  simp only [ho, hx, hy, Option.map_some, Option.map_none]
  rw [Sem.run_bind, hrun]
  rfl
theorem ex_slB (t : TypeId) (x y : Operand) (ho : o.op = .slice t x (some y) none none) (vx vy v : Value) (hx : ρ x = vx) (hy : ρ y = vy) (hrun : ∀ w, (Instr.sliceAt t vx (some vy) none none).run P w = .ok v w) (w : World) : (execOp ρ o).run P w = .ok (.value v) w := by
  unfold execOp
  simp only [ho, hx, hy, Option.map_some, Option.map_none]
  rw [Sem.run_bind, hrun]
  rfl
end
theorem fhead_run (g N cap K : Nat) (w : World) (h1 : K ≤ N) (h2 : N ≤ cap) : (Instr.sliceAt 30 (.slice (some ⟨g, 0, none⟩) N cap) none (some (.int .i64 (K : Int))) none).run Tryd.prog w = .ok (.slice (some ⟨g, 0, none⟩) K cap) w := by
  have e1 : (K : Int) ≤ (cap : Int) := by omega
  go_simp
theorem ftail_run (g N cap K : Nat) (w : World) (h1 : K ≤ N) (_h2 : N ≤ cap) (h3 : K < cap) : (Instr.sliceAt 30 (.slice (some ⟨g, 0, none⟩) N cap) (some (.int .i64 (K : Int))) none none).run Tryd.prog w = .ok (.slice (some ⟨g, K * 2, none⟩) (N - K) (cap - K)) w := by
  have h4 : ¬ cap = K := by omega
  go_simp
theorem ftail_run0 (g K : Nat) (w : World) : (Instr.sliceAt 30 (.slice (some ⟨g, 0, none⟩) K K) (some (.int .i64 (K : Int))) none none).run Tryd.prog w = .ok (.slice (some ⟨g, 0, none⟩) 0 0) w := by
  go_simp
theorem eraseV (l : List FV) {k : Nat} (hk : k < l.length) : l.take k ++ l.drop (k + 1) = l.eraseIdx k := (List.eraseIdx_eq_take_drop_succ ..).symm
theorem FL.cut {g : Nat} (h : FL w B (some ⟨g, 0, none⟩) cap l) (hB : B ≤ w.heap.size) (hl : l.length ≤ 8) {k : Nat} (hk : k < l.length) (ty1 ty2 : TypeId) : ∃ T ct,
    (∀ w, (Instr.sliceAt 30 (.slice (some ⟨g, 0, none⟩) l.length cap) none (some (.int .i64 (k : Int))) none).run Tryd.prog w = .ok (.slice (some ⟨g, 0, none⟩) k cap) w) ∧
    (∀ w, (Instr.sliceAt 30 (.slice (some ⟨g, 0, none⟩) l.length cap) (some (.int .i64 ((k : Int) + 1))) none none).run Tryd.prog w = .ok (.slice (some T) (l.length - (k + 1)) ct) w) ∧
    ∃ G1 c1 w1, (Builtin.append_ #[30, 30] ty1 #[.slice none 0 0, .slice (some ⟨g, 0, none⟩) k cap]).run Tryd.prog w = .ok (.slice G1 k c1) w1 ∧ Keeps (fun _ => False) w w1 ∧
    ∃ G2 c2 w2, (Builtin.append_ #[30, 30] ty2 #[.slice G1 k c1, .slice (some T) (l.length - (k + 1)) ct]).run Tryd.prog w1 = .ok (.slice G2 (l.length - 1) c2) w2 ∧ FL w2 B G2 c2 (l.eraseIdx k) ∧ Keeps (fun j => w.heap.size ≤ j) w w2 := by
  obtain ⟨_, _, cs, hgc⟩ := h.base rfl
  have hcap : l.length ≤ cap := by
    obtain ⟨_, _, _, _, _, _, _, hc⟩ := h.cell hk
    exact hc
  have hcell : ∀ j u, (l.flatMap fvc)[j]? = some u → w.cell? ⟨g, j, none⟩ = some u := fun j u hu => by
    have hj := (List.getElem?_eq_some_iff.1 hu).1
    rw [flatV_len] at hj
    rw [World.ownsRow.cellAt h.own j hj]
    exact hu
  have hadd : ∀ o j, (⟨g, o, none⟩ : Addr).add j = ⟨g, o + j, none⟩ := fun o j => by unfold Addr.add; split <;> simp_all
  have htail : ∃ T ct, (∀ w, (Instr.sliceAt 30 (.slice (some ⟨g, 0, none⟩) l.length cap) (some (.int .i64 ((k : Int) + 1))) none none).run Tryd.prog w = .ok (.slice (some T) (l.length - (k + 1)) ct) w) ∧ ∀ j u, ((l.drop (k + 1)).flatMap fvc)[j]? = some u → w.cell? (T.add j) = some u := by
    by_cases hlt : k + 1 < cap
    · refine ⟨⟨g, (k + 1) * 2, none⟩, cap - (k + 1), fun w => ?_, fun j u hu => ?_⟩
      · have := ftail_run g l.length cap (k + 1) w (by omega) hcap hlt
        rwa [Int.natCast_add] at this
      · rw [hadd]
        refine hcell _ u ?_
        have e : l.flatMap fvc = (l.take (k + 1)).flatMap fvc ++ (l.drop (k + 1)).flatMap fvc := by rw [← List.flatMap_append, List.take_append_drop]
        rw [e, List.getElem?_append_right (by rw [flatV_len, List.length_take]; omega), flatV_len, List.length_take, show (k + 1) * 2 + j - min (k + 1) l.length * 2 = j by omega]
        exact hu
    · obtain rfl : cap = k + 1 := by omega
      have hkl : l.length = k + 1 := by omega
      refine ⟨⟨g, 0, none⟩, 0, fun w => ?_, fun j u hu => ?_⟩
      · have := ftail_run0 g (k + 1) w
        rw [hkl, Nat.sub_self]
        rwa [Int.natCast_add] at this
      · rw [List.drop_of_length_le (by omega)] at hu
        simp at hu
  obtain ⟨T, ct, ht, htc⟩ := htail
  have htk : (l.take k).length = k := by rw [List.length_take]; omega
  have hdk : (l.drop (k + 1)).length = l.length - (k + 1) := by rw [List.length_drop]
  obtain ⟨G1, c1, w1, r1, f1, k1, g1⟩ := (FL.nil w B).app hB (by simp) (l.take k) (by omega) ⟨g, 0, none⟩ cap ty1 (fun j u hu => by
    rw [hadd, Nat.zero_add]
    refine hcell j u ?_
    have e : l.flatMap fvc = (l.take k).flatMap fvc ++ (l.drop k).flatMap fvc := by rw [← List.flatMap_append, List.take_append_drop]
    rw [e, List.getElem?_append_left (List.getElem?_eq_some_iff.1 hu).1]
    exact hu) (fun d hd => h.br d (List.mem_of_mem_take hd)) (fun d hd hne ad e => ⟨(h.at_ d (List.mem_of_mem_take hd) hne ad e).1, fun g' e' => by cases e'⟩)
  rw [htk] at r1
  simp only [List.length_nil, Nat.zero_add, List.nil_append] at r1 f1
  have k1' : Keeps (fun _ => False) w w1 := k1.mono fun _ _ e => by cases e
  obtain ⟨G2, c2, w2, r2, f2, k2, g2⟩ := f1.app (Nat.le_trans hB k1.size) (by omega) (l.drop (k + 1)) (by omega) T ct ty2 (fun j u hu => by
    have hc := htc j u hu
    exact (World.cell?_of_block (k1'.block _ (World.block_lt_of_cell? _ _ hc) (fun f => f))).trans hc) (fun d hd => k1'.br (h.br d (List.mem_of_mem_drop hd)) (fun _ _ _ f => f)) (fun d hd hne ad e => ⟨(h.at_ d (List.mem_of_mem_drop hd) hne ad e).1, fun g' e' => by
      obtain ⟨ad', ea, hl', _⟩ := h.br d (List.mem_of_mem_drop hd) hne
      rw [e] at ea; cases ea
      rcases g1 with e1 | e1
      · rw [e1] at e'; cases e'
      · rw [e1] at e'; cases e'; omega⟩)
  rw [htk, hdk] at r2
  rw [eraseV l hk] at f2
  refine ⟨T, ct, fun w => fhead_run g l.length cap k w (by omega) hcap, ht, G1, c1, w1, r1, k1', G2, c2, w2, ?_, f2, (k1'.mono fun _ _ f => f.elim).trans (k2.mono fun j _ e => by
    rcases g1 with e1 | e1
    · rw [e1] at e; cases e
    · rw [e1] at e; cases e; exact Nat.le_refl _)⟩
  rw [r2, show k + (l.length - (k + 1)) = l.length - 1 by omega]
/-! ### find, blocks -/
def FndR (l : List FV) (name : List UInt8) (r : Int) : Prop := (∃ k : Nat, ∃ hk : k < l.length, r = (k : Int) ∧ l[k].name = name) ∨ (r = -1 ∧ ∀ d ∈ l, d.name ≠ name)
def FndOut (w : World) (l : List FV) (name : List UInt8) (e : Ending) (w' : World) : Prop := ∃ r, e = .returned (.int .i64 r) ∧ FndR l name r ∧ w' = w
set_option maxRecDepth 100000 in
set_option maxHeartbeats 800000 in
theorem find_list (h : FL w B G cap l) (hl : l.length ≤ 1000) (name : List UInt8) : Calls Tryd.prog 15 #[.slice G l.length cap, St name] w (FndOut w l name) := by
  have HH := Lib.hid h
  have HG : Hid (∀ r, FndR l name r → FndOut w l name (.returned (.int .i64 r)) w) := fun r hr => ⟨r, rfl, hr, rfl⟩
  clear h
  go_enter Tryd.func15, Tryd.ntmps15
  go_wp2_with fail
  go_loopw [8] (fun i wr => ∃ k : Nat, k ≤ l.length ∧ i = .int .i64 (k : Int) ∧ wr = w ∧ ∀ j (hj : j < l.length), j < k → l[j].name ≠ name) (fun i _ => l.length - (RowKit.intOf i).toNat)
  case atStart => exact ⟨0, by omega, rfl, rfl, fun j _ h => by omega⟩
  case round =>
    obtain ⟨k, hk, rfl, rfl, hno⟩ := hrel
    by_cases hlt : k < l.length
    · obtain ⟨g, rfl, -, -, c1, -, -, -⟩ := HH.out.cell hlt
      by_cases hx : l[k].name = name
      · have hgo := Lib.hid (HG.out (k : Int) (.inl ⟨k, hlt, rfl, hx⟩))
        rw [hx] at c1
        have hd : decide (name = name) = true := by simp
        have HX := Lib.hid hd
        clear HG hno hx hd
        go_wp2_with (first | ((with_reducible refine at_ (op := .binOp .eql 9 (.tmp 15) (.tmp 16) 9) ?_); refine wpList_val rfl _ (HX.out ▸ ex_eqlS (.tmp 15) (.tmp 16) rfl _ _ rfl rfl) ?_))
        go_ret
        exact hgo.out
      · have HR : Hid (∀ j (hj : j < l.length), j < k + 1 → l[j].name ≠ name) := fun j hj h => by
          rcases Nat.lt_or_ge j k with h2 | h2
          · exact hno j hj h2
          · obtain rfl : j = k := by omega
            exact hx
        have hd : decide (l[k].name = name) = false := by simpa using hx
        generalize l[k].name = nk at *
        have HX := Lib.hid hd
        clear HG hno hx hd
        go_wp2_with (first | ((with_reducible refine at_ (op := .binOp .eql 9 (.tmp 15) (.tmp 16) 9) ?_); refine wpList_val rfl _ (HX.out ▸ ex_eqlS (.tmp 15) (.tmp 16) rfl _ _ rfl rfl) ?_))
        go_roundw
        case rel => exact ⟨k + 1, by omega, by go_num, by first | trivial | rfl, HR.out⟩
        case measure => simp [RowKit.intOf]; omega
    · have hgo := Lib.hid (HG.out (-1) (.inr ⟨rfl, fun d hd => by
        obtain ⟨j, hj, rfl⟩ := List.getElem_of_mem hd
        exact hno j hj (by omega)⟩))
      clear HG hno
      go_wp2_with fail
      go_ret
      exact hgo.out
def bsumK (l : List FV) (k : Nat) : Int := bsum (l.take k)
theorem bsumK_succ {l : List FV} {k : Nat} (hk : k < l.length) : bsumK l (k + 1) = bsumK l k + needI l[k].xs.length := by
  unfold bsumK bsum
  rw [List.take_succ_eq_append_getElem hk, List.map_append, List.sum_append]
  simp
theorem needI_big (n : Nat) (h : n ≤ 140737488360000) : 0 ≤ needI n ∧ needI n ≤ 3000000000000 := by
  unfold needI
  split <;> omega
theorem bsumK_bd {l : List FV} (hx : ∀ d ∈ l, d.xs.length ≤ 140737488360000) : ∀ k, k ≤ l.length → 0 ≤ bsumK l k ∧ bsumK l k ≤ 3000000000000 * k
  | 0, _ => by simp [bsumK, bsum]
  | k + 1, hk => by
    have := bsumK_bd hx k (by omega)
    have h2 := needI_big _ (hx l[k] (List.getElem_mem _))
    rw [bsumK_succ (by omega)]
    omega
set_option maxRecDepth 100000 in
set_option maxHeartbeats 800000 in
theorem blocks_list (h : FL w B G cap l) (hl : l.length ≤ 8) (hx : ∀ d ∈ l, d.xs.length ≤ 140737488360000) : Calls Tryd.prog 20 #[.slice G l.length cap] w (Gives w (.int .i64 (bsum l))) := by
  have HH := Lib.hid h
  have HBD := Lib.hid (bsumK_bd hx)
  have HXS := Lib.hid hx
  have hend : bsumK l l.length = bsum l := by unfold bsumK; rw [List.take_length]
  have HEND := Lib.hid hend
  clear h hx hend
  generalize bsum l = BS at *
  go_enter Tryd.func20, Tryd.ntmps20
  go_wp2_with fail
  go_loopw [8, 3, 5] (fun i s _ wr => ∃ k : Nat, k ≤ l.length ∧ i = .int .i64 (k : Int) ∧ s = .int .i64 (bsumK l k) ∧ Below w.heap.size w wr) (fun i _ _ _ => l.length - (RowKit.intOf i).toNat)
  case atStart => exact ⟨0, by omega, rfl, rfl, Below.refl _ _⟩
  case round =>
    obtain ⟨k, hk, rfl, rfl, hb⟩ := hrel
    by_cases hlt : k < l.length
    · obtain ⟨g, rfl, -, hg, c1, c2, -, -⟩ := HH.out.cell hlt
      have d1 := (hb.cell (p := ⟨g, k * 2, none⟩) hg).trans c1
      have d2 := (hb.cell (p := ⟨g, k * 2 + 1, none⟩) hg).trans c2
      have hst := bsumK_succ hlt
      have h1 := HBD.out (k + 1) (by omega)
      have h2 := needI_big _ (HXS.out l[k] (List.getElem_mem _))
      have h0 := HBD.out k hk
      have hn := HXS.out l[k] (List.getElem_mem _)
      rw [hst] at h1
      have HS := Lib.hid hst
      have hnd := fun W => rneed_any (l[k].xs.length : Int) W (by omega)
      have HND := Lib.hid hnd
      have HB := Lib.hid (hb.alloc hb.size (.cells #[St l[k].name, .slice l[k].A l[k].xs.length l[k].c] 45))
      clear c1 c2 hst hnd hb
      generalize bsumK l k = b0 at *
      generalize l[k].name = nk at *
      generalize l[k].A = Ak at *
      generalize l[k].c = ck at *
      generalize l[k].xs.length = xk at *
      generalize hnv : needI (xk : Int) = nv at *
      clear hnv
      go_wp2_with fail
      refine (HND.out _).mono ?_
      rintro e w2 ⟨rfl, rfl⟩
      go_wp2_with fail
      go_roundw
      case rel => exact ⟨k + 1, by omega, by go_num, by rw [HS.out], HB.out⟩
      case measure => simp [RowKit.intOf]; omega
    · obtain rfl : k = l.length := by omega
      have HB := Lib.hid hb
      rw [HEND.out]
      clear hb
      go_wp2_with fail
      go_ret
      exact ⟨rfl, HB.out⟩
end Go.Proofs.YtdihgfagodjicaaDoor.Fs
namespace Go.Proofs.YtdihgfagodjicaaDoor.Fs
open Go.RowKit Ex Ino Mm
set_option linter.unusedVariables false
set_option linter.unusedSimpArgs false

theorem free_full {ns : List IN} (h : freeI ns = none) : (idxL ns).length = 8 := by
  have hx : idxL ns = List.range 8 := by
    unfold idxL
    refine List.filter_eq_self.2 fun j hj => ?_
    unfold freeI at h
    have := List.find?_eq_none.1 h j hj
    simpa [isF] using this
  rw [hx]; rfl
theorem free_room {ns : List IN} {i : Nat} (h : freeI ns = some i) : (idxL ns).length < 8 := by
  obtain ⟨h1, h2⟩ := free_some h
  have hp := filter_one (List.nodup_range (n := 8)) (List.mem_range.2 h1)
  have hlen := hp.length_eq
  have hle : (idxL ns).length ≤ ((List.range 8).filter (· ≠ i)).length := by
    have : idxL ns = ((List.range 8).filter (· ≠ i)).filter (fun j => isF (at' ns j)) := by
      unfold idxL
      rw [List.filter_filter]
      refine List.filter_congr fun j hj => ?_
      by_cases e : j = i
      · subst e
        have : isF (at' ns j) = false := by simp [isF, h2]
        simp [this]
      · simp [e]
    rw [this]
    exact List.length_filter_le _ _
  simp only [List.length_range, List.length_cons] at hlen
  omega
/-- The state of the loop. -/
structure MapS (u W : World) (p gb mb B : Nat) (Z : List UInt8) (fl : List FV) (M : List UInt8) (Gf : Option Addr) (cp : Nat) : Prop where
  ls : FL W B Gf cp fl
  mem : MemAt W p gb mb Z M
  ok : OkM M
  mp : MP fl (regM M)
  kp : Keeps (fun j => j = p ∨ j = mb ∨ B ≤ j) u W
  lo : p < B ∧ gb < B ∧ mb < B
variable {u W W' : World} {p gb mb B : Nat} {Z : List UInt8} {fl : List FV} {M : List UInt8} {Gf : Option Addr} {cp : Nat}
theorem MapS.len (h : MapS u W p gb mb B Z fl M Gf cp) : fl.length ≤ 8 := by rw [h.mp.len]; exact files_few _
theorem MapS.few (h : MapS u W p gb mb B Z fl M Gf cp) : ∀ d ∈ fl, d.xs.length ≤ 1472 := fun d hd => by
  obtain ⟨k, hk, rfl⟩ := List.getElem_of_mem hd
  obtain ⟨i, hi, _, _, _, e⟩ := h.mp.find h.ok.good hk
  have h1 := (idxL_mem.1 hi).1
  have h2 := data_len h.ok.good h1
  have h3 := (h.ok.good.size h1).1
  have e2 : dataV (regM M) (at' (regM M).ns i) = fl[k].xs := congrArg Prod.snd e
  rw [e2] at h2
  omega
/-- Nothing of it changes, but for blocks that are new. -/
theorem MapS.new (h : MapS u W p gb mb B Z fl M Gf cp) (k : Keeps (fun _ => False) W W') : MapS u W' p gb mb B Z fl M Gf cp :=
  ⟨h.ls.keep k (fun _ _ f => f), h.mem.keep k (fun f => f) (fun f => f) (fun f => f), h.ok, h.mp, h.kp.trans (k.mono fun _ _ f => f.elim), h.lo⟩
/-- The memory has become another one. -/
theorem MapS.step {M' : List UInt8} (h : MapS u W p gb mb B Z fl M Gf cp) (k : Keeps (fun j => j = p ∨ j = mb) W W') (hm : MemAt W' p gb mb Z M') (ok : OkM M') (mp : MP fl (regM M')) : MapS u W' p gb mb B Z fl M' Gf cp :=
  ⟨h.ls.keep k (fun j h1 h2 => by have := h.lo; omega), hm, ok, mp, h.kp.trans (k.mono fun _ _ e => by rcases e with e | e; exact .inl e; exact .inr (.inl e)), h.lo⟩
/-- The list has become another one: some blocks from B on were written. -/
theorem MapS.list {fl' : List FV} {G' : Option Addr} {c' : Nat} (h : MapS u W p gb mb B Z fl M Gf cp) (k : Keeps (fun j => B ≤ j) W W') (ls : FL W' B G' c' fl') : FL W' B G' c' fl' ∧ MemAt W' p gb mb Z M ∧ Keeps (fun j => j = p ∨ j = mb ∨ B ≤ j) u W' := by
  have := h.lo
  exact ⟨ls, h.mem.keep k (by omega) (by omega) (by omega), h.kp.trans (k.mono fun _ _ e => .inr (.inr e))⟩
/-! ### Create -/
theorem create_bad1 (name : List UInt8) (g : RG) (h : nameB name = false) : createV g name = (121, 0, g) := by
  have h1 : findE g.ns name = 121 := by unfold findE; rw [if_pos h]
  have h2 : absentE g.ns name = 121 := by unfold absentE; rw [h1]; rfl
  unfold createV
  rw [h2, if_neg (by decide)]
theorem create_bad2 {name : List UInt8} {g : RG} (h : findE g.ns name = 0) : createV g name = (122, 0, g) := by
  have h2 : absentE g.ns name = 122 := by unfold absentE; rw [if_pos h]
  unfold createV
  rw [h2, if_neg (by decide)]
theorem create_bad3 {name : List UInt8} {g : RG} (hn : nameB name = true) (h : findI g.ns name = none) (hf : freeI g.ns = none) : createV g name = (124, 0, g) := by
  unfold createV
  rw [if_pos (absent_zero.2 ⟨hn, h⟩), hf]
/-- Create, as it is told by the list. -/
def CreS (u w : World) (p gb mb B : Nat) (Z : List UInt8) (fl : List FV) (M : List UInt8) (Gf : Option Addr) (cp : Nat) (E : Int) (e : Ending) (w' : World) : Prop :=
  ∃ n, e = .returned (.tuple #[.int .i64 n, .int .i64 E]) ∧ MapS u w' p gb mb B Z fl M Gf cp
theorem fcreate_bad' (h : MapS u W p gb mb B Z fl M Gf cp) (name : List UInt8) (hn : name.length ≤ 9223372036854775807) (E : Int) (hE : E ≠ 0) (hc : createV (regM M) name = (E, 0, regM M)) :
    Calls Tryd.prog 17 #[.pointer (some ⟨p, 0, none⟩), St name] W (CreS u W p gb mb B Z fl M Gf cp E) := by
  have := fcreate_any h.mem h.ok.ok name hn
  rw [show createV ⟨regB M, readN (regB M)⟩ name = (E, 0, regM M) from hc] at this
  refine this.mono ?_
  rintro e w' ⟨rfl, hm, hk⟩
  rw [if_neg hE] at hm
  exact ⟨_, rfl, h.step hk hm h.ok h.mp⟩
/-- Create where the list already has the new file. -/
theorem fcreate_new {d0 : FV} (hls : FL W B Gf cp (fl ++ [⟨d0.name, none, [], 0⟩])) (hm0 : MemAt W p gb mb Z M) (hkp : Keeps (fun j => j = p ∨ j = mb ∨ B ≤ j) u W) (hlo : p < B ∧ gb < B ∧ mb < B) (ok : OkM M) (mp : MP fl (regM M))
    (hl : d0.name.length ≤ 9223372036854775807) (hn : nameB d0.name = true) (hf : findI (regM M).ns d0.name = none) (hr : fl.length ≠ 8) :
    Calls Tryd.prog 17 #[.pointer (some ⟨p, 0, none⟩), St d0.name] W fun e w' => ∃ n M', e = .returned (.tuple #[.int .i64 n, .int .i64 0]) ∧ MapS u w' p gb mb B Z (fl ++ [⟨d0.name, none, [], 0⟩]) M' Gf cp := by
  cases hfr : freeI (regM M).ns with
  | none =>
    have h8 := free_full hfr
    have := mp.len
    rw [filesV_len, h8] at this
    exact absurd this hr
  | some i =>
    have he : (createV (regM M) d0.name).1 = 0 := by unfold createV; rw [if_pos (absent_zero.2 ⟨hn, hf⟩), hfr]
    obtain ⟨i', e1, _, e2, hg⟩ := create_good ok.good d0.name he
    rw [hfr] at e1
    obtain rfl : i = i' := Option.some.inj e1
    have hc := fcreate_any hm0 ok.ok d0.name hl
    rw [show createV ⟨regB M, readN (regB M)⟩ d0.name = _ from e2] at hc
    refine hc.mono ?_
    rintro e w' ⟨rfl, hm, hk⟩
    obtain ⟨o1, o2, _⟩ := ok.step (rv := (0, ⟨(regM M).bs, (regM M).ns.set i ⟨d0.name, 0, []⟩⟩)) fun _ => hg
    have o3 := o2 rfl
    have hmp := (map_create mp ok.good hfr (nameB_ne hn) 0).again hg.nl
    refine ⟨_, _, rfl, ⟨hls.keep hk (fun j h1 h2 => by omega), hm, o1, ?_, hkp.trans (hk.mono fun _ _ e => by rcases e with e | e; exact .inl e; exact .inr (.inl e)), hlo⟩⟩
    rw [show regM (if (0 : Int) = 0 then layL M 6144 (bytesL ⟨(regM M).bs, (regM M).ns.set i ⟨d0.name, 0, []⟩⟩) else M) = _ from o3]
    exact hmp
/-! ### Delete -/
theorem fdelete_no (h : MapS u W p gb mb B Z fl M Gf cp) (name : List UInt8) (hl : name.length ≤ 9223372036854775807) (hn : ∀ d ∈ fl, d.name ≠ name) :
    Calls Tryd.prog 18 #[.pointer (some ⟨p, 0, none⟩), St name] W fun e w' => ∃ E, e = .returned (.int .i64 E) ∧ E ≠ 0 ∧ MapS u w' p gb mb B Z fl M Gf cp := by
  have hne : findE (regM M).ns name ≠ 0 := fun e => by
    obtain ⟨_, i, hi⟩ := findE_zero.1 e
    rw [h.mp.none hn] at hi
    cases hi
  have hv : removeV (regM M) name = (findE (regM M).ns name, regM M) := by unfold removeV; rw [if_neg hne]
  have hc := fdelete_any h.mem h.ok.ok name hl
  rw [show removeV ⟨regB M, readN (regB M)⟩ name = _ from hv] at hc
  refine hc.mono ?_
  rintro e w' ⟨rfl, hm, hk⟩
  rw [if_neg hne] at hm
  exact ⟨_, rfl, hne, h.step hk hm h.ok h.mp⟩
theorem fdelete_yes (h : MapS u W p gb mb B Z fl M Gf cp) {k : Nat} (hk : k < fl.length) (hl : fl[k].name.length ≤ 9223372036854775807) :
    Calls Tryd.prog 18 #[.pointer (some ⟨p, 0, none⟩), St fl[k].name] W fun e w' => ∃ M', e = .returned (.int .i64 0) ∧ FL w' B Gf cp fl ∧ MemAt w' p gb mb Z M' ∧ OkM M' ∧ MP (fl.eraseIdx k) (regM M') ∧ Keeps (fun j => j = p ∨ j = mb) W w' := by
  obtain ⟨h1, h2⟩ := map_remove h.mp h.ok.good hk
  have hg := remove_good h.ok.good fl[k].name h1
  have hc := fdelete_any h.mem h.ok.ok fl[k].name hl
  refine hc.mono ?_
  rintro e w' ⟨rfl, hm, hkk⟩
  have h1' : (removeV ⟨regB M, readN (regB M)⟩ fl[k].name).1 = 0 := h1
  have hg' : RGood (removeV (regM M) fl[k].name).2 := by
    obtain ⟨_, _, _, e2, hx⟩ := hg
    rw [show removeV (regM M) fl[k].name = _ from e2]
    exact hx
  obtain ⟨o1, o2, _⟩ := h.ok.step (rv := removeV (regM M) fl[k].name) fun _ => hg'
  refine ⟨stepM M (removeV (regM M) fl[k].name), by rw [h1'], h.ls.keep hkk (fun j a b => by have := h.lo; omega), hm, o1, ?_, hkk⟩
  rw [o2 h1]
  exact h2.again hg'.nl
/-! ### Find, Write -/
theorem ffind_no (h : MapS u W p gb mb B Z fl M Gf cp) (name : List UInt8) (hl : name.length ≤ 9223372036854775807) (hn : ∀ d ∈ fl, d.name ≠ name) :
    Calls Tryd.prog 19 #[.pointer (some ⟨p, 0, none⟩), St name] W fun e w' => ∃ n E, e = .returned (.tuple #[.int .i64 n, .int .i64 E]) ∧ E ≠ 0 ∧ MapS u w' p gb mb B Z fl M Gf cp := by
  have hne : findE (regM M).ns name ≠ 0 := fun e => by
    obtain ⟨_, i, hi⟩ := findE_zero.1 e
    rw [h.mp.none hn] at hi
    cases hi
  refine (ffind_any (memC_flat h.mem) h.ok.ok name hl).mono ?_
  rintro e w' ⟨hm, hk, rfl⟩
  exact ⟨_, _, rfl, hne, h.step (hk.mono fun _ _ e => .inr e) hm h.ok h.mp⟩
theorem ffind_yes (h : MapS u W p gb mb B Z fl M Gf cp) {k : Nat} (hk : k < fl.length) (hl : fl[k].name.length ≤ 9223372036854775807) :
    Calls Tryd.prog 19 #[.pointer (some ⟨p, 0, none⟩), St fl[k].name] W fun e w' => ∃ i : Nat, e = .returned (.tuple #[.int .i64 (i : Int), .int .i64 0]) ∧ i ∈ idxL (regM M).ns ∧ fg (regM M) i = fv fl[k] ∧ MapS u w' p gb mb B Z fl M Gf cp ∧ Keeps (· = mb) W w' := by
  obtain ⟨i, hi, _, h1, h2, e⟩ := h.mp.find h.ok.good hk
  refine (ffind_any (memC_flat h.mem) h.ok.ok fl[k].name hl).mono ?_
  rintro e w' ⟨hm, hkk, rfl⟩
  refine ⟨i, ?_, hi, e, h.step (hkk.mono fun _ _ e => .inr e) hm h.ok h.mp, hkk⟩
  unfold fVal
  rw [show findN (readN (regB M)) fl[k].name = i from h2, show findE (readN (regB M)) fl[k].name = 0 from h1]
/-- Write behind the end of a file, the list having become so already (where it fits). -/
theorem fwrite_end (ok : OkM M) (mp : MP fl (regM M)) (hm0 : MemAt W p gb mb Z M) (hT : Tab W) (hmb : mb ≠ 0) {k : Nat} (hk : k < fl.length) {i : Nat} (hi : i ∈ idxL (regM M).ns) (e : fg (regM M) i = fv fl[k]) (A : Option Addr) (b : List UInt8) (c : Nat) (hb : BR W W.heap.size A b) (hbl : b.length ≤ 140737488355328)
    (hA : b ≠ [] → ∀ ad, A = some ad → ad.block ≠ mb) (hx : fl[k].xs.length ≤ 1472) :
    Calls Tryd.prog 21 #[.pointer (some ⟨p, 0, none⟩), .int .i64 (i : Int), .int .i64 (fl[k].xs.length : Int), .slice A b.length c] W fun en w' => ∃ M', en = .returned (.int .i64 (if bsum (fl.set k { fl[k] with xs := fl[k].xs ++ b }) ≤ 23 then 0 else 125)) ∧ MemAt w' p gb mb Z M' ∧ OkM M' ∧ Keeps (fun j => j = p ∨ j = mb) W w' ∧
      (bsum (fl.set k { fl[k] with xs := fl[k].xs ++ b }) ≤ 23 → ∀ A' c', MP (fl.set k ⟨fl[k].name, A', fl[k].xs ++ b, c'⟩) (regM M')) ∧ (¬ bsum (fl.set k { fl[k] with xs := fl[k].xs ++ b }) ≤ 23 → MP fl (regM M')) := by
  obtain ⟨h1, h2⟩ := map_write mp ok.good hk hi e b
  have hc := fwrite_any hm0 ok.ok hT hmb (i : Int) (fl[k].xs.length : Int) (by omega) c hb hbl hA
  refine hc.mono ?_
  rintro en w' ⟨rfl, hm, hkk⟩
  have hs := fun (h0 : (writeV (regM M) (i : Int) (fl[k].xs.length : Int) b).1 = 0) => write_sim ok.good (i : Int) (fl[k].xs.length : Int) b h0
  obtain ⟨o1, o2, o3⟩ := ok.step (rv := writeV (regM M) (i : Int) (fl[k].xs.length : Int) b) fun h0 => (hs h0).2
  refine ⟨stepM M (writeV (regM M) (i : Int) (fl[k].xs.length : Int) b), by rw [← h1]; rfl, hm, o1, hkk, fun hf A' c' => ?_, fun hf => ?_⟩
  · rw [if_pos hf] at h1
    rw [o2 h1]
    exact (h2 h1 A' c').again (hs h1).2.nl
  · rw [if_neg hf] at h1
    rw [o3 (by rw [h1]; decide)]
    exact mp
/-! ### bytes put behind bytes -/
set_option maxRecDepth 100000 in
theorem app8_any {w : World} {B : Nat} {R : Option Addr} {cap : Nat} {zs : List UInt8} (ty : TypeId) (h : Own8 w B 5 R cap zs) (hB : B ≤ w.heap.size) {A : Option Addr} {xs : List UInt8} (c : Nat) (hx : BR w w.heap.size A xs) (hl : zs.length + xs.length ≤ 140737488355328) :
    ∃ R' cap' w', (Builtin.append_ #[22, 22] ty #[.slice R zs.length cap, .slice A xs.length c]).run Tryd.prog w = .ok (.slice R' (zs.length + xs.length) cap') w' ∧ Own8 w' B 5 R' cap' (zs ++ xs) ∧ Below B w w' := by
  obtain ⟨i0, hi, hz0, hz1, hz2⟩ := info_parts Tryd.info8
  by_cases hn : xs = [] ∧ A = none
  · obtain ⟨rfl, rfl⟩ := hn
    refine ⟨R, cap, w, ?_, by simpa using h, Below.refl _ _⟩
    rcases h.2 with ⟨e, e0⟩ | ⟨g, c', cur, e, _, _, hle, _⟩
    · injection e with e1 e2 e3
      subst e1 e3
      simp [e0, Builtin.append_, run_underlying Tryd.underlying22, sizeOf, typeInfo, hi, Builtin.lenOf, Builtin.firstCells]
    · injection e with e1 e2 e3
      subst e1 e3
      have hle2 : ((zs.length : Nat) : Int) ≤ (cap : Int) := by omega
      simp [hle, Builtin.append_, run_underlying Tryd.underlying22, sizeOf, typeInfo, hi, Builtin.lenOf, Builtin.firstCells, storeCells]
  · obtain ⟨ad, rfl⟩ : ∃ ad, A = some ad := by
      cases A with
      | some ad => exact ⟨ad, rfl⟩
      | none =>
        have hne : xs ≠ [] := fun e => hn ⟨e, rfl⟩
        obtain ⟨ad, e, _⟩ := hx hne
        cases e
    have hc : ∀ j u, xs[j]? = some u → w.cell? (ad.add j) = some (B8 u) := fun j u hu => by
      have hne : xs ≠ [] := fun e => by rw [e] at hu; simp at hu
      obtain ⟨ad', e, _, hc⟩ := hx hne
      cases e
      exact hc j u hu
    obtain ⟨v, w', hrun, hown, hg, hv, _⟩ := run_append_own_at (P := Tryd.prog) w B 22 ty 5 i0 (.int .u8 0) 1 1 Tryd.underlying22 hi hz0 hz1 hz2 rfl (by decide) _ zs.length _ h ad xs.length c (xs.map B8) (by simp) (fun j v hj => by
      simp only [List.getElem?_map, Option.map_eq_some_iff] at hj
      obtain ⟨u, hu, rfl⟩ := hj
      exact hc j u hu) (by
      intro v hv
      simp only [List.mem_map] at hv
      obtain ⟨u, _, rfl⟩ := hv
      rfl) (by simp [maxLen]; omega) (by omega) hB
    have hform : ∃ R' cap', v = .slice R' (zs.length + xs.length) cap' := by
      rcases hown.2 with ⟨e, e0⟩ | ⟨g, c', cur, e, _⟩
      · exact ⟨none, 0, by rw [e, e0]⟩
      · exact ⟨_, c', e⟩
    obtain ⟨R', cap', rfl⟩ := hform
    refine ⟨R', cap', w', hrun, ?_, ⟨hg.os, hg.tape, hg.output, hg.size, fun k hk => hg.block k (by omega) (fun e' => ?_)⟩⟩
    · unfold Own8
      rw [List.map_append, List.length_append]
      exact hown
    · have := (World.ownsRow.lt h k e'.symm).1
      omega
theorem next_run {w : World} {A : Option Addr} {xs : List UInt8} (c : Nat) (hx : BR w w.heap.size A xs) (h1 : xs.length ≤ 1000000) {A2 : Option Addr} {ys : List UInt8} (c2 : Nat) (hy : BR w w.heap.size A2 ys) (h2 : xs.length + ys.length ≤ 140737488355328) (ty1 ty2 : TypeId) :
    ∃ R1 d1 w1, (Builtin.append_ #[22, 22] ty1 #[.slice none 0 0, .slice A xs.length c]).run Tryd.prog w = .ok (.slice R1 xs.length d1) w1 ∧ Keeps (fun _ => False) w w1 ∧
    ∃ R2 d2 w2, (Builtin.append_ #[22, 22] ty2 #[.slice R1 xs.length d1, .slice A2 ys.length c2]).run Tryd.prog w1 = .ok (.slice R2 (xs.length + ys.length) d2) w2 ∧ Keeps (fun _ => False) w w2 ∧ BR w2 w2.heap.size R2 (xs ++ ys) ∧ (xs ++ ys ≠ [] → ∀ ad, R2 = some ad → w.heap.size ≤ ad.block) := by
  obtain ⟨R1, d1, w1, r1, o1, b1⟩ := run_append8 (P := Tryd.prog) w 22 ty1 5 Tryd.info8 Tryd.underlying22 A xs c hx h1
  obtain ⟨R2, d2, w2, r2, o2, b2⟩ := app8_any ty2 o1 b1.size c2 ((hy.below b1).more b1.size) h2
  have b := b1.trans b2
  refine ⟨R1, d1, w1, r1, keeps_below' b1, R2, d2, w2, r2, keeps_below' b, o2.br, fun hne ad e => ?_⟩
  subst e
  obtain ⟨g, e, hg, _⟩ := o2.at_ (k := 0) (List.length_pos_iff.2 hne)
  cases e
  exact hg
theorem bsum_any (l : List FV) {k : Nat} (hk : k < l.length) (n : List UInt8) (A : Option Addr) (xs : List UInt8) (c : Nat) : bsum (l.set k ⟨n, A, xs, c⟩) = bsum (l.set k { l[k] with xs := xs }) := by
  rw [sum_set _ _ k hk, sum_set _ _ k hk]
theorem set_back (l : List FV) {k : Nat} (hk : k < l.length) (d : FV) : (l.set k d).set k l[k] = l := by
  rw [List.set_set, List.set_getElem_self]
theorem MP.same {l : List FV} {g : RG} (h : MP l g) (hg : RGood g) {j : Nat} (hj : j < (filesV g).length) {k : Nat} (hk : k < l.length) (hn : l[k].name = ((filesV g).getD j ([], [])).1) : l[k].xs = ((filesV g).getD j ([], [])).2 := by
  obtain ⟨i, hi, _, _, h2, e⟩ := h.find hg hk
  have h3 := (find_file hg hj).1
  rw [← hn, h2] at h3
  have h4 := filesV_at g (k := j) (by rw [← filesV_len]; exact hj)
  rw [h4, ← h3]
  exact (congrArg Prod.snd e).symm
/-- All that Write behind a file's end wants and leaves, told once. -/
structure WPrep (u wq : World) (p gb mb B : Nat) (Z : List UInt8) (fl : List FV) (M : List UInt8) (g cp k2 i : Nat) (d0 : FV) (A : Option Addr) (xs : List UInt8) (c : Nat) (R1 : Option Addr) (d1 : Nat) (w7 : World) (R2 : Option Addr) (d2 : Nat) (w8 : World) (bx : Nat) : Prop where
  r1 : (Builtin.append_ #[22, 22] 22 #[.slice none 0 0, .slice d0.A d0.xs.length d0.c]).run Tryd.prog wq = .ok (.slice R1 d0.xs.length d1) w7
  k7 : Keeps (fun _ => False) wq w7
  r2 : (Builtin.append_ #[22, 22] 22 #[.slice R1 d0.xs.length d1, .slice A xs.length c]).run Tryd.prog w7 = .ok (.slice R2 (d0.xs.length + xs.length) d2) w8
  k8 : Keeps (fun _ => False) wq w8
  c8 : w8.cell? ⟨g, k2 * 2 + 1, none⟩ = some (.slice d0.A d0.xs.length d0.c) ∧ w8.frozen? ⟨g, k2 * 2 + 1, none⟩ = false
  st : FL (w8.setCell ⟨g, k2 * 2 + 1, none⟩ (.slice R2 (d0.xs.length + xs.length) d2)) B (some ⟨g, 0, none⟩) cp (fl.set k2 ⟨d0.name, R2, d0.xs ++ xs, d2⟩)
  st2 : ∀ W, Keeps (fun _ => False) (w8.setCell ⟨g, k2 * 2 + 1, none⟩ (.slice R2 (d0.xs.length + xs.length) d2)) W → FL (W.setCell ⟨g, k2 * 2 + 1, none⟩ (.slice d0.A d0.xs.length d0.c)) B (some ⟨g, 0, none⟩) cp fl ∧
    (∃ v, W.cell? ⟨g, k2 * 2 + 1, none⟩ = some v) ∧ W.frozen? ⟨g, k2 * 2 + 1, none⟩ = false
  bs : Calls Tryd.prog 20 #[.slice (some ⟨g, 0, none⟩) fl.length cp] (w8.setCell ⟨g, k2 * 2 + 1, none⟩ (.slice R2 (d0.xs.length + xs.length) d2)) (Gives (w8.setCell ⟨g, k2 * 2 + 1, none⟩ (.slice R2 (d0.xs.length + xs.length) d2)) (.int .i64 (bsum (fl.set k2 ⟨d0.name, R2, d0.xs ++ xs, d2⟩))))
  we : ∀ W, MemAt W p gb mb Z M → Tab W → BR W W.heap.size A xs → Calls Tryd.prog 21 #[.pointer (some ⟨p, 0, none⟩), .int .i64 (i : Int), .int .i64 (d0.xs.length : Int), .slice A xs.length c] W fun en w' => ∃ M', en = .returned (.int .i64 (if bsum (fl.set k2 ⟨d0.name, R2, d0.xs ++ xs, d2⟩) ≤ 23 then 0 else 125)) ∧ MemAt w' p gb mb Z M' ∧ OkM M' ∧ Keeps (fun j => j = p ∨ j = mb) W w' ∧
      (bsum (fl.set k2 ⟨d0.name, R2, d0.xs ++ xs, d2⟩) ≤ 23 → MP (fl.set k2 ⟨d0.name, R2, d0.xs ++ xs, d2⟩) (regM M')) ∧ (¬ bsum (fl.set k2 ⟨d0.name, R2, d0.xs ++ xs, d2⟩) ≤ 23 → MP fl (regM M'))
  mm : ∀ W, Keeps (fun j => j = g) w8 W → MemAt W p gb mb Z M ∧ Keeps (fun j => j = p ∨ j = mb ∨ B ≤ j) u W
  bw : bx < w8.heap.size ∧ bx ≠ g ∧ B ≤ g ∧ g < w8.heap.size
theorem write_prep {u w6 : World} {p gb mb B : Nat} {Z : List UInt8} {fl : List FV} {M : List UInt8} {g cp k2 i : Nat} {A : Option Addr} {xs : List UInt8} {c : Nat} {bx : Nat} {cs : Array Value}
    (h6 : MapS u w6 p gb mb B Z fl M (some ⟨g, 0, none⟩) cp) (hB : B = u.heap.size) (hk2 : k2 < fl.length) (hi : i ∈ idxL (regM M).ns) (hfg : fg (regM M) i = fv fl[k2]) (hbr : BR w6 w6.heap.size A xs) (hl : xs.length ≤ 140737488351232) (hmb : mb ≠ 0)
    (hA : xs ≠ [] → ∀ ad, A = some ad → ad.block ≠ mb) (hbx : w6.heap[bx]? = some (.cells cs 41 (0, 0))) : ∃ R1 d1 w7 R2 d2 w8, WPrep u w6.drew p gb mb B Z fl M g cp k2 i fl[k2] A xs c R1 d1 w7 R2 d2 w8 bx := by
  obtain ⟨g', eg, hgB, hg, c1, c2, cf, -⟩ := h6.ls.cell hk2
  cases eg
  have l8 := h6.len
  have hfew := h6.few fl[k2] (List.getElem_mem hk2)
  have hbo := h6.ls.br fl[k2] (List.getElem_mem hk2)
  have hato := h6.ls.at_ fl[k2] (List.getElem_mem hk2)
  have kd : Keeps (fun _ => False) w6 w6.drew := Keeps.drew _ _
  obtain ⟨R1, d1, w7, r1, k7, R2, d2, w8, r2, k8, br8, at8⟩ := next_run (w := w6.drew) fl[k2].c hbo (by omega) c hbr (by omega) 22 22
  have k68 : Keeps (fun _ => False) w6 w8 := kd.trans k8
  have h8 := h6.new k68
  have e8 : w6.drew.heap.size = w6.heap.size := rfl
  have hus := h6.kp.size
  have hst := h8.ls.store hk2 rfl R2 (fl[k2].xs ++ xs) d2 br8 (fun hne ad e => by have := at8 hne ad e; omega)
  have hg8 : g < w8.heap.size := Nat.lt_of_lt_of_le hg k68.size
  have hlen : (fl.set k2 ⟨fl[k2].name, R2, fl[k2].xs ++ xs, d2⟩).length = fl.length := List.length_set ..
  have hbs := blocks_list hst (by rw [hlen]; exact l8) (fun d hd => by
    rcases List.mem_or_eq_of_mem_set hd with h1 | rfl
    · have := h6.few d h1; omega
    · simp only [List.length_append]; omega)
  rw [hlen] at hbs
  have hset := set_back fl hk2 ⟨fl[k2].name, R2, fl[k2].xs ++ xs, d2⟩
  have hbxl := (Array.getElem?_eq_some_iff.1 hbx).1
  have hc9 : (w8.setCell ⟨g, k2 * 2 + 1, none⟩ (.slice R2 (fl[k2].xs ++ xs).length d2)).frozen? ⟨g, k2 * 2 + 1, none⟩ = false := by
    have := hst.cell (k := k2) (by rw [hlen]; exact hk2)
    obtain ⟨g', e, -, -, -, -, hf, -⟩ := this
    cases e
    exact hf _
  have hg9 : g < (w8.setCell ⟨g, k2 * 2 + 1, none⟩ (.slice R2 (fl[k2].xs ++ xs).length d2)).heap.size := by rw [World.size_setCell]; exact hg8
  have hcell9 := hst.cell (k := k2) (by rw [hlen]; exact hk2)
  rw [List.length_append] at hst hbs hc9 hg9 hcell9
  refine ⟨R1, d1, w7, R2, d2, w8, r1, k7, r2, k8, ⟨(k68.cell _ _ hg (fun f => f)).trans c2, (k68.fz _ _ hg (fun f => f)).trans (cf _)⟩, hst, fun W k => ?_, hbs, fun W hm0 hT hb => ?_, fun W k => ?_, ⟨Nat.lt_of_lt_of_le hbxl k68.size, fun e => ?_, hgB, hg8⟩⟩
  · have hb : BR W W.heap.size fl[k2].A fl[k2].xs := by
      have b8 := k68.br hbo (fun _ _ _ f => f)
      have ks : Keeps (· = g) w8 (w8.setCell ⟨g, k2 * 2 + 1, none⟩ (.slice R2 (fl[k2].xs.length + xs.length) d2)) := Keeps.setCell _ _ _ _ rfl
      exact k.br (ks.br b8 (fun ad e hne => (hato hne ad e).2 g rfl)) (fun _ _ _ f => f)
    have h3 := (hst.keep k (fun _ _ f => f)).store (k := k2) (by rw [hlen]; exact hk2) rfl fl[k2].A fl[k2].xs fl[k2].c hb (fun hne ad e => ⟨(hato hne ad e).1, (hato hne ad e).2 g rfl⟩)
    simp only [List.getElem_set_self] at h3
    rw [show (⟨fl[k2].name, fl[k2].A, fl[k2].xs, fl[k2].c⟩ : FV) = fl[k2] from rfl, hset] at h3
    obtain ⟨g', e, -, -, -, hcc, -, -⟩ := hcell9
    cases e
    exact ⟨h3, ⟨_, (k.cell _ _ hg9 (fun f => f)).trans hcc⟩, (k.fz _ _ hg9 (fun f => f)).trans hc9⟩
  · have hw := fwrite_end h6.ok h6.mp hm0 hT hmb hk2 hi hfg A xs c hb (by omega) hA (by omega)
    rw [← bsum_any fl hk2 fl[k2].name R2 (fl[k2].xs ++ xs) d2] at hw
    exact hw.mono fun en w' ⟨M', q1, q2, q3, q4, q5, q6⟩ => ⟨M', q1, q2, q3, q4, fun hf => q5 hf _ _, q6⟩
  · have lo := h6.lo
    have kk : Keeps (fun j => j = g) w6 W := (k68.mono fun _ _ f => f.elim).trans k
    exact ⟨h6.mem.keep kk (by omega) (by omega) (by omega), h6.kp.trans (kk.mono fun j _ e => .inr (.inr (by omega)))⟩
  · obtain ⟨_, _, cs', hcs⟩ := h6.ls.base rfl
    rw [← e, hbx] at hcs
    cases hcs
end Go.Proofs.YtdihgfagodjicaaDoor.Fs
