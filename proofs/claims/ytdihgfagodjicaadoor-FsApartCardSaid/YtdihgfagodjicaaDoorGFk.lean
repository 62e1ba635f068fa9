/-
  Merged by wip/tools/merge.py: FsSim FsFew
-/
import Derived.Test.YtdihgfagodjicaaDoorGFd
import Derived.Test.YtdihgfagodjicaaDoorGFi
import Derived.Test.YtdihgfagodjicaaDoorGFl
namespace Go.Proofs.YtdihgfagodjicaaDoor.Fs
open Go.RowKit Ex Ino Mm
set_option linter.unusedVariables false

structure Sim (n : Int) (g g' : RG) : Prop where
  nm : ∀ j, j < 8 → (at' g'.ns j).name = (at' g.ns j).name
  dt : ∀ j, j < 8 → isF (at' g.ns j) = true → (j : Int) ≠ n → dataV g' (at' g'.ns j) = dataV g (at' g.ns j)
theorem Sim.refl (n : Int) (g : RG) : Sim n g g := ⟨fun _ _ => rfl, fun _ _ _ _ => rfl⟩
theorem Sim.isF {n : Int} {g g' : RG} (h : Sim n g g') {j : Nat} (hj : j < 8) : isF (at' g'.ns j) = isF (at' g.ns j) := by unfold Fs.isF; rw [h.nm j hj]
theorem Sim.trans {n : Int} {g g' g'' : RG} (h : Sim n g g') (k : Sim n g' g'') : Sim n g g'' :=
  ⟨fun j hj => (k.nm j hj).trans (h.nm j hj), fun j hj hf hn => (k.dt j hj (by rw [h.isF hj]; exact hf) hn).trans (h.dt j hj hf hn)⟩
theorem Sim.idx {n : Int} {g g' : RG} (h : Sim n g g') : idxL g'.ns = idxL g.ns := by
  unfold idxL
  refine List.filter_congr fun j hj => ?_
  rw [List.mem_range] at hj
  exact h.isF hj
theorem sim_again (n : Int) {g : RG} (h : g.ns.length = 8) : Sim n g ⟨bytesL g, g.ns⟩ := ⟨fun _ _ => rfl, fun j _ _ _ => data_again h _⟩
theorem resize_sim {g : RG} (h : RGood g) (n size : Int) (he : (resizeV g n size).1 = 0) : Sim n g (resizeV g n size).2 ∧ RGood (resizeV g n size).2 := by
  unfold resizeV at he ⊢
  by_cases h0 : resizeE g n size = 0
  · rw [if_pos h0]
    obtain ⟨⟨hn, fn⟩, hs, hf, ex, hr⟩ := resize_good h h0
    have hm : ∀ j, at' (resizeG g n size).ns j = (if j = n.toNat then ⟨(at' g.ns n.toNat).name, size, fitX (at' g.ns n.toNat).ext (usedN g.ns) (needI size).toNat⟩ else at' g.ns j) := fun j => by
      rw [resizeG_ns, at_set h.nl (by omega), ex]
    refine ⟨⟨fun j hj => ?_, fun j hj fj hne => ?_⟩, hr⟩
    · simp only [hm]
      split
      · rename_i e; rw [e]
      · rfl
    · obtain ⟨e1, e2⟩ := resize_data h h0 hj fj
      have hjn : j ≠ n.toNat := by omega
      rw [if_neg hjn] at e1 e2
      show ((wholeV _ _).take _) = ((wholeV _ _).take _)
      simp only at e1 e2 ⊢
      rw [e2, e1]
  · rw [if_neg h0] at he
    exact absurd he h0
theorem reach_sim {g : RG} (h : RGood g) (n a : Int) (k : Nat) (he : (reachV g n a k).1 = 0) : Sim n g (reachV g n a k).2 := by
  unfold reachV at he ⊢
  by_cases h0 : nodeE g.ns n ≠ 0
  · rw [if_pos h0] at he; exact absurd he h0
  rw [if_neg h0] at he ⊢
  by_cases h1 : a < 0 ∨ (nodeX g.ns n).size < a
  · rw [if_pos h1] at he; cases he
  rw [if_neg h1] at he ⊢
  by_cases h2 : (nodeX g.ns n).size < a + k
  · rw [if_pos h2] at he ⊢; exact (resize_sim h _ _ he).1
  · rw [if_neg h2]; exact Sim.refl _ _
theorem write_sim {g : RG} (h : RGood g) (n a : Int) (b : List UInt8) (he : (writeV g n a b).1 = 0) : Sim n g (writeV g n a b).2 ∧ RGood (writeV g n a b).2 := by
  unfold writeV at he ⊢
  by_cases h0 : (reachV g n a b.length).1 = 0
  · rw [if_pos h0]
    have s1 := reach_sim h n a b.length h0
    obtain ⟨⟨hn, fn⟩, ha, hf, hg⟩ := reach_good h h0
    have fn2 : isF (at' (reachV g n a b.length).2.ns n.toNat) = true := by rw [s1.isF (by omega)]; exact fn
    refine ⟨s1.trans ⟨fun j _ => rfl, fun j hj fj hne => ?_⟩, put_good hg ha.1 hf⟩
    have := put_data hg hn fn2 ha.1 hf hj fj
    rw [if_neg (by omega)] at this
    show (wholeV (putV (reachV g n a b.length).2 n a b).bs (at' (reachV g n a b.length).2.ns j).ext).take _ = _
    rw [this]
    rfl
  · rw [if_neg h0] at he
    exact absurd he h0
/-- The memory behind a step. -/
def stepM (M : List UInt8) (rv : Int × RG) : List UInt8 := if rv.1 = 0 then layL M 6144 (bytesL rv.2) else M
def regM (M : List UInt8) : RG := ⟨regB M, readN (regB M)⟩
structure OkM (M : List UInt8) : Prop where
  ml : M.length = 8192
  ok : okR (regB M)
theorem OkM.good {M : List UInt8} (h : OkM M) : RGood (regM M) := good_of h.ml h.ok
theorem OkM.step {M : List UInt8} (h : OkM M) {rv : Int × RG} (hg : rv.1 = 0 → RGood rv.2) : OkM (stepM M rv) ∧ (rv.1 = 0 → regM (stepM M rv) = ⟨bytesL rv.2, rv.2.ns⟩) ∧ (rv.1 ≠ 0 → stepM M rv = M) := by
  unfold stepM
  by_cases h0 : rv.1 = 0
  · rw [if_pos h0]
    have := Has.lay h.ml (hg h0)
    exact ⟨⟨this.ml, this.ok⟩, fun _ => this.eq, fun h => absurd h0 h⟩
  · rw [if_neg h0]
    exact ⟨h, fun h => absurd h h0, fun _ => rfl⟩
theorem OkM.sim {M : List UInt8} (h : OkM M) {n : Int} {rv : Int × RG} (hs : rv.1 = 0 → Sim n (regM M) rv.2 ∧ RGood rv.2) : OkM (stepM M rv) ∧ Sim n (regM M) (regM (stepM M rv)) := by
  obtain ⟨h1, h2, h3⟩ := h.step fun e => (hs e).2
  refine ⟨h1, ?_⟩
  by_cases h0 : rv.1 = 0
  · rw [h2 h0]
    exact (hs h0).1.trans (sim_again _ (hs h0).2.nl)
  · rw [h3 h0]
    exact Sim.refl _ _
theorem findN_file {g : RG} (h : RGood g) {i : Nat} (hi : i ∈ idxL g.ns) : findN g.ns (at' g.ns i).name = i ∧ findE g.ns (at' g.ns i).name = 0 := by
  obtain ⟨h1, h2⟩ := idxL_mem.1 hi
  have hc := (h.isF_iff h1).1 h2
  have hn : nameB (at' g.ns i).name = true := by unfold chkB at hc; rw [Bool.and_eq_true] at hc; exact hc.1
  cases hf : findI g.ns (at' g.ns i).name with
  | none => exact absurd rfl (find_none hf h1 h2)
  | some j =>
    obtain ⟨j1, j2, j3⟩ := find_some hf
    have e : j = i := Classical.byContradiction fun hne => (h.ap j i j1 h1 hne j2 h2).1 j3
    subst e
    unfold findN findE
    rw [hn, hf]
    exact ⟨rfl, rfl⟩
end Go.Proofs.YtdihgfagodjicaaDoor.Fs
namespace Go.Proofs.YtdihgfagodjicaaDoor.Fs
open Go.RowKit Ex Ino Mm
set_option linter.unusedVariables false
set_option linter.unusedSimpArgs false

def FewOut (w : World) (e : Ending) (w' : World) : Prop := (∃ b, e = .returned (.bool b)) ∧ Below w.heap.size w w'
set_option maxRecDepth 100000 in
set_option maxHeartbeats 800000 in
theorem ffew_any (A0 : Option Addr) (n0 c0 : Nat) (A : Option Addr) (l : List FAct) (c : Nat) (w : World) (h : FActR w w.heap.size A l) (hl : l.length ≤ 1599289640401) :
    Calls Tryd.prog 14 #[.slice A0 n0 c0, .slice A l.length c] w (FewOut w) := by
  go_enter Tryd.func14, Tryd.ntmps14
  go_wp2_with fail
  go_loopw [12, 5, 7] (fun i s _ wr => ∃ (k : Nat) (n : Int), k ≤ l.length ∧ i = .int .i64 k ∧ s = .int .i64 n ∧ Below w.heap.size w wr) (fun i _ _ _ => l.length - (RowKit.intOf i).toNat)
  case atStart => exact ⟨0, _, by omega, rfl, rfl, Below.refl _ _⟩
  case round =>
    obtain ⟨k, n, hk, rfl, rfl, hb⟩ := hrel
    by_cases hlt : k < l.length
    · have h1 := h.below hb
      obtain ⟨ad, rfl, hlb, d0, d1, d2, d3, d4, d5, d6⟩ := h1.at_ hlt
      generalize l[k] = a at *
      clear h h1
      have hsz := hb.size
      go_wp2_with fail
      all_goals
        go_roundw
        case rel => exact ⟨k + 1, _, by omega, by go_num, rfl, hb.alloc hsz _⟩
        case measure => simp [RowKit.intOf]; omega
    · go_wp2_with fail
      go_ret
      exact ⟨⟨_, rfl⟩, hb⟩
/-- The name that the loop keeps behind k files. -/
def nmK (g : RG) (n : Int) : Nat → List UInt8
  | 0 => []
  | k + 1 => if ((((idxL g.ns).getD k 0 : Nat)) : Int) = n then (at' g.ns ((idxL g.ns).getD k 0)).name else nmK g n k
theorem idxL_lt {ns : List IN} {k : Nat} (hk : k < (idxL ns).length) : (idxL ns).getD k 0 ∈ idxL ns := by
  rw [List.getD_eq_getElem?_getD, List.getElem?_eq_getElem hk]
  exact List.getElem_mem _
theorem idxL_nodup (ns : List IN) : (idxL ns).Nodup := List.Pairwise.filter _ List.nodup_range
theorem nmK_at {g : RG} {n : Int} {i : Nat} (hi : i < (idxL g.ns).length) (he : ((((idxL g.ns).getD i 0 : Nat)) : Int) = n) : ∀ k, i < k → k ≤ (idxL g.ns).length → nmK g n k = (at' g.ns ((idxL g.ns).getD i 0)).name
  | 0, h, _ => by omega
  | k + 1, h, hk => by
    unfold nmK
    by_cases e : i = k
    · subst e; rw [if_pos he]
    · rw [if_neg, nmK_at hi he k (by omega) (by omega)]
      intro h2
      have h3 : (idxL g.ns).getD k 0 = (idxL g.ns).getD i 0 := by omega
      have hnd := idxL_nodup g.ns
      rw [List.getD_eq_getElem?_getD, List.getD_eq_getElem?_getD, List.getElem?_eq_getElem (by omega), List.getElem?_eq_getElem hi] at h3
      simp only [Option.getD_some] at h3
      have := (List.getElem_inj (xs := idxL g.ns) (i := k) (j := i) (h₀ := by omega) (h₁ := hi) hnd).1 h3
      omega
theorem filesV_len (g : RG) : (filesV g).length = (idxL g.ns).length := by unfold filesV; rw [List.length_map]
theorem filesV_at (g : RG) {k : Nat} (hk : k < (idxL g.ns).length) : (filesV g).getD k ([], []) = ((at' g.ns ((idxL g.ns).getD k 0)).name, dataV g (at' g.ns ((idxL g.ns).getD k 0))) := by
  unfold filesV
  rw [List.getD_eq_getElem?_getD, List.getElem?_map, List.getElem?_eq_getElem hk, List.getD_eq_getElem?_getD, List.getElem?_eq_getElem hk]
  rfl
/-- What both lists of files tell of each other, place by place. -/
theorem sim_files {n : Int} {g g' : RG} (h : Sim n g g') {k : Nat} (hk : k < (filesV g).length) : (filesV g').length = (filesV g).length ∧ ((filesV g').getD k ([], [])).1 = ((filesV g).getD k ([], [])).1 ∧
    (((filesV g).getD k ([], [])).1 = nmK g n (filesV g).length ∨ ((filesV g').getD k ([], [])).2 = ((filesV g).getD k ([], [])).2) := by
  have hx := h.idx
  rw [filesV_len] at hk
  have hm := idxL_mem.1 (idxL_lt hk)
  refine ⟨by rw [filesV_len, filesV_len, hx], ?_, ?_⟩
  · rw [filesV_at g' (by rw [hx]; exact hk), filesV_at g hk, hx]
    exact h.nm _ hm.1
  · rw [filesV_at g' (by rw [hx]; exact hk), filesV_at g hk, hx, filesV_len]
    by_cases e : ((((idxL g.ns).getD k 0 : Nat)) : Int) = n
    · exact .inl (nmK_at hk e _ hk (Nat.le_refl _)).symm
    · exact .inr (h.dt _ hm.1 hm.2 e)
theorem sim_len {n : Int} {g g' : RG} (h : Sim n g g') : (filesV g').length = (filesV g).length := by rw [filesV_len, filesV_len, h.idx]
theorem name_len {g : RG} (h : RGood g) {k : Nat} (hk : k < (filesV g).length) : ((filesV g).getD k ([], [])).1.length ≤ 15 := by
  rw [filesV_len] at hk
  rw [filesV_at g hk]
  have hm := idxL_mem.1 (idxL_lt hk)
  have hc := (h.isF_iff hm.1).1 hm.2
  obtain ⟨h1, _⟩ := chk_parts hc
  exact h1.2
theorem find_file {g : RG} (h : RGood g) {k : Nat} (hk : k < (filesV g).length) : findN g.ns ((filesV g).getD k ([], [])).1 = (idxL g.ns).getD k 0 ∧ findE g.ns ((filesV g).getD k ([], [])).1 = 0 := by
  rw [filesV_len] at hk
  rw [filesV_at g hk]
  exact findN_file h (idxL_lt hk)
theorem nmK_step (g : RG) (n : Int) {k : Nat} (hk : k < (filesV g).length) : nmK g n (k + 1) = if ((((idxL g.ns).getD k 0 : Nat)) : Int) = n then ((filesV g).getD k ([], [])).1 else nmK g n k := by
  rw [filesV_len] at hk
  rw [filesV_at g hk]
  rfl
/-- A step that leaves all other files. -/
def SimOut (w : World) (p gb mb : Nat) (G M : List UInt8) (n : Int) (e : Ending) (w' : World) : Prop :=
  ∃ E M', e = .returned (.int .i64 E) ∧ MemAt w' p gb mb G M' ∧ OkM M' ∧ Sim n (regM M) (regM M') ∧ Keeps (fun k => k = p ∨ k = mb) w w'
theorem simOut {w w' : World} {p gb mb : Nat} {G M : List UInt8} {n : Int} (h : OkM M) {rv : Int × RG} (hs : rv.1 = 0 → Sim n (regM M) rv.2 ∧ RGood rv.2) {e : Ending} (hw : WriOut w p gb mb G M rv e w') : SimOut w p gb mb G M n e w' := by
  obtain ⟨rfl, hm, hk⟩ := hw
  obtain ⟨h1, h2⟩ := h.sim hs
  exact ⟨rv.1, stepM M rv, rfl, hm, h1, h2, hk⟩
theorem fwrite_sim {w : World} {p gb mb : Nat} {G M : List UInt8} (h : MemAt w p gb mb G M) (ho : OkM M) (hT : Tab w) (hmb : mb ≠ 0) (n a : Int) (ha : -9223372036854775808 ≤ a ∧ a ≤ 9223372036854775807) {A : Option Addr} {b : List UInt8} (cb : Nat) (hb : BR w w.heap.size A b) (hbl : b.length ≤ 140737488355328)
    (hA : b ≠ [] → ∀ ad, A = some ad → ad.block ≠ mb) :
    Calls Tryd.prog 21 #[.pointer (some ⟨p, 0, none⟩), .int .i64 n, .int .i64 a, .slice A b.length cb] w (SimOut w p gb mb G M n) :=
  (fwrite_any h ho.ok hT hmb n a ha cb hb hbl hA).mono fun e w' hw => simOut ho (write_sim ho.good n a b) hw
theorem fresize_sim {w : World} {p gb mb : Nat} {G M : List UInt8} (h : MemAt w p gb mb G M) (ho : OkM M) (hT : Tab w) (hmb : mb ≠ 0) (n s : Int) :
    Calls Tryd.prog 26 #[.pointer (some ⟨p, 0, none⟩), .int .i64 n, .int .i64 s] w (SimOut w p gb mb G M n) :=
  (fresize_any h ho.ok hT hmb n s).mono fun e w' hw => simOut ho (resize_sim ho.good n s) hw
/-- Files, where the region is as it should be. -/
def FilesOk (w : World) (p gb mb : Nat) (G M : List UInt8) (e : Ending) (w' : World) : Prop :=
  ∃ g cap, e = .returned (.tuple #[.slice (some ⟨g, 0, none⟩) (filesV (regM M)).length cap, .int .i64 0]) ∧ MemAt w' p gb mb G M ∧ FilesAt w' w.heap.size g (filesV (regM M)) ∧ Keeps (· = mb) w w'
theorem ffiles_ok {w : World} {p gb mb : Nat} {G M : List UInt8} (h : MemAt w p gb mb G M) (ho : OkM M) : Calls Tryd.prog 12 #[.pointer (some ⟨p, 0, none⟩)] w (FilesOk w p gb mb G M) :=
  (ffiles_any (memC_flat h) ho.ok ho.good).mono fun e w' ⟨h4, k4, g, cap, l, he, ow, hr, hm⟩ => by
    obtain ⟨hfa, hll⟩ := filesAt ow hr hm
    rw [hll] at he
    exact ⟨g, cap, he, h4, hfa, k4⟩
end Go.Proofs.YtdihgfagodjicaaDoor.Fs
