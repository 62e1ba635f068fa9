/-
  GFk
-/
import Derived.Test.YtceemmnfofjgeaaGreatDoorGFd
import Derived.Test.YtceemmnfofjgeaaGreatDoorGFi
namespace Go.Proofs.YtceemmnfofjgeaaGreatDoor.Fs
open Go.RowKit Ex Ino Mm
set_option linter.unusedVariables false

structure Sim (n : Int) (g g' : RG) : Prop where
  nm : ∀ j, j < 8 → (at' g'.ns j).name = (at' g.ns j).name
  dt : ∀ j, j < 8 → isF (at' g.ns j) = true → (j : Int) ≠ n → dataV g' (at' g'.ns j) = dataV g (at' g.ns j)
theorem Sim.refl (n : Int) (g : RG) : Sim n g g := ⟨fun _ _ => rfl, fun _ _ _ _ => rfl⟩
theorem Sim.isF {n : Int} {g g' : RG} (h : Sim n g g') {j : Nat} (hj : j < 8) : isF (at' g'.ns j) = isF (at' g.ns j) := by unfold Fs.isF; rw [h.nm j hj]
theorem Sim.trans {n : Int} {g g' g'' : RG} (h : Sim n g g') (k : Sim n g' g'') : Sim n g g'' :=
  ⟨fun j hj => (k.nm j hj).trans (h.nm j hj), fun j hj hf hn => (k.dt j hj (by rw [h.isF hj]; exact hf) hn).trans (h.dt j hj hf hn)⟩
theorem Sim.idx {n : Int} {g g' : RG} (h : Sim n g g') : idxL g'.ns = idxL g.ns := by
  unfold idxL
  refine List.filter_congr fun j hj => ?_
  rw [List.mem_range] at hj
  exact h.isF hj
theorem resize_sim {g : RG} (h : RGood g) (n size : Int) (he : (resizeV g n size).1 = 0) : Sim n g (resizeV g n size).2 ∧ RGood (resizeV g n size).2 := by
  unfold resizeV at he ⊢
  by_cases h0 : resizeE g n size = 0
  · rw [if_pos h0]
    obtain ⟨⟨hn, fn⟩, hs, hf, ex, hr⟩ := resize_good h h0
    have hm : ∀ j, at' (resizeG g n size).ns j = (if j = n.toNat then ⟨(at' g.ns n.toNat).name, size, fitX (at' g.ns n.toNat).ext (usedN g.ns) (needI size).toNat⟩ else at' g.ns j) := fun j => by
      rw [resizeG_ns, at_set h.nl (by omega), ex]
    refine ⟨⟨fun j hj => ?_, fun j hj fj hne => ?_⟩, hr⟩
    · simp only [hm]
      split
      · rename_i e; rw [e]
      · rfl
    · obtain ⟨e1, e2⟩ := resize_data h h0 hj fj
      have hjn : j ≠ n.toNat := by omega
      rw [if_neg hjn] at e1 e2
      show ((wholeV _ _).take _) = ((wholeV _ _).take _)
      simp only at e1 e2 ⊢
      rw [e2, e1]
  · rw [if_neg h0] at he
    exact absurd he h0
theorem reach_sim {g : RG} (h : RGood g) (n a : Int) (k : Nat) (he : (reachV g n a k).1 = 0) : Sim n g (reachV g n a k).2 := by
  unfold reachV at he ⊢
  by_cases h0 : nodeE g.ns n ≠ 0
  · rw [if_pos h0] at he; exact absurd he h0
  rw [if_neg h0] at he ⊢
  by_cases h1 : a < 0 ∨ (nodeX g.ns n).size < a
  · rw [if_pos h1] at he; cases he
  rw [if_neg h1] at he ⊢
  by_cases h2 : (nodeX g.ns n).size < a + k
  · rw [if_pos h2] at he ⊢; exact (resize_sim h _ _ he).1
  · rw [if_neg h2]; exact Sim.refl _ _
/-- The memory behind a step. -/
def stepM (M : List UInt8) (rv : Int × RG) : List UInt8 := if rv.1 = 0 then layL M 6144 (bytesL rv.2) else M
def regM (M : List UInt8) : RG := ⟨regB M, readN (regB M)⟩
structure OkM (M : List UInt8) : Prop where
  ml : M.length = 8192
  ok : okR (regB M)
theorem OkM.step {M : List UInt8} (h : OkM M) {rv : Int × RG} (hg : rv.1 = 0 → RGood rv.2) : OkM (stepM M rv) ∧ (rv.1 = 0 → regM (stepM M rv) = ⟨bytesL rv.2, rv.2.ns⟩) ∧ (rv.1 ≠ 0 → stepM M rv = M) := by
  unfold stepM
  by_cases h0 : rv.1 = 0
  · rw [if_pos h0]
    have := Has.lay h.ml (hg h0)
    exact ⟨⟨this.ml, this.ok⟩, fun _ => this.eq, fun h => absurd h0 h⟩
  · rw [if_neg h0]
    exact ⟨h, fun h => absurd h h0, fun _ => rfl⟩
theorem findN_file {g : RG} (h : RGood g) {i : Nat} (hi : i ∈ idxL g.ns) : findN g.ns (at' g.ns i).name = i ∧ findE g.ns (at' g.ns i).name = 0 := by
  obtain ⟨h1, h2⟩ := idxL_mem.1 hi
  have hc := (h.isF_iff h1).1 h2
  have hn : nameB (at' g.ns i).name = true := by unfold chkB at hc; rw [Bool.and_eq_true] at hc; exact hc.1
  cases hf : findI g.ns (at' g.ns i).name with
  | none => exact absurd rfl (find_none hf h1 h2)
  | some j =>
    obtain ⟨j1, j2, j3⟩ := find_some hf
    have e : j = i := Classical.byContradiction fun hne => (h.ap j i j1 h1 hne j2 h2).1 j3
    subst e
    unfold findN findE
    rw [hn, hf]
    exact ⟨rfl, rfl⟩
end Go.Proofs.YtceemmnfofjgeaaGreatDoor.Fs
