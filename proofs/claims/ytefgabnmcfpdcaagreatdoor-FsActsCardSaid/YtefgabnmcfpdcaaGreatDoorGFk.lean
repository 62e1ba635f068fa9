/-
  Merged by wip/tools/merge.py: FsSim FsFew
-/
import Derived.Test.YtefgabnmcfpdcaaGreatDoorGFd
import Derived.Test.YtefgabnmcfpdcaaGreatDoorGFi
import Derived.Test.YtefgabnmcfpdcaaGreatDoorGFl
namespace Go.Proofs.YtefgabnmcfpdcaaGreatDoor.Fs
open Go.RowKit Ex Ino Mm
set_option linter.unusedVariables false
structure Sim (n : Int) (g g' : RG) : Prop where
 nm : ∀ j, j < 8 → (at' g'.ns j).name = (at' g.ns j).name
 dt : ∀ j, j < 8 → isF (at' g.ns j) = true → (j : Int) ≠ n → dataV g' (at' g'.ns j) = dataV g (at' g.ns j)
theorem Sim.refl (n : Int) (g : RG) : Sim n g g := ⟨fun _ _ => rfl, fun _ _ _ _ => rfl⟩
theorem Sim.isF {n : Int} {g g' : RG} (h : Sim n g g') {j : Nat} (hj : j < 8) : isF (at' g'.ns j) = isF (at' g.ns j) := by unfold Fs.isF; rw [h.nm j hj]
theorem Sim.trans {n : Int} {g g' g'' : RG} (h : Sim n g g') (k : Sim n g' g'') : Sim n g g'' :=
 ⟨fun j hj => (k.nm j hj).trans (h.nm j hj), fun j hj hf hn => (k.dt j hj (by rw [h.isF hj]; exact hf) hn).trans (h.dt j hj hf hn)⟩
theorem Sim.idx {n : Int} {g g' : RG} (h : Sim n g g') : idxL g'.ns = idxL g.ns := by
 unfold idxL
 refine List.filter_congr fun j hj => ?_
 rw [List.mem_range] at hj
 exact h.isF hj
theorem resize_sim {g : RG} (h : RGood g) (n size : Int) (he : (resizeV g n size).1 = 0) : Sim n g (resizeV g n size).2 ∧ RGood (resizeV g n size).2 := by
 unfold resizeV at he ⊢
 by_cases h0 : resizeE g n size = 0
 ·rw [if_pos h0]
  obtain ⟨⟨hn, fn⟩, hs, hf, ex, hr⟩ := resize_good h h0
  have hm : ∀ j, at' (resizeG g n size).ns j = (if j = n.toNat then ⟨(at' g.ns n.toNat).name, size, fitX (at' g.ns n.toNat).ext (usedN g.ns) (needI size).toNat⟩ else at' g.ns j) := fun j => by
   rw [resizeG_ns, at_set h.nl (by omega), ex]
  refine ⟨⟨fun j hj => ?_, fun j hj fj hne => ?_⟩, hr⟩
  ·simp only [hm]
   split
   ·rename_i e; rw [e]
   ·rfl
  ·obtain ⟨e1, e2⟩ := resize_data h h0 hj fj
   have hjn : j ≠ n.toNat := by omega
   rw [if_neg hjn] at e1 e2
   show ((wholeV _ _).take _) = ((wholeV _ _).take _)
   simp only at e1 e2 ⊢
   rw [e2, e1]
 ·rw [if_neg h0] at he
  exact absurd he h0
theorem reach_sim {g : RG} (h : RGood g) (n a : Int) (k : Nat) (he : (reachV g n a k).1 = 0) : Sim n g (reachV g n a k).2 := by
 unfold reachV at he ⊢
 by_cases h0 : nodeE g.ns n ≠ 0
 ·rw [if_pos h0] at he; exact absurd he h0
 rw [if_neg h0] at he ⊢
 by_cases h1 : a < 0 ∨ (nodeX g.ns n).size < a
 ·rw [if_pos h1] at he; cases he
 rw [if_neg h1] at he ⊢
 by_cases h2 : (nodeX g.ns n).size < a + k
 ·rw [if_pos h2] at he ⊢; exact (resize_sim h _ _ he).1
 ·rw [if_neg h2]; exact Sim.refl _ _
theorem write_sim {g : RG} (h : RGood g) (n a : Int) (b : List UInt8) (he : (writeV g n a b).1 = 0) : Sim n g (writeV g n a b).2 ∧ RGood (writeV g n a b).2 := by
 unfold writeV at he ⊢
 by_cases h0 : (reachV g n a b.length).1 = 0
 ·rw [if_pos h0]
  have s1 := reach_sim h n a b.length h0
  obtain ⟨⟨hn, fn⟩, ha, hf, hg⟩ := reach_good h h0
  have fn2 : isF (at' (reachV g n a b.length).2.ns n.toNat) = true := by rw [s1.isF (by omega)]; exact fn
  refine ⟨s1.trans ⟨fun j _ => rfl, fun j hj fj hne => ?_⟩, put_good hg ha.1 hf⟩
  have := put_data hg hn fn2 ha.1 hf hj fj
  rw [if_neg (by omega)] at this
  show (wholeV (putV (reachV g n a b.length).2 n a b).bs (at' (reachV g n a b.length).2.ns j).ext).take _ = _
  rw [this]
  rfl
 ·rw [if_neg h0] at he
  exact absurd he h0
def stepM (M : List UInt8) (rv : Int × RG) : List UInt8 := if rv.1 = 0 then layL M 6144 (bytesL rv.2) else M
def regM (M : List UInt8) : RG := ⟨regB M, readN (regB M)⟩
structure OkM (M : List UInt8) : Prop where
 ml : M.length = 8192
 ok : okR (regB M)
theorem OkM.step {M : List UInt8} (h : OkM M) {rv : Int × RG} (hg : rv.1 = 0 → RGood rv.2) : OkM (stepM M rv) ∧ (rv.1 = 0 → regM (stepM M rv) = ⟨bytesL rv.2, rv.2.ns⟩) ∧ (rv.1 ≠ 0 → stepM M rv = M) := by
 unfold stepM
 by_cases h0 : rv.1 = 0
 ·rw [if_pos h0]
  have := Has.lay h.ml (hg h0)
  exact ⟨⟨this.ml, this.ok⟩, fun _ => this.eq, fun h => absurd h0 h⟩
 ·rw [if_neg h0]
  exact ⟨h, fun h => absurd h h0, fun _ => rfl⟩
end Go.Proofs.YtefgabnmcfpdcaaGreatDoor.Fs
namespace Go.Proofs.YtefgabnmcfpdcaaGreatDoor.Fs
open Go.RowKit Ex Ino Mm
set_option linter.unusedVariables false
set_option linter.unusedSimpArgs false
def FewOut (w : World) (e : Ending) (w' : World) : Prop := (∃ b, e = .returned (.bool b)) ∧ Below w.heap.size w w'
set_option maxRecDepth 100000 in
set_option maxHeartbeats 800000 in
theorem ffew_any (A0 : Option Addr) (n0 c0 : Nat) (A : Option Addr) (l : List FAct) (c : Nat) (w : World) (h : FActR w w.heap.size A l) (hl : l.length ≤ 1599289640401) :
  Calls Tryz.prog 9 #[.slice A0 n0 c0, .slice A l.length c] w (FewOut w) := by
 go_enter Tryz.func9, Tryz.ntmps9
 go_wp2_with fail
 go_loopw [12, 5, 7] (fun i s _ wr => ∃ (k : Nat) (n : Int), k ≤ l.length ∧ i = .int .i64 k ∧ s = .int .i64 n ∧ Below w.heap.size w wr) (fun i _ _ _ => l.length - (RowKit.intOf i).toNat)
 case atStart => exact ⟨0, _, by omega, rfl, rfl, Below.refl _ _⟩
 case round =>
  obtain ⟨k, n, hk, rfl, rfl, hb⟩ := hrel
  by_cases hlt : k < l.length
  ·have h1 := h.below hb
   obtain ⟨ad, rfl, hlb, d0, d1, d2, d3, d4, d5, d6⟩ := h1.at_ hlt
   generalize l[k] = a at *
   clear h h1
   have hsz := hb.size
   go_wp2_with fail
   all_goals
    go_roundw
    case rel => exact ⟨k + 1, _, by omega, by go_num, rfl, hb.alloc hsz _⟩
    case measure => simp [RowKit.intOf]; omega
  ·go_wp2_with fail
   go_ret
   exact ⟨⟨_, rfl⟩, hb⟩
theorem filesV_len (g : RG) : (filesV g).length = (idxL g.ns).length := by unfold filesV; rw [List.length_map]
end Go.Proofs.YtefgabnmcfpdcaaGreatDoor.Fs
