/-
  Merged by wip/tools/merge.py: FsSim FsFew
-/
import Derived.Test.YtefgabnmcfpdcaaGreatDoorGFd
import Derived.Test.YtefgabnmcfpdcaaGreatDoorGFi
import Derived.Test.YtefgabnmcfpdcaaGreatDoorGFl
namespace Go.Proofs.YtefgabnmcfpdcaaGreatDoor.Fs
open Go.RowKit Ex Ino Mm
set_option linter.unusedVariables false
structure Sim (n : Int) (g g' : RG) : Prop where
 nm : ∀ j, j < 8 → (at' g'.ns j).name = (at' g.ns j).name
 dt : ∀ j, j < 8 → isF (at' g.ns j) = true → (j : Int) ≠ n → dataV g' (at' g'.ns j) = dataV g (at' g.ns j)
theorem Sim.refl (n : Int) (g : RG) : Sim n g g := ⟨fun _ _ => rfl, fun _ _ _ _ => rfl⟩
theorem Sim.isF {n : Int} {g g' : RG} (h : Sim n g g') {j : Nat} (hj : j < 8) : isF (at' g'.ns j) = isF (at' g.ns j) := by unfold Fs.isF; rw [h.nm j hj]
theorem Sim.trans {n : Int} {g g' g'' : RG} (h : Sim n g g') (k : Sim n g' g'') : Sim n g g'' :=
 ⟨fun j hj => (k.nm j hj).trans (h.nm j hj), fun j hj hf hn => (k.dt j hj (by rw [h.isF hj]; exact hf) hn).trans (h.dt j hj hf hn)⟩
theorem Sim.idx {n : Int} {g g' : RG} (h : Sim n g g') : idxL g'.ns = idxL g.ns := by
 unfold idxL
 refine List.filter_congr fun j hj => ?_
 rw [List.mem_range] at hj
 exact h.isF hj
def stepM (M : List UInt8) (rv : Int × RG) : List UInt8 := if rv.1 = 0 then layL M 6144 (bytesL rv.2) else M
def regM (M : List UInt8) : RG := ⟨regB M, readN (regB M)⟩
structure OkM (M : List UInt8) : Prop where
 ml : M.length = 8192
 ok : okR (regB M)
theorem OkM.step {M : List UInt8} (h : OkM M) {rv : Int × RG} (hg : rv.1 = 0 → RGood rv.2) : OkM (stepM M rv) ∧ (rv.1 = 0 → regM (stepM M rv) = ⟨bytesL rv.2, rv.2.ns⟩) ∧ (rv.1 ≠ 0 → stepM M rv = M) := by
 unfold stepM
 by_cases h0 : rv.1 = 0
 ·rw [if_pos h0]
  have := Has.lay h.ml (hg h0)
  exact ⟨⟨this.ml, this.ok⟩, fun _ => this.eq, fun h => absurd h0 h⟩
 ·rw [if_neg h0]
  exact ⟨h, fun h => absurd h h0, fun _ => rfl⟩
end Go.Proofs.YtefgabnmcfpdcaaGreatDoor.Fs
namespace Go.Proofs.YtefgabnmcfpdcaaGreatDoor.Fs
open Go.RowKit Ex Ino Mm
set_option linter.unusedVariables false
set_option linter.unusedSimpArgs false
def FewOut (w : World) (e : Ending) (w' : World) : Prop := (∃ b, e = .returned (.bool b)) ∧ Below w.heap.size w w'
set_option maxRecDepth 100000 in
set_option maxHeartbeats 800000 in
theorem ffew_any (A0 : Option Addr) (n0 c0 : Nat) (A : Option Addr) (l : List FAct) (c : Nat) (w : World) (h : FActR w w.heap.size A l) (hl : l.length ≤ 1599289640401) :
  Calls Tryz.prog 9 #[.slice A0 n0 c0, .slice A l.length c] w (FewOut w) := by
 go_enter Tryz.func9, Tryz.ntmps9
 go_wp2_with fail
 go_loopw [12, 5, 7] (fun i s _ wr => ∃ (k : Nat) (n : Int), k ≤ l.length ∧ i = .int .i64 k ∧ s = .int .i64 n ∧ Below w.heap.size w wr) (fun i _ _ _ => l.length - (RowKit.intOf i).toNat)
 case atStart => exact ⟨0, _, by omega, rfl, rfl, Below.refl _ _⟩
 case round =>
  obtain ⟨k, n, hk, rfl, rfl, hb⟩ := hrel
  by_cases hlt : k < l.length
  ·have h1 := h.below hb
   obtain ⟨ad, rfl, hlb, d0, d1, d2, d3, d4, d5, d6⟩ := h1.at_ hlt
   generalize l[k] = a at *
   clear h h1
   have hsz := hb.size
   go_wp2_with fail
   all_goals
    go_roundw
    case rel => exact ⟨k + 1, _, by omega, by go_num, rfl, hb.alloc hsz _⟩
    case measure => simp [RowKit.intOf]; omega
  ·go_wp2_with fail
   go_ret
   exact ⟨⟨_, rfl⟩, hb⟩
theorem filesV_len (g : RG) : (filesV g).length = (idxL g.ns).length := by unfold filesV; rw [List.length_map]
end Go.Proofs.YtefgabnmcfpdcaaGreatDoor.Fs
