/-
  ShAwake
-/
import Derived.Test.YtacghpabjmnfiaaGreatDoorGShC
import Derived.Test.YtacghpabjmnfiaaGreatDoorWkZero
import Derived.Test.YtacghpabjmnfiaaGreatDoorGDk
namespace Go.Proofs.YtacghpabjmnfiaaGreatDoor
open Go.RowKit Go.Maps

def xs9 : List UInt8 := zs64.set 5 9
def lA (b : Nat) : List ChV := [⟨3, some ⟨b, 0, none⟩, xs9, 64⟩]
theorem costA (b : Nat) : costV (fresh 10) 0 0 (lA b) = (3, 0) := by kernel_rfl
theorem buildA (b : Nat) : (rebV bnxt (fresh 10) 0 0 (lA b) ⟨fresh 10, List.replicate 10 0, 0⟩).1 = 4 := by kernel_rfl
theorem freeA : Sp.nfree (List.replicate 10 0) = 8 := by kernel_rfl
theorem bokA : BOk (fresh 10) (List.replicate 10 0) 0 := ⟨rfl, by decide, Nat.le_of_eq (by kernel_rfl), by decide, by decide, by unfold Sp.Upto; decide, by decide, by decide⟩
theorem reachA (p lb mb n : Nat) (iv : Value) (D : DSt) (hd : D.down = false) : ReachE p lb mb n iv D 0 0 := fun h => reach_zero h hd
theorem entA (n : Nat) (_ : 0 < n) (D : DSt) : EntOk n (nodeD D 0) := fun i hi => ⟨0, by show z32.getD i 0 = _; rw [List.getD_eq_getElem?_getD, z32, List.getElem?_replicate, if_pos hi]; rfl, .inl rfl⟩

theorem nA : (fresh 10).n = 10 := by kernel_rfl
theorem nOA : nOf 10 = 10 := by decide
theorem nSA : Sp.nS 10 = 10 := by decide
theorem cells9 : (madeCells #[.int .u8 0] 64).setIfInBounds 5 (.int .u8 9) = (xs9.map B8).toArray := by kernel_rfl
theorem crA (w : World) : CR ((w.alloc (.cells ((madeCells #[.int .u8 0] 64).setIfInBounds 5 (.int .u8 9)) 5)).alloc (.cells #[.int .i64 3, .slice (some ⟨w.heap.size, 0, none⟩) 64 64] 32)) (w.heap.size + 2) (some ⟨w.heap.size + 1, 0, none⟩) (lA w.heap.size) := by
  have h0 := BR.new w xs9 _ 5 (0, 0) cells9
  have h1 := h0.alloc (by simp) (.cells #[.int .i64 3, .slice (some ⟨w.heap.size, 0, none⟩) 64 64] 32)
  have e1 : ((w.alloc (.cells ((madeCells #[.int .u8 0] 64).setIfInBounds 5 (.int .u8 9)) 5)).alloc (.cells #[.int .i64 3, .slice (some ⟨w.heap.size, 0, none⟩) 64 64] 32)).heap[w.heap.size + 1]? = some (.cells #[.int .i64 3, .slice (some ⟨w.heap.size, 0, none⟩) 64 64] 32 (0, 0)) := blk_at_last _ _ _ (by simp)
  refine ⟨fun _ => ⟨_, rfl, by show w.heap.size + 1 < _; omega, fun k a ha j v hv => ?_⟩, fun a ha => ?_⟩
  · match k, ha with
    | 0, ha =>
      cases ha
      have e2 : (((⟨w.heap.size + 1, 0, none⟩ : Addr).add (0 * 2)).add j) = ⟨w.heap.size + 1, j, none⟩ := by rw [Nat.zero_mul]; show (⟨w.heap.size + 1, 0, none⟩ : Addr).add j = _; rw [Addr.add_mid, Nat.zero_add]
      rw [e2, cell_of_row _ _ _ _ _ _ e1]
      match j, hv with
      | 0, hv => cases hv; rfl
      | 1, hv => cases hv; rfl
      | j + 2, hv => simp [ccells] at hv
    | k + 1, ha => simp [lA] at ha
  · simp only [lA, List.mem_singleton] at ha
    subst ha
    exact ⟨h1.more (by omega), by show (-9223372036854775808 : Int) ≤ 3; decide, by show (3 : Int) ≤ 9223372036854775807; decide, by show xs9.length ≤ 64; decide⟩

theorem outA {D : DSt} {l : List ChV} {cs : List Nat} {w w5 : World} {Fd : Nat → Prop} {p lo hi m : Nat} (h1 : costV D 0 0 l = (3, 0)) (h2 : Sp.nfree cs = 8) (h3 : (rebV bnxt D 0 0 l ⟨D, cs, 0⟩).1 = 4) (b5 : Below w.heap.size w w5)
    (hF : ∀ k, Fd k → w.heap.size ≤ k) (hlo : w.heap.size ≤ lo) : ∀ e w', BuildOut D 0 0 l cs 0 w5 Fd p lo hi m e w' → e = .returned (.tuple #[.int .i64 4, .int .i64 0]) ∧ Below w.heap.size w w' := by
  intro e w' h
  unfold BuildOut at h
  rw [h1, if_neg (by simp), if_neg (by rw [h2]; decide), h3] at h
  refine ⟨h.1, b5.trans ?_⟩
  obtain ⟨_, _, _, kk⟩ := h.2
  refine ⟨kk.os, kk.tape, kk.output, kk.size, fun b hb => kk.block b (by have := b5.size; omega) ?_⟩
  rintro (h | h)
  · have := hF b h.1; omega
  · omega

set_option maxRecDepth 100000 in
set_option maxHeartbeats 2000000 in
theorem shAwake_any (w : World) (hT : Sp.Tab w) : Calls Tryz.prog 15 #[] w fun e w' => e = .returned (.bool true) ∧ Below w.heap.size w w' := by
  have hmk := make64
  have r1 := Row8.made w 64 5
  have q1 := r1.cell_ (k := 5) (by simp)
  have q2 := r1.free 5
  have hcr := crA w
  have b2 : Below w.heap.size w ((w.alloc (.cells ((madeCells #[.int .u8 0] 64).setIfInBounds 5 (.int .u8 9)) 5)).alloc (.cells #[.int .i64 3, .slice (some ⟨w.heap.size, 0, none⟩) 64 64] 32)) := ((Below.refl _ _).alloc (Nat.le_refl _) _).alloc (by simp) _
  have s2 : ((w.alloc (.cells ((madeCells #[.int .u8 0] 64).setIfInBounds 5 (.int .u8 9)) 5)).alloc (.cells #[.int .i64 3, .slice (some ⟨w.heap.size, 0, none⟩) 64 64] 32)).heap.size = w.heap.size + 2 := by simp
  have hpos := hT.pos
  go_enter Tryz.func15, Tryz.ntmps15
  go_wp2_with fail
  clear r1 q1 q2 hmk
  generalize ((w.alloc (.cells ((madeCells #[.int .u8 0] 64).setIfInBounds 5 (.int .u8 9)) 5)).alloc (.cells #[.int .i64 3, .slice (some ⟨w.heap.size, 0, none⟩) 64 64] 32)) = w2 at *
  refine (new_any 10 w2).mono ?_
  rintro e w3 ⟨p, rfl, hD, k3⟩
  rw [nOA] at hD
  have s3 := k3.size
  have hcr3 : CR w3 (w.heap.size + 2) (some ⟨w.heap.size + 1, 0, none⟩) (lA w.heap.size) := hcr.keep fun q hq => World.cell?_of_block (k3.block q.block (by omega) (fun h => h))
  have hD3 : Dk w3 (fun k => w2.heap.size ≤ k ∧ k < w3.heap.size) p (fresh 10) := hD.mono fun k hk hf => ⟨hf, hk⟩
  have b3 : Below w.heap.size w w3 := b2.trans (k3.toBelow _ b2.size (fun _ h => h.elim))
  have hT3 := hT.below b3 hpos
  clear hD hcr k3 b2
  have hD0 := hD3
  obtain ⟨lb, mb, n, iv, hda, hjunk⟩ := hD0
  clear hjunk
  have hnn := hda.ok.n_eq
  rw [nA] at hnn
  have hn0 : 0 < n := by omega
  have hcost : Calls Tryz.prog 19 #[.pointer (some ⟨p, 0, none⟩), .int .i64 0, .slice (some ⟨w.heap.size + 1, 0, none⟩) 1 1] w3 fun e w' => e = .returned (.tuple #[.int .i64 3, .int .i64 0]) ∧ Below w3.heap.size w3 w' := by
    have h0 := cost_at hda rfl 0 0 (reachA p lb mb n iv (fresh 10) rfl) (fun _ => ⟨rfl, .inl rfl, entA n hn0 _⟩) _ (lA w.heap.size) 1 (hcr3.more (by omega)) (by show 1 ≤ 4398046511104; decide)
    rw [costA] at h0
    exact h0
  clear hda hnn hn0
  go_wp2_with fail
  refine hcost.mono ?_
  rintro e w4 ⟨rfl, hb4⟩
  have k4 := keeps_below hb4
  have s4 := k4.size
  have hcr4 : CR w4 (w.heap.size + 2) (some ⟨w.heap.size + 1, 0, none⟩) (lA w.heap.size) := hcr3.keep fun q hq => World.cell?_of_block (k4.block q.block (by omega) (fun h => h))
  have hD4 := hD3.keep k4 (fun _ _ _ h => h)
  have b4 : Below w.heap.size w w4 := b3.trans (hb4.mono b3.size)
  have hT4 := hT.below b4 hpos
  clear hcost hb4 k4 hcr3 hD3 b3 hT3
  go_wp2_with fail
  refine (Sp.new_any 10 w4).mono ?_
  rintro e w5 ⟨m, rfl, hM5, hb5⟩
  have k5 := keeps_below hb5
  have s5 := k5.size
  have hcr5 : CR w5 (w.heap.size + 2) (some ⟨w.heap.size + 1, 0, none⟩) (lA w.heap.size) := hcr4.keep fun q hq => World.cell?_of_block (k5.block q.block (by omega) (fun h => h))
  have hD5 := hD4.keep k5 (fun _ _ _ h => h)
  have b5 : Below w.heap.size w w5 := b4.trans (hb5.mono b4.size)
  have hT5 := hT.below b5 hpos
  rw [nSA] at hM5
  clear hb5 k5 hcr4 hD4 b4 hT4
  have hbuild : Calls Tryz.prog 25 #[.pointer (some ⟨p, 0, none⟩), .pointer (some ⟨m, 0, none⟩), .int .i64 0, .slice (some ⟨w.heap.size + 1, 0, none⟩) 1 1] w5 (BuildOut (fresh 10) 0 0 (lA w.heap.size) (List.replicate 10 0) 0 w5 (fun k => w2.heap.size ≤ k ∧ k < w3.heap.size) p w4.heap.size w5.heap.size m) :=
    build_at hD5 hM5 hT5 bokA (Nat.le_refl _) (by omega) (fun k hk _ => ⟨by omega, by omega⟩) 0 0 (E := 0) (fun lb mb n iv => reachA p lb mb n iv (fresh 10) rfl) (fun _ => ⟨rfl, .inl rfl, entA _ (by rw [nA]; decide) _⟩) _ (lA w.heap.size) 1 (hcr5.more (by omega)) (by show 1 ≤ 4398046511104; decide)
  replace hbuild := hbuild.mono (outA (costA _) freeA (buildA _) b5 (fun k hk => by omega) (by omega))
  clear hD5 hM5 hT5 hcr5
  go_wp2_with fail
  refine hbuild.mono ?_
  rintro e w6 ⟨rfl, b6⟩
  clear hbuild
  go_wp2_with fail
  go_ret
  exact ⟨rfl, b6⟩
end Go.Proofs.YtacghpabjmnfiaaGreatDoor
