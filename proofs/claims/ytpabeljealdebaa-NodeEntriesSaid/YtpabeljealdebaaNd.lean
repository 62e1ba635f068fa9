/-
  Words for nodes: 32 numbers as one value, in a block, compared; With's contract.
-/
import Derived.Test.YtpabeljealdebaaNdPath
import Derived.Test.YtpabeljealdebaaOps
namespace Go.Proofs.Ytpabeljealdebaa
open Go.RowKit

abbrev I6 (z : Int) : Value := .int .i64 z
/-- A node as one value. -/
def ng (zs : List Int) : Value := .agg (zs.map I6).toArray
/-- Block b is the node. -/
def NB (w : World) (b : Nat) (zs : List Int) : Prop := w.heap[b]? = some (.cells (zs.map I6).toArray 23 (0, 0))
def z32 : List Int := List.replicate 32 0
theorem z32_len : z32.length = 32 := by simp [z32]

theorem Try.sizeN : (Try.prog.info? 23).map (·.size) = some 32 := by kernel_rfl
theorem sizeI (w : World) : (sizeOf 3).run Try.prog w = .ok 1 w := by kernel_rfl
theorem NB.lt {w : World} {b : Nat} {zs : List Int} (h : NB w b zs) : b < w.heap.size := (Array.getElem?_eq_some_iff.1 h).1
theorem NB.load {w : World} {b : Nat} {zs : List Int} (h : NB w b zs) (hl : zs.length = 32) : (Instr.loadAt 23 (.pointer (some ⟨b, 0, none⟩))).run Try.prog w = .ok (ng zs) w :=
  run_loadAt_mid w b 0 23 (zs.map I6) _ (range_cells h) Try.underlying23 rfl (by rw [Try.sizeN, List.length_map, hl])
theorem NB.store {w : World} {b : Nat} {zs ys : List Int} (h : NB w b zs) (hl : zs.length = 32) (hl' : ys.length = 32) :
    (Instr.storeAt 23 (.pointer (some ⟨b, 0, none⟩)) (ng ys)).run Try.prog w = .ok () (w.setCells b 0 (ys.map I6)) ∧ NB (w.setCells b 0 (ys.map I6)) b ys ∧ Keeps (· = b) w (w.setCells b 0 (ys.map I6)) := by
  obtain ⟨h1, h2⟩ := setCells_cells (ys := ys.map I6) h (by simp [hl, hl'])
  have := run_storeAt_mid (P := Try.prog) w b 0 23 (ys.map I6).toArray (there_cells h 0 _ (by simp [hl, hl'])) (by rw [Try.sizeN]; simp [hl']) (all_oneCell_toArray (fun v hv => by
    simp only [List.mem_map] at hv
    obtain ⟨u, _, rfl⟩ := hv
    rfl))
  exact ⟨this, h1, h2⟩
theorem NB.keep {w w' : World} {b : Nat} {zs : List Int} {F : Nat → Prop} (h : NB w b zs) (k : Keeps F w w') (hF : ¬ F b) : NB w' b zs := (k.block b h.lt hF).trans h
theorem NB.below {w w' : World} {b B : Nat} {zs : List Int} (h : NB w b zs) (k : Below B w w') (hB : b < B) : NB w' b zs := (k.block b hB).trans h
theorem NB.cell {w : World} {b : Nat} {zs : List Int} (h : NB w b zs) {k : Nat} (hk : k < zs.length) : w.cell? ⟨b, k, none⟩ = some (.int .i64 (zs.getD k 0)) := by
  rw [cell_of_row w b k _ _ _ h]
  simp [List.getD_eq_getElem?_getD, hk]
theorem NB.free {w : World} {b : Nat} {zs : List Int} (h : NB w b zs) (k : Nat) : w.frozen? ⟨b, k, none⟩ = false := frozen_of_row w b k _ _ h
theorem NB.set {w : World} {b : Nat} {zs : List Int} (h : NB w b zs) (k : Nat) (z : Int) : NB (w.setCell ⟨b, k, none⟩ (.int .i64 z)) b (zs.set k z) := by
  unfold NB
  rw [heap_setCell_same w b k _ _ _ h]
  simp [List.map_set]
theorem NB.box (w : World) (zs : List Int) : NB (w.alloc (.cells (zs.map I6).toArray 23)) w.heap.size zs := heap_alloc_new w _

theorem allocN (w : World) : (Instr.alloc 23 true (.tuple #[])).run Try.prog w = .ok (.pointer (some ⟨w.heap.size, 0, none⟩)) (w.alloc (.cells (z32.map I6).toArray 23)) := by kernel_rfl
theorem boxN (w : World) (zs : List Int) : (Instr.box 23 (ng zs)).run Try.prog w = .ok (.pointer (some ⟨w.heap.size, 0, none⟩)) (w.alloc (.cells (zs.map I6).toArray 23)) := rfl
theorem buildN (w : World) : (Instr.build 23 #[]).run Try.prog w = .ok (ng z32) w := by kernel_rfl
theorem guardN : Try.prog.eqGuardType Try.prog.depth 23 = false := by kernel_rfl
theorem eqlN (w : World) {xs ys : List Int} (hx : xs.length = 32) (hy : ys.length = 32) : (binOp .eql 23 (.agg (xs.map I6).toArray) (.agg (ys.map I6).toArray)).run Try.prog w = .ok (.bool (decide (xs = ys))) w :=
  run_eql_ints w 23 3 32 .i64 Try.underlying23 Try.underlying3 sizeI xs ys hx hy
theorem neqN (w : World) {xs ys : List Int} (hx : xs.length = 32) (hy : ys.length = 32) : (binOp .neq 23 (.agg (xs.map I6).toArray) (.agg (ys.map I6).toArray)).run Try.prog w = .ok (.bool (!decide (xs = ys))) w :=
  run_neq_ints w 23 3 32 .i64 Try.underlying23 Try.underlying3 sizeI xs ys hx hy

/-- A new node, laid whole. -/
theorem NB.laid (w : World) (ys : List Int) (hl : ys.length = 32) : ∃ w2, (Instr.storeAt 23 (.pointer (some ⟨w.heap.size, 0, none⟩)) (ng ys)).run Try.prog (w.alloc (.cells (z32.map I6).toArray 23)) = .ok () w2 ∧ NB w2 w.heap.size ys ∧ Below w.heap.size w w2 ∧ w2.heap.size = w.heap.size + 1 := by
  obtain ⟨S, b, k⟩ := (NB.box w z32).store (ys := ys) z32_len hl
  refine ⟨_, S, b, k.old ((Below.refl _ _).alloc (Nat.le_refl _) _) (Nat.le_refl _), ?_⟩
  have : ∀ (vs : List Value) (o : Nat) (v : World), (v.setCells w.heap.size o vs).heap.size = v.heap.size := by
    intro vs
    induction vs with
    | nil => intro o v; rfl
    | cons x r ih => intro o v; rw [World.setCells, ih]; simp [World.setCell]
  rw [this]
  simp

/-- The call hands back a node and a number, and has written nothing that was there. -/
def GivesNd (w : World) (zs : List Int) (E : Int) (e : Ending) (w' : World) : Prop := e = .returned (.tuple #[ng zs, .int .i64 E]) ∧ Below w.heap.size w w'

set_option maxHeartbeats 400000 in
theorem with_in (zs : List Int) (k : Nat) (s : Int) (w : World) (hl : zs.length = 32) (hk : k < 32) :
    Calls Try.prog 18 #[ng zs, .int .i64 (k : Int), .int .i64 s] w (GivesNd w (zs.set k s) 0) := by
  have b0 := NB.box w zs
  have b1 : NB ((w.alloc (.cells (zs.map I6).toArray 23)).alloc (.cells (z32.map I6).toArray 23)) (w.heap.size + 1) z32 := by
    have := NB.box (w.alloc (.cells (zs.map I6).toArray 23)) z32
    rwa [World.size_alloc] at this
  have b0' := b0.below (Below.alloc (Below.refl _ _) (Nat.le_refl _) (.cells (z32.map I6).toArray 23)) (by simp)
  have A1 := Lib.hid (allocN (w.alloc (.cells (zs.map I6).toArray 23)))
  have k0 : Below w.heap.size w ((w.alloc (.cells (zs.map I6).toArray 23)).alloc (.cells (z32.map I6).toArray 23)) := ((Below.refl _ _).alloc (Nat.le_refl _) _).alloc (by simp) _
  have hb : (decide (0 ≤ (k : Int)) && decide ((k : Int) < 32)) = true := by simp; omega
  have HB := Lib.hid hb
  clear hb b0
  go_enter Try.func18, Try.ntmps18
  go_wp2_with (first
    | ((with_reducible refine at_ (op := .box 23 (.tmp 0)) ?_); refine wpList_val rfl _ (ex_box 23 (.tmp 0) rfl _ _ rfl (boxN _ _)) ?_)
    | ((with_reducible refine at_ (op := .alloc 23) ?_); refine wpList_val rfl _ (ex_alloc 23 rfl _ A1.out) ?_))
  clear A1
  refine (isBelow_is true _ _ _ HB.out).mono ?_
  rintro e w' ⟨rfl, rfl⟩
  generalize ((w.alloc (.cells (zs.map I6).toArray 23)).alloc (.cells (z32.map I6).toArray 23)) = w1 at *
  have c0 := b0'.cell (k := k) (by omega)
  have f0 := b0'.free k
  have b2 := b0'.set k s
  have k2 : Keeps (· = w.heap.size) _ _ := Keeps.setCell (· = w.heap.size) w1 ⟨w.heap.size, k, none⟩ (.int .i64 s) rfl
  have b1' := b1.keep k2 (by omega)
  have hl2 : (zs.set k s).length = 32 := by simpa using hl
  generalize zs.set k s = ys at *
  have L1 := Lib.hid (b2.load hl2)
  obtain ⟨S0, b3, k3⟩ := b1'.store z32_len hl2
  have S1 := Lib.hid S0
  clear S0
  have K3 := Lib.hid b3
  have KK := k3.old (k2.old k0 (Nat.le_refl _)) (by omega)
  have HK := Lib.hid KK
  have HL := Lib.hid hl2
  generalize zs.getD k 0 = u0 at c0
  clear b1 b0' b2 k2 b1' b3 k3 k0 KK hl2 hl
  go_wp2_with (first
    | ((with_reducible refine at_ (op := .load 23 (.tmp 3)) ?_); refine wpList_val rfl _ (ex_load 23 (.tmp 3) rfl _ _ rfl L1.out) ?_)
    | ((with_reducible refine at_ (op := .store 23 (.tmp 6) (.tmp 15)) ?_); refine wpList_unit rfl (ex_store 23 (.tmp 6) (.tmp 15) rfl _ _ rfl rfl S1.out) ?_))
  refine bodyPost_ret (v := .tuple #[ng ys, .int .i64 0]) ?_ rfl ⟨rfl, HK.out⟩
  exact results_row_tmp rfl _ _ (w.heap.size + 1) 23 _ (0, 0) _ _ rfl rfl K3.out Try.underlying23 rfl (by rw [Try.sizeN]; simp [HL.out])

set_option maxHeartbeats 400000 in
theorem with_out (zs : List Int) (i s : Int) (w : World) (_hl : zs.length = 32) (hi : i < 0 ∨ 32 ≤ i) :
    Calls Try.prog 18 #[ng zs, .int .i64 i, .int .i64 s] w (GivesNd w z32 1) := by
  have b1 : NB ((w.alloc (.cells (zs.map I6).toArray 23)).alloc (.cells (z32.map I6).toArray 23)) (w.heap.size + 1) z32 := by
    have := NB.box (w.alloc (.cells (zs.map I6).toArray 23)) z32
    rwa [World.size_alloc] at this
  have A1 := Lib.hid (allocN (w.alloc (.cells (zs.map I6).toArray 23)))
  obtain ⟨S0, b3, k3⟩ := b1.store z32_len z32_len
  have S1 := Lib.hid S0
  clear S0
  have K3 := Lib.hid b3
  have k0 : Below w.heap.size w ((w.alloc (.cells (zs.map I6).toArray 23)).alloc (.cells (z32.map I6).toArray 23)) := ((Below.refl _ _).alloc (Nat.le_refl _) _).alloc (by simp) _
  have KK := k3.old k0 (by omega)
  have HK := Lib.hid KK
  clear b1 b3 k3 k0 KK
  have hb : (decide (0 ≤ i) && decide (i < 32)) = false := by rw [Bool.eq_false_iff]; simp; omega
  have HB := Lib.hid hb
  clear hb hi
  go_enter Try.func18, Try.ntmps18
  go_wp2_with (first
    | ((with_reducible refine at_ (op := .box 23 (.tmp 0)) ?_); refine wpList_val rfl _ (ex_box 23 (.tmp 0) rfl _ _ rfl (boxN _ _)) ?_)
    | ((with_reducible refine at_ (op := .alloc 23) ?_); refine wpList_val rfl _ (ex_alloc 23 rfl _ A1.out) ?_)
    | (go_at_call 25; refine (isBelow_is false _ _ _ HB.out).mono ?_; rintro e w' ⟨rfl, rfl⟩)
    | ((with_reducible refine at_ (op := .build 23 #[]) ?_); refine wpList_val rfl _ (ex_build0 23 rfl _ (buildN _)) ?_)
    | ((with_reducible refine at_ (op := .store 23 (.tmp 6) (.tmp 11)) ?_); refine wpList_unit rfl (ex_store 23 (.tmp 6) (.tmp 11) rfl _ _ rfl rfl S1.out) ?_))
  refine bodyPost_ret (v := .tuple #[ng z32, .int .i64 1]) ?_ rfl ⟨rfl, HK.out⟩
  exact results_row_tmp rfl _ _ (w.heap.size + 1) 23 _ (0, 0) _ _ rfl rfl K3.out Try.underlying23 rfl (by rw [Try.sizeN]; simp [z32_len])
end Go.Proofs.Ytpabeljealdebaa
