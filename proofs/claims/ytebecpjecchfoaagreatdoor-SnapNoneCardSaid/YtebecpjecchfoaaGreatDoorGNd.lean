/-
  Merged by wip/tools/merge.py: NdPath Nd OpsIn NdIt NdPlain NdDec NdEnc NdEncN
-/
import Derived.Test.YtebecpjecchfoaaGreatDoorRows
import Derived.Test.YtebecpjecchfoaaGreatDoorGA
import Derived.WalkLawsBesides
import Derived.Lib.Hide
import Derived.Test.YtebecpjecchfoaaGreatDoorGT
import Derived.RangeFuncNested
import Derived.RangeFuncBox
import Derived.RangeFuncBound
import Derived.RangeFuncCalls
import Derived.RangeFuncLeaves
import Derived.Shelf.Abstract
import Derived.Shelf.RegionOpen
import Derived.WalkKit
import Derived.OwnWalkIn
import Derived.TacticsInMore
import Derived.LoopNIn
import Derived.LoopIn
import Derived.Test.YtebecpjecchfoaaGreatDoorGLe
import Derived.StillTailTactics
namespace Go.Proofs.YtebecpjecchfoaaGreatDoor
open Go.RowKit

set_option maxRecDepth 100000 in
set_option maxHeartbeats 400000 in
theorem isBelow_is (b : Bool) (n m : Int) (w : World) (h : (decide (0 ≤ n) && decide (n < m)) = b) :
    Calls Tryz.prog 232 #[.int .i64 n, .int .i64 m] w fun e w' => e = .returned (.bool b) ∧ w = w' := by
  subst h
  by_cases h0 : 0 ≤ n
  · go_enter Tryz.func232, Tryz.ntmps232
    go_wp2
    go_ret
    exact ⟨ret_bool (by simp [h0]), rfl⟩
  · go_enter Tryz.func232, Tryz.ntmps232
    go_wp2
    go_ret
    exact ⟨ret_bool (by simp; omega), rfl⟩

/-- The way to a page: the entry of the top node, that of the leaf, the error's number. -/
def pathA (p : Int) : Int := if 0 ≤ p ∧ p < 128 then p / 32 else 0
def pathB (p : Int) : Int := if 0 ≤ p ∧ p < 128 then p % 32 else 0
def pathE (p : Int) : Int := if 0 ≤ p ∧ p < 128 then 0 else 1
/-- The page of a way, the error's number. -/
def pageN (t l : Int) : Int := if (0 ≤ t ∧ t < 4) ∧ 0 ≤ l ∧ l < 32 then t * 32 + l else 0
def pageE (t l : Int) : Int := if (0 ≤ t ∧ t < 4) ∧ 0 ≤ l ∧ l < 32 then 0 else 1

theorem ret_tri {a b c a' b' c' : Int} (h1 : a = a') (h2 : b = b') (h3 : c = c') : Ending.returned (.tuple #[.int .i64 a, .int .i64 b, .int .i64 c]) = .returned (.tuple #[.int .i64 a', .int .i64 b', .int .i64 c']) := by rw [h1, h2, h3]
theorem ret_two {a b a' b' : Int} (h1 : a = a') (h2 : b = b') : Ending.returned (.tuple #[.int .i64 a, .int .i64 b]) = .returned (.tuple #[.int .i64 a', .int .i64 b']) := by rw [h1, h2]

set_option maxRecDepth 100000 in
set_option maxHeartbeats 400000 in
theorem path_any (p : Int) (w : World) :
    Calls Tryz.prog 219 #[.int .i64 p] w fun e w' => e = .returned (.tuple #[.int .i64 (pathA p), .int .i64 (pathB p), .int .i64 (pathE p)]) ∧ w = w' := by
  by_cases h : 0 ≤ p ∧ p < 128
  · have e1 := Lib.hid (show pathA p = p / 32 from if_pos h)
    have e2 := Lib.hid (show pathB p = p % 32 from if_pos h)
    have e3 := Lib.hid (show pathE p = 0 from if_pos h)
    obtain ⟨h0, h1⟩ := h
    go_enter Tryz.func219, Tryz.ntmps219
    go_wp2_with fail
    refine (isBelow_is true _ _ _ (by simp [h0, h1])).mono ?_
    rintro e w' ⟨rfl, rfl⟩
    go_wp2_with fail
    go_ret3
    exact ⟨ret_tri e1.out.symm e2.out.symm e3.out.symm, rfl⟩
  · have e1 := Lib.hid (show pathA p = 0 from if_neg h)
    have e2 := Lib.hid (show pathB p = 0 from if_neg h)
    have e3 := Lib.hid (show pathE p = 1 from if_neg h)
    have hb : (decide (0 ≤ p) && decide (p < 128)) = false := by rw [Bool.eq_false_iff]; simpa using h
    have HB := Lib.hid hb
    clear hb h
    go_enter Tryz.func219, Tryz.ntmps219
    go_wp2_with fail
    refine (isBelow_is false _ _ _ HB.out).mono ?_
    rintro e w' ⟨rfl, rfl⟩
    go_wp2_with fail
    go_ret3
    exact ⟨ret_tri e1.out.symm e2.out.symm e3.out.symm, rfl⟩

set_option maxRecDepth 100000 in
set_option maxHeartbeats 400000 in
theorem page_any (t l : Int) (w : World) :
    Calls Tryz.prog 231 #[.int .i64 t, .int .i64 l] w fun e w' => e = .returned (.tuple #[.int .i64 (pageN t l), .int .i64 (pageE t l)]) ∧ w = w' := by
  by_cases h1 : 0 ≤ t ∧ t < 4
  · by_cases h2 : 0 ≤ l ∧ l < 32
    · have e1 := Lib.hid (show pageN t l = t * 32 + l from if_pos ⟨h1, h2⟩)
      have e2 := Lib.hid (show pageE t l = 0 from if_pos ⟨h1, h2⟩)
      obtain ⟨h1, h1'⟩ := h1
      obtain ⟨h2, h2'⟩ := h2
      go_enter Tryz.func231, Tryz.ntmps231
      go_wp2_with fail
      refine (isBelow_is true _ _ _ (by simp [h1, h1'])).mono ?_
      rintro e w' ⟨rfl, rfl⟩
      go_wp2_with fail
      refine (isBelow_is true _ _ _ (by simp [h2, h2'])).mono ?_
      rintro e w' ⟨rfl, rfl⟩
      go_wp2_with fail
      go_ret2
      exact ⟨ret_two e1.out.symm e2.out.symm, rfl⟩
    · have h : ¬ ((0 ≤ t ∧ t < 4) ∧ 0 ≤ l ∧ l < 32) := fun h => h2 h.2
      have e1 := Lib.hid (show pageN t l = 0 from if_neg h)
      have e2 := Lib.hid (show pageE t l = 1 from if_neg h)
      have HB := Lib.hid (show (decide (0 ≤ l) && decide (l < 32)) = false by rw [Bool.eq_false_iff]; simpa using h2)
      clear h h2
      obtain ⟨h1, h1'⟩ := h1
      go_enter Tryz.func231, Tryz.ntmps231
      go_wp2_with fail
      refine (isBelow_is true _ _ _ (by simp [h1, h1'])).mono ?_
      rintro e w' ⟨rfl, rfl⟩
      go_wp2_with fail
      refine (isBelow_is false _ _ _ HB.out).mono ?_
      rintro e w' ⟨rfl, rfl⟩
      go_wp2_with fail
      go_ret2
      exact ⟨ret_two e1.out.symm e2.out.symm, rfl⟩
  · have h : ¬ ((0 ≤ t ∧ t < 4) ∧ 0 ≤ l ∧ l < 32) := fun h => h1 h.1
    have e1 := Lib.hid (show pageN t l = 0 from if_neg h)
    have e2 := Lib.hid (show pageE t l = 1 from if_neg h)
    have HB := Lib.hid (show (decide (0 ≤ t) && decide (t < 4)) = false by rw [Bool.eq_false_iff]; simpa using h1)
    clear h h1
    go_enter Tryz.func231, Tryz.ntmps231
    go_wp2_with fail
    refine (isBelow_is false _ _ _ HB.out).mono ?_
    rintro e w' ⟨rfl, rfl⟩
    go_wp2_with fail
    go_ret2
    exact ⟨ret_two e1.out.symm e2.out.symm, rfl⟩

end Go.Proofs.YtebecpjecchfoaaGreatDoor
namespace Go.Proofs.YtebecpjecchfoaaGreatDoor
open Go.RowKit

abbrev I6 (z : Int) : Value := .int .i64 z
/-- A node as one value. -/
def ng (zs : List Int) : Value := .agg (zs.map I6).toArray
/-- Block b is the node. -/
def NB (w : World) (b : Nat) (zs : List Int) : Prop := w.heap[b]? = some (.cells (zs.map I6).toArray 183 (0, 0))
def z32 : List Int := List.replicate 32 0
theorem z32_len : z32.length = 32 := by simp [z32]

theorem Tryz.sizeN : (Tryz.prog.info? 183).map (·.size) = some 32 := by kernel_rfl
theorem sizeI (w : World) : (sizeOf 3).run Tryz.prog w = .ok 1 w := by kernel_rfl
theorem NB.lt {w : World} {b : Nat} {zs : List Int} (h : NB w b zs) : b < w.heap.size := (Array.getElem?_eq_some_iff.1 h).1
theorem NB.load {w : World} {b : Nat} {zs : List Int} (h : NB w b zs) (hl : zs.length = 32) : (Instr.loadAt 183 (.pointer (some ⟨b, 0, none⟩))).run Tryz.prog w = .ok (ng zs) w :=
  run_loadAt_mid w b 0 183 (zs.map I6) _ (range_cells h) Tryz.underlying183 rfl (by rw [Tryz.sizeN, List.length_map, hl])
theorem NB.store {w : World} {b : Nat} {zs ys : List Int} (h : NB w b zs) (hl : zs.length = 32) (hl' : ys.length = 32) :
    (Instr.storeAt 183 (.pointer (some ⟨b, 0, none⟩)) (ng ys)).run Tryz.prog w = .ok () (w.setCells b 0 (ys.map I6)) ∧ NB (w.setCells b 0 (ys.map I6)) b ys ∧ Keeps (· = b) w (w.setCells b 0 (ys.map I6)) := by
  obtain ⟨h1, h2⟩ := setCells_cells (ys := ys.map I6) h (by simp [hl, hl'])
  have := run_storeAt_mid (P := Tryz.prog) w b 0 183 (ys.map I6).toArray (there_cells h 0 _ (by simp [hl, hl'])) (by rw [Tryz.sizeN]; simp [hl']) (all_oneCell_toArray (fun v hv => by
    simp only [List.mem_map] at hv
    obtain ⟨u, _, rfl⟩ := hv
    rfl))
  exact ⟨this, h1, h2⟩
theorem NB.keep {w w' : World} {b : Nat} {zs : List Int} {F : Nat → Prop} (h : NB w b zs) (k : Keeps F w w') (hF : ¬ F b) : NB w' b zs := (k.block b h.lt hF).trans h
theorem NB.below {w w' : World} {b B : Nat} {zs : List Int} (h : NB w b zs) (k : Below B w w') (hB : b < B) : NB w' b zs := (k.block b hB).trans h
theorem NB.cell {w : World} {b : Nat} {zs : List Int} (h : NB w b zs) {k : Nat} (hk : k < zs.length) : w.cell? ⟨b, k, none⟩ = some (.int .i64 (zs.getD k 0)) := by
  rw [cell_of_row w b k _ _ _ h]
  simp [List.getD_eq_getElem?_getD, hk]
theorem NB.free {w : World} {b : Nat} {zs : List Int} (h : NB w b zs) (k : Nat) : w.frozen? ⟨b, k, none⟩ = false := frozen_of_row w b k _ _ h
theorem NB.set {w : World} {b : Nat} {zs : List Int} (h : NB w b zs) (k : Nat) (z : Int) : NB (w.setCell ⟨b, k, none⟩ (.int .i64 z)) b (zs.set k z) := by
  unfold NB
  rw [heap_setCell_same w b k _ _ _ h]
  simp [List.map_set]
theorem NB.box (w : World) (zs : List Int) : NB (w.alloc (.cells (zs.map I6).toArray 183)) w.heap.size zs := heap_alloc_new w _

theorem allocN (w : World) : (Instr.alloc 183 true (.tuple #[])).run Tryz.prog w = .ok (.pointer (some ⟨w.heap.size, 0, none⟩)) (w.alloc (.cells (z32.map I6).toArray 183)) := by kernel_rfl
theorem boxN (w : World) (zs : List Int) : (Instr.box 183 (ng zs)).run Tryz.prog w = .ok (.pointer (some ⟨w.heap.size, 0, none⟩)) (w.alloc (.cells (zs.map I6).toArray 183)) := rfl
theorem buildN (w : World) : (Instr.build 183 #[]).run Tryz.prog w = .ok (ng z32) w := by kernel_rfl
theorem guardN : Tryz.prog.eqGuardType Tryz.prog.depth 183 = false := by kernel_rfl
theorem eqlN (w : World) {xs ys : List Int} (hx : xs.length = 32) (hy : ys.length = 32) : (binOp .eql 183 (.agg (xs.map I6).toArray) (.agg (ys.map I6).toArray)).run Tryz.prog w = .ok (.bool (decide (xs = ys))) w :=
  run_eql_ints w 183 3 32 .i64 Tryz.underlying183 Tryz.underlying3 sizeI xs ys hx hy
theorem neqN (w : World) {xs ys : List Int} (hx : xs.length = 32) (hy : ys.length = 32) : (binOp .neq 183 (.agg (xs.map I6).toArray) (.agg (ys.map I6).toArray)).run Tryz.prog w = .ok (.bool (!decide (xs = ys))) w :=
  run_neq_ints w 183 3 32 .i64 Tryz.underlying183 Tryz.underlying3 sizeI xs ys hx hy

/-- A new node, laid whole. -/
theorem NB.laid (w : World) (ys : List Int) (hl : ys.length = 32) : ∃ w2, (Instr.storeAt 183 (.pointer (some ⟨w.heap.size, 0, none⟩)) (ng ys)).run Tryz.prog (w.alloc (.cells (z32.map I6).toArray 183)) = .ok () w2 ∧ NB w2 w.heap.size ys ∧ Below w.heap.size w w2 ∧ w2.heap.size = w.heap.size + 1 := by
  obtain ⟨S, b, k⟩ := (NB.box w z32).store (ys := ys) z32_len hl
  refine ⟨_, S, b, k.old ((Below.refl _ _).alloc (Nat.le_refl _) _) (Nat.le_refl _), ?_⟩
  have : ∀ (vs : List Value) (o : Nat) (v : World), (v.setCells w.heap.size o vs).heap.size = v.heap.size := by
    intro vs
    induction vs with
    | nil => intro o v; rfl
    | cons x r ih => intro o v; rw [World.setCells, ih]; simp [World.setCell]
  rw [this]
  simp

/-- The call hands back a node and a number, and has written nothing that was there. -/
def GivesNd (w : World) (zs : List Int) (E : Int) (e : Ending) (w' : World) : Prop := e = .returned (.tuple #[ng zs, .int .i64 E]) ∧ Below w.heap.size w w'

set_option maxRecDepth 100000 in
set_option maxHeartbeats 400000 in
theorem with_in (zs : List Int) (k : Nat) (s : Int) (w : World) (hl : zs.length = 32) (hk : k < 32) :
    Calls Tryz.prog 234 #[ng zs, .int .i64 (k : Int), .int .i64 s] w (GivesNd w (zs.set k s) 0) := by
  have b0 := NB.box w zs
  have b1 : NB ((w.alloc (.cells (zs.map I6).toArray 183)).alloc (.cells (z32.map I6).toArray 183)) (w.heap.size + 1) z32 := by
    have := NB.box (w.alloc (.cells (zs.map I6).toArray 183)) z32
    rwa [World.size_alloc] at this
  have b0' := b0.below (Below.alloc (Below.refl _ _) (Nat.le_refl _) (.cells (z32.map I6).toArray 183)) (by simp)
  have A1 := Lib.hid (allocN (w.alloc (.cells (zs.map I6).toArray 183)))
  have k0 : Below w.heap.size w ((w.alloc (.cells (zs.map I6).toArray 183)).alloc (.cells (z32.map I6).toArray 183)) := ((Below.refl _ _).alloc (Nat.le_refl _) _).alloc (by simp) _
  have hb : (decide (0 ≤ (k : Int)) && decide ((k : Int) < 32)) = true := by simp; omega
  have HB := Lib.hid hb
  clear hb b0
  go_enter Tryz.func234, Tryz.ntmps234
  go_wp2_with (first
    | ((with_reducible refine at_ (op := .box 183 (.tmp 0)) ?_); refine wpList_val rfl _ (ex_box 183 (.tmp 0) rfl _ _ rfl (boxN _ _)) ?_)
    | ((with_reducible refine at_ (op := .alloc 183) ?_); refine wpList_val rfl _ (ex_alloc 183 rfl _ A1.out) ?_))
  clear A1
  refine (isBelow_is true _ _ _ HB.out).mono ?_
  rintro e w' ⟨rfl, rfl⟩
  generalize ((w.alloc (.cells (zs.map I6).toArray 183)).alloc (.cells (z32.map I6).toArray 183)) = w1 at *
  have c0 := b0'.cell (k := k) (by omega)
  have f0 := b0'.free k
  have b2 := b0'.set k s
  have k2 : Keeps (· = w.heap.size) _ _ := Keeps.setCell (· = w.heap.size) w1 ⟨w.heap.size, k, none⟩ (.int .i64 s) rfl
  have b1' := b1.keep k2 (by omega)
  have hl2 : (zs.set k s).length = 32 := by simpa using hl
  generalize zs.set k s = ys at *
  have L1 := Lib.hid (b2.load hl2)
  obtain ⟨S0, b3, k3⟩ := b1'.store z32_len hl2
  have S1 := Lib.hid S0
  clear S0
  have K3 := Lib.hid b3
  have KK := k3.old (k2.old k0 (Nat.le_refl _)) (by omega)
  have HK := Lib.hid KK
  have HL := Lib.hid hl2
  generalize zs.getD k 0 = u0 at c0
  clear b1 b0' b2 k2 b1' b3 k3 k0 KK hl2 hl
  go_wp2_with (first
    | ((with_reducible refine at_ (op := .load 183 (.tmp 3)) ?_); refine wpList_val rfl _ (ex_load 183 (.tmp 3) rfl _ _ rfl L1.out) ?_)
    | ((with_reducible refine at_ (op := .store 183 (.tmp 6) (.tmp 15)) ?_); refine wpList_unit rfl (ex_store 183 (.tmp 6) (.tmp 15) rfl _ _ rfl rfl S1.out) ?_))
  refine bodyPost_ret (v := .tuple #[ng ys, .int .i64 0]) ?_ rfl ⟨rfl, HK.out⟩
  exact results_row_tmp rfl _ _ (w.heap.size + 1) 183 _ (0, 0) _ _ rfl rfl K3.out Tryz.underlying183 rfl (by rw [Tryz.sizeN]; simp [HL.out])

end Go.Proofs.YtebecpjecchfoaaGreatDoor
namespace Go.Proofs.YtebecpjecchfoaaGreatDoor
open Go.RowKit

section
variable {F : Fence} {n : Nat} {P : Program} {w w' : World} {ops : Array Oper} {rest : List Oper} {o : Oper} {a : Act} {Q : Exit → Act → World → Prop}
theorem wpListIn_val (hw : Region.wanted o (yielded ops a.tmps) = true) (hd : ∀ c, o.op ≠ .defer c) (hab : o.about P w a.eval = none) (v : Value) (hrun : (execOp a.eval o).run P w = .ok (.value v) w') (h : wpListIn F n P ops Q rest (a.put o.dst v) w') : wpListIn F n P ops Q (o :: rest) a w := by
  unfold wpListIn
  rw [if_pos hw]
  refine ⟨fun f hf => (by rw [hab] at hf; cases hf), ?_⟩
  rw [Oper.semAt_plain F _ _ hd, hrun]
  exact h
/-- A mark at an operation: the goal as it was. -/
theorem atIn_ {op : Op} {d : Option Tmp} {ty : TypeId} {pos : String} {af : Array Edge} {g : Option (Nat × Bool)}
    (h : wpListIn F n P ops Q (⟨d, op, ty, pos, af, g⟩ :: rest) a w) : wpListIn F n P ops Q (⟨d, op, ty, pos, af, g⟩ :: rest) a w := h
end
/-- A block of cells stays where a step turns a block that is none, or none at all. -/
theorem cells_kept {W W' : World} {row : Option Nat} {b : Nat} {c : Array Value} {t : TypeId} {fr : Nat × Nat} (h : W.heap[b]? = some (.cells c t fr)) (hg : W.grownBy W' row) (hr : ∀ r, row = some r → ∃ o : Obj, W.heap[r]? = some o ∧ o.isCells = false) : W'.heap[b]? = some (.cells c t fr) :=
  (hg.block b (Array.getElem?_eq_some_iff.1 h).1 (fun e => by
    obtain ⟨o, ho, hc⟩ := hr b e.symm
    rw [h] at ho
    cases ho
    cases hc)).trans h
end Go.Proofs.YtebecpjecchfoaaGreatDoor
namespace Go.Proofs.YtebecpjecchfoaaGreatDoor
open Go.RowKit Go.Shelf
attribute [local go_sem] Oper.semAt_some

/-- An entry: a place from 0 to 31 and a number that isn't 0. -/
abbrev EN := { p : Nat × Int // p.1 < 32 ∧ p.2 ≠ 0 }
abbrev encE (x : EN) : Array Value := #[.int .i64 (x.1.1 : Int), .int .i64 x.1.2]
/-- What comes of the first k entries. -/
def entsK (zs : List Int) : Nat → List EN
  | 0 => []
  | k + 1 => if h : k < 32 ∧ zs.getD k 0 ≠ 0 then entsK zs k ++ [⟨(k, zs.getD k 0), h⟩] else entsK zs k
theorem entsK_yes (zs : List Int) (k : Nat) (h : k < 32 ∧ zs.getD k 0 ≠ 0) : entsK zs (k + 1) = entsK zs k ++ [⟨(k, zs.getD k 0), h⟩] := by rw [entsK, dif_pos h]
theorem entsK_no (zs : List Int) (k : Nat) (h : zs.getD k 0 = 0) : entsK zs (k + 1) = entsK zs k := by rw [entsK, dif_neg (fun h' => h'.2 h)]
theorem entsK_len (zs : List Int) (k : Nat) : (entsK zs k).length ≤ k := by
  induction k with
  | zero => simp [entsK]
  | succ k ih =>
    rw [entsK]
    split
    · simp; omega
    · omega
theorem entsK_prefix (zs : List Int) (k j : Nat) : entsK zs k <+: entsK zs (k + j) := by
  induction j with
  | zero => exact List.prefix_refl _
  | succ j ih =>
    refine ih.trans ?_
    rw [show k + (j + 1) = (k + j) + 1 from rfl, entsK]
    split
    · exact List.prefix_append _ _
    · exact List.prefix_refl _

theorem idxN (w : World) {zs : List Int} (hl : zs.length = 32) {k : Nat} (hk : k < 32) : (Instr.index 183 (ng zs) (.int .i64 (k : Int))).run Tryz.prog w = .ok (.int .i64 (zs.getD k 0)) w := by
  have hp : (part 3 (zs.map I6).toArray (k * 1)).run Tryz.prog w = .ok (.int .i64 (zs.getD k 0)) w := by
    simp [part, isAgg, run_underlying Tryz.underlying3, List.getD, List.getElem?_eq_getElem (show k < zs.length by omega)]
  unfold Instr.index
  simp only [asIntOf, Sem.run_bind, Sem.run_pure, Result.andThen_ok, run_underlying Tryz.underlying183, ng]
  rw [if_pos ⟨by omega, by omega⟩]
  simp only [Sem.run_bind, sizeI, Result.andThen_ok]
  rw [Int.toNat_natCast]
  exact hp

set_option maxRecDepth 100000 in
set_option maxHeartbeats 2000000 in
/-- The closure of Entries, for every loop body. -/
theorem entries1_in (F : Fence) (n : Nat) (h : F.fn 229) (hro : F.round = none) (hn : 1 ≤ n) (l B : Nat) (zs : List Int) (hl : zs.length = 32) (J Jx : List EN → World → Prop)
    (hY : ∀ pre x W, J pre W → pre.length < 32 → YieldAt F (n - 1) Tryz.prog l (encE x) W fun e W' =>
      (e = .returned (.bool true) ∧ J (pre ++ [x]) W' ∧ True) ∨ (e = .returned (.bool false) ∧ Jx (pre ++ [x]) W'))
    (W : World) (hB : NB W B zs) (h0 : J [] W) :
    CallsIn F n Tryz.prog 229 #[.func (.yield l) #[] #[], .pointer (some ⟨B, 0, none⟩)] W fun e W' => (∃ v, e = .returned v) ∧
      ((∃ ys, ys = entsK zs 32 ∧ J ys W') ∨ (∃ pre, pre <+: entsK zs 32 ∧ Jx pre W')) := by
  have L1 := Lib.hid (hB.load hl)
  refine callsIn_of_wp Tryz.func229 rfl h ?_ hro
  simp only [Tryz.ntmps229, List.size_toArray, List.length_cons, List.length_nil, Nat.reduceAdd, Nat.reduceSub, Array.replicate_succ, Array.replicate_zero, List.push_toArray, List.append_toArray, List.nil_append, List.cons_append]
  clear hB
  gi_wp2_with ((with_reducible refine atIn_ (op := .load 183 (.tmp 1)) ?_); refine wpListIn_val rfl (by intro c h; cases h) rfl _ (ex_load 183 (.tmp 1) rfl _ _ rfl L1.out) ?_)
  clear L1
  gi_loopw [6] (fun i wr => ∃ k : Nat, k ≤ 32 ∧ i = .int .i64 k ∧ J (entsK zs k) wr) (fun i _ => 32 - (intOf i).toNat)
  case atStart => exact ⟨0, Nat.zero_le _, rfl, h0⟩
  case round =>
    obtain ⟨k, hk, rfl, hJs⟩ := hrel
    by_cases hlt : k < 32
    · have IX := fun w => Lib.hid (idxN w hl hlt)
      by_cases hz : zs.getD k 0 = 0
      · have HE := Lib.hid (entsK_no zs k hz)
        generalize zs.getD k 0 = z at *
        subst hz
        gi_wp2_with ((with_reducible refine atIn_ (op := .index 183 (.tmp 5) (.tmp 6)) ?_); refine wpListIn_val rfl (by intro c h; cases h) rfl _ (ex_index 183 (.tmp 5) (.tmp 6) rfl _ _ _ rfl rfl (IX _).out) ?_)
        refine ⟨fun _ h => (by cases h), ?_⟩
        gi_wp2
        go_roundw
        case rel => exact ⟨k + 1, by omega, by go_num, by rw [HE.out]; exact hJs⟩
        case measure => simp [intOf]; omega
      · have HE := Lib.hid (entsK_yes zs k ⟨hlt, hz⟩)
        have hlen := entsK_len zs k
        obtain ⟨fn, tmps, assign, body, hy, hR⟩ := hY (entsK zs k) ⟨(k, zs.getD k 0), hlt, hz⟩ wr hJs (by omega)
        have hp := Lib.hid (entsK_prefix zs (k + 1) (32 - (k + 1)))
        have HZ := Lib.hid hl
        rw [← HE.out] at hR
        have hz1 : (zs.getD k 0 == 0) = false := by simpa using hz
        have hz2 : (zs.getD k 0 != 0) = true := by simpa using hz
        clear HE
        change (Instr.yield l #[.int .i64 (k : Int), .int .i64 (zs.getD k 0)]).run _ wr = _ at hy
        generalize zs.getD k 0 = z at *
        clear hlen
        gi_wp2_with ((with_reducible refine atIn_ (op := .index 183 (.tmp 5) (.tmp 6)) ?_); refine wpListIn_val rfl (by intro c h; cases h) rfl _ (ex_index 183 (.tmp 5) (.tmp 6) rfl _ _ _ rfl rfl (IX _).out) ?_)
        refine hR.mono ?_
        rintro e W3 (⟨rfl, hJ3, hk3⟩ | ⟨rfl, hJx3⟩)
        · gi_wp2
          go_roundw
          case rel => exact ⟨k + 1, by omega, by go_num, hJ3⟩
          case measure => simp [intOf]; omega
        · gi_wp2
          refine bodyPost_ret (results_none rfl _ _ _) rfl ?_
          exact ⟨⟨_, rfl⟩, .inr ⟨_, by have := hp.out; rwa [show k + 1 + (32 - (k + 1)) = 32 from by omega] at this, hJx3⟩⟩
    · obtain rfl : k = 32 := by omega
      gi_wp2
      go_end0
      exact ⟨⟨_, rfl⟩, .inl ⟨_, rfl, hJs⟩⟩
theorem entries_stops (F : Fence) (n : Nat) (h : F.fn 229) (hro : F.round = none) (hn : 1 ≤ n) (B : Nat) (zs : List Int) (hl : zs.length = 32) (w : World) (hB : NB w B zs) :
    SeqStopsK F n Tryz.prog 229 #[.pointer (some ⟨B, 0, none⟩)] encE (fun _ _ => True) (fun ys => ys = entsK zs 32) (fun pre => pre <+: entsK zs 32) 32 w := fun l J Jx W hW _ _ hY h0 =>
  entries1_in F n h hro hn l B zs hl J Jx hY W (hB.below hW hB.lt) h0

set_option maxRecDepth 100000 in
set_option maxHeartbeats 400000 in
theorem entries_any (zs : List Int) (w : World) :
    Calls Tryz.prog 215 #[ng zs] w fun e w' => e = .returned (.func (.func 229) #[] #[.pointer (some ⟨w.heap.size, 0, none⟩)]) ∧ w' = w.alloc (.cells (zs.map I6).toArray 183) := by
  have hmf : ∀ (fn : Fn) (first cap : Array Value) (w : World), (Instr.makeFunc fn first cap).run Tryz.prog w = .ok (.func fn first cap) w := fun _ _ _ _ => rfl
  go_enter Tryz.func215, Tryz.ntmps215
  go_wp2_with ((with_reducible refine at_ (op := .box 183 (.tmp 0)) ?_); refine wpList_val rfl _ (ex_box 183 (.tmp 0) rfl _ _ rfl (boxN _ _)) ?_)
  go_ret
  exact ⟨rfl, rfl⟩

/-! ### what has been seen -/
end Go.Proofs.YtebecpjecchfoaaGreatDoor
namespace Go.Proofs.YtebecpjecchfoaaGreatDoor
open Go.RowKit

/-- The node whose bytes these are, its first k numbers alone. -/
def decT (xs : List UInt8) (k : Nat) : List Int := (List.range 32).map fun i => if i < k then (num xs (2 * (i : Int)) 2 : Int) else 0
theorem decT_len (xs : List UInt8) (k : Nat) : (decT xs k).length = 32 := by simp [decT]
theorem decT_zero (xs : List UInt8) : decT xs 0 = z32 := by
  simp [decT, z32, List.map_const']
theorem decT_step (xs : List UInt8) (k : Nat) : (decT xs k).set k (num xs (2 * (k : Int)) 2 : Int) = decT xs (k + 1) := by
  refine List.ext_getElem (by simp [decT]) fun i h1 h2 => ?_
  rw [List.getElem_set]
  simp only [decT, List.getElem_map, List.getElem_range]
  by_cases e : k = i
  · subst e; simp
  · rw [if_neg e]
    by_cases h : i < k
    · rw [if_pos h, if_pos (by omega)]
    · rw [if_neg h, if_neg (by omega)]
def decN (xs : List UInt8) : List Int := decT xs 32
theorem decN_len (xs : List UInt8) : (decN xs).length = 32 := decT_len xs 32
theorem num2_lt (xs : List UInt8) (a : Int) : num xs a 2 < 65536 := num_lt xs a 2

/-- A number as 64 bits. -/
def u64N (z : Int) : Nat := (z % 18446744073709551616).toNat
theorem u64N_wrap (z : Int) : IntKind.u64.wrap z = (u64N z : Int) := by
  rw [IntKind.wrap_u64]
  unfold u64N
  omega
/-- The bytes of a node, its first k numbers alone. -/
def encB (zs : List Int) (k : Nat) : List UInt8 := (List.range 64).map fun j => if j < 2 * k then byteN (u64N (zs.getD (j / 2) 0)) (j % 2) else 0
theorem encB_len (zs : List Int) (k : Nat) : (encB zs k).length = 64 := by simp [encB]
theorem encB_zero (zs : List Int) : encB zs 0 = List.replicate 64 0 := by simp [encB, List.map_const']
theorem encB_get (zs : List Int) (k i : Nat) (hi : i < 64) : (encB zs k).getD i 0 = if i < 2 * k then byteN (u64N (zs.getD (i / 2) 0)) (i % 2) else 0 := by
  simp [encB, List.getD_eq_getElem?_getD, hi]
theorem encB_put (zs : List Int) (k : Nat) (hk : k < 32) : putL (encB zs k) (2 * (k : Int)) (u64N (zs.getD k 0)) 2 = encB zs (k + 1) := by
  refine List.ext_getElem (by rw [putL_len, encB_len, encB_len]) fun i h1 h2 => ?_
  have hi : i < 64 := by rw [encB_len] at h2; exact h2
  have e1 := putL_get (encB zs k) (2 * (k : Int)) (u64N (zs.getD k 0)) 2 i (by omega) (by rw [encB_len]; exact hi)
  rw [encB_get _ _ _ hi] at e1
  have e2 := encB_get zs (k + 1) i hi
  rw [List.getD_eq_getElem?_getD, List.getElem?_eq_getElem h1] at e1
  rw [List.getD_eq_getElem?_getD, List.getElem?_eq_getElem h2] at e2
  simp only [Option.getD_some] at e1 e2
  rw [e1, e2]
  by_cases h : 2 * k ≤ i ∧ i < 2 * k + 2
  · rw [if_pos (by omega), if_pos (by omega)]
    rw [show i / 2 = k from by omega, show ((i : Int) - 2 * (k : Int)).toNat = i % 2 from by omega]
  · rw [if_neg (by omega)]
    by_cases h' : i < 2 * k
    · rw [if_pos h', if_pos (by omega)]
    · rw [if_neg h', if_neg (by omega)]
theorem byteN_zero (j : Nat) : byteN 0 j = 0 := by simp [byteN]
theorem encB_skip (zs : List Int) (k : Nat) (h : zs.getD k 0 = 0) : encB zs (k + 1) = encB zs k := by
  unfold encB
  refine List.map_congr_left fun j _ => ?_
  by_cases h1 : j < 2 * k
  · rw [if_pos h1, if_pos (by omega)]
  · rw [if_neg h1]
    split
    · rw [show j / 2 = k from by omega, h]
      exact byteN_zero _
    · rfl
/-- The bytes that come of entries, one behind the other. -/
def encF (l : List EN) : List UInt8 := l.foldl (fun b x => putL b (2 * (x.1.1 : Int)) (u64N x.1.2) 2) (List.replicate 64 0)
theorem encF_snoc (l : List EN) (x : EN) : encF (l ++ [x]) = putL (encF l) (2 * (x.1.1 : Int)) (u64N x.1.2) 2 := by simp [encF]
theorem encF_len (l : List EN) : (encF l).length = 64 := by
  have : ∀ (l : List EN) (s : List UInt8), (l.foldl (fun b x => putL b (2 * (x.1.1 : Int)) (u64N x.1.2) 2) s).length = s.length := by
    intro l
    induction l with
    | nil => intro s; rfl
    | cons x r ih => intro s; rw [List.foldl_cons, ih, putL_len]
  rw [encF, this]
  simp
theorem encF_ents (zs : List Int) (k : Nat) (hk : k ≤ 32) : encF (entsK zs k) = encB zs k := by
  induction k with
  | zero => rw [encB_zero]; rfl
  | succ k ih =>
    have ih := ih (by omega)
    rw [entsK]
    split
    · rw [encF_snoc, ih]
      exact encB_put zs k (by omega)
    · rename_i hz
      have h0 : zs.getD k 0 = 0 := Classical.byContradiction fun h => hz ⟨by omega, h⟩
      rw [ih, encB_skip _ _ h0]
theorem encB_num (zs : List Int) (k : Nat) (hk : k < 32) : num (encB zs 32) (2 * (k : Int)) 2 = u64N (zs.getD k 0) % 65536 := by
  refine num_of_bytes _ _ _ 2 fun j hj => ?_
  rw [byt_in _ _ (by omega), encB_get _ _ _ (by omega), if_pos (by omega)]
  rw [show (2 * (k : Int) + (j : Int)).toNat / 2 = k from by omega, show (2 * (k : Int) + (j : Int)).toNat % 2 = j from by omega]
/-- May the node be written? -/
def okN (zs : List Int) : Bool := zs.all fun z => decide (0 ≤ z ∧ z ≤ 65535)
theorem decN_encB (zs : List Int) (hl : zs.length = 32) : decide (decN (encB zs 32) = zs) = okN zs := by
  rw [Bool.eq_iff_iff, decide_eq_true_eq]
  unfold okN
  rw [List.all_eq_true]
  constructor
  · intro h z hz
    obtain ⟨i, hi, rfl⟩ := List.mem_iff_getElem.1 hz
    have : zs[i] = (num (encB zs 32) (2 * (i : Int)) 2 : Int) := by
      have h' : (decN (encB zs 32))[i]? = zs[i]? := by rw [h]
      rw [List.getElem?_eq_getElem hi, List.getElem?_eq_getElem (by rw [decN_len]; omega)] at h'
      simp only [Option.some.injEq] at h'
      rw [← h']
      simp [decN, decT]
      omega
    have hb := num2_lt (encB zs 32) (2 * (i : Int))
    simp only [decide_eq_true_eq]
    omega
  · intro h
    refine List.ext_getElem (by rw [decN_len, hl]) fun i h1 h2 => ?_
    have hi : i < 32 := by omega
    have hz := h zs[i] (List.getElem_mem h2)
    simp only [decide_eq_true_eq] at hz
    have e : zs.getD i 0 = zs[i] := by rw [List.getD_eq_getElem?_getD, List.getElem?_eq_getElem h2]; rfl
    simp only [decN, decT, List.getElem_map, List.getElem_range, if_pos hi]
    rw [encB_num zs i hi, e]
    unfold u64N
    omega
/-- What Encode answers: bytes, the error's number. -/
def encO (zs : List Int) : List UInt8 := if okN zs = true then encB zs 32 else []
def encN (zs : List Int) : Int := if okN zs = true then 0 else 1
/-- What Decode answers. -/
def decO (xs : List UInt8) : List Int := if xs.length = 64 then decN xs else z32
def decE (xs : List UInt8) : Int := if xs.length = 64 then 0 else 1
end Go.Proofs.YtebecpjecchfoaaGreatDoor
namespace Go.Proofs.YtebecpjecchfoaaGreatDoor
open Go.RowKit

theorem leNum64 (A : Option Addr) (xs : List UInt8) (c : Nat) (a : Int) (w : World) (hx : BR w w.heap.size A xs) (hl : xs.length = 64) (ha : 0 ≤ a) :
    Calls Tryz.prog 187 #[.slice A 64 c, .int .i64 a, .int .i64 2] w fun e w' => e = .returned (.int .u64 (num xs a 2)) ∧ w = w' := by
  have := leNum_any A xs c a 2 w hx (by omega) (by omega)
  rw [hl] at this
  exact this
/-- A new node, zero. -/
theorem NB.new (w : World) : NB (w.alloc (.cells (z32.map I6).toArray 183)) w.heap.size z32 := NB.box w z32
/-- The call hands back a node, and has written nothing that was there. -/
def GivesN1 (w : World) (zs : List Int) (e : Ending) (w' : World) : Prop := e = .returned (ng zs) ∧ Below w.heap.size w w'

/-- What the loop keeps: two new nodes, the second of which is filled. -/
def DecInv (w wr : World) (xs : List UInt8) (k : Nat) : Prop := NB wr w.heap.size z32 ∧ NB wr (w.heap.size + 1) (decT xs k) ∧ Below w.heap.size w wr
theorem DecInv.step {w wr : World} {xs : List UInt8} {k : Nat} (h : DecInv w wr xs k) (_hk : k < 32) : DecInv w (wr.setCell ⟨w.heap.size + 1, k, none⟩ (.int .i64 (num xs (2 * (k : Int)) 2 : Int))) xs (k + 1) := by
  obtain ⟨h1, h2, h3⟩ := h
  refine ⟨(Below.heap_setCell _ _ _ _ (by show w.heap.size ≠ w.heap.size + 1; omega)).trans h1, ?_, h3.setCell (p := ⟨w.heap.size + 1, k, none⟩) (by show w.heap.size ≤ w.heap.size + 1; omega) _⟩
  rw [← decT_step]
  exact h2.set k _

set_option maxRecDepth 100000 in
set_option maxHeartbeats 1000000 in
theorem nodeOf_any (A : Option Addr) (xs : List UInt8) (c : Nat) (w : World) (hx : BR w w.heap.size A xs) (hl : xs.length = 64) :
    Calls Tryz.prog 237 #[.slice A 64 c] w (GivesN1 w (decN xs)) := by
  have A1 := Lib.hid (allocN w)
  have A2 := Lib.hid (allocN (w.alloc (.cells (z32.map I6).toArray 183)))
  have a1 := NB.new w
  have k1 : Below w.heap.size w (w.alloc (.cells (z32.map I6).toArray 183)) := (Below.refl _ _).alloc (Nat.le_refl _) _
  obtain ⟨w2, S0, b2, k2, hs2⟩ := NB.laid (w.alloc (.cells (z32.map I6).toArray 183)) z32 z32_len
  have S1 := Lib.hid S0
  have i0 : DecInv w w2 xs 0 := ⟨a1.below k2 (by simp), by rw [decT_zero]; rw [World.size_alloc] at b2; exact b2, k1.trans (k2.mono k1.size)⟩
  have HI := Lib.hid i0
  clear S0 a1 k1 b2 k2 hs2 i0
  rw [World.size_alloc] at A2 S1
  go_enter Tryz.func237, Tryz.ntmps237
  go_wp2_with (first
    | ((with_reducible refine at_ (op := .alloc 183) (d := some 2) ?_); refine wpList_val rfl _ (ex_alloc 183 rfl _ A1.out) ?_)
    | ((with_reducible refine at_ (op := .build 183 #[]) ?_); refine wpList_val rfl _ (ex_build0 183 rfl _ (buildN _)) ?_)
    | ((with_reducible refine at_ (op := .alloc 183) (d := some 3) ?_); refine wpList_val rfl _ (ex_alloc 183 rfl _ A2.out) ?_)
    | ((with_reducible refine at_ (op := .store 183 (.tmp 3) (.tmp 5)) ?_); refine wpList_unit rfl (ex_store 183 (.tmp 3) (.tmp 5) rfl _ _ rfl rfl S1.out) ?_))
  clear A1 A2 S1
  go_loopw [6] (fun i wr => ∃ k : Nat, k ≤ 32 ∧ i = .int .i64 k ∧ DecInv w wr xs k) (fun i _ => 32 - (intOf i).toNat)
  case atStart => exact ⟨0, by omega, rfl, HI.out⟩
  case round =>
    clear HI
    obtain ⟨k, hk, rfl, hi⟩ := hrel
    by_cases hlt : k < 32
    · have hx1 := (hx.below hi.2.2).more hi.2.2.size
      have cN := hi.2.1.cell (k := k) (by rw [decT_len]; exact hlt)
      have fN := hi.2.1.free k
      have HI := Lib.hid (hi.step hlt)
      have hb := num2_lt xs (2 * (k : Int))
      generalize (decT xs k).getD k 0 = u0 at cN
      clear hi
      go_wp2_with fail
      rw [show (k : Int) * 2 = 2 * (k : Int) from by omega]
      refine (leNum64 A xs c (2 * (k : Int)) _ hx1 hl (by omega)).mono ?_
      rintro e w' ⟨rfl, rfl⟩
      generalize num xs (2 * (k : Int)) 2 = v at *
      go_wp2_with fail
      go_roundw
      case rel => exact ⟨k + 1, by omega, by go_num, HI.out⟩
      case measure => simp [intOf]; omega
    · obtain rfl : k = 32 := by omega
      obtain ⟨h1, h2, h3⟩ := hi
      have L1 := Lib.hid (h2.load (decT_len _ _))
      obtain ⟨S0, b3, k3⟩ := h1.store z32_len (decT_len xs 32)
      have S1 := Lib.hid S0
      have B3 := Lib.hid b3
      have k4 := k3.old h3 (Nat.le_refl _)
      clear S0 b3 k3 h1 h2 h3
      go_wp2_with (first
        | ((with_reducible refine at_ (op := .load 183 (.tmp 3)) ?_); refine wpList_val rfl _ (ex_load 183 (.tmp 3) rfl _ _ rfl L1.out) ?_)
        | ((with_reducible refine at_ (op := .store 183 (.tmp 2) (.tmp 17)) ?_); refine wpList_unit rfl (ex_store 183 (.tmp 2) (.tmp 17) rfl _ _ rfl rfl S1.out) ?_))
      refine bodyPost_ret (v := ng (decN xs)) ?_ rfl ⟨rfl, k4⟩
      exact results_cell_row rfl _ _ w.heap.size 183 _ (0, 0) _ rfl B3.out Tryz.underlying183 rfl (by rw [Tryz.sizeN]; simp [decN_len])

set_option maxRecDepth 100000 in
set_option maxHeartbeats 400000 in
theorem decode_yes (A : Option Addr) (xs : List UInt8) (c : Nat) (w : World) (hx : BR w w.heap.size A xs) (hl : xs.length = 64) :
    Calls Tryz.prog 230 #[.slice A 64 c] w (GivesNd w (decN xs) 0) := by
  have A1 := Lib.hid (allocN w)
  have k1 : Below w.heap.size w (w.alloc (.cells (z32.map I6).toArray 183)) := (Below.refl _ _).alloc (Nat.le_refl _) _
  have b1 := NB.new w
  have hx1 := (hx.below k1).more k1.size
  go_enter Tryz.func230, Tryz.ntmps230
  go_wp2_with ((with_reducible refine at_ (op := .alloc 183) (d := some 2) ?_); refine wpList_val rfl _ (ex_alloc 183 rfl _ A1.out) ?_)
  generalize (w.alloc (.cells (z32.map I6).toArray 183)) = w1 at *
  refine (nodeOf_any A xs c w1 hx1 hl).mono ?_
  rintro e w2 ⟨rfl, k2⟩
  have b2 := b1.below k2 b1.lt
  have k3 := k1.trans (k2.mono k1.size)
  obtain ⟨S0, b3, k4⟩ := b2.store z32_len (decN_len xs)
  have S1 := Lib.hid S0
  have B3 := Lib.hid b3
  have k5 := k4.old k3 (Nat.le_refl _)
  clear A1 S0 b1 b2 b3 k1 k2 k3 k4 hx hx1
  generalize hd : decN xs = zs at *
  have hz : zs.length = 32 := by rw [← hd]; exact decN_len xs
  have HZ := Lib.hid hz
  clear hd hz
  go_wp2_with ((with_reducible refine at_ (op := .store 183 (.tmp 2) (.tmp 9)) ?_); refine wpList_unit rfl (ex_store 183 (.tmp 2) (.tmp 9) rfl _ _ rfl rfl S1.out) ?_)
  refine bodyPost_ret (v := .tuple #[ng zs, .int .i64 0]) ?_ rfl ⟨rfl, k5⟩
  exact results_row_tmp rfl _ _ w.heap.size 183 _ (0, 0) _ _ rfl rfl B3.out Tryz.underlying183 rfl (by rw [Tryz.sizeN]; simp [HZ.out])

set_option maxRecDepth 100000 in
set_option maxHeartbeats 400000 in
theorem decode_no (A : Option Addr) (n c : Nat) (w : World) (hl : n ≠ 64) :
    Calls Tryz.prog 230 #[.slice A n c] w (GivesNd w z32 1) := by
  have A1 := Lib.hid (allocN w)
  have k1 : Below w.heap.size w (w.alloc (.cells (z32.map I6).toArray 183)) := (Below.refl _ _).alloc (Nat.le_refl _) _
  obtain ⟨S0, b3, k4⟩ := (NB.new w).store z32_len z32_len
  have S1 := Lib.hid S0
  have B3 := Lib.hid b3
  have k5 := k4.old k1 (Nat.le_refl _)
  have hl' : ((n : Int) != 64) = true := by simp; omega
  clear hl
  clear S0 b3 k1 k4
  go_enter Tryz.func230, Tryz.ntmps230
  go_wp2_with (first
    | ((with_reducible refine at_ (op := .alloc 183) (d := some 2) ?_); refine wpList_val rfl _ (ex_alloc 183 rfl _ A1.out) ?_)
    | ((with_reducible refine at_ (op := .build 183 #[]) ?_); refine wpList_val rfl _ (ex_build0 183 rfl _ (buildN _)) ?_)
    | ((with_reducible refine at_ (op := .store 183 (.tmp 2) (.tmp 7)) ?_); refine wpList_unit rfl (ex_store 183 (.tmp 2) (.tmp 7) rfl _ _ rfl rfl S1.out) ?_))
  refine bodyPost_ret (v := .tuple #[ng z32, .int .i64 1]) ?_ rfl ⟨rfl, k5⟩
  exact results_row_tmp rfl _ _ w.heap.size 183 _ (0, 0) _ _ rfl rfl B3.out Tryz.underlying183 rfl (by rw [Tryz.sizeN]; simp [z32_len])
theorem decode_any (A : Option Addr) (xs : List UInt8) (c n : Nat) (w : World) (hx : BR w w.heap.size A xs) (hn : xs.length = n) :
    Calls Tryz.prog 230 #[.slice A n c] w (GivesNd w (decO xs) (decE xs)) := by
  subst hn
  unfold decO decE
  by_cases h : xs.length = 64
  · rw [if_pos h, if_pos h, h]; exact decode_yes A xs c w hx h
  · rw [if_neg h, if_neg h]; exact decode_no A _ c w h

set_option maxRecDepth 100000 in
set_option maxHeartbeats 800000 in
theorem tells_any (A : Option Addr) (xs : List UInt8) (c : Nat) (zs : List Int) (w : World) (hx : BR w w.heap.size A xs) (hl : xs.length = 64) (hz : zs.length = 32) :
    Calls Tryz.prog 241 #[.slice A 64 c, ng zs] w fun e w' => e = .returned (.bool (decide (decN xs = zs))) ∧ Below w.heap.size w w' := by
  have k1 : Below w.heap.size w (w.alloc (.cells (zs.map I6).toArray 183)) := (Below.refl _ _).alloc (Nat.le_refl _) _
  have b1 := NB.box w zs
  have hx1 := (hx.below k1).more k1.size
  go_enter Tryz.func241, Tryz.ntmps241
  go_wp2_with ((with_reducible refine at_ (op := .box 183 (.tmp 1)) ?_); refine wpList_val rfl _ (ex_box 183 (.tmp 1) rfl _ _ rfl (boxN _ _)) ?_)
  refine wp_region_any (by kernel_rfl) ?_
  change wpAny _ _ _ _ _ _ _ (World.drew (w.alloc (.cells (zs.map I6).toArray 183)))
  have b2 : NB (w.alloc (.cells (zs.map I6).toArray 183)).drew w.heap.size zs := b1
  have k2 : Below w.heap.size w (w.alloc (.cells (zs.map I6).toArray 183)).drew := k1.trans ⟨rfl, rfl, rfl, Nat.le_refl _, fun _ _ => rfl⟩
  have hx2 : BR (w.alloc (.cells (zs.map I6).toArray 183)).drew (w.alloc (.cells (zs.map I6).toArray 183)).drew.heap.size A xs := hx1
  clear b1 k1 hx1 hx
  generalize (w.alloc (.cells (zs.map I6).toArray 183)).drew = w1 at *
  have L1 := Lib.hid (b2.load hz)
  refine wpAny_take (oi := ⟨_, _, _, _, _, _⟩) (i := 0) (v := .slice A 64 c) rfl (by kernel_rfl) (by kernel_rfl) (by kernel_rfl) (fun _ _ _ h => h) (Or.inl ⟨by rfl, fun _ => rfl⟩) ?_
  simp only [Act.put, List.setIfInBounds_toArray, List.set_cons_zero, List.set_cons_succ]
  refine Both.go (oi := ⟨_, _, _, _, _, _⟩) (i := 2) (v := ng zs) rfl ?_
  refine Both.step rfl 1 ⟨_, _, _, _, _, _⟩ rfl (by kernel_rfl) (yields_load rfl 183 (.tmp 3) rfl _ _ rfl L1.out) (fun u w' => u = ng (decN xs) ∧ Below w1.heap.size w1 w') (op_call (fn := 237) (args := #[.slice A 64 c]) rfl rfl (by go_simp) ((nodeOf_any A xs c w1 hx2 hl).mono fun e w' ⟨he, hb⟩ => ⟨_, he, rfl, hb⟩)) ?_
  rintro u w2 ⟨rfl, k3⟩
  have b3 := b2.below k3 b2.lt
  have L2 := Lib.hid (b3.load hz)
  have k4 := k2.trans (k3.mono k2.size)
  clear L1 b2 b3 k2 k3 hx2
  simp only [Act.put, List.setIfInBounds_toArray, List.set_cons_zero, List.set_cons_succ]
  refine Both.done rfl (by kernel_rfl) (yields_load rfl 183 (.tmp 3) rfl _ _ rfl L2.out) ?_
  refine wpAny_of_chain [3, 4] [_, _] _ _ _ rfl (by kernel_rfl) ?_
  simp only [Act.put, List.setIfInBounds_toArray, List.set_cons_zero, List.set_cons_succ]
  have hdl := decN_len xs
  generalize hds : decN xs = ds at *
  have HDS := Lib.hid hds
  clear hds
  refine wpList_val rfl _ (ex_bin_agg .eql 183 183 (.tmp 6) (.tmp 7) rfl _ _ _ rfl rfl guardN (eqlN _ hdl hz)) ?_
  go_wp2
  go_ret
  exact ⟨ret_bool (by rw [HDS.out]), k4⟩
end Go.Proofs.YtebecpjecchfoaaGreatDoor
namespace Go.Proofs.YtebecpjecchfoaaGreatDoor
open Go.RowKit Go.Shelf
attribute [local go_sem] Oper.semAt_some

theorem make64 (w : World) :
    (Instr.makeSlice 34 (.int .i64 64) (.int .i64 64)).run Tryz.prog w = .ok (.slice (some ⟨w.heap.size, 0, none⟩) 64 64) (w.alloc (.cells (madeCells #[.int .u8 0] 64) 5)) := make8 64 (by decide) w
/-! ### the code's Encode -/
theorem br_kept {W W' : World} {row : Option Nat} {R : Option Addr} {xs : List UInt8} (h : BR W W.heap.size R xs) (hg : W.grownBy W' row) (hr : ∀ r, row = some r → ∃ o : Obj, W.heap[r]? = some o ∧ o.isCells = false) : BR W' W'.heap.size R xs := by
  intro hn
  obtain ⟨ad, e, hb, hc⟩ := h hn
  exact ⟨ad, e, Nat.lt_of_lt_of_le hb hg.size, fun k u hu => cell_kept (hc k u hu) hg hr⟩
theorem others_below {W W' : World} (h : Below W.heap.size W W') : KeepsOthers W W' := ⟨h.size, fun k _ hk _ => (h.block k (Array.getElem?_eq_some_iff.1 hk).1).trans hk⟩
theorem BR.set_box {W : World} {B b : Nat} {t : TypeId} {R R1 : Option Addr} {n c : Nat} {xs : List UInt8} (h : BR W B R xs) (hx : Boxed W b t (.slice R1 n c)) (v : Value) : BR (W.setCell ⟨b, 0, none⟩ v) B R xs := by
  intro hn
  obtain ⟨ad, e, hb, hc⟩ := h hn
  refine ⟨ad, e, hb, fun k u hu => ?_⟩
  have h1 := hc k u hu
  rw [World.cell?_setCell_other]
  · exact h1
  · intro e2
    rw [← e2, hx.cell] at h1
    cases h1
end Go.Proofs.YtebecpjecchfoaaGreatDoor
namespace Go.Proofs.YtebecpjecchfoaaGreatDoor
open Go.RowKit Go.Shelf
attribute [local go_sem] Oper.semAt_some

def GivesBEN (w : World) (xs : List UInt8) (E : Int) (e : Ending) (w' : World) : Prop := ∃ R n c, e = .returned (.tuple #[.slice R n c, .int .i64 E]) ∧ xs.length = n ∧ BR w' w'.heap.size R xs ∧ Below w.heap.size w w' ∧ ∀ ad, R = some ad → w.heap.size ≤ ad.block
theorem lePut64N (A : Option Addr) (xs : List UInt8) (c : Nat) (a : Int) (n : Nat) (w : World) (hx : BR w w.heap.size A xs) (hl : xs.length = 64) (ha : 0 ≤ a) :
    Calls Tryz.prog 160 #[.slice A 64 c, .int .i64 a, .int .i64 2, .int .u64 n] w fun e w' => ∃ R c', e = .returned (.slice R 64 c') ∧ BR w' w'.heap.size R (putL xs a n 2) ∧ Below w.heap.size w w' ∧ ∀ ad, R = some ad → w.heap.size ≤ ad.block := by
  have h := lePutNum_new A xs c a 2 n w hx (by omega) (by omega)
  rw [hl] at h
  refine h.mono ?_
  rintro e w' ⟨g, c', rfl, hg, _, hr, hb, _⟩
  refine ⟨some ⟨g, 0, none⟩, c', ?_, hr, hb, fun ad e => by cases e; exact hg⟩
  rw [putL_len, hl]
theorem givesBEN_no {w w' : World} {zs : List Int} (h : okN zs = false) (hb : Below w.heap.size w w') : GivesBEN w (encO zs) (encN zs) (.returned (.tuple #[.slice none 0 0, .int .i64 1])) w' := by
  have e1 : encO zs = [] := if_neg (by simp [h])
  have e2 : encN zs = 1 := if_neg (by simp [h])
  rw [e1, e2]
  exact ⟨none, 0, 0, rfl, rfl, BR.nil, hb, fun ad e => by cases e⟩
theorem givesBEN_yes {w w' : World} {zs : List Int} {R : Option Addr} {c : Nat} (h : okN zs = true) (hr : BR w' w'.heap.size R (encB zs 32)) (hb : Below w.heap.size w w') (hR : ∀ ad, R = some ad → w.heap.size ≤ ad.block) : GivesBEN w (encO zs) (encN zs) (.returned (.tuple #[.slice R 64 c, .int .i64 0])) w' := by
  have e1 : encO zs = encB zs 32 := if_pos h
  have e2 : encN zs = 0 := if_pos h
  rw [e1, e2]
  exact ⟨R, 64, c, rfl, encB_len _ _, hr, hb, hR⟩
/-- What the loop over the entries keeps. -/
def EntInvN (w : World) (zs : List Int) (pre : List EN) (W : World) : Prop :=
  ∃ R c, Boxed W (w.heap.size + 1 + 1) 34 (.slice R 64 c) ∧ BR W W.heap.size R (encF pre) ∧ NB W w.heap.size zs ∧ ∀ ad, R = some ad → w.heap.size ≤ ad.block
theorem entInvN_own (w : World) (zs : List Int) : Own (fun pre W => EntInvN w zs pre W) := by
  rintro s A B row ⟨R, c, h1, h2, h3, h4⟩ hg hr
  exact ⟨R, c, cells_kept h1 hg hr, br_kept h2 hg hr, cells_kept h3 hg hr, h4⟩
def itvN (B : Nat) : Value := .func (.func 229) #[] #[.pointer (some ⟨B, 0, none⟩)]

set_option maxRecDepth 100000 in
set_option maxHeartbeats 2000000 in
theorem encodeN_any (zs : List Int) (w : World) (hl : zs.length = 32) :
    Calls Tryz.prog 236 #[ng zs] w (GivesBEN w (encO zs) (encN zs)) := by
  refine (callsIn_wide (n := 8)).1 ?_
  refine callsIn_of_wp_marks Tryz.func236 rfl trivial ?_ rfl
  simp only [Tryz.ntmps236, List.size_toArray, List.length_cons, List.length_nil, Nat.reduceAdd, Nat.reduceSub, Array.replicate_succ, Array.replicate_zero, List.push_toArray, List.append_toArray, List.nil_append, List.cons_append]
  have hmk := make64
  have b1 := NB.box w zs
  have k1 : Below w.heap.size w (w.alloc (.cells (zs.map I6).toArray 183)) := (Below.refl _ _).alloc (Nat.le_refl _) _
  have r1 := (Row8.made (w.alloc (.cells (zs.map I6).toArray 183)) 64 5)
  rw [World.size_alloc w] at r1
  have r2 : Row8 (((w.alloc (.cells (zs.map I6).toArray 183)).alloc (.cells (madeCells #[.int .u8 0] 64) 5)).alloc (.cells #[.slice (some ⟨w.heap.size + 1, 0, none⟩) 64 64] 34)) (w.heap.size + 1) 5 (List.replicate 64 0) := r1.alloc _
  have i1 : EntInvN w zs [] (((w.alloc (.cells (zs.map I6).toArray 183)).alloc (.cells (madeCells #[.int .u8 0] 64) 5)).alloc (.cells #[.slice (some ⟨w.heap.size + 1, 0, none⟩) 64 64] 34)) := by
    refine ⟨some ⟨w.heap.size + 1, 0, none⟩, 64, ?_, r2.br, (b1.below ((Below.refl _ _).alloc (Nat.le_refl _) _) b1.lt).below ((Below.refl _ _).alloc (Nat.le_refl _) _) (by simp; omega), fun ad e => by cases e; exact Nat.le_succ _⟩
    have := Boxed.new ((w.alloc (.cells (zs.map I6).toArray 183)).alloc (.cells (madeCells #[.int .u8 0] 64) 5)) 34 (.slice (some ⟨w.heap.size + 1, 0, none⟩) 64 64)
    simp only [World.size_alloc] at this
    exact this
  have k2 : Below w.heap.size w (((w.alloc (.cells (zs.map I6).toArray 183)).alloc (.cells (madeCells #[.int .u8 0] 64) 5)).alloc (.cells #[.slice (some ⟨w.heap.size + 1, 0, none⟩) 64 64] 34)) := (k1.alloc k1.size _).alloc (by simp; omega) _
  have hs2 : (((w.alloc (.cells (zs.map I6).toArray 183)).alloc (.cells (madeCells #[.int .u8 0] 64) 5)).alloc (.cells #[.slice (some ⟨w.heap.size + 1, 0, none⟩) 64 64] 34)).heap.size = w.heap.size + 1 + 1 + 1 := by simp
  have HS2 := Lib.hid hs2
  have n1 : NB (((w.alloc (.cells (zs.map I6).toArray 183)).alloc (.cells (madeCells #[.int .u8 0] 64) 5)).alloc (.cells #[.slice (some ⟨w.heap.size + 1, 0, none⟩) 64 64] 34)) w.heap.size zs := by
    obtain ⟨_, _, _, _, h, _⟩ := i1
    exact h
  have L1 := Lib.hid (n1.load hl)
  clear hs2 b1 k1 r1 r2
  gi_wp2_with (first
    | ((with_reducible refine atIn_ (op := .box 183 (.tmp 0)) ?_); refine wpListIn_val rfl (by intro c h; cases h) rfl _ (ex_box 183 (.tmp 0) rfl _ _ rfl (boxN _ _)) ?_)
    | ((with_reducible refine atIn_ (op := .load 183 (.tmp 1)) ?_); refine wpListIn_val rfl (by intro c h; cases h) rfl _ (ex_load 183 (.tmp 1) rfl _ _ rfl L1.out) ?_))
  clear hmk L1 n1
  generalize (((w.alloc (.cells (zs.map I6).toArray 183)).alloc (.cells (madeCells #[.int .u8 0] 64) 5)).alloc (.cells #[.slice (some ⟨w.heap.size + 1, 0, none⟩) 64 64] 34)) = wa at *
  refine ⟨trivial, ?_⟩
  refine (callsIn_wide.2 (entries_any zs _)).mono ?_
  rintro e w' ⟨rfl, rfl⟩
  have n2 := NB.box wa zs
  have i2 : EntInvN w zs [] (wa.alloc (.cells (zs.map I6).toArray 183)) := entInvN_own w zs [] _ _ none i1 (World.grownBy_alloc _ _ none) (fun r e => by cases e)
  have k3 := k2.alloc k2.size (.cells (zs.map I6).toArray 183)
  have hs3 : (wa.alloc (.cells (zs.map I6).toArray 183)).heap.size = w.heap.size + 1 + 1 + 1 + 1 := by rw [World.size_alloc, HS2.out]
  rw [HS2.out] at n2 ⊢
  have HS3 := Lib.hid hs3
  clear hs3 HS2 k2 i1
  generalize wa.alloc (.cells (zs.map I6).toArray 183) = w1 at *
  gi_wp2
  refine wpIn_rangeFunc_ownF rfl (by omega) (gf := 229) (lb := #[.pointer (some ⟨w.heap.size + 1 + 1 + 1, 0, none⟩)]) rfl trivial (enters_of Tryz.func229 (by kernel_rfl) rfl)
    (entries_stops Fence.wide _ trivial rfl (by omega) _ zs hl _ n2) (fun _ _ => trivial) (fun _ _ _ _ _ _ _ _ => trivial) (Below.refl _ _) (fun _ => rfl)
    (fun pre W => EntInvN w zs pre W ∧ Below w.heap.size w W)
    (fun _ _ _ => False)
    (OwnFrom.and (Own.from (entInvN_own w zs) _) (ownFrom_below (Nat.le_refl _) (by rw [HS3.out]; omega)))
    (fun _ => ownFrom_pure _ _)
    ⟨i2, k3⟩
    (fun x => { tmps := #[ng zs, .pointer (some ⟨w.heap.size, 0, none⟩), .slice none 0 0, .int .i64 0, .pointer (some ⟨w.heap.size + 1 + 1, 0, none⟩), .int .i64 (x.1.1 : Int), .int .i64 x.1.2, .slice (some ⟨w.heap.size + 1, 0, none⟩) 64 64, ng zs, itvN (w.heap.size + 1 + 1 + 1), .int .i64 (x.1.1 : Int), .int .i64 x.1.2, undef, undef, undef, undef, undef, undef, undef, undef, undef, undef, undef], defers := [] }) ?assign ?body ?done ?stop
  case assign =>
    intro l x W K hK
    gi_wp2
    exact hK
  case stop =>
    rintro D c pre W _ _ h _
    exact h.elim
  case body =>
    rintro l pre x W ⟨⟨R, c, h1, h2, h3, hR0⟩, kW⟩ _
    have hx1 := x.2.1
    have c4 := h1.cell
    have f4 := h1.frozen
    have HU := Lib.hid (u64N_wrap x.1.2)
    gi_wp2
    rw [HU.out, show ((x.1.1 : Int) * 2) = 2 * (x.1.1 : Int) from by omega]
    refine ⟨trivial, ?_⟩
    refine (CallsIn.inRound l (callsIn_wide.2 (lePut64N R (encF pre) c _ (u64N x.1.2) W h2 (encF_len _) (by omega)))).mono ?_
    rintro e W2 ⟨R2, c2, rfl, r2, k2, hR2⟩
    rw [← encF_snoc] at r2
    have x2 : Boxed W2 (w.heap.size + 1 + 1) 34 (.slice R 64 c) := (k2.block _ h1.lt).trans h1
    have c5 := x2.cell
    have f5 := x2.frozen
    have o2 := others_below k2
    have n5 := h3.below k2 h3.lt
    have n6 : NB (W2.setCell ⟨w.heap.size + 1 + 1, 0, none⟩ (.slice R2 64 c2)) w.heap.size zs := (Below.heap_setCell _ _ _ _ (by show w.heap.size ≠ w.heap.size + 1 + 1; omega)).trans n5
    have r5 := r2.set_box x2 (.slice R2 64 c2)
    have HR := Lib.hid (show EntInvN w zs (pre ++ [x]) (W2.setCell ⟨w.heap.size + 1 + 1, 0, none⟩ (.slice R2 64 c2)) from ⟨R2, c2, x2.set _, by simpa [World.setCell] using r5, n6, fun ad e => Nat.le_trans kW.size (hR2 ad e)⟩)
    have HB := Lib.hid ((kW.trans (k2.mono kW.size)).setCell (p := ⟨w.heap.size + 1 + 1, 0, none⟩) (by show w.heap.size ≤ w.heap.size + 1 + 1; omega) (.slice R2 64 c2))
    clear h1 h2 h3 kW c4 f4 r2 k2 x2 n5 n6 r5
    gi_wp2
    exact ⟨o2.trans (KeepsOthers.setCell _ _ _), trivial, HR.out, HB.out⟩
  case done =>
    rintro D ys W hD rfl ⟨⟨R, c, h1, h2, h3, hR0⟩, kW⟩ hK
    have c4 := h1.cell
    have L2 := Lib.hid (h3.load hl)
    rw [encF_ents zs 32 (by omega)] at h2
    gi_wp2_with ((with_reducible refine atIn_ (op := .load 183 (.tmp 1)) ?_); refine wpListIn_val rfl (by intro c h; cases h) rfl _ (ex_load 183 (.tmp 1) rfl _ _ rfl L2.out) ?_)
    refine ⟨trivial, ?_⟩
    refine (callsIn_wide.2 (tells_any R (encB zs 32) c zs W h2 (encB_len _ _) hl)).mono ?_
    rintro e W2 ⟨rfl, k2⟩
    rw [decN_encB zs hl]
    have hDW : D < W.heap.size := (Array.getElem?_eq_some_iff.1 hK).1
    have d2 : W2.heap[D]? = some (.deferred (some [])) := (k2.block _ hDW).trans hK
    have x2 : Boxed W2 (w.heap.size + 1 + 1) 34 (.slice R 64 c) := (k2.block _ h1.lt).trans h1
    have c5 := x2.cell
    have r2 := (h2.below k2).more k2.size
    have k3 := kW.trans (k2.mono kW.size)
    have k4 := k3.trans (belowK_b (w := w) (Nat.le_refl _) W2 D _ (.deferred none) (by have := HS3.out; omega) d2 rfl rfl)
    have r3 : BR (W2.putObj D (.deferred none)) (W2.putObj D (.deferred none)).heap.size R (encB zs 32) := br_kept r2 (grownBy_putObj' W2 D (.deferred none)) (fun r e => by cases e; exact ⟨_, d2, rfl⟩)
    clear L2 c4 h1 h2 h3 kW hK k2 k3 r2 x2
    cases ho : okN zs
    · have HO := Lib.hid ho
      clear ho
      gi_wp2
      refine ⟨by simp, .inl ⟨_, _, rfl, run_takeDeferred d2, ?_⟩⟩
      exact ⟨.tuple #[.slice none 0 0, .int .i64 1], results_tmp2 (t := 2) (u := 3) rfl _ _ _, givesBEN_no HO.out k4⟩
    · have HO := Lib.hid ho
      clear ho
      gi_wp2
      refine ⟨by simp, .inl ⟨_, _, rfl, run_takeDeferred d2, ?_⟩⟩
      exact ⟨.tuple #[.slice R 64 c, .int .i64 0], results_tmp2 (t := 2) (u := 3) rfl _ _ _, givesBEN_yes HO.out r3 k4 hR0⟩
end Go.Proofs.YtebecpjecchfoaaGreatDoor
