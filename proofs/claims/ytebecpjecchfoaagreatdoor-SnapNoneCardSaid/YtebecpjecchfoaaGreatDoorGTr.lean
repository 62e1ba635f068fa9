/-
  Merged by wip/tools/merge.py: Tr TrNode TrRead TrTree
-/
import Derived.Test.YtebecpjecchfoaaGreatDoorGRd
import Derived.Test.YtebecpjecchfoaaGreatDoorGNd
import Derived.Test.YtebecpjecchfoaaGreatDoorShRebV
import Derived.Test.YtebecpjecchfoaaGreatDoorGShP
namespace Go.Proofs.YtebecpjecchfoaaGreatDoor
open Go.RowKit

/-- One sector more is reached. -/
def addS (N : Nat) (l : List Nat) (s : Int) : Option (List Nat) := if 2 ≤ s ∧ s < (N : Int) ∧ s.toNat ∉ l then some (l ++ [s.toNat]) else none

def tcells (top : Int) (lv pg : List Int) (v : Value) : List Value := .int .i64 top :: (lv.map I6 ++ (pg.map I6 ++ [v]))
structure TrAt (w : World) (tb : Nat) (top : Int) (lv pg : List Int) (v : Value) : Prop where
  head : w.heap[tb]? = some (.cells (tcells top lv pg v).toArray 125 (0, 0))
  lvl : lv.length = 4
  pgl : pg.length = 128
section
variable {w w' : World} {tb : Nat} {top : Int} {lv pg : List Int} {v : Value}
theorem TrAt.len (h : TrAt w tb top lv pg v) : (tcells top lv pg v).length = 134 := by simp [tcells, h.lvl, h.pgl]
theorem TrAt.lt (h : TrAt w tb top lv pg v) : tb < w.heap.size := (Array.getElem?_eq_some_iff.1 h.head).1
theorem TrAt.keep (h : TrAt w tb top lv pg v) {F : Nat → Prop} (k : Keeps F w w') (hF : ¬ F tb) : TrAt w' tb top lv pg v := ⟨(k.block _ h.lt hF).trans h.head, h.lvl, h.pgl⟩
theorem tcells_133 (hl : lv.length = 4) (hp : pg.length = 128) : (tcells top lv pg v)[133]? = some v := by
  unfold tcells
  rw [List.getElem?_cons_succ, List.getElem?_append_right (by simp [hl]), List.getElem?_append_right (by simp [hl, hp])]
  simp [hl, hp]
theorem TrAt.cell (h : TrAt w tb top lv pg v) : w.cell? ⟨tb, 133, none⟩ = some v ∧ w.frozen? ⟨tb, 133, none⟩ = false := by
  refine ⟨?_, frozen_of_row _ _ _ _ _ h.head⟩
  rw [cell_of_row _ _ _ _ _ _ h.head, List.getElem?_toArray]
  exact tcells_133 h.lvl h.pgl
end

/-- What add gives. -/
def AddOut (N : Nat) (w : World) (B tb : Nat) (top : Int) (lv pg : List Int) (l : List Nat) (s : Int) (e : Ending) (w' : World) : Prop :=
  (∃ l' R c, addS N l s = some l' ∧ e = .returned (.bool true) ∧ TrAt w' tb top lv pg (.slice R l'.length c) ∧ OwnI w' B R c l' ∧ Keeps (fun k => k = tb ∨ B ≤ k) w w') ∨
  (addS N l s = none ∧ e = .returned (.bool false) ∧ w = w')

end Go.Proofs.YtebecpjecchfoaaGreatDoor
namespace Go.Proofs.YtebecpjecchfoaaGreatDoor
open Go.RowKit

end Go.Proofs.YtebecpjecchfoaaGreatDoor
namespace Go.Proofs.YtebecpjecchfoaaGreatDoor
open Go.RowKit

/-! ### the plain answer -/

/-- The pages of leaf i from its k-th entry on. -/
def goPg (N i : Nat) : List Int → Nat → List Int × List Nat → Option (List Int × List Nat)
  | [], _, s => some s
  | x :: xs, k, s => if x = 0 then goPg N i xs (k + 1) s else (addS N s.2 x).bind fun l => goPg N i xs (k + 1) (s.1.set (i * 32 + k) x, l)
/-- The leaves from the i-th on. -/
def goLf (N : Nat) (nd : Nat → List Int) : List Int → Nat → List Int × List Int × List Nat → Option (List Int × List Int × List Nat)
  | [], _, s => some s
  | x :: xs, i, s => if x = 0 then goLf N nd xs (i + 1) s else if 4 ≤ i then none else (addS N s.2.2 x).bind fun l => (goPg N i (nd x.toNat) 0 (s.2.1, l)).bind fun q => goLf N nd xs (i + 1) (s.1.set i x, q.1, q.2)
def z4 : List Int := List.replicate 4 0
def z128 : List Int := List.replicate 128 0
/-- The node of a sector. -/
def nodeR (D : DSt) (k : Nat) : List Int := decN (D.now k)
theorem nodeR_len (D : DSt) (k : Nat) : (nodeR D k).length = 32 := decN_len _
/-- The tree of a top: leaves, pages, all that it reaches. -/
def readT (D : DSt) (N : Nat) (top : Int) : Option (List Int × List Int × List Nat) :=
  if top = 0 then some (z4, z128, []) else (addS N [] top).bind fun l => goLf N (nodeR D) (nodeR D top.toNat) 0 (z4, z128, l)

theorem goPg_none {N i : Nat} {ys : List Int} {k : Nat} (hk : k < ys.length) {s : List Int × List Nat} (h : ys.getD k 0 ≠ 0) (ha : addS N s.2 (ys.getD k 0) = none) : goPg N i (ys.drop k) k s = none := by
  rw [List.drop_eq_getElem_cons hk]
  have e : ys.getD k 0 = ys[k] := by simp [List.getD, hk]
  rw [e] at h ha
  simp [goPg, h, ha]
theorem goPg_some {N i : Nat} {ys : List Int} {k : Nat} (hk : k < ys.length) {s : List Int × List Nat} (h : ys.getD k 0 ≠ 0) {l : List Nat} (ha : addS N s.2 (ys.getD k 0) = some l) : goPg N i (ys.drop k) k s = goPg N i (ys.drop (k + 1)) (k + 1) (s.1.set (i * 32 + k) (ys.getD k 0), l) := by
  rw [List.drop_eq_getElem_cons hk]
  have e : ys.getD k 0 = ys[k] := by simp [List.getD, hk]
  rw [e] at h ha ⊢
  simp [goPg, h, ha]
theorem goPg_skip {N i : Nat} {ys : List Int} {k : Nat} (hk : k < ys.length) {s : List Int × List Nat} (h : ys.getD k 0 = 0) : goPg N i (ys.drop k) k s = goPg N i (ys.drop (k + 1)) (k + 1) s := by
  rw [List.drop_eq_getElem_cons hk]
  have e : ys.getD k 0 = ys[k] := by simp [List.getD, hk]
  rw [e] at h
  simp [goPg, h]
theorem goLf_skip {N : Nat} {nd : Nat → List Int} {ys : List Int} {k : Nat} (hk : k < ys.length) {s : List Int × List Int × List Nat} (h : ys.getD k 0 = 0) : goLf N nd (ys.drop k) k s = goLf N nd (ys.drop (k + 1)) (k + 1) s := by
  rw [List.drop_eq_getElem_cons hk]
  have e : ys.getD k 0 = ys[k] := by simp [List.getD, hk]
  rw [e] at h
  simp [goLf, h]
theorem goLf_far {N : Nat} {nd : Nat → List Int} {ys : List Int} {k : Nat} (hk : k < ys.length) {s : List Int × List Int × List Nat} (h : ys.getD k 0 ≠ 0) (h4 : 4 ≤ k) : goLf N nd (ys.drop k) k s = none := by
  rw [List.drop_eq_getElem_cons hk]
  have e : ys.getD k 0 = ys[k] := by simp [List.getD, hk]
  rw [e] at h
  simp [goLf, h, h4]
theorem goLf_none {N : Nat} {nd : Nat → List Int} {ys : List Int} {k : Nat} (hk : k < ys.length) {s : List Int × List Int × List Nat} (h : ys.getD k 0 ≠ 0) (h4 : ¬ 4 ≤ k) (ha : addS N s.2.2 (ys.getD k 0) = none) : goLf N nd (ys.drop k) k s = none := by
  rw [List.drop_eq_getElem_cons hk]
  have e : ys.getD k 0 = ys[k] := by simp [List.getD, hk]
  rw [e] at h ha
  simp [goLf, h, h4, ha]
theorem goLf_some {N : Nat} {nd : Nat → List Int} {ys : List Int} {k : Nat} (hk : k < ys.length) {s : List Int × List Int × List Nat} (h : ys.getD k 0 ≠ 0) (h4 : ¬ 4 ≤ k) {l : List Nat} (ha : addS N s.2.2 (ys.getD k 0) = some l) :
    goLf N nd (ys.drop k) k s = (goPg N k (nd (ys.getD k 0).toNat) 0 (s.2.1, l)).bind fun q => goLf N nd (ys.drop (k + 1)) (k + 1) (s.1.set k (ys.getD k 0), q.1, q.2) := by
  rw [List.drop_eq_getElem_cons hk]
  have e : ys.getD k 0 = ys[k] := by simp [List.getD, hk]
  rw [e] at h ha ⊢
  simp [goLf, h, h4, ha]
theorem addS_some {N : Nat} {l l' : List Nat} {s : Int} (h : addS N l s = some l') : 2 ≤ s ∧ s < (N : Int) ∧ l' = l ++ [s.toNat] := by
  unfold addS at h
  split at h
  · rename_i hc
    injection h with h
    exact ⟨hc.1, hc.2.1, h.symm⟩
  · cases h

/-! ### the struct -/

def tv (top : Int) (lv pg : List Int) (v : Value) : Value := .agg (tcells top lv pg v).toArray
abbrev nilS : Value := .slice none 0 0
theorem Tryz.sizeTr : (Tryz.prog.info? 125).map (·.size) = some 134 := by kernel_rfl
theorem tcells_len {top : Int} {lv pg : List Int} {v : Value} (h4 : lv.length = 4) (h128 : pg.length = 128) : (tcells top lv pg v).length = 134 := by simp [tcells, h4, h128]
theorem TrAt.load {w : World} {b : Nat} {top : Int} {lv pg : List Int} {v : Value} (h : TrAt w b top lv pg v) : (Instr.loadAt 125 (.pointer (some ⟨b, 0, none⟩))).run Tryz.prog w = .ok (tv top lv pg v) w :=
  run_loadAt_mid w b 0 125 (tcells top lv pg v) _ (range_cells h.head) Tryz.underlying125 rfl (by rw [Tryz.sizeTr, h.len])
theorem TrAt.store {w : World} {b : Nat} {top top' : Int} {lv pg lv' pg' : List Int} {R : Value} {R' : Option Addr} {m c : Nat} (h : TrAt w b top lv pg R) (h4 : lv'.length = 4) (h128 : pg'.length = 128) :
    ∃ w2, (Instr.storeAt 125 (.pointer (some ⟨b, 0, none⟩)) (tv top' lv' pg' (.slice R' m c))).run Tryz.prog w = .ok () w2 ∧ TrAt w2 b top' lv' pg' (.slice R' m c) ∧ Keeps (· = b) w w2 := by
  obtain ⟨h1, h2⟩ := setCells_cells (ys := tcells top' lv' pg' (.slice R' m c)) h.head (by rw [tcells_len h4 h128]; simp [h.len])
  have := run_storeAt_mid (P := Tryz.prog) w b 0 125 (tcells top' lv' pg' (.slice R' m c)).toArray (there_cells h.head 0 _ (by simp [tcells_len h4 h128, h.len])) (by rw [Tryz.sizeTr]; simp [tcells_len h4 h128]) (all_oneCell_toArray (fun v hv => by
    simp only [tcells, List.mem_cons, List.mem_append, List.mem_map] at hv
    rcases hv with rfl | ⟨u, _, rfl⟩ | ⟨u, _, rfl⟩ | rfl | hv
    · rfl
    · rfl
    · rfl
    · rfl
    · cases hv))
  exact ⟨_, this, ⟨h1, h4, h128⟩, h2⟩
theorem TrAt.box (w : World) {top : Int} {lv pg : List Int} {v : Value} (h4 : lv.length = 4) (h128 : pg.length = 128) : TrAt (w.alloc (.cells (tcells top lv pg v).toArray 125)) w.heap.size top lv pg v := ⟨heap_alloc_new w _, h4, h128⟩
theorem TrAt.leaf {w : World} {b : Nat} {top : Int} {lv pg : List Int} {v : Value} (h : TrAt w b top lv pg v) {k : Nat} (hk : k < 4) : w.cell? ⟨b, 1 + k, none⟩ = some (.int .i64 (lv.getD k 0)) := by
  rw [cell_of_row w b _ _ _ _ h.head, List.getElem?_toArray, Nat.add_comm]
  unfold tcells
  have := h.lvl
  rw [List.getElem?_cons_succ, List.getElem?_append_left (by simp; omega), List.getElem?_map, List.getElem?_eq_getElem (by omega)]
  simp [List.getD, show k < lv.length by omega]
theorem TrAt.page {w : World} {b : Nat} {top : Int} {lv pg : List Int} {v : Value} (h : TrAt w b top lv pg v) {k : Nat} (hk : k < 128) : w.cell? ⟨b, 5 + k, none⟩ = some (.int .i64 (pg.getD k 0)) := by
  rw [cell_of_row w b _ _ _ _ h.head, List.getElem?_toArray, show 5 + k = (4 + k) + 1 from by omega]
  unfold tcells
  have := h.lvl
  have := h.pgl
  rw [List.getElem?_cons_succ, List.getElem?_append_right (by simp; omega), List.getElem?_append_left (by simp; omega), List.getElem?_map]
  rw [show 4 + k - (lv.map I6).length = k from by simp; omega, List.getElem?_eq_getElem (by omega)]
  simp [List.getD, show k < pg.length by omega]
theorem TrAt.free {w : World} {b : Nat} {top : Int} {lv pg : List Int} {v : Value} (h : TrAt w b top lv pg v) (k : Nat) : w.frozen? ⟨b, k, none⟩ = false := frozen_of_row w b k _ _ h.head
end Go.Proofs.YtebecpjecchfoaaGreatDoor
namespace Go.Proofs.YtebecpjecchfoaaGreatDoor
open Go.RowKit

/-- While Read works: its result, its tree, the list. -/
structure TI (w0 : World) (top : Int) (w : World) (lv pg : List Int) (R : Option Addr) (c : Nat) (l : List Nat) : Prop where
  t : TrAt w (w0.heap.size + 1) top lv pg (.slice R l.length c)
  o : OwnI w (w0.heap.size + 2) R c l
  z : TrAt w w0.heap.size 0 z4 z128 nilS
  b : Below w0.heap.size w0 w
  s : w0.heap.size + 2 ≤ w.heap.size
section
variable {w0 w w' : World} {top : Int} {lv pg : List Int} {R R' : Option Addr} {c c' : Nat} {l l' : List Nat}
theorem TI.node (h : TI w0 top w lv pg R c l) (k : Below w.heap.size w w') : TI w0 top w' lv pg R c l :=
  ⟨h.t.keep (keeps_below k) (fun h => h), h.o.keeps (keeps_below k) (fun _ _ h => h), h.z.keep (keeps_below k) (fun h => h), h.b.trans (k.mono h.b.size), Nat.le_trans h.s k.size⟩
theorem TI.add (h : TI w0 top w lv pg R c l) (t : TrAt w' (w0.heap.size + 1) top lv pg (.slice R' l'.length c')) (o : OwnI w' (w0.heap.size + 2) R' c' l') (k : Keeps (fun k => k = w0.heap.size + 1 ∨ w0.heap.size + 2 ≤ k) w w') : TI w0 top w' lv pg R' c' l' :=
  ⟨t, o, h.z.keep k (by omega), h.b.trans (k.toBelow _ h.b.size (fun _ h => by omega)), Nat.le_trans h.s k.size⟩
theorem TI.set {lv' pg' : List Int} (h : TI w0 top w lv pg R c l) (ad : Nat) (v : Value) (t : TrAt (w.setCell ⟨w0.heap.size + 1, ad, none⟩ v) (w0.heap.size + 1) top lv' pg' (.slice R l.length c)) : TI w0 top (w.setCell ⟨w0.heap.size + 1, ad, none⟩ v) lv' pg' R c l := by
  have k : Keeps (fun k => k = w0.heap.size + 1) w (w.setCell ⟨w0.heap.size + 1, ad, none⟩ v) := Keeps.setCell _ _ _ _ rfl
  exact ⟨t, h.o.keeps k (fun ad' e h' => by have := (h.o.block ad' e).1; omega), h.z.keep k (by omega), h.b.trans (k.toBelow _ h.b.size (fun _ h => by omega)), Nat.le_trans h.s k.size⟩
theorem TI.bad (h : TI w0 top w lv pg R c l) : ∃ w2, (Instr.storeAt 125 (.pointer (some ⟨w0.heap.size, 0, none⟩)) (tv 0 z4 z128 nilS)).run Tryz.prog w = .ok () w2 ∧ TrAt w2 w0.heap.size 0 z4 z128 nilS ∧ Below w0.heap.size w0 w2 := by
  obtain ⟨w2, S, t, k⟩ := h.z.store (top' := 0) (lv' := z4) (pg' := z128) (R' := none) (m := 0) (c := 0) (by simp [z4]) (by simp [z128])
  exact ⟨w2, S, t, k.old h.b (Nat.le_refl _)⟩
theorem TI.good (h : TI w0 top w lv pg R c l) : ∃ w2, (Instr.storeAt 125 (.pointer (some ⟨w0.heap.size, 0, none⟩)) (tv top lv pg (.slice R l.length c))).run Tryz.prog w = .ok () w2 ∧ TrAt w2 w0.heap.size top lv pg (.slice R l.length c) ∧ Below w0.heap.size w0 w2 ∧ OwnI w2 w0.heap.size R c l := by
  obtain ⟨w2, S, t, k⟩ := h.z.store (top' := top) (lv' := lv) (pg' := pg) (R' := R) (m := l.length) (c := c) h.t.lvl h.t.pgl
  exact ⟨w2, S, t, k.old h.b (Nat.le_refl _), ownsRow_base_a (h.o.keeps k (fun ad' e h' => by have := (h.o.block ad' e).1; omega)) (by omega)⟩
end

/-- Where the loops stand. -/
def AtLf (N : Nat) (nd : Nat → List Int) (ys : List Int) (k : Nat) (lv pg : List Int) (l : List Nat) (X : Option (List Int × List Int × List Nat)) : Prop := goLf N nd (ys.drop k) k (lv, pg, l) = X
def AtPg (N i : Nat) (zs : List Int) (k : Nat) (pg : List Int) (l : List Nat) (Y : Option (List Int × List Nat)) : Prop := goPg N i (zs.drop k) k (pg, l) = Y
def Behind (N : Nat) (nd : Nat → List Int) (ys : List Int) (k : Nat) (lv : List Int) (Y : Option (List Int × List Nat)) (X : Option (List Int × List Int × List Nat)) : Prop := (Y.bind fun q => goLf N nd (ys.drop (k + 1)) (k + 1) (lv, q.1, q.2)) = X
section
variable {N i k : Nat} {nd : Nat → List Int} {ys zs lv pg : List Int} {l l' : List Nat} {X : Option (List Int × List Int × List Nat)} {Y : Option (List Int × List Nat)}
theorem AtLf.start (h : X = goLf N nd ys 0 (lv, pg, l)) : AtLf N nd ys 0 lv pg l X := by
  unfold AtLf
  rw [List.drop_zero]
  exact h.symm
theorem AtLf.skip (h : AtLf N nd ys k lv pg l X) (hk : k < ys.length) (h0 : ys.getD k 0 = 0) : AtLf N nd ys (k + 1) lv pg l X := (goLf_skip hk h0).symm.trans h
theorem AtLf.far (h : AtLf N nd ys k lv pg l X) (hk : k < ys.length) (h0 : ys.getD k 0 ≠ 0) (h4 : 4 ≤ k) : X = none := h.symm.trans (goLf_far hk h0 h4)
theorem AtLf.none (h : AtLf N nd ys k lv pg l X) (hk : k < ys.length) (h0 : ys.getD k 0 ≠ 0) (h4 : ¬ 4 ≤ k) (ha : addS N l (ys.getD k 0) = none) : X = none := h.symm.trans (goLf_none hk h0 h4 ha)
theorem AtLf.into (h : AtLf N nd ys k lv pg l X) (hk : k < ys.length) (h0 : ys.getD k 0 ≠ 0) (h4 : ¬ 4 ≤ k) (ha : addS N l (ys.getD k 0) = some l') : ∃ Y, AtPg N k (nd (ys.getD k 0).toNat) 0 pg l' Y ∧ Behind N nd ys k (lv.set k (ys.getD k 0)) Y X :=
  ⟨_, rfl, (goLf_some hk h0 h4 ha).symm.trans h⟩
theorem AtLf.end (h : AtLf N nd ys ys.length lv pg l X) : X = some (lv, pg, l) := by
  unfold AtLf at h
  rw [List.drop_length] at h
  exact h.symm
theorem AtPg.skip (h : AtPg N i zs k pg l Y) (hk : k < zs.length) (h0 : zs.getD k 0 = 0) : AtPg N i zs (k + 1) pg l Y := (goPg_skip hk h0).symm.trans h
theorem AtPg.none (h : AtPg N i zs k pg l Y) (hk : k < zs.length) (h0 : zs.getD k 0 ≠ 0) (ha : addS N l (zs.getD k 0) = none) : Y = none := h.symm.trans (goPg_none hk h0 ha)
theorem AtPg.some (h : AtPg N i zs k pg l Y) (hk : k < zs.length) (h0 : zs.getD k 0 ≠ 0) (ha : addS N l (zs.getD k 0) = some l') : AtPg N i zs (k + 1) (pg.set (i * 32 + k) (zs.getD k 0)) l' Y := (goPg_some hk h0 ha).symm.trans h
theorem AtPg.end (h : AtPg N i zs zs.length pg l Y) : Y = .some (pg, l) := by
  unfold AtPg at h
  rw [List.drop_length] at h
  exact h.symm
theorem Behind.none (h : Behind N nd ys k lv Y X) (hy : Y = none) : X = none := by subst hy; exact h.symm
theorem Behind.some (h : Behind N nd ys k lv Y X) (hy : Y = .some (pg, l)) : AtLf N nd ys (k + 1) lv pg l X := by subst hy; exact h
end
end Go.Proofs.YtebecpjecchfoaaGreatDoor
