/-
  The contracts of the queue's item, add and empty.
-/
import Derived.Test.YthbdhmjmboliiaaDkRead
import Derived.Maps.AppendAt
import Derived.StillTailTactics
import Derived.Test.YthbdhmjmboliiaaTail
import Derived.Test.YthbdhmjmboliiaaApp
import Derived.Deep.WholeRow
namespace Go.Proofs.Ythbdhmjmboliiaa
open Go.RowKit Go.Maps

/-! ### more laws at an operation -/
theorem wpStill_load {P : Program} {w : World} {ops : Array Oper} {rest : List Oper} {o : Oper} {a : Act} {Q : Act → Prop} (hw : Region.wanted o (yielded ops a.tmps) = true) (t : TypeId) (x : Operand) (ho : o.op = .load t x) (p v : Value) (hp : a.eval x = p)
    (hrun : (Instr.loadAt t p).run P w = .ok v w) (h : wpStill P ops w Q rest (a.put o.dst v)) : wpStill P ops w Q (o :: rest) a := by
  unfold wpStill
  rw [if_pos hw]
  unfold Oper.still execOp
  simp only [ho, hp, Sem.run_bind, hrun, Result.andThen_ok, Sem.run_pure, Oper.stillUpon, true_and]
  exact h
theorem wpList_buildSlice_run {P : Program} {w w' : World} {ops : Array Oper} {rest : List Oper} {o : Oper} {a : Act} {Q : Exit → Act → World → Prop} (hgd : o.guard = none) (t : TypeId) (x : Operand) (ho : o.op = .buildSlice t 1 #[(0, x)]) (y v : Value) (hy : a.eval x = y)
    (hrun : (Instr.buildSlice t 1 #[(0, y)]).run P w = .ok v w') (h : wpList P ops Q rest (a.put o.dst v) w') : wpList P ops Q (o :: rest) a w :=
  wpList_plain hgd fun _ hK => by
    unfold Oper.wp execOp
    simp only [ho, Sem.run_bind, List.map_toArray, List.map_cons, List.map_nil, hy, hrun, Result.andThen_ok, Sem.run_pure]
    exact hK _ _ h

/-! ### a value laid whole into new cells -/
theorem fold_set (l : List Value) : ∀ (k : Nat) (A : Array Value), k + l.length ≤ A.size →
    ((l.zipIdx k).foldl (fun (cs : Array Value) (x : Value × Nat) => cs.setIfInBounds (0 + x.2) x.1) A) = (A.toList.take k ++ l ++ A.toList.drop (k + l.length)).toArray := by
  induction l with
  | nil => intro k A _; simp
  | cons v r ih =>
    intro k A h
    simp only [List.length_cons] at h
    rw [List.zipIdx_cons, List.foldl_cons, ih (k + 1) _ (by simp; omega)]
    congr 1
    simp only [Nat.zero_add, Array.toList_setIfInBounds, List.length_cons]
    rw [List.take_set, List.drop_set_of_lt (by omega)]
    have : (A.toList.take (k + 1)).set k v = A.toList.take k ++ [v] := by
      rw [List.take_succ_eq_append_getElem (by simp; omega), List.set_append_right _ _ (by simp; omega)]
      simp [show k - min k A.size = 0 from by omega]
    rw [this]
    simp [Nat.add_assoc, Nat.add_comm 1]
theorem fill_one (place : Nat → Option (Nat × Nat)) (A cs : Array Value) (h : cs.size = A.size) (hp : place 0 = some (0, cs.size)) : Instr.fill place A [(0, .agg cs)] = some cs := by
  have hc : (Value.agg cs).cells = cs := rfl
  unfold Instr.fill
  simp only [hp]
  rw [if_neg (by rw [hc]; simp; omega), hc]
  unfold Instr.fill
  have := fold_set cs.toList 0 A (by simp; omega)
  simp only [List.take_zero, List.nil_append, Nat.zero_add, Array.length_toList] at this
  rw [← Array.foldl_toList, Array.toList_zipIdx]
  simp only [Nat.zero_add]
  rw [this, List.drop_of_length_le (by simp; omega)]
  simp

/-- A write as one value. -/
def agq (q : Nat × List UInt8) : Value := .agg (qcells q).toArray
theorem qcells_len {q : Nat × List UInt8} (h : q.2.length = 64) : (qcells q).length = 65 := by simp [qcells, h]
theorem oneCell_q (q : Nat × List UInt8) : ∀ v ∈ qcells q, v.oneCell' = true := by
  intro v hv
  simp only [qcells, List.mem_cons, List.mem_map] at hv
  rcases hv with rfl | ⟨u, _, rfl⟩ <;> rfl
theorem Try.size74 : (Try.prog.info? 74).map (·.size) = some 65 := by kernel_rfl
theorem Try.info74 : (Try.prog.info? 74).map (fun i => (i.zero, i.size, i.bytes)) = some (some (agq (0, zs64)), 65, 72) := by kernel_rfl
theorem zq_len : (qcells (0, zs64)).length = 65 := qcells_len zs64_len
def zq : Array Value := (qcells (0, zs64)).toArray
theorem alloc74 (w : World) : (Instr.alloc 74 true (.tuple #[])).run Try.prog w = .ok (.pointer (some ⟨w.heap.size, 0, none⟩)) (w.alloc (.cells zq 74)) := by kernel_rfl
theorem box74 (w : World) (q : Nat × List UInt8) : (Instr.box 74 (agq q)).run Try.prog w = .ok (.pointer (some ⟨w.heap.size, 0, none⟩)) (w.alloc (.cells (qcells q).toArray 74)) := rfl
theorem load74 {w : World} {b o : Nat} {q : Nat × List UInt8} (hl : q.2.length = 64) (h : w.rangeAt b o (qcells q)) :
    (Instr.loadAt 74 (.pointer (some ⟨b, o, none⟩))).run Try.prog w = .ok (agq q) w :=
  run_loadAt_mid w b o 74 (qcells q) _ h Try.underlying74 rfl (by rw [Try.size74, qcells_len hl])
theorem store74 {w : World} {b o : Nat} {q : Nat × List UInt8} (hl : q.2.length = 64) (h : w.there b o 65) :
    (Instr.storeAt 74 (.pointer (some ⟨b, o, none⟩)) (agq q)).run Try.prog w = .ok () (w.setCells b o (qcells q)) := by
  have := run_storeAt_mid (P := Try.prog) w b o 74 (qcells q).toArray (by simpa [qcells_len hl] using h) (by rw [Try.size74]; simp [qcells_len hl]) (all_oneCell_toArray (oneCell_q q))
  simpa [agq] using this
theorem bslice74 (w : World) {q : Nat × List UInt8} (hl : q.2.length = 64) :
    (Instr.buildSlice 53 1 #[(0, agq q)]).run Try.prog w = .ok (.slice (some ⟨w.heap.size, 0, none⟩) 1 1) (w.alloc (.cells (qcells q).toArray 74)) := by
  obtain ⟨i0, hi, hz0, hz1, hz2⟩ := info_parts Try.info74
  have hzv : ∀ w, (zeroValue 74).run Try.prog w = .ok (agq (0, zs64)) w := fun w => by kernel_rfl
  have hf := fill_one (fun i => some (i * 65, 65)) ((Array.range (1 * 65)).map fun x => ((agq (0, zs64)).cells)[x % ((agq (0, zs64)).cells).size]!) (qcells q).toArray (by simp [qcells_len hl]) (by simp [qcells_len hl])
  have hsz : ∀ w, (sizeOf 74).run Try.prog w = .ok 65 w := fun w => by kernel_rfl
  have hc : (Value.agg (qcells q).toArray).cells = (qcells q).toArray := rfl
  unfold Instr.buildSlice
  simp only [Sem.run_bind, run_underlying Try.underlying53, Result.andThen_ok, hsz]
  rw [if_neg (by decide)]
  rw [if_neg (by decide)]
  simp only [Sem.run_bind, hzv, Result.andThen_ok, Sem.run_pure]
  have e : (agq q) = .agg (qcells q).toArray := rfl
  rw [e, hf]
  rfl

/-! ### blocks of any cells -/
theorem setCells_blockV {w : World} {b : Nat} {zs ys : List Value} {t : TypeId} (o : Nat) (hb : w.heap[b]? = some (.cells zs.toArray t (0, 0))) (hfit : o + ys.length ≤ zs.length) :
    (w.setCells b o ys).heap[b]? = some (.cells (splice zs o ys).toArray t (0, 0)) ∧ Keeps (· = b) w (w.setCells b o ys) := by
  induction ys generalizing w zs o with
  | nil => exact ⟨by simpa [World.setCells, splice] using hb, Keeps.refl _ _⟩
  | cons y r ih =>
    simp only [World.setCells]
    have h1 : (w.setCell ⟨b, o, none⟩ y).heap[b]? = some (.cells (zs.set o y).toArray t (0, 0)) := by
      rw [heap_setCell_same w b o _ t _ hb]
      simp
    simp only [List.length_cons] at hfit
    obtain ⟨h2, h3⟩ := ih (o + 1) h1 (by rw [List.length_set]; omega)
    refine ⟨?_, (Keeps.setCell (· = b) _ _ _ rfl).trans h3⟩
    rw [h2]
    have e : splice (zs.set o y) (o + 1) r = splice zs o (y :: r) := by
      unfold splice
      rw [List.take_set, List.drop_set_of_lt (by omega)]
      have : (zs.take (o + 1)).set o y = zs.take o ++ [y] := by
        rw [List.take_succ_eq_append_getElem (by omega), List.set_append_right _ _ (by simp; omega)]
        simp [show o - min o zs.length = 0 from by omega]
      rw [this]
      simp [Nat.add_assoc, Nat.add_comm 1]
    rw [e]
theorem there_blockV {w : World} {b : Nat} {zs : List Value} {t : TypeId} (hb : w.heap[b]? = some (.cells zs.toArray t (0, 0))) (o n : Nat) (h : o + n ≤ zs.length) : w.there b o n := by
  intro j hj
  refine ⟨?_, frozen_of_row w b _ _ t hb⟩
  rw [cell_of_row w b (o + j) _ t _ hb]
  simp
  omega
theorem range_blockV {w : World} {b : Nat} {zs : List Value} {t : TypeId} {fr : Nat × Nat} (hb : w.heap[b]? = some (.cells zs.toArray t fr)) : w.rangeAt b 0 zs := by
  intro j v hv
  rw [cell_of_row w b (0 + j) _ t _ hb]
  simpa using hv
theorem splice_allV (xs ys : List Value) (h : xs.length = ys.length) : splice xs 0 ys = ys := by
  unfold splice; simp [h]

/-! ### the queue's cells -/
theorem flat_at : ∀ (Q : List (Nat × List UInt8)), (∀ q ∈ Q, q.2.length = 64) → ∀ (i : Nat) (h : i < Q.length) (j : Nat) (v : Value), (qcells Q[i])[j]? = some v → (Q.flatMap qcells)[i * 65 + j]? = some v
  | [], _, i, h, _, _, _ => absurd h (by simp)
  | q :: r, hq, 0, _, j, v, hv => by
    have hj : j < (qcells q).length := (List.getElem?_eq_some_iff.1 hv).1
    rw [List.flatMap_cons, List.getElem?_append_left (by omega)]
    simpa using hv
  | q :: r, hq, i + 1, h, j, v, hv => by
    have h0 : (qcells q).length = 65 := qcells_len (hq q (by simp))
    have := flat_at r (fun x hx => hq x (by simp [hx])) i (by simpa using h) j v (by simpa using hv)
    rw [List.flatMap_cons, List.getElem?_append_right (by omega), h0]
    rw [show (i + 1) * 65 + j - 65 = i * 65 + j from by omega]
    exact this
theorem flat_len (Q : List (Nat × List UInt8)) (h : ∀ q ∈ Q, q.2.length = 64) : (Q.flatMap qcells).length = Q.length * 65 := by
  induction Q with
  | nil => rfl
  | cons q r ih => rw [List.flatMap_cons, List.length_append, ih (fun x hx => h x (by simp [hx])), qcells_len (h q (by simp)), List.length_cons]; omega
/-- Where the queue's i-th write lies. -/
theorem que_range {w : World} {iv : Value} {Q : List (Nat × List UInt8)} (h : w.ownsRow 0 74 65 iv Q.length (Q.flatMap qcells)) (hq : ∀ q ∈ Q, q.2.length = 64) (i : Nat) (hi : i < Q.length) :
    ∃ g cap, iv = .slice (some ⟨g, 0, none⟩) Q.length cap ∧ g < w.heap.size ∧ w.rangeAt g (i * 65) (qcells Q[i]) := by
  obtain ⟨g, cap, hv, _, hlt⟩ := World.ownsRow.form h (by omega)
  refine ⟨g, cap, hv, hlt, fun j v hj => ?_⟩
  have := World.ownsRow.cells h (g := g) (by rw [hv]; rfl) (i * 65 + j) v (flat_at Q hq i hi j v hj)
  rwa [Addr.add_mid, Nat.zero_add] at this

set_option maxHeartbeats 400000 in
theorem item_at {w : World} {p lb mb n : Nat} {iv : Value} {D : DSt} (h : DkAt w p lb mb n iv D) (i : Nat) (hi : i < D.Q.length) :
    Calls Try.prog 40 #[.pointer (some ⟨p, 1, none⟩), .int .i64 (i : Int)] w fun e w' => e = .returned (agq D.Q[i]) ∧ Keeps (fun _ => False) w w' := by
  have hlt : p < w.heap.size := (Array.getElem?_eq_some_iff.1 h.head).1
  obtain ⟨c0, c1, c2, c3, c4, c5, fz⟩ := h.c
  obtain ⟨g, cap, rfl, hg, hr⟩ := que_range h.que (fun q hq => (h.ok.q q hq).2) i hi
  have hl : D.Q[i].2.length = 64 := (h.ok.q _ (List.getElem_mem hi)).2
  have k0 : Keeps (fun _ => False) w (w.alloc (.cells zq 74)) := Keeps.alloc _ _ _
  have r1 : (w.alloc (.cells zq 74)).rangeAt g (i * 65) (qcells D.Q[i]) := fun j v hv => (k0.cell g _ hg (fun h => h)).trans (hr j v hv)
  have e1 := heap_alloc_last w (.cells zq 74)
  have S1 := Lib.hid (store74 (w := w.alloc (.cells zq 74)) (b := w.heap.size) (o := 0) hl (there_blockV e1 0 65 (by rw [zq_len]; omega)))
  have L1 := Lib.hid (load74 hl r1)
  obtain ⟨b1, b2⟩ := setCells_blockV (ys := qcells D.Q[i]) 0 e1 (by rw [zq_len, qcells_len hl]; omega)
  rw [splice_allV _ _ (by rw [zq_len, qcells_len hl])] at b1
  have K1 := Lib.hid b1
  have K2 : Keeps (fun _ => False) w ((w.alloc (.cells zq 74)).setCells w.heap.size 0 (qcells D.Q[i])) :=
    ⟨b2.os, b2.tape, b2.output, Nat.le_trans k0.size b2.size, fun k hk hF => (b2.block k (by simp; omega) (by omega)).trans (k0.block k hk hF)⟩
  have HL := Lib.hid hl
  clear fz c0 c2 c3 c4 c5 b1 b2 r1 hr e1 k0 hl
  have hc1 : (w.alloc (.cells zq 74)).cell? ⟨p, 1, none⟩ = some (.slice (some ⟨g, 0, none⟩) D.Q.length cap) := (World.cell?_alloc_past _ _ _ hlt).trans c1
  clear h c1
  generalize D.Q[i] = q at *
  generalize D.Q.length = len at *
  go_enter Try.func40, Try.ntmps40
  go_wp2_with (first
    | ((with_reducible refine here (op := .alloc 74) (d := some 4) ?_); refine wpList_alloc_run rfl 74 rfl _ (alloc74 _) ?_)
    | ((with_reducible refine here (op := .load 74 (.tmp 10)) ?_); refine wpList_load_run rfl 74 _ rfl _ _ rfl L1.out ?_)
    | ((with_reducible refine here (op := .store 74 (.tmp 4) (.tmp 11)) ?_); refine wpList_store_run rfl 74 _ _ rfl _ _ rfl rfl S1.out ?_))
  refine bodyPost_ret (v := agq q) ?_ rfl ⟨rfl, K2⟩
  exact results_cell_row rfl _ _ w.heap.size 74 _ (0, 0) _ rfl K1.out Try.underlying74 rfl (by rw [Try.size74]; simp [qcells_len HL.out])

set_option maxHeartbeats 400000 in
theorem empty_at {w : World} {p lb mb n : Nat} {iv : Value} {D : DSt} (h : DkAt w p lb mb n iv D) :
    Calls Try.prog 46 #[.pointer (some ⟨p, 1, none⟩)] w fun e w' => e = .returned (.tuple #[]) ∧ w' = w.setCell ⟨p, 1, none⟩ (.slice none 0 0) := by
  obtain ⟨c0, c1, c2, c3, c4, c5, fz⟩ := h.c
  have fz1 := fz 1
  clear fz c0 c2 c3 c4 c5 h
  go_enter Try.func46, Try.ntmps46
  go_wp2
  go_end0
  exact ⟨rfl, rfl⟩

/-- What add leaves. -/
def Added (w : World) (p : Nat) (iv : Value) (Q : List (Nat × List UInt8)) (q : Nat × List UInt8) (e : Ending) (w' : World) : Prop :=
  e = .returned (.tuple #[]) ∧ ∃ w1 iv', w'.heap = (w1.setCell ⟨p, 1, none⟩ iv').heap ∧ w1.ownsRow 0 74 65 iv' (Q.length + 1) ((Q ++ [q]).flatMap qcells) ∧ Keeps (fun k => Value.ownBlock iv = some k) w w1 ∧
    (∀ g, Value.ownBlock iv' = some g → Value.ownBlock iv = some g ∨ w.heap.size ≤ g) ∧ Keeps (fun k => k = p ∨ Value.ownBlock iv = some k) w w'

theorem load53 {w : World} {b o : Nat} {v : Value} (h : w.cell? ⟨b, o, none⟩ = some v) : (Instr.loadAt 53 (.pointer (some ⟨b, o, none⟩))).run Try.prog w = .ok v w := by
  have hagg : (isAgg 53).run Try.prog w = .ok false w := by unfold isAgg; rw [Sem.run_bind, run_underlying Try.underlying53 w]; rfl
  simp [Instr.loadAt, Instr.sureAddr, loadVar, hagg, h]
set_option maxHeartbeats 1000000 in
theorem qadd_at {w : World} {p lb mb n : Nat} {iv : Value} {D : DSt} (h : DkAt w p lb mb n iv D) (q : Nat × List UInt8) (hq : q.2.length = 64) (hQ : D.Q.length ≤ 1954687338211) :
    Calls Try.prog 36 #[.pointer (some ⟨p, 1, none⟩), agq q] w (Added w p iv D.Q q) := by
  have hlt : p < w.heap.size := (Array.getElem?_eq_some_iff.1 h.head).1
  have ap := h.apart
  obtain ⟨c0, c1, c2, c3, c4, c5, fz⟩ := h.c
  have fz1 := fz 1
  have k0 : Keeps (fun _ => False) w (w.alloc (.cells (qcells q).toArray 74)).drew := (Keeps.alloc _ _ _).trans (Keeps.drew _ _)
  have hsz : (w.alloc (.cells (qcells q).toArray 74)).drew.heap.size = w.heap.size + 1 := by show (w.alloc _).heap.size = _; simp
  have r1 : (w.alloc (.cells (qcells q).toArray 74)).drew.rangeAt w.heap.size 0 (qcells q) := range_blockV (heap_alloc_last w (.cells (qcells q).toArray 74))
  have L1 := Lib.hid (load74 hq r1)
  have c1' : (w.alloc (.cells (qcells q).toArray 74)).drew.cell? ⟨p, 1, none⟩ = some iv := (k0.cell p 1 hlt (fun h => h)).trans c1
  have fz1' : (w.alloc (.cells (qcells q).toArray 74)).drew.frozen? ⟨p, 1, none⟩ = false := (k0.fz p 1 hlt (fun h => h)).trans fz1
  have own' : (w.alloc (.cells (qcells q).toArray 74)).drew.ownsRow 0 74 65 iv D.Q.length (D.Q.flatMap qcells) := (h.que.alloc _)
  have OW := Lib.hid own'
  have HQ := Lib.hid hq
  have AP := Lib.hid ap
  have ub : ∀ g, Value.ownBlock iv = some g → g < w.heap.size := fun g hg => (h.que.lt g hg).2
  have UB := Lib.hid ub
  clear h c0 c1 c2 c3 c4 c5 fz fz1 own' hq ap r1 ub
  have K0 := Lib.hid k0
  have HS := Lib.hid hsz
  clear k0 hsz
  go_enter Try.func36, Try.ntmps36
  go_wp2_with (((with_reducible refine here (op := .box 74 (.tmp 1)) ?_); refine wpList_box_run rfl 74 _ rfl _ _ rfl (box74 _ _) ?_))
  refine wp_region_any (by kernel_rfl) ?_
  change wpAny _ _ _ _ _ _ _ (World.drew (w.alloc (.cells (qcells q).toArray 74)))
  generalize (w.alloc (.cells (qcells q).toArray 74)).drew = w0 at *
  have hl0 : (Instr.loadAt 53 (.pointer (some ⟨p, 1, none⟩))).run Try.prog w0 = .ok iv w0 := load53 c1'
  have hl1 : (Instr.loadAt 53 (.pointer (some ⟨p, 1, none⟩))).run Try.prog (w0.alloc (.cells (qcells q).toArray 74)) = .ok iv (w0.alloc (.cells (qcells q).toArray 74)) :=
    load53 ((World.cell?_alloc_past _ _ _ (by rw [HS.out]; omega)).trans c1')
  refine wpAny_take (oi := ⟨_, _, _, _, _, _⟩) (i := 0) (v := .pointer (some ⟨p, 1, none⟩)) rfl (by kernel_rfl) (by kernel_rfl) (by kernel_rfl) (fun _ _ _ h => h) (Or.inl ⟨by rfl, fun _ => rfl⟩) ?_
  refine wpAny_take (oi := ⟨_, _, _, _, _, _⟩) (i := 1) (v := .pointer (some ⟨p, 1, none⟩)) rfl (by kernel_rfl) (by kernel_rfl) (by kernel_rfl) (fun _ _ _ h => h) (Or.inl ⟨by rfl, fun _ => rfl⟩) ?_
  refine wpAny_take (oi := ⟨_, _, _, _, _, _⟩) (i := 2) (v := .pointer (some ⟨p, 1, none⟩)) rfl (by kernel_rfl) (by kernel_rfl) (by kernel_rfl) (fun _ _ _ h => h) (Or.inl ⟨by rfl, fun _ => rfl⟩) ?_
  refine wpAny_take (oi := ⟨_, _, _, _, _, _⟩) (i := 3) (v := .pointer (some ⟨p, 1, none⟩)) rfl (by kernel_rfl) (by kernel_rfl) (by kernel_rfl) (fun _ _ _ h => h) (Or.inl ⟨by rfl, fun w => by go_simp⟩) ?_
  simp only [Act.put, List.setIfInBounds_toArray, List.set_cons_zero, List.set_cons_succ]
  refine Late.any (oi := ⟨_, _, _, _, _, _⟩) (i := 4) (v := iv) rfl ?_
  refine Late.step 5 ⟨_, _, _, _, _, _⟩ (agq q) rfl (by kernel_rfl) (yields_load rfl 53 (.tmp 7) rfl _ _ rfl hl0) rfl (ex_load 74 (.tmp 3) rfl _ _ rfl L1.out) ?_
  simp only [Act.put, List.setIfInBounds_toArray, List.set_cons_zero, List.set_cons_succ]
  refine Late.step 6 ⟨_, _, _, _, _, _⟩ _ rfl (by kernel_rfl) (yields_load rfl 53 (.tmp 7) rfl _ _ rfl hl0) rfl (ex_buildSlice 53 (.tmp 9) rfl _ _ rfl (bslice74 w0 HQ.out)) ?_
  simp only [Act.put, List.setIfInBounds_toArray, List.set_cons_zero, List.set_cons_succ]
  refine Late.done (by kernel_rfl) (yields_load rfl 53 (.tmp 7) rfl _ _ rfl hl1) ?_
  refine wpAny_of_chain [7, 8, 9, 10] [_, _, _, _] _ _ _ rfl (by kernel_rfl) ?_
  clear hl0 hl1
  simp only [Act.put, List.setIfInBounds_toArray, List.set_cons_zero, List.set_cons_succ]
  obtain ⟨i0, hi, hz0, hz1, hz2⟩ := info_parts Try.info74
  have own2 := (OW.out).alloc (.cells (qcells q).toArray 74)
  have rg := range_blockV (heap_alloc_last w0 (.cells (qcells q).toArray 74))
  obtain ⟨iv', w2, hrun, hown, hg, _, hblk⟩ := run_append_own_at (P := Try.prog) (w0.alloc (.cells (qcells q).toArray 74)) 0 53 53 74 i0 _ 65 72 Try.underlying53 hi hz0 hz1 hz2 zq_len (by decide) iv D.Q.length _ own2 ⟨w0.heap.size, 0, none⟩ 1 1 (qcells q)
    (by rw [qcells_len HQ.out]) (fun j u hu => by rw [Addr.add_mid]; exact rg j u hu) (oneCell_q q) (by unfold maxLen; omega) (by omega) (by omega)
  have k2 : Keeps (fun k => Value.ownBlock iv = some k) w0 w2 := (Keeps.alloc _ _ _).trans (Keeps.grown _ hg fun _ e => e)
  refine wpList_append_run rfl _ _ _ rfl iv' hrun ?_
  have c2 : w2.cell? ⟨p, 1, none⟩ = some iv := (k2.cell p 1 (by rw [HS.out]; omega) (fun e => (AP.out.2.2.2 p e).1 rfl)).trans c1'
  have f2 : w2.frozen? ⟨p, 1, none⟩ = false := (k2.fz p 1 (by rw [HS.out]; omega) (fun e => (AP.out.2.2.2 p e).1 rfl)).trans fz1'
  have hv : ∃ A cap, iv' = .slice A (D.Q.length + 1) cap := by
    rcases hown.2 with ⟨_, hn⟩ | ⟨_, cap, _, e, _⟩
    · omega
    · exact ⟨_, cap, e⟩
  obtain ⟨A', cap', rfl⟩ := hv
  have OWN := Lib.hid hown
  have BLK := Lib.hid hblk
  clear hrun rg own2 c1' fz1' hown hblk hi hz0 hz1 hz2 hg
  go_wp2
  go_end0
  have hk : Keeps (fun k => Value.ownBlock iv = some k) w w2 := ⟨k2.os.trans K0.out.os, k2.tape.trans K0.out.tape, k2.output.trans K0.out.output, Nat.le_trans K0.out.size k2.size, fun k hk hF => (k2.block k (by rw [HS.out]; omega) hF).trans (K0.out.block k hk (fun h => h))⟩
  have hown := OWN.out
  have hblk := BLK.out
  refine ⟨rfl, w2, _, rfl, ?_, hk, fun g e => ?_, (hk.mono fun k _ e => Or.inr e).trans (Keeps.setCell (fun k => k = p ∨ Value.ownBlock iv = some k) _ _ _ (Or.inl rfl))⟩
  · rw [List.flatMap_append]
    simpa using hown
  · rcases hblk with e1 | e1
    · rw [e1] at e; exact Or.inl e
    · rw [e1] at e
      cases e
      right
      show w.heap.size ≤ (w0.alloc _).heap.size
      rw [World.size_alloc, HS.out]
      omega
end Go.Proofs.Ythbdhmjmboliiaa
