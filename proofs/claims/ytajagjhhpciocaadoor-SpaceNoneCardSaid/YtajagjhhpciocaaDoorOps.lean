/-
  Laws at an operation, from its run; blocks of any cells. No function of the program is named here.
-/
import Derived.Test.YtajagjhhpciocaaDoorKeeps
import Derived.Test.YtajagjhhpciocaaDoorTail
import Derived.Deep.MidRow
import Derived.Deep.WholeRow
import Derived.Laws.StructEq
import Derived.Lib.Hide
namespace Go.Proofs.YtajagjhhpciocaaDoor
open Go.RowKit

section
variable {P : Program} {w w' : World} {ops : Array Oper} {rest : List Oper} {o : Oper} {a : Act} {Q : Exit → Act → World → Prop}
theorem wpList_val (hw : Region.wanted o (yielded ops a.tmps) = true) (v : Value) (hrun : (execOp a.eval o).run P w = .ok (.value v) w') (h : wpList P ops Q rest (a.put o.dst v) w') : wpList P ops Q (o :: rest) a w := by
  unfold wpList
  rw [if_pos hw]
  left
  unfold Oper.wp
  rw [hrun]
  exact h
theorem wpList_unit (hw : Region.wanted o (yielded ops a.tmps) = true) (hrun : (execOp a.eval o).run P w = .ok .skip w') (h : wpList P ops Q rest (a.put o.dst undef) w') : wpList P ops Q (o :: rest) a w := by
  unfold wpList
  rw [if_pos hw]
  left
  unfold Oper.wp
  rw [hrun]
  exact h
/-- A mark at an operation: the goal as it was. -/
theorem at_ {op : Op} {d : Option Tmp} {ty : TypeId} {pos : String} {af : Array Edge} {g : Option (Nat × Bool)}
    (h : wpList P ops Q (⟨d, op, ty, pos, af, g⟩ :: rest) a w) : wpList P ops Q (⟨d, op, ty, pos, af, g⟩ :: rest) a w := h
end

section
variable {P : Program} {w w' : World} {o : Oper} {ρ : Operand → Value}
theorem ex_store (t : TypeId) (x y : Operand) (ho : o.op = .store t x y) (p v : Value) (hp : ρ x = p) (hv : ρ y = v) (hrun : (Instr.storeAt t p v).run P w = .ok () w') : (execOp ρ o).run P w = .ok .skip w' := by
  unfold execOp
  simp only [ho, hp, hv, Sem.run_bind, hrun, Result.andThen_ok, Sem.run_pure]
theorem ex_alloc (t : TypeId) (ho : o.op = .alloc t) (v : Value) (hrun : (Instr.alloc t true (.tuple #[])).run P w = .ok v w') : (execOp ρ o).run P w = .ok (.value v) w' := by
  unfold execOp
  simp only [ho, Sem.run_bind, hrun, Result.andThen_ok, Sem.run_pure]
theorem ex_box (t : TypeId) (x : Operand) (ho : o.op = .box t x) (y v : Value) (hy : ρ x = y) (hrun : (Instr.box t y).run P w = .ok v w') : (execOp ρ o).run P w = .ok (.value v) w' := by
  unfold execOp
  simp only [ho, hy, Sem.run_bind, hrun, Result.andThen_ok, Sem.run_pure]
theorem ex_build0 (t : TypeId) (ho : o.op = .build t #[]) (v : Value) (hrun : (Instr.build t #[]).run P w = .ok v w') : (execOp ρ o).run P w = .ok (.value v) w' := by
  unfold execOp
  simp only [ho, Sem.run_bind, List.map_toArray, List.map_nil, hrun, Result.andThen_ok, Sem.run_pure]
theorem ex_index (t : TypeId) (x y : Operand) (ho : o.op = .index t x y) (p i v : Value) (hp : ρ x = p) (hi : ρ y = i) (hrun : (Instr.index t p i).run P w = .ok v w') : (execOp ρ o).run P w = .ok (.value v) w' := by
  unfold execOp
  simp only [ho, hp, hi, Sem.run_bind, hrun, Result.andThen_ok, Sem.run_pure]
theorem ex_bin_agg (op : BinOp) (t t' : TypeId) (x y : Operand) (ho : o.op = .binOp op t x y t') (xs ys : Array Value) (v : Value) (hx : ρ x = .agg xs) (hy : ρ y = .agg ys) (hm : P.eqGuardType P.depth t = false) (hrun : (binOp op t (.agg xs) (.agg ys)).run P w = .ok v w') : (execOp ρ o).run P w = .ok (.value v) w' := by
  unfold execOp
  simp only [ho, hx, hy, Sem.run_bind, run_eqGuard_agg w op t x y xs ys hm, hrun, Result.andThen_ok, Sem.run_pure]
end

/-! ### blocks of any cells -/
theorem setCells_cells {w : World} {b : Nat} {zs ys : List Value} {t : TypeId} (hb : w.heap[b]? = some (.cells zs.toArray t (0, 0))) (hl : ys.length = zs.length) :
    (w.setCells b 0 ys).heap[b]? = some (.cells ys.toArray t (0, 0)) ∧ Keeps (· = b) w (w.setCells b 0 ys) := by
  have key : ∀ (ys zs : List Value) (o : Nat) (w : World), w.heap[b]? = some (.cells zs.toArray t (0, 0)) → o + ys.length = zs.length →
      (w.setCells b o ys).heap[b]? = some (.cells (zs.take o ++ ys).toArray t (0, 0)) ∧ Keeps (· = b) w (w.setCells b o ys) := by
    intro ys
    induction ys with
    | nil =>
      intro zs o w hb hl
      simp only [List.length_nil, Nat.add_zero] at hl
      exact ⟨by simpa [World.setCells, hl] using hb, Keeps.refl _ _⟩
    | cons y r ih =>
      intro zs o w hb hl
      simp only [List.length_cons] at hl
      simp only [World.setCells]
      have h1 : (w.setCell ⟨b, o, none⟩ y).heap[b]? = some (.cells (zs.set o y).toArray t (0, 0)) := by
        rw [heap_setCell_same w b o _ t _ hb]
        simp
      obtain ⟨h2, h3⟩ := ih (zs.set o y) (o + 1) _ h1 (by rw [List.length_set]; omega)
      refine ⟨?_, (Keeps.setCell (· = b) _ _ _ rfl).trans h3⟩
      rw [h2, List.take_set]
      have : (zs.take (o + 1)).set o y = zs.take o ++ [y] := by
        rw [List.take_succ_eq_append_getElem (by omega), List.set_append_right _ _ (by simp; omega)]
        simp [show o - min o zs.length = 0 from by omega]
      rw [this]
      simp
  have := key ys zs 0 w hb (by omega)
  simpa using this
theorem there_cells {w : World} {b : Nat} {zs : List Value} {t : TypeId} (hb : w.heap[b]? = some (.cells zs.toArray t (0, 0))) (o n : Nat) (h : o + n ≤ zs.length) : w.there b o n := by
  intro j hj
  refine ⟨?_, frozen_of_row w b _ _ t hb⟩
  rw [cell_of_row w b (o + j) _ t _ hb]
  simp
  omega
theorem range_cells {w : World} {b : Nat} {zs : List Value} {t : TypeId} {fr : Nat × Nat} (hb : w.heap[b]? = some (.cells zs.toArray t fr)) : w.rangeAt b 0 zs := by
  intro j v hv
  rw [cell_of_row w b (0 + j) _ t _ hb]
  simpa using hv
theorem Keeps.old {w w' : World} {b : Nat} (h : Keeps (· = b) w w') {w0 : World} (h0 : Below w0.heap.size w0 w) (hb : w0.heap.size ≤ b) : Below w0.heap.size w0 w' :=
  h0.trans (h.toBelow _ h0.size fun _ e => by rw [e]; exact hb)

/-- Two results, the first of which lies in cells. -/
theorem results_row_tmp {P : Program} {fn : Func} {p q : Tmp} {ty : TypeId} (h : fn.results = #[.cell p ty, .tmp q]) (tmps : Array Value) (w : World) (g : Nat) (t : TypeId) (cs : Array Value) (fr : Nat × Nat) (d : TypeDesc) (v : Value)
    (hp : tmps.getD p undef = .pointer (some ⟨g, 0, none⟩)) (hq : tmps.getD q undef = v) (hg : w.heap[g]? = some (.cells cs t fr))
    (hu : P.underlying ty = some d) (hd : (match d with | .struct _ | .array _ _ => true | _ => false) = true) (hi : (P.info? ty).map (·.size) = some cs.size) :
    (results fn tmps).run P w = .ok (.tuple #[.agg cs, v]) w := by
  have hp' : tmps[p]?.getD undef = .pointer (some ⟨g, 0, none⟩) := by simpa using hp
  have hq' : tmps[q]?.getD undef = v := by simpa using hq
  simp [results, h, hp', hq', asAddr, run_loadVar_row w g t ty cs fr d hg hu hd hi]

/-! ### arrays of numbers, compared -/
section
variable {P : Program} (w : World)
theorem all_range_int : ∀ (xs ys : List Int), xs.length = ys.length → ((List.range xs.length).all fun i => xs.getD i 0 == ys.getD i 0) = (xs == ys)
  | [], [], _ => rfl
  | x :: xs, y :: ys, h => by
    have ih := all_range_int xs ys (by simpa using h)
    rw [List.length_cons, List.range_succ_eq_map, List.all_cons, List.all_map]
    simp only [List.getD_cons_zero, Function.comp_def, List.getD_cons_succ, ih]
    simp [List.cons_beq_cons]
  | [], _ :: _, h => by simp at h
  | _ :: _, [], h => by simp at h
theorem run_equalIn_ints (d : Nat) (t e : TypeId) (n : Nat) (k : IntKind) (ht : P.underlying t = some (.array n e)) (he : P.underlying e = some (.int k)) (hsz : ∀ w, (sizeOf e).run P w = .ok 1 w)
    (xs ys : List Int) (hx : xs.length = n) (hy : ys.length = n) :
    (Op.equalIn (d + 2) t (.agg (xs.map (Value.int k)).toArray) (.agg (ys.map (Value.int k)).toArray)).run P w = .ok (xs == ys) w := by
  rw [← all_range_int xs ys (hx.trans hy.symm), hx, List.range_eq_range', Op.equalIn]
  simp only [Sem.run_bind, run_underlying ht, Result.andThen_ok, hsz, Std.Legacy.Range.forIn_eq_forIn_range', Std.Legacy.Range.size, Nat.sub_zero, Nat.add_sub_cancel, Nat.div_one]
  have hl : ∀ i ∈ List.range' 0 n 1, i < n := fun i hi => by simpa using (List.mem_range'_1.1 hi).2
  generalize List.range' 0 n 1 = l at hl ⊢
  induction l with
  | nil => simp
  | cons i l ih =>
    have hi : i < n := hl i (by simp)
    have px : (part e (xs.map (Value.int k)).toArray (i * 1)).run P w = .ok (.int k (xs.getD i 0)) w := by
      simp [part, isAgg, run_underlying he, List.getD, List.getElem?_eq_getElem (show i < xs.length by omega)]
    have py : (part e (ys.map (Value.int k)).toArray (i * 1)).run P w = .ok (.int k (ys.getD i 0)) w := by
      simp [part, isAgg, run_underlying he, List.getD, List.getElem?_eq_getElem (show i < ys.length by omega)]
    have pe : (Op.equalIn (d + 1) e (.int k (xs.getD i 0)) (.int k (ys.getD i 0))).run P w = .ok (xs.getD i 0 == ys.getD i 0) w := run_equalIn_int w d e k k _ _ he
    simp only [List.forIn_cons, Sem.run_bind, px, py, pe, Result.andThen_ok, List.all_cons]
    cases hb : (xs.getD i 0 == ys.getD i 0)
    · simp
    · simp only [Bool.not_true, Bool.false_eq_true, if_false, Sem.run_pure, Result.andThen_ok, Bool.true_and]
      exact ih fun j hj => hl j (by simp [hj])
theorem run_eql_ints (t e : TypeId) (n : Nat) (k : IntKind) (ht : P.underlying t = some (.array n e)) (he : P.underlying e = some (.int k)) (hsz : ∀ w, (sizeOf e).run P w = .ok 1 w)
    (xs ys : List Int) (hx : xs.length = n) (hy : ys.length = n) :
    (binOp .eql t (.agg (xs.map (Value.int k)).toArray) (.agg (ys.map (Value.int k)).toArray)).run P w = .ok (.bool (decide (xs = ys))) w := by
  rw [run_eql_struct, run_equalIn_ints w 9998 t e n k ht he hsz xs ys hx hy]
  show Result.ok (Value.bool (xs == ys)) w = _
  rw [show (xs == ys) = decide (xs = ys) from by by_cases h : xs = ys <;> simp [h]]
theorem run_neq_ints (t e : TypeId) (n : Nat) (k : IntKind) (ht : P.underlying t = some (.array n e)) (he : P.underlying e = some (.int k)) (hsz : ∀ w, (sizeOf e).run P w = .ok 1 w)
    (xs ys : List Int) (hx : xs.length = n) (hy : ys.length = n) :
    (binOp .neq t (.agg (xs.map (Value.int k)).toArray) (.agg (ys.map (Value.int k)).toArray)).run P w = .ok (.bool (!decide (xs = ys))) w := by
  rw [run_neq_struct, run_equalIn_ints w 9998 t e n k ht he hsz xs ys hx hy]
  show Result.ok (Value.bool (!(xs == ys))) w = _
  rw [show (xs == ys) = decide (xs = ys) from by by_cases h : xs = ys <;> simp [h]]
end
end Go.Proofs.YtajagjhhpciocaaDoor
