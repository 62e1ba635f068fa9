/-
  InArr
-/
import Derived.Test.YtcldbgmbkcpdgaaInCheck
import Derived.Test.YtcldbgmbkcpdgaaGA
namespace Go.Proofs.Ytcldbgmbkcpdgaa.Ino
open Go.RowKit Ex
set_option linter.unusedSimpArgs false
set_option linter.unusedVariables false

def ag8 (xs : List UInt8) : Value := .agg (xs.map B8).toArray
def zr64 : List UInt8 := List.replicate 64 0
theorem zr64_len : zr64.length = 64 := by simp [zr64]
theorem alloc_r (w : World) : (Instr.alloc 49 true (.tuple #[])).run Try.prog w = .ok (.pointer (some ⟨w.heap.size, 0, none⟩)) (w.alloc (.cells (zr64.map B8).toArray 49)) := by kernel_rfl
theorem size_r : (Try.prog.info? 49).map (·.size) = some 64 := by kernel_rfl
theorem one_b8 (xs : List UInt8) : ((xs.map B8).toArray).all (·.oneCell') = true := all_oneCell_toArray (fun v hv => by
  simp only [List.mem_map] at hv
  obtain ⟨u, _, rfl⟩ := hv
  rfl)
theorem load_r {w : World} {b o : Nat} {xs : List UInt8} (hl : xs.length = 64) (h : w.rangeAt b o (xs.map B8)) :
    (Instr.loadAt 49 (.pointer (some ⟨b, o, none⟩))).run Try.prog w = .ok (ag8 xs) w :=
  run_loadAt_mid w b o 49 (xs.map B8) _ h Try.underlying49 rfl (by rw [size_r, List.length_map, hl])
theorem store_r {w : World} {b o : Nat} {xs : List UInt8} (hl : xs.length = 64) (h : w.there b o 64) :
    (Instr.storeAt 49 (.pointer (some ⟨b, o, none⟩)) (ag8 xs)).run Try.prog w = .ok () (w.setCells b o (xs.map B8)) := by
  have := run_storeAt_mid (P := Try.prog) w b o 49 (xs.map B8).toArray (by simpa [hl] using h) (by rw [size_r]; simp [hl]) (one_b8 xs)
  simpa [ag8] using this
theorem build_r (w : World) (u : UInt8) : (Instr.build 49 #[(0, B8 u)]).run Try.prog w = .ok (ag8 (u :: List.replicate 63 0)) w := by kernel_rfl
theorem build_r0 (w : World) : (Instr.build 49 #[]).run Try.prog w = .ok (ag8 zr64) w := by kernel_rfl
theorem set_block {w : World} {b : Nat} {zs ys : List UInt8} {t : TypeId} (o : Nat) (hb : w.heap[b]? = some (.cells (zs.map B8).toArray t (0, 0))) (hfit : o + ys.length ≤ zs.length) :
    (w.setCells b o (ys.map B8)).heap[b]? = some (.cells ((splice zs o ys).map B8).toArray t (0, 0)) ∧ Keeps (· = b) w (w.setCells b o (ys.map B8)) := by
  induction ys generalizing w zs o with
  | nil => exact ⟨by simpa [World.setCells, splice] using hb, Keeps.refl _ _⟩
  | cons y r ih =>
    simp only [List.map_cons, World.setCells]
    have h1 : (w.setCell ⟨b, o, none⟩ (B8 y)).heap[b]? = some (.cells ((zs.set o y).map B8).toArray t (0, 0)) := by
      rw [heap_setCell_same w b o _ t _ hb]
      simp [List.map_set]
    simp only [List.length_cons] at hfit
    obtain ⟨h2, h3⟩ := ih (o + 1) h1 (by rw [List.length_set]; omega)
    refine ⟨?_, (Keeps.setCell (· = b) _ _ _ rfl).trans h3⟩
    rw [h2]
    have e : splice (zs.set o y) (o + 1) r = splice zs o (y :: r) := by
      unfold splice
      rw [List.take_set, List.drop_set_of_lt (by omega)]
      have : (zs.take (o + 1)).set o y = zs.take o ++ [y] := by
        rw [List.take_succ_eq_append_getElem (by omega), List.set_append_right _ _ (by simp; omega)]
        simp [show o - min o zs.length = 0 from by omega]
      rw [this]
      simp [Nat.add_assoc, Nat.add_comm 1]
    rw [e]
theorem whole_block {w : World} {b : Nat} {zs : List UInt8} {t : TypeId} {fr : Nat × Nat} (hb : w.heap[b]? = some (.cells (zs.map B8).toArray t fr)) : w.rangeAt b 0 (zs.map B8) := by
  intro j v hv
  rw [cell_of_row w b (0 + j) _ t _ hb]
  simpa using hv
theorem there_b {w : World} {b : Nat} {zs : List UInt8} {t : TypeId} (hb : w.heap[b]? = some (.cells (zs.map B8).toArray t (0, 0))) (o n : Nat) (h : o + n ≤ zs.length) : w.there b o n := by
  intro j hj
  refine ⟨?_, frozen_of_row w b _ _ t hb⟩
  rw [cell_of_row w b (o + j) _ t _ hb]
  simp
  omega
theorem splice_whole (xs ys : List UInt8) (h : xs.length = ys.length) : splice xs 0 ys = ys := by
  unfold splice; simp [h]
theorem ex_build1 {P : Program} {w w' : World} {o : Oper} {ρ : Operand → Value} (t : TypeId) (x : Operand) (ho : o.op = .build t #[(0, x)]) (y v : Value) (hy : ρ x = y) (hrun : (Instr.build t #[(0, y)]).run P w = .ok v w') : (execOp ρ o).run P w = .ok (.value v) w' := by
  unfold execOp
  simp only [ho, Sem.run_bind, List.map_toArray, List.map_cons, List.map_nil, hy, hrun, Result.andThen_ok, Sem.run_pure]
/-- The builtin copy at its place in a walk, its run being known. -/
theorem wpList_cp_run {P : Program} {w w' : World} {ops : Array Oper} {rest : List Oper} {o : Oper} {a : Act} {Q : Exit → Act → World → Prop} (hgd : o.guard = none) (s x : Operand) (t t' : TypeId)
    (ho : o.op = .call { callee := .builtin .copy, args := #[s, x], argTypes := #[t, t'] }) (v : Value)
    (hrun : (Builtin.copy_ #[t, t'] o.type #[a.eval s, a.eval x]).run P w = .ok v w') (h : wpList P ops Q rest (a.put o.dst v) w') : wpList P ops Q (o :: rest) a w :=
  wpList_plain hgd fun _ hK => by
    unfold Oper.wp execOp
    simp only [ho, resolve, invoke, builtin, Sem.run_bind, Sem.run_pure, Result.andThen_ok, List.map_toArray, List.map_cons, List.map_nil, hrun]
    exact hK _ _ h
theorem wpOp_skip {P : Program} {ops : Array Oper} {Q' : Exit → Act → World → Prop} {K : Act → World → Prop} {m : Nat} {om : Oper} {a : Act} {w w' : World} (hm : ops[m]? = some om) (hw : Region.wanted om (yielded ops a.tmps) = true) (hrun : (execOp a.eval om).run P w = .ok .skip w') (h : K (a.put om.dst undef) w') : wpOp P ops Q' m K a w := by
  unfold wpOp
  simp only [hm, hw, if_true]
  left
  unfold Oper.wp
  rw [hrun]
  exact h
/-- A call that only reads, two quiet operations behind it, and beside them one that turns the world: it may come at any place. -/
theorem wpAnyH_float {P : Program} {md : Region.Mode} {ops : Array Oper} {Q : Exit → Act → World → Prop} {S : World → Prop} {f : Nat} {listed : Array Bool} {a : Act} {w w' : World} (i p q j : Nat) (oi op oq oj : Oper)
    (hi : ops[i]? = some oi) (hp : ops[p]? = some op) (hq : ops[q]? = some oq) (hj : ops[j]? = some oj)
    (hB : (decide (Region.ready md ops listed = [i, j]) && decide (Region.ready md ops (listed.setIfInBounds j true) = [i]) && Region.free md ops (listed.setIfInBounds i true) p && (Region.ready md ops (listed.setIfInBounds i true)).contains p &&
      Region.free md ops ((listed.setIfInBounds i true).setIfInBounds p true) q && (Region.ready md ops ((listed.setIfInBounds i true).setIfInBounds p true)).contains q && decide (Region.ready md ops (((listed.setIfInBounds i true).setIfInBounds p true).setIfInBounds q true) = [j]) &&
      Region.free md ops ((listed.setIfInBounds j true).setIfInBounds i true) p && (Region.ready md ops ((listed.setIfInBounds j true).setIfInBounds i true)).contains p &&
      Region.free md ops (((listed.setIfInBounds j true).setIfInBounds i true).setIfInBounds p true) q && (Region.ready md ops (((listed.setIfInBounds j true).setIfInBounds i true).setIfInBounds p true)).contains q &&
      oi.apart ops oj && op.apart ops oj && oq.apart ops oj && Region.noSelect ops && i != j && p != j && q != j) = true)
    (fn : FuncId) (args : Array Value) (u vp vq v : Value) (hwi : Region.wanted oi (yielded ops a.tmps) = true) (hwj : Region.wanted oj (yielded ops a.tmps) = true)
    (hri : ∀ W, (execOp a.eval oi).run P W = .ok (.enter fn args) W) (hc : ∀ W, S W → Calls P fn args W fun e W' => e = .returned u ∧ W' = W)
    (hyp : YieldsIf P ops S op vp (a.put oi.dst u)) (hyq : YieldsIf P ops S oq vq ((a.put oi.dst u).put op.dst vp))
    (hrj : (execOp a.eval oj).run P w = .ok (.value v) w') (hS : S w) (hS' : S w')
    (hQp : ∀ c a w, Q (.panic c) (a.put op.dst vp) w → Q (.panic c) a w) (hQq : ∀ c a w, Q (.panic c) (a.put oq.dst vq) w → Q (.panic c) a w)
    (h : wpAnyH P md ops Q S f ((((listed.setIfInBounds i true).setIfInBounds p true).setIfInBounds q true).setIfInBounds j true) ((((a.put oi.dst u).put op.dst vp).put oq.dst vq).put oj.dst v) w') : wpAnyH P md ops Q S (f + 1 + 1 + 1 + 1) listed a w := by
  simp only [Bool.and_eq_true, decide_eq_true_eq, bne_iff_ne, ne_eq] at hB
  obtain ⟨⟨⟨⟨⟨⟨⟨⟨⟨⟨⟨⟨⟨⟨⟨⟨⟨r0, r2⟩, f1⟩, c1⟩, f2⟩, c2⟩, r3⟩, f4⟩, c4⟩, f5⟩, c5⟩, api⟩, app⟩, apq⟩, hs⟩, nij⟩, npj⟩, nqj⟩ := hB
  obtain ⟨i1, i2, i3⟩ := Oper.apart_spec api
  obtain ⟨p1, p2, p3⟩ := Oper.apart_spec app
  obtain ⟨q1, q2, q3⟩ := Oper.apart_spec apq
  have sel : ∀ (k : Nat) (o : Oper), ops[k]? = some o → ∀ cs b, o.op ≠ .select cs b := fun k o hk cs b => Region.noSelect_spec hs k o cs b hk
  refine wpAnyH_all r0 (by simp) fun m hm => ?_
  simp only [List.mem_cons, List.not_mem_nil, or_false] at hm
  rcases hm with rfl | rfl
  · refine op_call hi hwi (hri w) (R := fun x W => x = u ∧ W = w) ((hc w hS).mono fun e W ⟨he, hw⟩ => ⟨u, he, rfl, hw⟩) _ _ rfl rfl ?_
    rintro _ _ ⟨rfl, rfl⟩
    refine ⟨hS, ?_⟩
    refine wpAnyH_take hp hs f1 c1 hQp hyp hS ?_
    refine wpAnyH_take hq hs f2 c2 hQq hyq hS ?_
    refine wpAnyH_all r3 (by simp) fun m hm => ?_
    obtain rfl : m = j := by simpa using hm
    refine op_run (u := v) (w' := w') hj ?_ ?_ _ _ rfl rfl ?_
    · rw [wanted_put oj _ oq.dst vq q1, wanted_put oj _ op.dst vp p1, wanted_put oj _ oi.dst _ i1]; exact hwj
    · rw [execOp_put oj (sel _ _ hj) _ oq.dst vq q1, execOp_put oj (sel _ _ hj) _ op.dst vp p1, execOp_put oj (sel _ _ hj) _ oi.dst _ i1]; exact hrj
    rintro _ _ ⟨rfl, rfl⟩
    exact ⟨hS', h⟩
  · refine op_run hj hwj hrj _ _ rfl rfl ?_
    rintro _ _ ⟨rfl, rfl⟩
    refine ⟨hS', ?_⟩
    refine wpAnyH_all r2 (by simp) fun k hm => ?_
    obtain rfl : k = i := by simpa using hm
    refine op_call hi ((wanted_put oi a oj.dst _ i3).trans hwi) (by rw [execOp_put oi (sel _ _ hi) a oj.dst _ i3]; exact hri _) (R := fun x W => x = u ∧ W = _) ((hc _ hS').mono fun e W ⟨he, hw⟩ => ⟨u, he, rfl, hw⟩) _ _ rfl rfl ?_
    rintro _ _ ⟨rfl, rfl⟩
    refine ⟨hS', ?_⟩
    rw [← Act.put_comm a _ _ i2]
    refine wpAnyH_take hp hs f4 c4 hQp (hyp.of_same (execOp_put op (sel _ _ hp) _ oj.dst _ p3) (wanted_put op _ oj.dst _ p3)) hS' ?_
    rw [← Act.put_comm _ _ _ p2]
    refine wpAnyH_take hq hs f5 c5 hQq (hyq.of_same (execOp_put oq (sel _ _ hq) _ oj.dst _ q3) (wanted_put oq _ oj.dst _ q3)) hS' ?_
    rw [← Act.put_comm _ _ _ q2]
    rw [Array.setIfInBounds_comm _ _ nqj, Array.setIfInBounds_comm _ _ npj, Array.setIfInBounds_comm _ _ nij] at h
    exact h
theorem ex_append2 {P : Program} {w w' : World} {o : Oper} {ρ : Operand → Value} (s x : Operand) (t t' : TypeId) (ho : o.op = .call { callee := .builtin .append, args := #[s, x], argTypes := #[t, t'] }) (v : Value)
    (hrun : (Builtin.append_ #[t, t'] o.type #[ρ s, ρ x]).run P w = .ok v w') : (execOp ρ o).run P w = .ok (.value v) w' := by
  unfold execOp
  simp only [ho, resolve, invoke, builtin, Sem.run_bind, Sem.run_pure, Result.andThen_ok, List.map_toArray, List.map_cons, List.map_nil, hrun]
/-- A text copied into bytes. -/
theorem run_copy_str {P : Program} (w : World) (dT sT ty elem : TypeId) (hu : P.underlying dT = some (.slice elem)) (hsz : (P.info? elem).map (·.size) = some 1)
    (b o dLen dCap : Nat) (xs : List UInt8) (hle : xs.length ≤ dLen) (h : w.there b o xs.length) :
    (Builtin.copy_ #[dT, sT] ty #[.slice (some ⟨b, o, none⟩) dLen dCap, St xs]).run P w = .ok (goInt xs.length) (w.setCells b o (xs.map B8)) := by
  have hst := run_storeCells_cells (P := P) b o (xs.map B8) 0 w (by simpa using fun j hj => (h j hj).1) (by simpa using fun j hj => (h j hj).2) (by
    intro v hv
    simp only [List.mem_map] at hv
    obtain ⟨u, _, rfl⟩ := hv
    rfl)
  have e1 : min xs.length dLen = xs.length := Nat.min_eq_left hle
  cases hq : P.info? elem with
  | none => simp [hq] at hsz
  | some i =>
    have hi : i.size = 1 := by simpa [hq] using hsz
    simp only [Builtin.copy_]
    simp [run_underlying hu, Builtin.lenOf, Builtin.firstCells, sizeOf, typeInfo, hq, hi, st_size, e1]
    rw [List.take_of_length_le (by simp)]
    exact (congrArg (fun r => r.andThen fun _ w' => Result.ok (goInt xs.length) w') hst).trans rfl
end Go.Proofs.Ytcldbgmbkcpdgaa.Ino
