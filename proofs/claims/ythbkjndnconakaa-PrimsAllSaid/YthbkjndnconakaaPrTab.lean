/-
  PrTab
-/
import Derived.Test.YthbkjndnconakaaPrPlain
import Derived.Test.YthbkjndnconakaaPrLow
import Derived.Test.YthbkjndnconakaaGT
import Derived.Test.YthbkjndnconakaaGA
namespace Go.Proofs.Ythbkjndnconakaa.Pr
open Go.RowKit
set_option linter.unusedVariables false
set_option linter.unusedSimpArgs false

def pcl (p : PV) : List Value := [St p.nm, .int .i64 (p.tk : Int), .int .i64 (p.la : Int), .bool (decide (0 < p.mj)), .bool (decide (p.mj = 2))]
def pv (p : PV) : Value := .agg (pcl p).toArray
def rcl (p : PV) : List Value := [St p.nm, .int .i64 (p.tk : Int), .int .i64 (p.la : Int), .int .i64 (p.mj : Int)]
def rv (p : PV) : Value := .agg (rcl p).toArray
def tabC : List Value := (prZ :: prL).flatMap pcl
def zerC : List Value := (List.replicate 142 prZ).flatMap pcl
def rowC : List Value := prL.flatMap rcl
def tabV : Value := .agg tabC.toArray
theorem tabC_len : tabC.length = 710 := by decide +kernel
theorem zerC_len : zerC.length = 710 := by decide +kernel
theorem rowC_len : rowC.length = 564 := by decide +kernel
theorem flat_at {α β : Type} (f : α → List β) (k : Nat) (hf : ∀ x, (f x).length = k) : ∀ (l : List α) (i : Nat) (x : α), l[i]? = some x → ((l.flatMap f).drop (i * k)).take k = f x
  | [], i, x, h => by cases h
  | y :: l, 0, x, h => by
    cases h
    rw [Nat.zero_mul, List.drop_zero, List.flatMap_cons, ← hf y, List.take_left']
    rfl
  | y :: l, i + 1, x, h => by
    have ih := flat_at f k hf l i x (by simpa using h)
    rw [List.flatMap_cons, show (i + 1) * k = (f y).length + i * k by rw [hf, Nat.succ_mul]; omega, List.drop_append]
    rw [List.drop_of_length_le (by omega), List.nil_append, show (f y).length + i * k - (f y).length = i * k by omega]
    exact ih
theorem prAt_get (n : Nat) (h : n < 142) : (prZ :: prL)[n]? = some (prAt n) := by
  unfold prAt
  rw [List.getD_eq_getElem?_getD]
  have : n < (prZ :: prL).length := by rw [List.length_cons, prL_len]; omega
  rw [List.getElem?_eq_getElem this]
  rfl
theorem prL_get (n : Nat) (h : n < 141) : prL[n]? = some (prAt (n + 1)) := by
  have := prAt_get (n + 1) (by omega)
  rwa [List.getElem?_cons_succ] at this
theorem one_pcl (l : List PV) : ((l.flatMap pcl).toArray).all Value.oneCell' = true := by
  simp only [List.all_toArray', List.all_flatMap]
  simp [pcl, Value.oneCell']

/-- The second region of a function. -/
def ops1 (fn : Func) : List Oper := match fn.body with
  | some (.seq _ (.seq (.region _ ops _) _)) => ops.toList
  | _ => []
def ops0 (fn : Func) : List Oper := match fn.body with
  | some (.seq (.region _ ops _) _) => ops.toList
  | _ => []
/-! ### the code's -/
theorem wpList_store_run {P : Program} {w w' : World} {ops : Array Oper} {rest : List Oper} {o : Oper} {a : Act} {Q : Exit → Act → World → Prop} (hgd : o.guard = none) (t : TypeId) (x y : Operand) (ho : o.op = .store t x y) (p v : Value) (hp : a.eval x = p) (hv : a.eval y = v)
    (hrun : (Instr.storeAt t p v).run P w = .ok () w') (h : wpList P ops Q rest (a.put o.dst undef) w') : wpList P ops Q (o :: rest) a w :=
  wpList_plain hgd fun _ hK => by
    unfold Oper.wp execOp
    simp only [ho, hp, hv, Sem.run_bind, hrun, Result.andThen_ok, Sem.run_pure]
    exact hK _ _ h
theorem size_t : (Try.prog.info? 37).map (·.size) = some 710 := by kernel_rfl
theorem size_p : (Try.prog.info? 24).map (·.size) = some 5 := by kernel_rfl
theorem allocRun (w : World) {a : Act} : (execOp (Act.eval a) ((ops0 Try.f20).headD default)).run Try.prog w = .ok (.value (.pointer (some ⟨w.heap.size, 0, none⟩))) (w.alloc (.cells zerC.toArray 37)) := by kernel_rfl
theorem storeT (w : World) : (Instr.storeAt 37 (.pointer (some ⟨w.heap.size, 0, none⟩)) tabV).run Try.prog (w.alloc (.cells zerC.toArray 37)) = .ok () ((w.alloc (.cells zerC.toArray 37)).setCells w.heap.size 0 tabC) := by
  have hh := heap_alloc_new w (.cells zerC.toArray 37)
  have := run_storeAt_mid (P := Try.prog) (w.alloc (.cells zerC.toArray 37)) w.heap.size 0 37 tabC.toArray (there_cells (zs := zerC) hh 0 _ (by rw [zerC_len]; simp [tabC_len])) (by rw [size_t, List.size_toArray, tabC_len]) (one_pcl _)
  simpa [tabV] using this
/-- One result, which lies in cells. -/
theorem results_row1 {P : Program} {fn : Func} {p : Tmp} {ty : TypeId} (h : fn.results = #[.cell p ty]) (tmps : Array Value) (w : World) (g : Nat) (t : TypeId) (cs : Array Value) (fr : Nat × Nat) (d : TypeDesc)
    (hp : tmps.getD p undef = .pointer (some ⟨g, 0, none⟩)) (hg : w.heap[g]? = some (.cells cs t fr))
    (hu : P.underlying ty = some d) (hd : (match d with | .struct _ | .array _ _ => true | _ => false) = true) (hi : (P.info? ty).map (·.size) = some cs.size) :
    (results fn tmps).run P w = .ok (.agg cs) w := by
  have hp' : tmps[p]?.getD undef = .pointer (some ⟨g, 0, none⟩) := by simpa using hp
  simp [results, h, hp', asAddr, run_loadVar_row w g t ty cs fr d hg hu hd hi]

/-! ### many operations at once -/
def putAll : List Oper → List Value → Act → Act
  | o :: os, v :: vs, a => putAll os vs (a.put o.dst v)
  | _, _, a => a
theorem wpList_many {P : Program} {ops : Array Oper} {Q : Exit → Act → World → Prop} {rest : List Oper} {w : World} : ∀ (os : List Oper) (vs : List Value) (a : Act), os.all (fun o => o.guard.isNone) = true →
    (∀ a w, os.map (fun o => (execOp (Act.eval a) o).run P w) = vs.map (fun v => Result.ok (Next.value v) w)) → wpList P ops Q rest (putAll os vs a) w → wpList P ops Q (os ++ rest) a w
  | [], [], a, _, _, h => h
  | [], v :: vs, a, _, hr, h => by have := hr a w; cases this
  | o :: os, [], a, _, hr, h => by have := hr a w; cases this
  | o :: os, v :: vs, a, hg, hr, h => by
    have h1 : o.guard = none := by simp at hg; exact hg.1
    refine wpList_val (by simp [Region.wanted, h1]) v ?_ (wpList_many os vs _ (by simp at hg ⊢; exact hg.2) (fun a w => ?_) h)
    · have := hr a w
      simp only [List.map_cons, List.cons.injEq] at this
      exact this.1
    · have := hr a w
      simp only [List.map_cons, List.cons.injEq] at this
      exact this.2

noncomputable def tabO : List Oper := (ops1 Try.f20).take 141
noncomputable def tabE : List Oper := (ops1 Try.f20).drop 141
noncomputable def refO : List Oper := (ops1 Try.f21).take 141
noncomputable def refE : List Oper := (ops1 Try.f21).drop 141
theorem tab_body : Try.f20.body = some ((Code.region 0 (ops0 Try.f20).toArray false).seq ((Code.region 1 (tabO ++ tabE).toArray false).seq .ret)) := by kernel_rfl
theorem ref_body : Try.f21.body = some ((Code.region 0 (ops0 Try.f21).toArray false).seq ((Code.region 1 (refO ++ refE).toArray false).seq .ret)) := by kernel_rfl
theorem tab_ops (a : Act) (w : World) : tabO.map (fun o => (execOp (Act.eval a) o).run Try.prog w) = (prL.map pv).map (fun v => Result.ok (Next.value v) w) := by kernel_rfl
theorem ref_ops (a : Act) (w : World) : refO.map (fun o => (execOp (Act.eval a) o).run Try.prog w) = (prL.map rv).map (fun v => Result.ok (Next.value v) w) := by kernel_rfl
theorem tab_grd : tabO.all (fun o => o.guard.isNone) = true := by kernel_rfl
theorem ref_grd : refO.all (fun o => o.guard.isNone) = true := by kernel_rfl
theorem cast_act {P : Program} {ops : Array Oper} {Q : Exit → Act → World → Prop} {l : List Oper} {a a' : Act} {w : World} (e : a = a') (h : wpList P ops Q l a' w) : wpList P ops Q l a w := by rw [e]; exact h
/-- What stands in the slots behind both. -/
noncomputable def actT (w : World) : Act := putAll tabO (prL.map pv) { tmps := (Array.replicate 143 undef).setIfInBounds 0 (.pointer (some ⟨w.heap.size, 0, none⟩)), defers := [] }
noncomputable def actR : Act := putAll refO (prL.map rv) { tmps := (Array.replicate 143 undef).setIfInBounds 0 (.slice none 0 0), defers := [] }
theorem tab_end (w : World) (ops : Array Oper) (Q : Exit → Act → World → Prop) (h : Q .normal ((actT w).put (some 142) tabV) ((w.alloc (.cells zerC.toArray 37)).setCells w.heap.size 0 tabC)) :
    wpList Try.prog ops Q tabE (actT w) (w.alloc (.cells zerC.toArray 37)) := by
  refine wpList_val (o := tabE.headD default) (rest := tabE.drop 1) (w' := w.alloc (.cells zerC.toArray 37)) (by kernel_rfl) tabV (by kernel_rfl) ?_
  refine wpList_store_run (o := (tabE.drop 1).headD default) (rest := []) (by kernel_rfl) 37 (.tmp 0) (.tmp 142) (by kernel_rfl) (.pointer (some ⟨w.heap.size, 0, none⟩)) tabV (by kernel_rfl) (by kernel_rfl) (storeT w) ?_
  exact cast_act (a' := (actT w).put (some 142) tabV) (by kernel_rfl) h
theorem ref_end (w : World) (ops : Array Oper) (Q : Exit → Act → World → Prop) (h : Q .normal ((actR.put (some 142) (.slice (some ⟨w.heap.size, 0, none⟩) 141 141)).put (some 0) (.slice (some ⟨w.heap.size, 0, none⟩) 141 141)) (w.alloc (.cells rowC.toArray 42))) :
    wpList Try.prog ops Q refE actR w := by
  refine wpList_val (o := refE.headD default) (rest := refE.drop 1) (by kernel_rfl) (.slice (some ⟨w.heap.size, 0, none⟩) 141 141) (w' := w.alloc (.cells rowC.toArray 42)) (by kernel_rfl) ?_
  refine wpList_val (o := (refE.drop 1).headD default) (rest := []) (w' := w.alloc (.cells rowC.toArray 42)) (by kernel_rfl) (.slice (some ⟨w.heap.size, 0, none⟩) 141 141) (by kernel_rfl) ?_
  exact cast_act (a' := (actR.put (some 142) (.slice (some ⟨w.heap.size, 0, none⟩) 141 141)).put (some 0) (.slice (some ⟨w.heap.size, 0, none⟩) 141 141)) (by kernel_rfl) h
theorem table_any (w : World) : Calls Try.prog 20 #[] w fun e w' => e = .returned tabV ∧ Below w.heap.size w w' := by
  have hk := setCells_cells (ys := tabC) (heap_alloc_new w (.cells zerC.toArray 37)) (by rw [tabC_len, zerC_len])
  have hb : Below w.heap.size w ((w.alloc (.cells zerC.toArray 37)).setCells w.heap.size 0 tabC) := hk.2.old ((Below.refl _ w).alloc (Nat.le_refl _) _) (Nat.le_refl _)
  refine calls_of_wp Try.func20 tab_body ?_
  refine wp_seq (wp_region_lit (l := ops0 Try.f20) (wpList_val (o := (ops0 Try.f20).headD default) (rest := []) (by kernel_rfl) _ (allocRun w) (wpList_nil ?_)))
  refine wp_seq (wp_region_lit (wpList_many tabO (prL.map pv) _ tab_grd tab_ops ?_))
  refine cast_act (a' := actT w) (by kernel_rfl) (tab_end w _ _ (wp_ret ?_))
  refine ⟨by kernel_rfl, tabV, ?_, rfl, hb⟩
  exact results_row1 (p := 0) (by kernel_rfl) _ _ w.heap.size 37 _ (0, 0) _ (by kernel_rfl) hk.1 Try.underlying37 rfl (by rw [size_t, List.size_toArray, tabC_len])
theorem rtable_any (w : World) : Calls Try.prog 21 #[] w fun e w' => e = .returned (.slice (some ⟨w.heap.size, 0, none⟩) 141 141) ∧ w' = w.alloc (.cells rowC.toArray 42) := by
  refine calls_of_wp Try.func21 ref_body ?_
  refine wp_seq (wp_region_lit (l := ops0 Try.f21) (wpList_val (o := (ops0 Try.f21).headD default) (rest := []) (w' := w) (by kernel_rfl) (.slice none 0 0) (by kernel_rfl) (wpList_nil ?_)))
  refine wp_seq (wp_region_lit (wpList_many refO (prL.map rv) _ ref_grd ref_ops ?_))
  refine cast_act (a' := actR) (by kernel_rfl) (ref_end w _ _ (wp_ret ?_))
  refine ⟨by kernel_rfl, .slice (some ⟨w.heap.size, 0, none⟩) 141 141, by kernel_rfl, rfl, rfl⟩
end Go.Proofs.Ythbkjndnconakaa.Pr
