/-
  Merged by wip/tools/merge.py: Tail Ops Both HeldLaws
-/
import Derived.StillTail
import Derived.RegionTactic
import Derived.KernelRfl
import Derived.Test.YthmlhjjcihibnaaGA
import Derived.Deep.MidRow
import Derived.Deep.WholeRow
import Derived.Laws.StructEq
import Derived.Lib.Hide
import Derived.OrdersHeld
namespace Go.Proofs.Ythmlhjjcihibnaa

section
variable {P : Program} {ops : Array Oper} {md : Region.Mode} {w : World}

/-- Does operation t wait, be it through others, for operation i? -/
def reaches (md : Region.Mode) (ops : Array Oper) (i : Nat) : Nat → Nat → Bool
  | 0, _ => false
  | f + 1, t => match ops[t]? with
    | some o => o.after.any fun e => Region.binds md e && (e.on == i || reaches md ops i f e.on)
    | none => false

def Shut (md : Region.Mode) (ops : Array Oper) (listed : Array Bool) : Prop :=
  listed.size = ops.size ∧ ∀ j oj, ops[j]? = some oj → listed.getD j false = true → ∀ e ∈ oj.after, Region.binds md e = true → listed.getD e.on false = true

theorem Shut.set {listed : Array Bool} (h : Shut md ops listed) {i : Nat} (hi : i ∈ Region.ready md ops listed) : Shut md ops (listed.setIfInBounds i true) := by
  obtain ⟨_, oi, hoi, hall⟩ := mem_ready.1 hi
  refine ⟨by simp [h.1], fun j oj hj hl e he hb => ?_⟩
  by_cases hij : i = j
  · subst hij
    obtain rfl : oj = oi := Option.some.inj (hj.symm.trans hoi)
    exact getD_set_true (hall e he hb)
  · rw [getD_set_ne false hij] at hl
    exact getD_set_true (h.2 j oj hj hl e he hb)

theorem reaches_waits {listed : Array Bool} (h : Shut md ops listed) {i : Nat} (hi : listed.getD i false = false) : ∀ (f t : Nat), reaches md ops i f t = true → ∃ o, ops[t]? = some o ∧ ∃ e ∈ o.after, Region.binds md e = true ∧ listed.getD e.on false = false
  | 0, _, hr => by cases hr
  | f + 1, t, hr => by
    unfold reaches at hr
    split at hr
    · rename_i o ho
      obtain ⟨e, he, hb⟩ := Array.any_eq_true'.1 hr
      simp only [Bool.and_eq_true, Bool.or_eq_true, beq_iff_eq] at hb
      refine ⟨o, ho, e, he, hb.1, ?_⟩
      rcases hb.2 with h1 | h1
      · rw [h1]; exact hi
      · obtain ⟨o', ho', e', he', hb', hun⟩ := reaches_waits h hi f e.on h1
        cases hl : listed.getD e.on false with
        | false => rfl
        | true => rw [h.2 _ _ ho' hl e' he' hb'] at hun; cases hun
    · cases hr
theorem reaches_not_ready {listed : Array Bool} (h : Shut md ops listed) {i : Nat} (hi : listed.getD i true = false) {f t : Nat} (hr : reaches md ops i f t = true) : t ∉ Region.ready md ops listed := by
  intro ht
  obtain ⟨_, o, ho, hall⟩ := mem_ready.1 ht
  obtain ⟨o', ho', e, he, hb, hun⟩ := reaches_waits h (getD_both hi) f t hr
  obtain rfl : o = o' := Option.some.inj (ho.symm.trans ho')
  rw [hall e he hb] at hun
  cases hun

/-- Whatever order: only readers come up, till L. -/
def wpReads (P : Program) (md : Region.Mode) (ops : Array Oper) (w : World) (hd : List Nat) (L : Array Bool → Act → Prop) : Nat → Array Bool → Act → Prop
  | 0, listed, a => L listed a
  | f + 1, listed, a => Region.ready md ops listed ≠ [] ∧ ∀ i ∈ Region.ready md ops listed, i ∈ hd ∧ stOp P ops w i (wpReads P md ops w hd L f (listed.setIfInBounds i true)) a

theorem wpAny_of_reads {g : Nat} {hd : List Nat} {L : Array Bool → Act → Prop} {Q' : Exit → Act → World → Prop} (hL : ∀ listed a, L listed a → wpAny P md ops Q' g listed a w) :
    ∀ (f : Nat) (listed : Array Bool) (a : Act), wpReads P md ops w hd L f listed a → wpAny P md ops Q' (f + g) listed a w
  | 0, listed, a, h => by rw [Nat.zero_add]; exact hL _ _ h
  | f + 1, listed, a, h => by
    rw [show f + 1 + g = (f + g) + 1 by omega]
    exact ⟨fun h0 => absurd h0 h.1, fun i hi => wpOp_of_stOp (fun a' h' => wpAny_of_reads hL f _ a' h') (h.2 i hi).2⟩

theorem reads_first {hd : List Nat} {i : Nat} {oi : Oper} {v : Value} {L : Array Bool → Act → Prop} (hi : ops[i]? = some oi) (hsel : ∀ (j : Nat) (o : Oper) cs b, ops[j]? = some o → o.op ≠ .select cs b)
    (hin : i ∈ hd) (hdone : ∀ listed a, L listed a → ∀ j ∈ Region.ready md ops listed, j ∉ hd) :
    ∀ (f : Nat) (listed : Array Bool) (a : Act), Shut md ops listed → (∀ t, t ∉ hd → listed.getD t true = false → reaches md ops i ops.size t = true) →
      (∀ j oj, ops[j]? = some oj → j ≠ i → listed.getD j true = false → (∀ e ∈ oj.after, Region.binds md e = true → e.on ≠ i) → oi.apart ops oj = true) →
      i ∈ Region.ready md ops listed → YieldsAt P ops w oi v a →
      wpReads P md ops w hd L f (listed.setIfInBounds i true) (a.put oi.dst v) → wpReads P md ops w hd L (f + 1) listed a := by
  intro f
  induction f with
  | zero =>
    intro listed a sh hre _ hr hy H
    have hun := (mem_ready.1 hr).1
    refine ⟨fun h => (by rw [h] at hr; cases hr), fun j hj => ?_⟩
    have hjd : j ∈ hd := Classical.byContradiction fun hn => reaches_not_ready sh hun (hre j hn (mem_ready.1 hj).1) hj
    refine ⟨hjd, ?_⟩
    by_cases hji : j = i
    · subst hji; exact hy.stOp hi H
    · exact absurd hjd (hdone _ _ H j (ready_mono hj hji))
  | succ f ih =>
    intro listed a sh hre hfree hr hy H
    have hun := (mem_ready.1 hr).1
    refine ⟨fun h => (by rw [h] at hr; cases hr), fun j hj => ?_⟩
    have hjd : j ∈ hd := Classical.byContradiction fun hn => reaches_not_ready sh hun (hre j hn (mem_ready.1 hj).1) hj
    refine ⟨hjd, ?_⟩
    by_cases hji : j = i
    · subst hji; exact hy.stOp hi H
    · have h1 := (H.2 j (ready_mono hj hji)).2
      obtain ⟨hjun, oj, hoj, hall⟩ := mem_ready.1 hj
      have hnot : ∀ e ∈ oj.after, Region.binds md e = true → e.on ≠ i := fun e he hb heq => by
        have h1 := hall e he hb
        rw [heq, getD_both hun] at h1
        cases h1
      have h2 := stOp_put hoj (hfree j oj hoj hji hjun hnot) (fun cs b => hsel i oi cs b hi) (fun cs b => hsel j oj cs b hoj) hy h1
      have less : ∀ k, (listed.setIfInBounds j true).getD k true = false → listed.getD k true = false := fun k hun => by
        by_cases hjk : j = k
        · subst hjk; exact hjun
        · rw [getD_set_ne true hjk] at hun; exact hun
      refine stOp_mono (fun a' h3 => ih (listed.setIfInBounds j true) a' (sh.set hj) (fun t ht hu => hre t ht (less t hu)) (fun k ok hk hki hu hno => hfree k ok hk hki (less k hu) hno) (ready_mono hr (Ne.symm hji)) h3.1 ?_) h2
      rw [Array.setIfInBounds_comm _ _ hji]
      exact h3.2

/-- The readers in the order hd, by the base's own Bools. -/
def readsB (md : Region.Mode) (ops : Array Oper) (hd : List Nat) (T : List Nat) : List Nat → Array Bool → Bool
  | [], listed => chainB T listed && (Region.ready md ops listed).all fun j => !hd.contains j
  | i :: r, listed => hd.contains i && (Region.ready md ops listed).contains i && Region.free md ops listed i && ((List.range ops.size).all fun t => hd.contains t || listed.getD t true || reaches md ops i ops.size t) && readsB md ops hd T r (listed.setIfInBounds i true)
where chainB : List Nat → Array Bool → Bool
  | [], listed => (Region.ready md ops listed).isEmpty
  | t :: r, listed => decide (Region.ready md ops listed = [t]) && chainB r (listed.setIfInBounds t true)

theorem wpAny_of_chain {Q' : Exit → Act → World → Prop} : ∀ (T : List Nat) (lt : List Oper) (listed : Array Bool) (a : Act) (w : World), T.map (fun i => ops[i]?) = lt.map some →
    readsB.chainB md ops T listed = true → wpList P ops Q' lt a w → wpAny P md ops Q' T.length listed a w
  | [], [], _, _, _, _, hB, h => ⟨by simpa [readsB.chainB] using hB, h⟩
  | [], _ :: _, _, _, _, hl, _, _ => by cases hl
  | _ :: _, [], _, _, _, hl, _, _ => by cases hl
  | t :: T, o :: lt, listed, a, w, hl, hB, h => by
    simp only [List.map_cons, List.cons.injEq] at hl
    simp only [readsB.chainB, Bool.and_eq_true, decide_eq_true_eq] at hB
    refine ⟨fun h1 => (by rw [hB.1] at h1; cases h1), fun i hi => ?_⟩
    rw [hB.1] at hi
    obtain rfl : i = t := by simpa using hi
    have hw : wpOp P ops Q' i (wpList P ops Q' lt) a w := by unfold wpOp; simp only [hl.1]; exact h
    exact wpOp_mono (fun a' w' h' => wpAny_of_chain T lt _ a' w' hl.2 hB.2 h') hw

theorem reads_lex {hd T : List Nat} {Lq : Act → Prop} (hsel : Region.noSelect ops = true) : ∀ (r : List Nat) (lr : List Oper) (listed : Array Bool) (a : Act), r.map (fun i => ops[i]?) = lr.map some → Shut md ops listed → readsB md ops hd T r listed = true → wpStill P ops w Lq lr a →
    wpReads P md ops w hd (fun listed' a' => (readsB.chainB md ops T listed' = true ∧ ∀ j ∈ Region.ready md ops listed', j ∉ hd) ∧ Lq a') r.length listed a
  | [], [], listed, a, _, _, hB, h => by
    simp only [readsB, Bool.and_eq_true, List.all_eq_true, Bool.not_eq_true', List.contains_eq_mem, decide_eq_false_iff_not] at hB
    exact ⟨hB, h⟩
  | [], _ :: _, _, _, hl, _, _, _ => by cases hl
  | _ :: _, [], _, _, hl, _, _, _ => by cases hl
  | i :: r, o :: lr, listed, a, hl, sh, hB, h => by
    simp only [List.map_cons, List.cons.injEq] at hl
    simp only [readsB, Bool.and_eq_true] at hB
    obtain ⟨⟨⟨⟨hin, hr⟩, hf⟩, hre⟩, hB'⟩ := hB
    have hr' : i ∈ Region.ready md ops listed := by simpa using hr
    have hst : stOp P ops w i (wpStill P ops w Lq lr) a := by unfold stOp; simp only [hl.1]; exact h
    obtain ⟨v, hy, hK⟩ := yieldsAt_of_stOp hl.1 hst
    refine reads_first hl.1 (Region.noSelect_spec hsel) (by simpa using hin) (fun _ _ hL => hL.1.2) r.length listed a sh (fun t ht hu => ?_) (Region.free_spec hl.1 hf) hr' hy
      (reads_lex hsel r lr _ _ hl.2 (sh.set hr') hB' hK)
    have hts : t < ops.size := by
      rcases Nat.lt_or_ge t ops.size with h' | h'
      · exact h'
      · rw [← sh.1] at h'
        simp [Array.getElem?_eq_none h'] at hu
    have h1 := List.all_eq_true.1 hre t (List.mem_range.2 hts)
    rw [hu] at h1
    simpa [ht] using h1

/-- Shut, by a Bool. -/
def shutB (md : Region.Mode) (ops : Array Oper) (listed : Array Bool) : Bool :=
  listed.size == ops.size && (List.range ops.size).all fun j => !listed.getD j false || match ops[j]? with
    | some oj => oj.after.all fun e => !Region.binds md e || listed.getD e.on false
    | none => true
theorem shut_of {listed : Array Bool} (h : shutB md ops listed = true) : Shut md ops listed := by
  simp only [shutB, Bool.and_eq_true, beq_iff_eq, List.all_eq_true, List.mem_range, Bool.or_eq_true, Bool.not_eq_true'] at h
  refine ⟨h.1, fun j oj hj hl e he hb => ?_⟩
  rcases h.2 j (Array.getElem?_eq_some_iff.1 hj).1 with h1 | h1
  · rw [hl] at h1; cases h1
  · simp only [hj] at h1
    have h2 := Array.all_eq_true_iff_forall_mem.1 h1 e he
    simpa [hb] using h2

/-- From any point on: the readers hd, then the chain T. -/
theorem wpAny_tail {Q' : Exit → Act → World → Prop} {listed : Array Bool} {a : Act} {n : Nat} (hd T : List Nat) (lr lt : List Oper) (hn : n = hd.length + T.length) (h1 : hd.map (fun i => ops[i]?) = lr.map some) (h2 : T.map (fun i => ops[i]?) = lt.map some)
    (hB : (Region.noSelect ops && shutB md ops listed && readsB md ops hd T hd listed) = true)
    (h : wpStill P ops w (fun a' => wpList P ops Q' lt a' w) lr a) : wpAny P md ops Q' n listed a w := by
  subst hn
  simp only [Bool.and_eq_true] at hB
  exact wpAny_of_reads (fun listed' a' hL => wpAny_of_chain T lt listed' a' w h2 hL.1.1 hL.2) hd.length listed a (reads_lex hB.1.1 hd lr listed a h1 (shut_of hB.1.2) hB.2 h)

/-- A read (number i) that may come up at any time while others, one behind the other, come up: it yields the same in each of their worlds. -/
inductive Late (P : Program) (md : Region.Mode) (ops : Array Oper) (Q : Exit → Act → World → Prop) (i : Nat) (oi : Oper) (v : Value) : Nat → Array Bool → Act → World → Prop
  | done {f : Nat} {listed : Array Bool} {a : Act} {w : World} (hr : Region.ready md ops listed = [i]) (hy : YieldsAt P ops w oi v a) (h : wpAny P md ops Q f (listed.setIfInBounds i true) (a.put oi.dst v) w) : Late P md ops Q i oi v (f + 1) listed a w
  | step {f : Nat} {listed : Array Bool} {a : Act} {w w' : World} (m : Nat) (om : Oper) (u : Value) (hm : ops[m]? = some om)
      (hB : ((Region.ready md ops listed).all (fun j => j == i || j == m) && !(Region.ready md ops listed).isEmpty && decide (Region.ready md ops (listed.setIfInBounds i true) = [m]) && oi.apart ops om && Region.noSelect ops && i != m) = true)
      (hy : YieldsAt P ops w oi v a) (hw : Region.wanted om (yielded ops a.tmps) = true) (hrun : (execOp a.eval om).run P w = .ok (.value u) w') (h : Late P md ops Q i oi v f (listed.setIfInBounds m true) (a.put om.dst u) w') : Late P md ops Q i oi v (f + 1) listed a w
  | call {f : Nat} {listed : Array Bool} {a : Act} {w : World} (m : Nat) (om : Oper) (u : Value) (fn : FuncId) (args : Array Value) (hm : ops[m]? = some om)
      (hB : ((Region.ready md ops listed).all (fun j => j == i || j == m) && !(Region.ready md ops listed).isEmpty && decide (Region.ready md ops (listed.setIfInBounds i true) = [m]) && oi.apart ops om && Region.noSelect ops && i != m) = true)
      (hy : YieldsAt P ops w oi v a) (hw : Region.wanted om (yielded ops a.tmps) = true) (hrun : (execOp a.eval om).run P w = .ok (.enter fn args) w) (hc : Calls P fn args w fun e w'' => e = .returned u ∧ w = w'') (h : Late P md ops Q i oi v f (listed.setIfInBounds m true) (a.put om.dst u) w) : Late P md ops Q i oi v (f + 1) listed a w

theorem wpOp_call {Q' : Exit → Act → World → Prop} {K : Act → World → Prop} {m : Nat} {om : Oper} {a : Act} {w : World} {u : Value} {fn : FuncId} {args : Array Value} (hm : ops[m]? = some om) (hw : Region.wanted om (yielded ops a.tmps) = true) (hrun : (execOp a.eval om).run P w = .ok (.enter fn args) w)
    (hc : Calls P fn args w fun e w'' => e = .returned u ∧ w = w'') (h : K (a.put om.dst u) w) : wpOp P ops Q' m K a w := by
  unfold wpOp
  simp only [hm, hw, if_true]
  left
  unfold Oper.wp
  rw [hrun]
  refine Calls.mono hc ?_
  rintro e w'' ⟨rfl, rfl⟩
  exact h
theorem wpOp_run {Q' : Exit → Act → World → Prop} {K : Act → World → Prop} {m : Nat} {om : Oper} {a : Act} {w w' : World} {u : Value} (hm : ops[m]? = some om) (hw : Region.wanted om (yielded ops a.tmps) = true) (hrun : (execOp a.eval om).run P w = .ok (.value u) w') (h : K (a.put om.dst u) w') :
    wpOp P ops Q' m K a w := by
  unfold wpOp
  simp only [hm, hw, if_true]
  left
  unfold Oper.wp
  rw [hrun]
  exact h
theorem wpOp_yields {Q' : Exit → Act → World → Prop} {K : Act → World → Prop} {m : Nat} {om : Oper} {a : Act} {w : World} {u : Value} (hm : ops[m]? = some om) (hy : YieldsAt P ops w om u a) (h : K (a.put om.dst u) w) : wpOp P ops Q' m K a w :=
  wpOp_of_stOp (K := fun a' => K a' w) (fun _ h => h) (hy.stOp hm h)

theorem Late.first {Q' : Exit → Act → World → Prop} {i : Nat} {oi : Oper} {v : Value} (hi : ops[i]? = some oi) : ∀ {f : Nat} {listed : Array Bool} {a : Act} {w : World}, Late P md ops Q' i oi v (f + 1) listed a w → wpAny P md ops Q' f (listed.setIfInBounds i true) (a.put oi.dst v) w
  | f, listed, a, w, h => by
    cases h with
    | done hr hy h => exact h
    | step m om u hm hB hy hw hrun h =>
      simp only [Bool.and_eq_true, decide_eq_true_eq] at hB
      obtain ⟨⟨⟨⟨⟨_, _⟩, hr⟩, hap⟩, hs⟩, hne⟩ := hB
      obtain ⟨h1, h2, h3⟩ := Oper.apart_spec hap
      cases f with
      | zero => cases h
      | succ f =>
        have H := Late.first hi h
        refine ⟨fun h0 => (by rw [hr] at h0; cases h0), fun j hj => ?_⟩
        rw [hr] at hj
        obtain rfl : j = m := by simpa using hj
        refine wpOp_run hm (by rw [wanted_put om a oi.dst v h1]; exact hw) (by rw [execOp_put om (fun cs b => Region.noSelect_spec hs j om cs b hm) a oi.dst v h1]; exact hrun) ?_
        rw [Act.put_comm a v u h2, Array.setIfInBounds_comm _ _ (by simpa using hne)]
        exact H
    | call m om u fn args hm hB hy hw hrun hc h =>
      simp only [Bool.and_eq_true, decide_eq_true_eq] at hB
      obtain ⟨⟨⟨⟨⟨_, _⟩, hr⟩, hap⟩, hs⟩, hne⟩ := hB
      obtain ⟨h1, h2, h3⟩ := Oper.apart_spec hap
      cases f with
      | zero => cases h
      | succ f =>
        have H := Late.first hi h
        refine ⟨fun h0 => (by rw [hr] at h0; cases h0), fun j hj => ?_⟩
        rw [hr] at hj
        obtain rfl : j = m := by simpa using hj
        refine wpOp_call hm (by rw [wanted_put om a oi.dst v h1]; exact hw) (by rw [execOp_put om (fun cs b => Region.noSelect_spec hs j om cs b hm) a oi.dst v h1]; exact hrun) hc ?_
        rw [Act.put_comm a v u h2, Array.setIfInBounds_comm _ _ (by simpa using hne)]
        exact H
theorem Late.any {Q' : Exit → Act → World → Prop} {i : Nat} {oi : Oper} {v : Value} (hi : ops[i]? = some oi) {f : Nat} {listed : Array Bool} {a : Act} {w : World} (h : Late P md ops Q' i oi v f listed a w) : wpAny P md ops Q' f listed a w := by
  induction h with
  | done hr hy h =>
    refine ⟨fun h0 => (by rw [hr] at h0; cases h0), fun j hj => ?_⟩
    rw [hr] at hj
    obtain rfl : j = i := by simpa using hj
    exact wpOp_yields hi hy h
  | step m om u hm hB hy hw hrun h ih =>
    have hF := Late.first hi (Late.step m om u hm hB hy hw hrun h)
    simp only [Bool.and_eq_true, decide_eq_true_eq, List.all_eq_true, Bool.or_eq_true, beq_iff_eq, Bool.not_eq_true', List.isEmpty_eq_false_iff] at hB
    obtain ⟨⟨⟨⟨⟨hall, hne0⟩, hr⟩, hap⟩, hs⟩, hne⟩ := hB
    refine ⟨fun h0 => absurd h0 hne0, fun j hj => ?_⟩
    rcases hall j hj with rfl | rfl
    · exact wpOp_yields hi hy hF
    · exact wpOp_run hm hw hrun ih
  | call m om u fn args hm hB hy hw hrun hc h ih =>
    have hF := Late.first hi (Late.call m om u fn args hm hB hy hw hrun hc h)
    simp only [Bool.and_eq_true, decide_eq_true_eq, List.all_eq_true, Bool.or_eq_true, beq_iff_eq, Bool.not_eq_true', List.isEmpty_eq_false_iff] at hB
    obtain ⟨⟨⟨⟨⟨hall, hne0⟩, hr⟩, hap⟩, hs⟩, hne⟩ := hB
    refine ⟨fun h0 => absurd h0 hne0, fun j hj => ?_⟩
    rcases hall j hj with rfl | rfl
    · exact wpOp_yields hi hy hF
    · exact wpOp_call hm hw hrun hc ih
end

/-! ### an operation's run -/
theorem ex_load {P : Program} {w w' : World} {o : Oper} {ρ : Operand → Value} (t : TypeId) (x : Operand) (ho : o.op = .load t x) (p v : Value) (hp : ρ x = p) (hrun : (Instr.loadAt t p).run P w = .ok v w') : (execOp ρ o).run P w = .ok (.value v) w' := by
  unfold execOp
  simp only [ho, hp, Sem.run_bind, hrun, Result.andThen_ok, Sem.run_pure]
theorem ex_buildSlice {P : Program} {w w' : World} {o : Oper} {ρ : Operand → Value} (t : TypeId) (x : Operand) (ho : o.op = .buildSlice t 1 #[(0, x)]) (y v : Value) (hy : ρ x = y) (hrun : (Instr.buildSlice t 1 #[(0, y)]).run P w = .ok v w') : (execOp ρ o).run P w = .ok (.value v) w' := by
  unfold execOp
  simp only [ho, Sem.run_bind, List.map_toArray, List.map_cons, List.map_nil, hy, hrun, Result.andThen_ok, Sem.run_pure]
theorem yields_load {P : Program} {w : World} {ops : Array Oper} {o : Oper} {a : Act} (hw : Region.wanted o (yielded ops a.tmps) = true) (t : TypeId) (x : Operand) (ho : o.op = .load t x) (p v : Value) (hp : a.eval x = p) (hrun : (Instr.loadAt t p).run P w = .ok v w) : YieldsAt P ops w o v a :=
  Or.inl ⟨hw, Or.inl (ex_load t x ho p v hp hrun)⟩
end Go.Proofs.Ythmlhjjcihibnaa
namespace Go.Proofs.Ythmlhjjcihibnaa
open Go.RowKit

section
variable {P : Program} {w w' : World} {ops : Array Oper} {rest : List Oper} {o : Oper} {a : Act} {Q : Exit → Act → World → Prop}
theorem wpList_val (hw : Region.wanted o (yielded ops a.tmps) = true) (v : Value) (hrun : (execOp a.eval o).run P w = .ok (.value v) w') (h : wpList P ops Q rest (a.put o.dst v) w') : wpList P ops Q (o :: rest) a w := by
  unfold wpList
  rw [if_pos hw]
  left
  unfold Oper.wp
  rw [hrun]
  exact h
theorem wpList_unit (hw : Region.wanted o (yielded ops a.tmps) = true) (hrun : (execOp a.eval o).run P w = .ok .skip w') (h : wpList P ops Q rest (a.put o.dst undef) w') : wpList P ops Q (o :: rest) a w := by
  unfold wpList
  rw [if_pos hw]
  left
  unfold Oper.wp
  rw [hrun]
  exact h
/-- A mark at an operation: the goal as it was. -/
theorem at_ {op : Op} {d : Option Tmp} {ty : TypeId} {pos : String} {af : Array Edge} {g : Option (Nat × Bool)}
    (h : wpList P ops Q (⟨d, op, ty, pos, af, g⟩ :: rest) a w) : wpList P ops Q (⟨d, op, ty, pos, af, g⟩ :: rest) a w := h
end

section
variable {P : Program} {w w' : World} {o : Oper} {ρ : Operand → Value}
theorem ex_store (t : TypeId) (x y : Operand) (ho : o.op = .store t x y) (p v : Value) (hp : ρ x = p) (hv : ρ y = v) (hrun : (Instr.storeAt t p v).run P w = .ok () w') : (execOp ρ o).run P w = .ok .skip w' := by
  unfold execOp
  simp only [ho, hp, hv, Sem.run_bind, hrun, Result.andThen_ok, Sem.run_pure]
theorem ex_alloc (t : TypeId) (ho : o.op = .alloc t) (v : Value) (hrun : (Instr.alloc t true (.tuple #[])).run P w = .ok v w') : (execOp ρ o).run P w = .ok (.value v) w' := by
  unfold execOp
  simp only [ho, Sem.run_bind, hrun, Result.andThen_ok, Sem.run_pure]
theorem ex_box (t : TypeId) (x : Operand) (ho : o.op = .box t x) (y v : Value) (hy : ρ x = y) (hrun : (Instr.box t y).run P w = .ok v w') : (execOp ρ o).run P w = .ok (.value v) w' := by
  unfold execOp
  simp only [ho, hy, Sem.run_bind, hrun, Result.andThen_ok, Sem.run_pure]
theorem ex_build0 (t : TypeId) (ho : o.op = .build t #[]) (v : Value) (hrun : (Instr.build t #[]).run P w = .ok v w') : (execOp ρ o).run P w = .ok (.value v) w' := by
  unfold execOp
  simp only [ho, Sem.run_bind, List.map_toArray, List.map_nil, hrun, Result.andThen_ok, Sem.run_pure]
theorem ex_index (t : TypeId) (x y : Operand) (ho : o.op = .index t x y) (p i v : Value) (hp : ρ x = p) (hi : ρ y = i) (hrun : (Instr.index t p i).run P w = .ok v w') : (execOp ρ o).run P w = .ok (.value v) w' := by
  unfold execOp
  simp only [ho, hp, hi, Sem.run_bind, hrun, Result.andThen_ok, Sem.run_pure]
theorem ex_bin_agg (op : BinOp) (t t' : TypeId) (x y : Operand) (ho : o.op = .binOp op t x y t') (xs ys : Array Value) (v : Value) (hx : ρ x = .agg xs) (hy : ρ y = .agg ys) (hm : P.eqGuardType P.depth t = false) (hrun : (binOp op t (.agg xs) (.agg ys)).run P w = .ok v w') : (execOp ρ o).run P w = .ok (.value v) w' := by
  unfold execOp
  simp only [ho, hx, hy, Sem.run_bind, run_eqGuard_agg w op t x y xs ys hm, hrun, Result.andThen_ok, Sem.run_pure]
end

/-! ### blocks of any cells -/
theorem setCells_cells {w : World} {b : Nat} {zs ys : List Value} {t : TypeId} (hb : w.heap[b]? = some (.cells zs.toArray t (0, 0))) (hl : ys.length = zs.length) :
    (w.setCells b 0 ys).heap[b]? = some (.cells ys.toArray t (0, 0)) ∧ Keeps (· = b) w (w.setCells b 0 ys) := by
  have key : ∀ (ys zs : List Value) (o : Nat) (w : World), w.heap[b]? = some (.cells zs.toArray t (0, 0)) → o + ys.length = zs.length →
      (w.setCells b o ys).heap[b]? = some (.cells (zs.take o ++ ys).toArray t (0, 0)) ∧ Keeps (· = b) w (w.setCells b o ys) := by
    intro ys
    induction ys with
    | nil =>
      intro zs o w hb hl
      simp only [List.length_nil, Nat.add_zero] at hl
      exact ⟨by simpa [World.setCells, hl] using hb, Keeps.refl _ _⟩
    | cons y r ih =>
      intro zs o w hb hl
      simp only [List.length_cons] at hl
      simp only [World.setCells]
      have h1 : (w.setCell ⟨b, o, none⟩ y).heap[b]? = some (.cells (zs.set o y).toArray t (0, 0)) := by
        rw [heap_setCell_same w b o _ t _ hb]
        simp
      obtain ⟨h2, h3⟩ := ih (zs.set o y) (o + 1) _ h1 (by rw [List.length_set]; omega)
      refine ⟨?_, (Keeps.setCell (· = b) _ _ _ rfl).trans h3⟩
      rw [h2, List.take_set]
      have : (zs.take (o + 1)).set o y = zs.take o ++ [y] := by
        rw [List.take_succ_eq_append_getElem (by omega), List.set_append_right _ _ (by simp; omega)]
        simp [show o - min o zs.length = 0 from by omega]
      rw [this]
      simp
  have := key ys zs 0 w hb (by omega)
  simpa using this
theorem there_cells {w : World} {b : Nat} {zs : List Value} {t : TypeId} (hb : w.heap[b]? = some (.cells zs.toArray t (0, 0))) (o n : Nat) (h : o + n ≤ zs.length) : w.there b o n := by
  intro j hj
  refine ⟨?_, frozen_of_row w b _ _ t hb⟩
  rw [cell_of_row w b (o + j) _ t _ hb]
  simp
  omega
theorem range_cells {w : World} {b : Nat} {zs : List Value} {t : TypeId} {fr : Nat × Nat} (hb : w.heap[b]? = some (.cells zs.toArray t fr)) : w.rangeAt b 0 zs := by
  intro j v hv
  rw [cell_of_row w b (0 + j) _ t _ hb]
  simpa using hv
theorem Keeps.old {w w' : World} {b : Nat} (h : Keeps (· = b) w w') {w0 : World} (h0 : Below w0.heap.size w0 w) (hb : w0.heap.size ≤ b) : Below w0.heap.size w0 w' :=
  h0.trans (h.toBelow _ h0.size fun _ e => by rw [e]; exact hb)

/-- Two results, the first of which lies in cells. -/
theorem results_row_tmp {P : Program} {fn : Func} {p q : Tmp} {ty : TypeId} (h : fn.results = #[.cell p ty, .tmp q]) (tmps : Array Value) (w : World) (g : Nat) (t : TypeId) (cs : Array Value) (fr : Nat × Nat) (d : TypeDesc) (v : Value)
    (hp : tmps.getD p undef = .pointer (some ⟨g, 0, none⟩)) (hq : tmps.getD q undef = v) (hg : w.heap[g]? = some (.cells cs t fr))
    (hu : P.underlying ty = some d) (hd : (match d with | .struct _ | .array _ _ => true | _ => false) = true) (hi : (P.info? ty).map (·.size) = some cs.size) :
    (results fn tmps).run P w = .ok (.tuple #[.agg cs, v]) w := by
  have hp' : tmps[p]?.getD undef = .pointer (some ⟨g, 0, none⟩) := by simpa using hp
  have hq' : tmps[q]?.getD undef = v := by simpa using hq
  simp [results, h, hp', hq', asAddr, run_loadVar_row w g t ty cs fr d hg hu hd hi]

/-! ### arrays of numbers, compared -/
section
variable {P : Program} (w : World)
theorem all_range_int : ∀ (xs ys : List Int), xs.length = ys.length → ((List.range xs.length).all fun i => xs.getD i 0 == ys.getD i 0) = (xs == ys)
  | [], [], _ => rfl
  | x :: xs, y :: ys, h => by
    have ih := all_range_int xs ys (by simpa using h)
    rw [List.length_cons, List.range_succ_eq_map, List.all_cons, List.all_map]
    simp only [List.getD_cons_zero, Function.comp_def, List.getD_cons_succ, ih]
    simp [List.cons_beq_cons]
  | [], _ :: _, h => by simp at h
  | _ :: _, [], h => by simp at h
theorem run_equalIn_ints (d : Nat) (t e : TypeId) (n : Nat) (k : IntKind) (ht : P.underlying t = some (.array n e)) (he : P.underlying e = some (.int k)) (hsz : ∀ w, (sizeOf e).run P w = .ok 1 w)
    (xs ys : List Int) (hx : xs.length = n) (hy : ys.length = n) :
    (Op.equalIn (d + 2) t (.agg (xs.map (Value.int k)).toArray) (.agg (ys.map (Value.int k)).toArray)).run P w = .ok (xs == ys) w := by
  rw [← all_range_int xs ys (hx.trans hy.symm), hx, List.range_eq_range', Op.equalIn]
  simp only [Sem.run_bind, run_underlying ht, Result.andThen_ok, hsz, Std.Legacy.Range.forIn_eq_forIn_range', Std.Legacy.Range.size, Nat.sub_zero, Nat.add_sub_cancel, Nat.div_one]
  have hl : ∀ i ∈ List.range' 0 n 1, i < n := fun i hi => by simpa using (List.mem_range'_1.1 hi).2
  generalize List.range' 0 n 1 = l at hl ⊢
  induction l with
  | nil => simp
  | cons i l ih =>
    have hi : i < n := hl i (by simp)
    have px : (part e (xs.map (Value.int k)).toArray (i * 1)).run P w = .ok (.int k (xs.getD i 0)) w := by
      simp [part, isAgg, run_underlying he, List.getD, List.getElem?_eq_getElem (show i < xs.length by omega)]
    have py : (part e (ys.map (Value.int k)).toArray (i * 1)).run P w = .ok (.int k (ys.getD i 0)) w := by
      simp [part, isAgg, run_underlying he, List.getD, List.getElem?_eq_getElem (show i < ys.length by omega)]
    have pe : (Op.equalIn (d + 1) e (.int k (xs.getD i 0)) (.int k (ys.getD i 0))).run P w = .ok (xs.getD i 0 == ys.getD i 0) w := run_equalIn_int w d e k k _ _ he
    simp only [List.forIn_cons, Sem.run_bind, px, py, pe, Result.andThen_ok, List.all_cons]
    cases hb : (xs.getD i 0 == ys.getD i 0)
    · simp
    · simp only [Bool.not_true, Bool.false_eq_true, if_false, Sem.run_pure, Result.andThen_ok, Bool.true_and]
      exact ih fun j hj => hl j (by simp [hj])
theorem run_eql_ints (t e : TypeId) (n : Nat) (k : IntKind) (ht : P.underlying t = some (.array n e)) (he : P.underlying e = some (.int k)) (hsz : ∀ w, (sizeOf e).run P w = .ok 1 w)
    (xs ys : List Int) (hx : xs.length = n) (hy : ys.length = n) :
    (binOp .eql t (.agg (xs.map (Value.int k)).toArray) (.agg (ys.map (Value.int k)).toArray)).run P w = .ok (.bool (decide (xs = ys))) w := by
  rw [run_eql_struct, run_equalIn_ints w 9998 t e n k ht he hsz xs ys hx hy]
  show Result.ok (Value.bool (xs == ys)) w = _
  rw [show (xs == ys) = decide (xs = ys) from by by_cases h : xs = ys <;> simp [h]]
theorem run_neq_ints (t e : TypeId) (n : Nat) (k : IntKind) (ht : P.underlying t = some (.array n e)) (he : P.underlying e = some (.int k)) (hsz : ∀ w, (sizeOf e).run P w = .ok 1 w)
    (xs ys : List Int) (hx : xs.length = n) (hy : ys.length = n) :
    (binOp .neq t (.agg (xs.map (Value.int k)).toArray) (.agg (ys.map (Value.int k)).toArray)).run P w = .ok (.bool (!decide (xs = ys))) w := by
  rw [run_neq_struct, run_equalIn_ints w 9998 t e n k ht he hsz xs ys hx hy]
  show Result.ok (Value.bool (!(xs == ys))) w = _
  rw [show (xs == ys) = decide (xs = ys) from by by_cases h : xs = ys <;> simp [h]]
end
end Go.Proofs.Ythmlhjjcihibnaa
namespace Go.Proofs.Ythmlhjjcihibnaa

section
variable {P : Program} {ops : Array Oper} {md : Region.Mode}

/-- The goal whether read number i is still to come, or has come with v. -/
structure Both (P : Program) (md : Region.Mode) (ops : Array Oper) (Q : Exit → Act → World → Prop) (i : Nat) (oi : Oper) (v : Value) (f : Nat) (listed : Array Bool) (a : Act) (w : World) : Prop where
  any : wpAny P md ops Q (f + 1) listed a w
  first : wpAny P md ops Q f (listed.setIfInBounds i true) (a.put oi.dst v) w

variable {Q : Exit → Act → World → Prop} {i : Nat} {oi : Oper} {v : Value}

theorem Both.go {f : Nat} {listed : Array Bool} {a : Act} {w : World} (_hi : ops[i]? = some oi) (h : Both P md ops Q i oi v f listed a w) : wpAny P md ops Q (f + 1) listed a w := h.any
/-- Nothing but the read is ready. -/
theorem Both.done {f : Nat} {listed : Array Bool} {a : Act} {w : World} (hi : ops[i]? = some oi) (hr : Region.ready md ops listed = [i]) (hy : YieldsAt P ops w oi v a) (h : wpAny P md ops Q f (listed.setIfInBounds i true) (a.put oi.dst v) w) : Both P md ops Q i oi v f listed a w := by
  refine ⟨⟨fun h0 => (by rw [hr] at h0; cases h0), fun j hj => ?_⟩, h⟩
  rw [hr] at hj
  obtain rfl : j = i := by simpa using hj
  exact wpOp_yields hi hy h
/-- Another operation, m, is ready beside it: it is done, in whatever way, and goes on so. -/
theorem Both.step {f : Nat} {listed : Array Bool} {a : Act} {w : World} (hi : ops[i]? = some oi) (m : Nat) (om : Oper) (hm : ops[m]? = some om)
    (hB : ((Region.ready md ops listed).all (fun j => j == i || j == m) && !(Region.ready md ops listed).isEmpty && decide (Region.ready md ops (listed.setIfInBounds i true) = [m]) && oi.apart ops om && Region.noSelect ops && i != m) = true)
    (hy : YieldsAt P ops w oi v a) (R : Value → World → Prop)
    (hop : ∀ (K : Act → World → Prop) (a' : Act), execOp a'.eval om = execOp a.eval om → Region.wanted om (yielded ops a'.tmps) = Region.wanted om (yielded ops a.tmps) → (∀ u w', R u w' → K (a'.put om.dst u) w') → wpOp P ops Q m K a' w)
    (h : ∀ u w', R u w' → Both P md ops Q i oi v f (listed.setIfInBounds m true) (a.put om.dst u) w') : Both P md ops Q i oi v (f + 1) listed a w := by
  simp only [Bool.and_eq_true, decide_eq_true_eq, List.all_eq_true, Bool.or_eq_true, beq_iff_eq, Bool.not_eq_true', List.isEmpty_eq_false_iff] at hB
  obtain ⟨⟨⟨⟨⟨hall, hne0⟩, hr⟩, hap⟩, hs⟩, hne⟩ := hB
  obtain ⟨h1, h2, h3⟩ := Oper.apart_spec hap
  have hF : wpAny P md ops Q (f + 1) (listed.setIfInBounds i true) (a.put oi.dst v) w := by
    refine ⟨fun h0 => (by rw [hr] at h0; cases h0), fun j hj => ?_⟩
    rw [hr] at hj
    obtain rfl : j = m := by simpa using hj
    refine hop _ _ (execOp_put om (fun cs b => Region.noSelect_spec hs j om cs b hm) a oi.dst v h1) (wanted_put om a oi.dst v h1) fun u w' hu => ?_
    rw [Act.put_comm a v u h2, Array.setIfInBounds_comm _ _ (by simpa using hne)]
    exact (h u w' hu).first
  refine ⟨⟨fun h0 => absurd h0 hne0, fun j hj => ?_⟩, hF⟩
  rcases hall j hj with rfl | rfl
  · exact wpOp_yields hi hy hF
  · exact hop _ _ rfl rfl fun u w' hu => (h u w' hu).any
/-- A call that returns, in whatever world. -/
theorem op_call {m : Nat} {om : Oper} {a : Act} {w : World} {fn : FuncId} {args : Array Value} {R : Value → World → Prop} (hm : ops[m]? = some om) (hw : Region.wanted om (yielded ops a.tmps) = true) (hrun : (execOp a.eval om).run P w = .ok (.enter fn args) w)
    (hc : Calls P fn args w fun e w' => ∃ u, e = .returned u ∧ R u w') : ∀ (K : Act → World → Prop) (a' : Act), execOp a'.eval om = execOp a.eval om → Region.wanted om (yielded ops a'.tmps) = Region.wanted om (yielded ops a.tmps) → (∀ u w', R u w' → K (a'.put om.dst u) w') → wpOp P ops Q m K a' w := by
  intro K a' e1 e2 h
  unfold wpOp
  simp only [hm, e2, hw, if_true]
  left
  unfold Oper.wp
  rw [e1, hrun]
  refine Calls.mono hc ?_
  rintro e w' ⟨u, rfl, hu⟩
  exact h u w' hu
/-- An operation that yields a value. -/
theorem op_run {m : Nat} {om : Oper} {a : Act} {w w' : World} {u : Value} (hm : ops[m]? = some om) (hw : Region.wanted om (yielded ops a.tmps) = true) (hrun : (execOp a.eval om).run P w = .ok (.value u) w') :
    ∀ (K : Act → World → Prop) (a' : Act), execOp a'.eval om = execOp a.eval om → Region.wanted om (yielded ops a'.tmps) = Region.wanted om (yielded ops a.tmps) → (∀ x y, (x = u ∧ y = w') → K (a'.put om.dst x) y) → wpOp P ops Q m K a' w := by
  intro K a' e1 e2 h
  refine wpOp_run hm (e2.trans hw) (by rw [e1]; exact hrun) (h u w' ⟨rfl, rfl⟩)
/-- One operation alone is ready: a call. -/
theorem any_call {f : Nat} {listed : Array Bool} {a : Act} {w : World} (m : Nat) (om : Oper) (fn : FuncId) (args : Array Value) (hm : ops[m]? = some om) (hr : Region.ready md ops listed = [m]) (hw : Region.wanted om (yielded ops a.tmps) = true) (hrun : (execOp a.eval om).run P w = .ok (.enter fn args) w)
    (R : Value → World → Prop) (hc : Calls P fn args w fun e w' => ∃ u, e = .returned u ∧ R u w') (h : ∀ u w', R u w' → wpAny P md ops Q f (listed.setIfInBounds m true) (a.put om.dst u) w') : wpAny P md ops Q (f + 1) listed a w := by
  refine ⟨fun h0 => (by rw [hr] at h0; cases h0), fun j hj => ?_⟩
  rw [hr] at hj
  obtain rfl : j = m := by simpa using hj
  exact op_call hm hw hrun hc _ _ rfl rfl h
end
end Go.Proofs.Ythmlhjjcihibnaa
namespace Go.Proofs.Ythmlhjjcihibnaa
open Go.RowKit

theorem load_one {P : Program} {t : TypeId} (hagg : ∀ w, (isAgg t).run P w = .ok false w) {w : World} {b o : Nat} {v : Value} (h : w.cell? ⟨b, o, none⟩ = some v) : (Instr.loadAt t (.pointer (some ⟨b, o, none⟩))).run P w = .ok v w := by
  simp [Instr.loadAt, Instr.sureAddr, loadVar, hagg, h]
theorem yif_load {P : Program} {ops : Array Oper} {S : World → Prop} {o : Oper} {a : Act} (hw : Region.wanted o (yielded ops a.tmps) = true) (t : TypeId) (x : Operand) (ho : o.op = .load t x) (p v : Value) (hp : a.eval x = p) (hrun : ∀ w, S w → (Instr.loadAt t p).run P w = .ok v w) : YieldsIf P ops S o v a :=
  Or.inl ⟨hw, fun w hS => ex_load t x ho p v hp (hrun w hS)⟩
end Go.Proofs.Ythmlhjjcihibnaa
