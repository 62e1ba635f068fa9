/-
  A region that draws its order: operations that only read come first, in an order of one's own choice, wherever everything else waits for them; what is left is one chain. No function of the program is named here.
-/
import Derived.StillTail
import Derived.RegionTactic
import Derived.KernelRfl
namespace Go.Proofs.YtajagjhhpciocaaDoor

section
variable {P : Program} {ops : Array Oper} {md : Region.Mode} {w : World}

/-- Does operation t wait, be it through others, for operation i? -/
def reaches (md : Region.Mode) (ops : Array Oper) (i : Nat) : Nat → Nat → Bool
  | 0, _ => false
  | f + 1, t => match ops[t]? with
    | some o => o.after.any fun e => Region.binds md e && (e.on == i || reaches md ops i f e.on)
    | none => false

def Shut (md : Region.Mode) (ops : Array Oper) (listed : Array Bool) : Prop :=
  listed.size = ops.size ∧ ∀ j oj, ops[j]? = some oj → listed.getD j false = true → ∀ e ∈ oj.after, Region.binds md e = true → listed.getD e.on false = true

theorem Shut.set {listed : Array Bool} (h : Shut md ops listed) {i : Nat} (hi : i ∈ Region.ready md ops listed) : Shut md ops (listed.setIfInBounds i true) := by
  obtain ⟨_, oi, hoi, hall⟩ := mem_ready.1 hi
  refine ⟨by simp [h.1], fun j oj hj hl e he hb => ?_⟩
  by_cases hij : i = j
  · subst hij
    obtain rfl : oj = oi := Option.some.inj (hj.symm.trans hoi)
    exact getD_set_true (hall e he hb)
  · rw [getD_set_ne false hij] at hl
    exact getD_set_true (h.2 j oj hj hl e he hb)

theorem reaches_waits {listed : Array Bool} (h : Shut md ops listed) {i : Nat} (hi : listed.getD i false = false) : ∀ (f t : Nat), reaches md ops i f t = true → ∃ o, ops[t]? = some o ∧ ∃ e ∈ o.after, Region.binds md e = true ∧ listed.getD e.on false = false
  | 0, _, hr => by cases hr
  | f + 1, t, hr => by
    unfold reaches at hr
    split at hr
    · rename_i o ho
      obtain ⟨e, he, hb⟩ := Array.any_eq_true'.1 hr
      simp only [Bool.and_eq_true, Bool.or_eq_true, beq_iff_eq] at hb
      refine ⟨o, ho, e, he, hb.1, ?_⟩
      rcases hb.2 with h1 | h1
      · rw [h1]; exact hi
      · obtain ⟨o', ho', e', he', hb', hun⟩ := reaches_waits h hi f e.on h1
        cases hl : listed.getD e.on false with
        | false => rfl
        | true => rw [h.2 _ _ ho' hl e' he' hb'] at hun; cases hun
    · cases hr
theorem reaches_not_ready {listed : Array Bool} (h : Shut md ops listed) {i : Nat} (hi : listed.getD i true = false) {f t : Nat} (hr : reaches md ops i f t = true) : t ∉ Region.ready md ops listed := by
  intro ht
  obtain ⟨_, o, ho, hall⟩ := mem_ready.1 ht
  obtain ⟨o', ho', e, he, hb, hun⟩ := reaches_waits h (getD_both hi) f t hr
  obtain rfl : o = o' := Option.some.inj (ho.symm.trans ho')
  rw [hall e he hb] at hun
  cases hun

/-- Whatever order: only readers come up, till L. -/
def wpReads (P : Program) (md : Region.Mode) (ops : Array Oper) (w : World) (hd : List Nat) (L : Array Bool → Act → Prop) : Nat → Array Bool → Act → Prop
  | 0, listed, a => L listed a
  | f + 1, listed, a => Region.ready md ops listed ≠ [] ∧ ∀ i ∈ Region.ready md ops listed, i ∈ hd ∧ stOp P ops w i (wpReads P md ops w hd L f (listed.setIfInBounds i true)) a

theorem wpAny_of_reads {g : Nat} {hd : List Nat} {L : Array Bool → Act → Prop} {Q' : Exit → Act → World → Prop} (hL : ∀ listed a, L listed a → wpAny P md ops Q' g listed a w) :
    ∀ (f : Nat) (listed : Array Bool) (a : Act), wpReads P md ops w hd L f listed a → wpAny P md ops Q' (f + g) listed a w
  | 0, listed, a, h => by rw [Nat.zero_add]; exact hL _ _ h
  | f + 1, listed, a, h => by
    rw [show f + 1 + g = (f + g) + 1 by omega]
    exact ⟨fun h0 => absurd h0 h.1, fun i hi => wpOp_of_stOp (fun a' h' => wpAny_of_reads hL f _ a' h') (h.2 i hi).2⟩

theorem reads_first {hd : List Nat} {i : Nat} {oi : Oper} {v : Value} {L : Array Bool → Act → Prop} (hi : ops[i]? = some oi) (hsel : ∀ (j : Nat) (o : Oper) cs b, ops[j]? = some o → o.op ≠ .select cs b)
    (hin : i ∈ hd) (hdone : ∀ listed a, L listed a → ∀ j ∈ Region.ready md ops listed, j ∉ hd) :
    ∀ (f : Nat) (listed : Array Bool) (a : Act), Shut md ops listed → (∀ t, t ∉ hd → listed.getD t true = false → reaches md ops i ops.size t = true) →
      (∀ j oj, ops[j]? = some oj → j ≠ i → listed.getD j true = false → (∀ e ∈ oj.after, Region.binds md e = true → e.on ≠ i) → oi.apart ops oj = true) →
      i ∈ Region.ready md ops listed → YieldsAt P ops w oi v a →
      wpReads P md ops w hd L f (listed.setIfInBounds i true) (a.put oi.dst v) → wpReads P md ops w hd L (f + 1) listed a := by
  intro f
  induction f with
  | zero =>
    intro listed a sh hre _ hr hy H
    have hun := (mem_ready.1 hr).1
    refine ⟨fun h => (by rw [h] at hr; cases hr), fun j hj => ?_⟩
    have hjd : j ∈ hd := Classical.byContradiction fun hn => reaches_not_ready sh hun (hre j hn (mem_ready.1 hj).1) hj
    refine ⟨hjd, ?_⟩
    by_cases hji : j = i
    · subst hji; exact hy.stOp hi H
    · exact absurd hjd (hdone _ _ H j (ready_mono hj hji))
  | succ f ih =>
    intro listed a sh hre hfree hr hy H
    have hun := (mem_ready.1 hr).1
    refine ⟨fun h => (by rw [h] at hr; cases hr), fun j hj => ?_⟩
    have hjd : j ∈ hd := Classical.byContradiction fun hn => reaches_not_ready sh hun (hre j hn (mem_ready.1 hj).1) hj
    refine ⟨hjd, ?_⟩
    by_cases hji : j = i
    · subst hji; exact hy.stOp hi H
    · have h1 := (H.2 j (ready_mono hj hji)).2
      obtain ⟨hjun, oj, hoj, hall⟩ := mem_ready.1 hj
      have hnot : ∀ e ∈ oj.after, Region.binds md e = true → e.on ≠ i := fun e he hb heq => by
        have h1 := hall e he hb
        rw [heq, getD_both hun] at h1
        cases h1
      have h2 := stOp_put hoj (hfree j oj hoj hji hjun hnot) (fun cs b => hsel i oi cs b hi) (fun cs b => hsel j oj cs b hoj) hy h1
      have less : ∀ k, (listed.setIfInBounds j true).getD k true = false → listed.getD k true = false := fun k hun => by
        by_cases hjk : j = k
        · subst hjk; exact hjun
        · rw [getD_set_ne true hjk] at hun; exact hun
      refine stOp_mono (fun a' h3 => ih (listed.setIfInBounds j true) a' (sh.set hj) (fun t ht hu => hre t ht (less t hu)) (fun k ok hk hki hu hno => hfree k ok hk hki (less k hu) hno) (ready_mono hr (Ne.symm hji)) h3.1 ?_) h2
      rw [Array.setIfInBounds_comm _ _ hji]
      exact h3.2

/-- The readers in the order hd, by the base's own Bools. -/
def readsB (md : Region.Mode) (ops : Array Oper) (hd : List Nat) (T : List Nat) : List Nat → Array Bool → Bool
  | [], listed => chainB T listed && (Region.ready md ops listed).all fun j => !hd.contains j
  | i :: r, listed => hd.contains i && (Region.ready md ops listed).contains i && Region.free md ops listed i && ((List.range ops.size).all fun t => hd.contains t || listed.getD t true || reaches md ops i ops.size t) && readsB md ops hd T r (listed.setIfInBounds i true)
where chainB : List Nat → Array Bool → Bool
  | [], listed => (Region.ready md ops listed).isEmpty
  | t :: r, listed => decide (Region.ready md ops listed = [t]) && chainB r (listed.setIfInBounds t true)

theorem wpAny_of_chain {Q' : Exit → Act → World → Prop} : ∀ (T : List Nat) (lt : List Oper) (listed : Array Bool) (a : Act) (w : World), T.map (fun i => ops[i]?) = lt.map some →
    readsB.chainB md ops T listed = true → wpList P ops Q' lt a w → wpAny P md ops Q' T.length listed a w
  | [], [], _, _, _, _, hB, h => ⟨by simpa [readsB.chainB] using hB, h⟩
  | [], _ :: _, _, _, _, hl, _, _ => by cases hl
  | _ :: _, [], _, _, _, hl, _, _ => by cases hl
  | t :: T, o :: lt, listed, a, w, hl, hB, h => by
    simp only [List.map_cons, List.cons.injEq] at hl
    simp only [readsB.chainB, Bool.and_eq_true, decide_eq_true_eq] at hB
    refine ⟨fun h1 => (by rw [hB.1] at h1; cases h1), fun i hi => ?_⟩
    rw [hB.1] at hi
    obtain rfl : i = t := by simpa using hi
    have hw : wpOp P ops Q' i (wpList P ops Q' lt) a w := by unfold wpOp; simp only [hl.1]; exact h
    exact wpOp_mono (fun a' w' h' => wpAny_of_chain T lt _ a' w' hl.2 hB.2 h') hw

theorem reads_lex {hd T : List Nat} {Lq : Act → Prop} (hsel : Region.noSelect ops = true) : ∀ (r : List Nat) (lr : List Oper) (listed : Array Bool) (a : Act), r.map (fun i => ops[i]?) = lr.map some → Shut md ops listed → readsB md ops hd T r listed = true → wpStill P ops w Lq lr a →
    wpReads P md ops w hd (fun listed' a' => (readsB.chainB md ops T listed' = true ∧ ∀ j ∈ Region.ready md ops listed', j ∉ hd) ∧ Lq a') r.length listed a
  | [], [], listed, a, _, _, hB, h => by
    simp only [readsB, Bool.and_eq_true, List.all_eq_true, Bool.not_eq_true', List.contains_eq_mem, decide_eq_false_iff_not] at hB
    exact ⟨hB, h⟩
  | [], _ :: _, _, _, hl, _, _, _ => by cases hl
  | _ :: _, [], _, _, hl, _, _, _ => by cases hl
  | i :: r, o :: lr, listed, a, hl, sh, hB, h => by
    simp only [List.map_cons, List.cons.injEq] at hl
    simp only [readsB, Bool.and_eq_true] at hB
    obtain ⟨⟨⟨⟨hin, hr⟩, hf⟩, hre⟩, hB'⟩ := hB
    have hr' : i ∈ Region.ready md ops listed := by simpa using hr
    have hst : stOp P ops w i (wpStill P ops w Lq lr) a := by unfold stOp; simp only [hl.1]; exact h
    obtain ⟨v, hy, hK⟩ := yieldsAt_of_stOp hl.1 hst
    refine reads_first hl.1 (Region.noSelect_spec hsel) (by simpa using hin) (fun _ _ hL => hL.1.2) r.length listed a sh (fun t ht hu => ?_) (Region.free_spec hl.1 hf) hr' hy
      (reads_lex hsel r lr _ _ hl.2 (sh.set hr') hB' hK)
    have hts : t < ops.size := by
      rcases Nat.lt_or_ge t ops.size with h' | h'
      · exact h'
      · rw [← sh.1] at h'
        simp [Array.getElem?_eq_none h'] at hu
    have h1 := List.all_eq_true.1 hre t (List.mem_range.2 hts)
    rw [hu] at h1
    simpa [ht] using h1

/-- Shut, by a Bool. -/
def shutB (md : Region.Mode) (ops : Array Oper) (listed : Array Bool) : Bool :=
  listed.size == ops.size && (List.range ops.size).all fun j => !listed.getD j false || match ops[j]? with
    | some oj => oj.after.all fun e => !Region.binds md e || listed.getD e.on false
    | none => true
theorem shut_of {listed : Array Bool} (h : shutB md ops listed = true) : Shut md ops listed := by
  simp only [shutB, Bool.and_eq_true, beq_iff_eq, List.all_eq_true, List.mem_range, Bool.or_eq_true, Bool.not_eq_true'] at h
  refine ⟨h.1, fun j oj hj hl e he hb => ?_⟩
  rcases h.2 j (Array.getElem?_eq_some_iff.1 hj).1 with h1 | h1
  · rw [hl] at h1; cases h1
  · simp only [hj] at h1
    have h2 := Array.all_eq_true_iff_forall_mem.1 h1 e he
    simpa [hb] using h2

/-- From any point on: the readers hd, then the chain T. -/
theorem wpAny_tail {Q' : Exit → Act → World → Prop} {listed : Array Bool} {a : Act} {n : Nat} (hd T : List Nat) (lr lt : List Oper) (hn : n = hd.length + T.length) (h1 : hd.map (fun i => ops[i]?) = lr.map some) (h2 : T.map (fun i => ops[i]?) = lt.map some)
    (hB : (Region.noSelect ops && shutB md ops listed && readsB md ops hd T hd listed) = true)
    (h : wpStill P ops w (fun a' => wpList P ops Q' lt a' w) lr a) : wpAny P md ops Q' n listed a w := by
  subst hn
  simp only [Bool.and_eq_true] at hB
  exact wpAny_of_reads (fun listed' a' hL => wpAny_of_chain T lt listed' a' w h2 hL.1.1 hL.2) hd.length listed a (reads_lex hB.1.1 hd lr listed a h1 (shut_of hB.1.2) hB.2 h)

/-- A read (number i) that may come up at any time while others, one behind the other, come up: it yields the same in each of their worlds. -/
inductive Late (P : Program) (md : Region.Mode) (ops : Array Oper) (Q : Exit → Act → World → Prop) (i : Nat) (oi : Oper) (v : Value) : Nat → Array Bool → Act → World → Prop
  | done {f : Nat} {listed : Array Bool} {a : Act} {w : World} (hr : Region.ready md ops listed = [i]) (hy : YieldsAt P ops w oi v a) (h : wpAny P md ops Q f (listed.setIfInBounds i true) (a.put oi.dst v) w) : Late P md ops Q i oi v (f + 1) listed a w
  | step {f : Nat} {listed : Array Bool} {a : Act} {w w' : World} (m : Nat) (om : Oper) (u : Value) (hm : ops[m]? = some om)
      (hB : ((Region.ready md ops listed).all (fun j => j == i || j == m) && !(Region.ready md ops listed).isEmpty && decide (Region.ready md ops (listed.setIfInBounds i true) = [m]) && oi.apart ops om && Region.noSelect ops && i != m) = true)
      (hy : YieldsAt P ops w oi v a) (hw : Region.wanted om (yielded ops a.tmps) = true) (hrun : (execOp a.eval om).run P w = .ok (.value u) w') (h : Late P md ops Q i oi v f (listed.setIfInBounds m true) (a.put om.dst u) w') : Late P md ops Q i oi v (f + 1) listed a w
  | call {f : Nat} {listed : Array Bool} {a : Act} {w : World} (m : Nat) (om : Oper) (u : Value) (fn : FuncId) (args : Array Value) (hm : ops[m]? = some om)
      (hB : ((Region.ready md ops listed).all (fun j => j == i || j == m) && !(Region.ready md ops listed).isEmpty && decide (Region.ready md ops (listed.setIfInBounds i true) = [m]) && oi.apart ops om && Region.noSelect ops && i != m) = true)
      (hy : YieldsAt P ops w oi v a) (hw : Region.wanted om (yielded ops a.tmps) = true) (hrun : (execOp a.eval om).run P w = .ok (.enter fn args) w) (hc : Calls P fn args w fun e w'' => e = .returned u ∧ w = w'') (h : Late P md ops Q i oi v f (listed.setIfInBounds m true) (a.put om.dst u) w) : Late P md ops Q i oi v (f + 1) listed a w

theorem wpOp_call {Q' : Exit → Act → World → Prop} {K : Act → World → Prop} {m : Nat} {om : Oper} {a : Act} {w : World} {u : Value} {fn : FuncId} {args : Array Value} (hm : ops[m]? = some om) (hw : Region.wanted om (yielded ops a.tmps) = true) (hrun : (execOp a.eval om).run P w = .ok (.enter fn args) w)
    (hc : Calls P fn args w fun e w'' => e = .returned u ∧ w = w'') (h : K (a.put om.dst u) w) : wpOp P ops Q' m K a w := by
  unfold wpOp
  simp only [hm, hw, if_true]
  left
  unfold Oper.wp
  rw [hrun]
  refine Calls.mono hc ?_
  rintro e w'' ⟨rfl, rfl⟩
  exact h
theorem wpOp_run {Q' : Exit → Act → World → Prop} {K : Act → World → Prop} {m : Nat} {om : Oper} {a : Act} {w w' : World} {u : Value} (hm : ops[m]? = some om) (hw : Region.wanted om (yielded ops a.tmps) = true) (hrun : (execOp a.eval om).run P w = .ok (.value u) w') (h : K (a.put om.dst u) w') :
    wpOp P ops Q' m K a w := by
  unfold wpOp
  simp only [hm, hw, if_true]
  left
  unfold Oper.wp
  rw [hrun]
  exact h
theorem wpOp_yields {Q' : Exit → Act → World → Prop} {K : Act → World → Prop} {m : Nat} {om : Oper} {a : Act} {w : World} {u : Value} (hm : ops[m]? = some om) (hy : YieldsAt P ops w om u a) (h : K (a.put om.dst u) w) : wpOp P ops Q' m K a w :=
  wpOp_of_stOp (K := fun a' => K a' w) (fun _ h => h) (hy.stOp hm h)

theorem Late.first {Q' : Exit → Act → World → Prop} {i : Nat} {oi : Oper} {v : Value} (hi : ops[i]? = some oi) : ∀ {f : Nat} {listed : Array Bool} {a : Act} {w : World}, Late P md ops Q' i oi v (f + 1) listed a w → wpAny P md ops Q' f (listed.setIfInBounds i true) (a.put oi.dst v) w
  | f, listed, a, w, h => by
    cases h with
    | done hr hy h => exact h
    | step m om u hm hB hy hw hrun h =>
      simp only [Bool.and_eq_true, decide_eq_true_eq] at hB
      obtain ⟨⟨⟨⟨⟨_, _⟩, hr⟩, hap⟩, hs⟩, hne⟩ := hB
      obtain ⟨h1, h2, h3⟩ := Oper.apart_spec hap
      cases f with
      | zero => cases h
      | succ f =>
        have H := Late.first hi h
        refine ⟨fun h0 => (by rw [hr] at h0; cases h0), fun j hj => ?_⟩
        rw [hr] at hj
        obtain rfl : j = m := by simpa using hj
        refine wpOp_run hm (by rw [wanted_put om a oi.dst v h1]; exact hw) (by rw [execOp_put om (fun cs b => Region.noSelect_spec hs j om cs b hm) a oi.dst v h1]; exact hrun) ?_
        rw [Act.put_comm a v u h2, Array.setIfInBounds_comm _ _ (by simpa using hne)]
        exact H
    | call m om u fn args hm hB hy hw hrun hc h =>
      simp only [Bool.and_eq_true, decide_eq_true_eq] at hB
      obtain ⟨⟨⟨⟨⟨_, _⟩, hr⟩, hap⟩, hs⟩, hne⟩ := hB
      obtain ⟨h1, h2, h3⟩ := Oper.apart_spec hap
      cases f with
      | zero => cases h
      | succ f =>
        have H := Late.first hi h
        refine ⟨fun h0 => (by rw [hr] at h0; cases h0), fun j hj => ?_⟩
        rw [hr] at hj
        obtain rfl : j = m := by simpa using hj
        refine wpOp_call hm (by rw [wanted_put om a oi.dst v h1]; exact hw) (by rw [execOp_put om (fun cs b => Region.noSelect_spec hs j om cs b hm) a oi.dst v h1]; exact hrun) hc ?_
        rw [Act.put_comm a v u h2, Array.setIfInBounds_comm _ _ (by simpa using hne)]
        exact H
theorem Late.any {Q' : Exit → Act → World → Prop} {i : Nat} {oi : Oper} {v : Value} (hi : ops[i]? = some oi) {f : Nat} {listed : Array Bool} {a : Act} {w : World} (h : Late P md ops Q' i oi v f listed a w) : wpAny P md ops Q' f listed a w := by
  induction h with
  | done hr hy h =>
    refine ⟨fun h0 => (by rw [hr] at h0; cases h0), fun j hj => ?_⟩
    rw [hr] at hj
    obtain rfl : j = i := by simpa using hj
    exact wpOp_yields hi hy h
  | step m om u hm hB hy hw hrun h ih =>
    have hF := Late.first hi (Late.step m om u hm hB hy hw hrun h)
    simp only [Bool.and_eq_true, decide_eq_true_eq, List.all_eq_true, Bool.or_eq_true, beq_iff_eq, Bool.not_eq_true', List.isEmpty_eq_false_iff] at hB
    obtain ⟨⟨⟨⟨⟨hall, hne0⟩, hr⟩, hap⟩, hs⟩, hne⟩ := hB
    refine ⟨fun h0 => absurd h0 hne0, fun j hj => ?_⟩
    rcases hall j hj with rfl | rfl
    · exact wpOp_yields hi hy hF
    · exact wpOp_run hm hw hrun ih
  | call m om u fn args hm hB hy hw hrun hc h ih =>
    have hF := Late.first hi (Late.call m om u fn args hm hB hy hw hrun hc h)
    simp only [Bool.and_eq_true, decide_eq_true_eq, List.all_eq_true, Bool.or_eq_true, beq_iff_eq, Bool.not_eq_true', List.isEmpty_eq_false_iff] at hB
    obtain ⟨⟨⟨⟨⟨hall, hne0⟩, hr⟩, hap⟩, hs⟩, hne⟩ := hB
    refine ⟨fun h0 => absurd h0 hne0, fun j hj => ?_⟩
    rcases hall j hj with rfl | rfl
    · exact wpOp_yields hi hy hF
    · exact wpOp_call hm hw hrun hc ih
end

/-! ### an operation's run -/
theorem ex_load {P : Program} {w w' : World} {o : Oper} {ρ : Operand → Value} (t : TypeId) (x : Operand) (ho : o.op = .load t x) (p v : Value) (hp : ρ x = p) (hrun : (Instr.loadAt t p).run P w = .ok v w') : (execOp ρ o).run P w = .ok (.value v) w' := by
  unfold execOp
  simp only [ho, hp, Sem.run_bind, hrun, Result.andThen_ok, Sem.run_pure]
theorem ex_buildSlice {P : Program} {w w' : World} {o : Oper} {ρ : Operand → Value} (t : TypeId) (x : Operand) (ho : o.op = .buildSlice t 1 #[(0, x)]) (y v : Value) (hy : ρ x = y) (hrun : (Instr.buildSlice t 1 #[(0, y)]).run P w = .ok v w') : (execOp ρ o).run P w = .ok (.value v) w' := by
  unfold execOp
  simp only [ho, Sem.run_bind, List.map_toArray, List.map_cons, List.map_nil, hy, hrun, Result.andThen_ok, Sem.run_pure]
theorem yields_load {P : Program} {w : World} {ops : Array Oper} {o : Oper} {a : Act} (hw : Region.wanted o (yielded ops a.tmps) = true) (t : TypeId) (x : Operand) (ho : o.op = .load t x) (p v : Value) (hp : a.eval x = p) (hrun : (Instr.loadAt t p).run P w = .ok v w) : YieldsAt P ops w o v a :=
  Or.inl ⟨hw, Or.inl (ex_load t x ho p v hp hrun)⟩
end Go.Proofs.YtajagjhhpciocaaDoor
