/-
  A read that may come before or behind calls that make memory: laws for regions that draw. No function of the program is named here.
-/
import Derived.Test.YtajagjhhpciocaaDoorTail
namespace Go.Proofs.YtajagjhhpciocaaDoor

section
variable {P : Program} {ops : Array Oper} {md : Region.Mode}

/-- The goal whether read number i is still to come, or has come with v. -/
structure Both (P : Program) (md : Region.Mode) (ops : Array Oper) (Q : Exit → Act → World → Prop) (i : Nat) (oi : Oper) (v : Value) (f : Nat) (listed : Array Bool) (a : Act) (w : World) : Prop where
  any : wpAny P md ops Q (f + 1) listed a w
  first : wpAny P md ops Q f (listed.setIfInBounds i true) (a.put oi.dst v) w

variable {Q : Exit → Act → World → Prop} {i : Nat} {oi : Oper} {v : Value}

theorem Both.go {f : Nat} {listed : Array Bool} {a : Act} {w : World} (_hi : ops[i]? = some oi) (h : Both P md ops Q i oi v f listed a w) : wpAny P md ops Q (f + 1) listed a w := h.any
/-- Nothing but the read is ready. -/
theorem Both.done {f : Nat} {listed : Array Bool} {a : Act} {w : World} (hi : ops[i]? = some oi) (hr : Region.ready md ops listed = [i]) (hy : YieldsAt P ops w oi v a) (h : wpAny P md ops Q f (listed.setIfInBounds i true) (a.put oi.dst v) w) : Both P md ops Q i oi v f listed a w := by
  refine ⟨⟨fun h0 => (by rw [hr] at h0; cases h0), fun j hj => ?_⟩, h⟩
  rw [hr] at hj
  obtain rfl : j = i := by simpa using hj
  exact wpOp_yields hi hy h
/-- Another operation, m, is ready beside it: it is done, in whatever way, and goes on so. -/
theorem Both.step {f : Nat} {listed : Array Bool} {a : Act} {w : World} (hi : ops[i]? = some oi) (m : Nat) (om : Oper) (hm : ops[m]? = some om)
    (hB : ((Region.ready md ops listed).all (fun j => j == i || j == m) && !(Region.ready md ops listed).isEmpty && decide (Region.ready md ops (listed.setIfInBounds i true) = [m]) && oi.apart ops om && Region.noSelect ops && i != m) = true)
    (hy : YieldsAt P ops w oi v a) (R : Value → World → Prop)
    (hop : ∀ (K : Act → World → Prop) (a' : Act), execOp a'.eval om = execOp a.eval om → Region.wanted om (yielded ops a'.tmps) = Region.wanted om (yielded ops a.tmps) → (∀ u w', R u w' → K (a'.put om.dst u) w') → wpOp P ops Q m K a' w)
    (h : ∀ u w', R u w' → Both P md ops Q i oi v f (listed.setIfInBounds m true) (a.put om.dst u) w') : Both P md ops Q i oi v (f + 1) listed a w := by
  simp only [Bool.and_eq_true, decide_eq_true_eq, List.all_eq_true, Bool.or_eq_true, beq_iff_eq, Bool.not_eq_true', List.isEmpty_eq_false_iff] at hB
  obtain ⟨⟨⟨⟨⟨hall, hne0⟩, hr⟩, hap⟩, hs⟩, hne⟩ := hB
  obtain ⟨h1, h2, h3⟩ := Oper.apart_spec hap
  have hF : wpAny P md ops Q (f + 1) (listed.setIfInBounds i true) (a.put oi.dst v) w := by
    refine ⟨fun h0 => (by rw [hr] at h0; cases h0), fun j hj => ?_⟩
    rw [hr] at hj
    obtain rfl : j = m := by simpa using hj
    refine hop _ _ (execOp_put om (fun cs b => Region.noSelect_spec hs j om cs b hm) a oi.dst v h1) (wanted_put om a oi.dst v h1) fun u w' hu => ?_
    rw [Act.put_comm a v u h2, Array.setIfInBounds_comm _ _ (by simpa using hne)]
    exact (h u w' hu).first
  refine ⟨⟨fun h0 => absurd h0 hne0, fun j hj => ?_⟩, hF⟩
  rcases hall j hj with rfl | rfl
  · exact wpOp_yields hi hy hF
  · exact hop _ _ rfl rfl fun u w' hu => (h u w' hu).any
/-- A call that returns, in whatever world. -/
theorem op_call {m : Nat} {om : Oper} {a : Act} {w : World} {fn : FuncId} {args : Array Value} {R : Value → World → Prop} (hm : ops[m]? = some om) (hw : Region.wanted om (yielded ops a.tmps) = true) (hrun : (execOp a.eval om).run P w = .ok (.enter fn args) w)
    (hc : Calls P fn args w fun e w' => ∃ u, e = .returned u ∧ R u w') : ∀ (K : Act → World → Prop) (a' : Act), execOp a'.eval om = execOp a.eval om → Region.wanted om (yielded ops a'.tmps) = Region.wanted om (yielded ops a.tmps) → (∀ u w', R u w' → K (a'.put om.dst u) w') → wpOp P ops Q m K a' w := by
  intro K a' e1 e2 h
  unfold wpOp
  simp only [hm, e2, hw, if_true]
  left
  unfold Oper.wp
  rw [e1, hrun]
  refine Calls.mono hc ?_
  rintro e w' ⟨u, rfl, hu⟩
  exact h u w' hu
/-- An operation that yields a value. -/
theorem op_run {m : Nat} {om : Oper} {a : Act} {w w' : World} {u : Value} (hm : ops[m]? = some om) (hw : Region.wanted om (yielded ops a.tmps) = true) (hrun : (execOp a.eval om).run P w = .ok (.value u) w') :
    ∀ (K : Act → World → Prop) (a' : Act), execOp a'.eval om = execOp a.eval om → Region.wanted om (yielded ops a'.tmps) = Region.wanted om (yielded ops a.tmps) → (∀ x y, (x = u ∧ y = w') → K (a'.put om.dst x) y) → wpOp P ops Q m K a' w := by
  intro K a' e1 e2 h
  refine wpOp_run hm (e2.trans hw) (by rw [e1]; exact hrun) (h u w' ⟨rfl, rfl⟩)
/-- One operation alone is ready: a call. -/
theorem any_call {f : Nat} {listed : Array Bool} {a : Act} {w : World} (m : Nat) (om : Oper) (fn : FuncId) (args : Array Value) (hm : ops[m]? = some om) (hr : Region.ready md ops listed = [m]) (hw : Region.wanted om (yielded ops a.tmps) = true) (hrun : (execOp a.eval om).run P w = .ok (.enter fn args) w)
    (R : Value → World → Prop) (hc : Calls P fn args w fun e w' => ∃ u, e = .returned u ∧ R u w') (h : ∀ u w', R u w' → wpAny P md ops Q f (listed.setIfInBounds m true) (a.put om.dst u) w') : wpAny P md ops Q (f + 1) listed a w := by
  refine ⟨fun h0 => (by rw [hr] at h0; cases h0), fun j hj => ?_⟩
  rw [hr] at hj
  obtain rfl : j = m := by simpa using hj
  exact op_call hm hw hrun hc _ _ rfl rfl h
end
end Go.Proofs.YtajagjhhpciocaaDoor
