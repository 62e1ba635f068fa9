/-
  Merged by wip/tools/merge.py: BothH SnFind SnOpen SnNil SnActIn CapIn
-/
import Derived.Test.YtebecpjecchfoaaGreatDoorGT
import Derived.OrdersHeld
import Derived.Test.YtebecpjecchfoaaGreatDoorGSnB
import Derived.Test.YtebecpjecchfoaaGreatDoorGRtB
import Derived.Test.YtebecpjecchfoaaGreatDoorWkErr
import Derived.Test.YtebecpjecchfoaaGreatDoorGRd
import Derived.Test.YtebecpjecchfoaaGreatDoorGSnE
import Derived.Test.YtebecpjecchfoaaGreatDoorGSnC
import Derived.Test.YtebecpjecchfoaaGreatDoorGA
import Derived.ChangeArms
import Derived.Deep.Slices
import Derived.SizedLaws
namespace Go.Proofs.YtebecpjecchfoaaGreatDoor
open Go.RowKit

section
variable {P : Program} {ops : Array Oper} {md : Region.Mode} {S : World → Prop}
/-- As Both, where operations that come earlier were taken by what the world holds. -/
structure BothH (P : Program) (md : Region.Mode) (ops : Array Oper) (Q : Exit → Act → World → Prop) (S : World → Prop) (i : Nat) (oi : Oper) (v : Value) (f : Nat) (listed : Array Bool) (a : Act) (w : World) : Prop where
  any : wpAnyH P md ops Q S (f + 1) listed a w
  first : wpAnyH P md ops Q S f (listed.setIfInBounds i true) (a.put oi.dst v) w
variable {Q : Exit → Act → World → Prop} {i : Nat} {oi : Oper} {v : Value}
theorem BothH.go {f : Nat} {listed : Array Bool} {a : Act} {w : World} (_hi : ops[i]? = some oi) (h : BothH P md ops Q S i oi v f listed a w) : wpAnyH P md ops Q S (f + 1) listed a w := h.any
theorem BothH.done {f : Nat} {listed : Array Bool} {a : Act} {w : World} (hi : ops[i]? = some oi) (hr : Region.ready md ops listed = [i]) (hS : S w) (hy : YieldsAt P ops w oi v a) (h : wpAnyH P md ops Q S f (listed.setIfInBounds i true) (a.put oi.dst v) w) : BothH P md ops Q S i oi v f listed a w := by
  refine ⟨⟨fun h0 => (by rw [hr] at h0; cases h0), fun j hj => ?_⟩, h⟩
  rw [hr] at hj
  obtain rfl : j = i := by simpa using hj
  exact wpOp_yields hi hy ⟨hS, h⟩
theorem BothH.step {f : Nat} {listed : Array Bool} {a : Act} {w : World} (hi : ops[i]? = some oi) (m : Nat) (om : Oper) (hm : ops[m]? = some om)
    (hB : ((Region.ready md ops listed).all (fun j => j == i || j == m) && !(Region.ready md ops listed).isEmpty && decide (Region.ready md ops (listed.setIfInBounds i true) = [m]) && oi.apart ops om && Region.noSelect ops && i != m) = true)
    (hS : S w) (hy : YieldsAt P ops w oi v a) (R : Value → World → Prop) (hRS : ∀ u w', R u w' → S w')
    (hop : ∀ (K : Act → World → Prop) (a' : Act), execOp a'.eval om = execOp a.eval om → Region.wanted om (yielded ops a'.tmps) = Region.wanted om (yielded ops a.tmps) → (∀ u w', R u w' → K (a'.put om.dst u) w') → wpOp P ops Q m K a' w)
    (h : ∀ u w', R u w' → BothH P md ops Q S i oi v f (listed.setIfInBounds m true) (a.put om.dst u) w') : BothH P md ops Q S i oi v (f + 1) listed a w := by
  simp only [Bool.and_eq_true, decide_eq_true_eq, List.all_eq_true, Bool.or_eq_true, beq_iff_eq, Bool.not_eq_true', List.isEmpty_eq_false_iff] at hB
  obtain ⟨⟨⟨⟨⟨hall, hne0⟩, hr⟩, hap⟩, hs⟩, hne⟩ := hB
  obtain ⟨h1, h2, h3⟩ := Oper.apart_spec hap
  have hF : wpAnyH P md ops Q S (f + 1) (listed.setIfInBounds i true) (a.put oi.dst v) w := by
    refine ⟨fun h0 => (by rw [hr] at h0; cases h0), fun j hj => ?_⟩
    rw [hr] at hj
    obtain rfl : j = m := by simpa using hj
    refine hop _ _ (execOp_put om (fun cs b => Region.noSelect_spec hs j om cs b hm) a oi.dst v h1) (wanted_put om a oi.dst v h1) fun u w' hu => ⟨hRS u w' hu, ?_⟩
    rw [Act.put_comm a v u h2, Array.setIfInBounds_comm _ _ (by simpa using hne)]
    exact (h u w' hu).first
  refine ⟨⟨fun h0 => absurd h0 hne0, fun j hj => ?_⟩, hF⟩
  rcases hall j hj with rfl | rfl
  · exact wpOp_yields hi hy ⟨hS, hF⟩
  · exact hop _ _ rfl rfl fun u w' hu => ⟨hRS u w' hu, (h u w' hu).any⟩
end
end Go.Proofs.YtebecpjecchfoaaGreatDoor
namespace Go.Proofs.YtebecpjecchfoaaGreatDoor.St
set_option linter.unusedSimpArgs false
set_option linter.unusedVariables false
open Go.RowKit Go.Maps

section
variable {P : Program} {ops : Array Oper} {Q : Exit → Act → World → Prop}
/-- A call that may panic. -/
theorem op_callP {m : Nat} {om : Oper} {a : Act} {w : World} {fn : FuncId} {args : Array Value} {R : Value → World → Prop} {RP : List PanicEntry → World → Prop} (hm : ops[m]? = some om) (hw : Region.wanted om (yielded ops a.tmps) = true) (hrun : (execOp a.eval om).run P w = .ok (.enter fn args) w)
    (hc : Calls P fn args w fun e w' => (∃ u, e = .returned u ∧ R u w') ∨ (∃ ch, e = .panicked ch ∧ RP ch w')) : ∀ (K : Act → World → Prop) (a' : Act), execOp a'.eval om = execOp a.eval om → Region.wanted om (yielded ops a'.tmps) = Region.wanted om (yielded ops a.tmps) → (∀ u w', R u w' → K (a'.put om.dst u) w') → (∀ ch w', RP ch w' → Q (.panic ch) a' w') → wpOp P ops Q m K a' w := by
  intro K a' e1 e2 h hp
  unfold wpOp
  simp only [hm, e2, hw, if_true]
  left
  unfold Oper.wp
  rw [e1, hrun]
  refine Calls.mono hc ?_
  rintro e w' (⟨u, rfl, hu⟩ | ⟨ch, rfl, hu⟩)
  · exact h u w' hu
  · exact hp ch w' hu
theorem skip_op {K : Act → World → Prop} {m : Nat} {om : Oper} {a : Act} {w w' : World} (hm : ops[m]? = some om) (hw : Region.wanted om (yielded ops a.tmps) = true) (hrun : (execOp a.eval om).run P w = .ok .skip w') (h : K (a.put om.dst undef) w') : wpOp P ops Q m K a w := by
  unfold wpOp
  simp only [hm, hw, if_true]
  left
  unfold Oper.wp
  rw [hrun]
  exact h
theorem app_op {w w' : World} {o : Oper} {ρ : Operand → Value} (s x : Operand) (t t' : TypeId) (ho : o.op = .call { callee := .builtin .append, args := #[s, x], argTypes := #[t, t'] }) (v : Value)
    (hrun : (Builtin.append_ #[t, t'] o.type #[ρ s, ρ x]).run P w = .ok v w') : (execOp ρ o).run P w = .ok (.value v) w' := by
  unfold execOp
  simp only [ho, resolve, invoke, builtin, Sem.run_bind, Sem.run_pure, Result.andThen_ok, List.map_toArray, List.map_cons, List.map_nil, hrun]
variable {md : Region.Mode} {S : World → Prop} {i : Nat} {oi : Oper} {v : Value}
theorem bothP_step {f : Nat} {listed : Array Bool} {a : Act} {w : World} (hi : ops[i]? = some oi) (m : Nat) (om : Oper) (hm : ops[m]? = some om)
    (hB : ((Region.ready md ops listed).all (fun j => j == i || j == m) && !(Region.ready md ops listed).isEmpty && decide (Region.ready md ops (listed.setIfInBounds i true) = [m]) && oi.apart ops om && Region.noSelect ops && i != m) = true)
    (hS : S w) (hy : YieldsAt P ops w oi v a) (R : Value → World → Prop) (RP : List PanicEntry → World → Prop) (hRS : ∀ u w', R u w' → S w')
    (hop : ∀ (K : Act → World → Prop) (a' : Act), execOp a'.eval om = execOp a.eval om → Region.wanted om (yielded ops a'.tmps) = Region.wanted om (yielded ops a.tmps) → (∀ u w', R u w' → K (a'.put om.dst u) w') → (∀ ch w', RP ch w' → Q (.panic ch) a' w') → wpOp P ops Q m K a' w)
    (hP : ∀ ch w', RP ch w' → Q (.panic ch) a w' ∧ Q (.panic ch) (a.put oi.dst v) w')
    (h : ∀ u w', R u w' → BothH P md ops Q S i oi v f (listed.setIfInBounds m true) (a.put om.dst u) w') : BothH P md ops Q S i oi v (f + 1) listed a w := by
  simp only [Bool.and_eq_true, decide_eq_true_eq, List.all_eq_true, Bool.or_eq_true, beq_iff_eq, Bool.not_eq_true', List.isEmpty_eq_false_iff] at hB
  obtain ⟨⟨⟨⟨⟨hall, hne0⟩, hr⟩, hap⟩, hs⟩, hne⟩ := hB
  obtain ⟨h1, h2, h3⟩ := Oper.apart_spec hap
  have hF : wpAnyH P md ops Q S (f + 1) (listed.setIfInBounds i true) (a.put oi.dst v) w := by
    refine ⟨fun h0 => (by rw [hr] at h0; cases h0), fun j hj => ?_⟩
    rw [hr] at hj
    obtain rfl : j = m := by simpa using hj
    refine hop _ _ (execOp_put om (fun cs b => Region.noSelect_spec hs j om cs b hm) a oi.dst v h1) (wanted_put om a oi.dst v h1) (fun u w' hu => ⟨hRS u w' hu, ?_⟩) (fun ch w' hu => (hP ch w' hu).2)
    rw [Act.put_comm a v u h2, Array.setIfInBounds_comm _ _ (by simpa using hne)]
    exact (h u w' hu).first
  refine ⟨⟨fun h0 => absurd h0 hne0, fun j hj => ?_⟩, hF⟩
  rcases hall j hj with rfl | rfl
  · exact wpOp_yields hi hy ⟨hS, hF⟩
  · exact hop _ _ rfl rfl (fun u w' hu => ⟨hRS u w' hu, (h u w' hu).any⟩) (fun ch w' hu => (hP ch w' hu).1)
end
/-! ### what a record holds -/
theorem decS_four (b : List UInt8) : (decS b).length ≤ 4 := by
  unfold decS
  split
  · rename_i h
    rw [rdL_len]
    unfold decB at h
    simp only [Bool.and_eq_true, decide_eq_true_eq] at h
    exact h.1.1.2
  · exact Nat.zero_le _
theorem decS_num (b : List UInt8) : ∀ s ∈ decS b, s.g < 18446744073709551616 ∧ 0 ≤ s.t ∧ s.t ≤ 65535 := by
  intro s hs
  unfold decS at hs
  split at hs
  · unfold rdL at hs
    obtain ⟨k, _, rfl⟩ := List.mem_map.1 hs
    have h1 := num_lt b (14 + 10 * k) 8
    have h2 := num_lt b (22 + 10 * k) 2
    refine ⟨h1, ?_, ?_⟩
    · show (0 : Int) ≤ (num b (22 + 10 * k) 2 : Nat)
      omega
    · show ((num b (22 + 10 * k) 2 : Nat) : Int) ≤ 65535
      omega
  · cases hs
theorem decG_lt (b : List UInt8) : decG b < 18446744073709551616 := by
  unfold decG
  split
  · exact num_lt _ _ _
  · decide
theorem walkT_len {D : DSt} {top : Int} {ps : PL} (h : walkT D D.n top = some ps) (hn : D.n ≤ 2000) : (ps.map Prod.fst).length ≤ 2000 := by
  obtain ⟨lv, hr⟩ := walkT_some h
  exact Nat.le_trans (readT_len hr) hn
section
variable {w : World} {Fd : Nat → Prop} {t : TypeId} {tail : List Value} {p dp : Nat} {S : SSt} {D : DSt}
/-- Another list at its place. -/
theorem SnAt.relist (h : SnAt w Fd t tail p dp S D) {w' : World} {G : Nat → Prop} (k : Keeps G w w') (hG : ∀ b, b < w.heap.size → G b → ¬ own p Fd b) {A : Option Addr} {c : Nat} {l : List Ck} (hr : LR w' (own p Fd) A l) (ok : ({ S with A := A, c := c, l := l } : SSt).Ok) :
    SnAt (w'.setCell ⟨p, 3, none⟩ (.slice A l.length c)) Fd t tail p dp { S with A := A, c := c, l := l } D ∧ Keeps (· = p) w' (w'.setCell ⟨p, 3, none⟩ (.slice A l.length c)) := by
  have hh := (k.block p h.pl (fun g => hG p h.pl g (.inl rfl))).trans h.head
  have hd := h.disk.keep k (fun b hb f g => hG b hb g (.inr f))
  have k2 : Keeps (· = p) w' (w'.setCell ⟨p, 3, none⟩ (.slice A l.length c)) := Keeps.setCell _ _ _ _ rfl
  refine ⟨⟨?_, hr.keep (k2.mono (fun _ _ f => .inl f)) (fun _ _ f => f), hd.keep k2 (fun b _ f e => h.np (e ▸ f)), fun b hb => Nat.lt_of_lt_of_le (h.lt b hb) (Nat.le_trans k.size k2.size), h.np, ok⟩, k2⟩
  rw [heap_setCell_same w' p 3 _ t _ hh]
  unfold scells hcells
  simp
/-- The state while checkpoints are found. -/
structure FI (w1 : World) (Fd : Nat → Prop) (t : TypeId) (tail : List Value) (p dp : Nat) (S : SSt) (D : DSt) (L : List Sn) (k : Nat) (A : Option Addr) (c : Nat) (l : List Ck) (w : World) : Prop where
  at_ : SnAt w Fd t tail p dp { S with A := A, c := c, l := l } D
  rows : OwnK w w1.heap.size A c l
  secs : ∀ Z : Nat → Prop, (∀ b, Z b → b < w1.heap.size ∨ Value.ownBlock (.slice A l.length c) = some b) → ∀ a ∈ l, NR w Z a.R a.secs
  sn : l.map snOf = L.take k
  wk : ∀ a ∈ l, ∃ ps, walkT D D.n a.top = some ps ∧ a.secs = ps.map Prod.fst
  ks : Keeps (· = p) w1 w
def FindOut (w : World) (Fd : Nat → Prop) (t : TypeId) (tail : List Value) (p dp : Nat) (S : SSt) (D : DSt) (e : Ending) (w' : World) : Prop :=
  (e = .returned (.tuple #[]) ∧ chE (D.readAt 0) (D.readAt 1) = 0 ∧ ∃ A c l, l.map snOf = decS (chB (D.readAt 0) (D.readAt 1)) ∧ (∀ a ∈ l, ∃ ps, walkT D D.n a.top = some ps ∧ a.secs = ps.map Prod.fst) ∧
    Stepped w Fd t tail p dp { S with gen := decG (chB (D.readAt 0) (D.readAt 1)), at_ := chN (D.readAt 0) (D.readAt 1), A := A, c := c, l := l } D w' ∧ Rows w S { S with gen := decG (chB (D.readAt 0) (D.readAt 1)), at_ := chN (D.readAt 0) (D.readAt 1), A := A, c := c, l := l } w') ∨
  (∃ S', Stepped w Fd t tail p dp S' D w' ∧ Rows w S S' w' ∧ ((chE (D.readAt 0) (D.readAt 1) ≠ 0 ∧ e = thrownE 30) ∨ (chE (D.readAt 0) (D.readAt 1) = 0 ∧ e = thrownE 60 ∧ ∃ s ∈ decS (chB (D.readAt 0) (D.readAt 1)), walkT D D.n s.t = none)))
theorem FI.fin {w1 wr : World} {L : List Sn} {k : Nat} {A : Option Addr} {c : Nat} {l : List Ck} {S0 : SSt} (f : FI w1 Fd t tail p dp S D L k A c l wr) (k0 : Keeps (· = p) w w1) : Stepped w Fd t tail p dp { S with A := A, c := c, l := l } D wr ∧ Rows w S0 { S with A := A, c := c, l := l } wr := by
  have kk := k0.trans f.ks
  refine ⟨⟨⟨Fd, f.at_, fun _ h => .inl h⟩, kk.mono (fun _ _ h => .inl h)⟩, fun Z hZ _ => ?_⟩
  have hs := k0.size
  exact LR.ofOwn f.rows (fun b hb _ z => by have := hZ b z; omega) (f.secs Z fun b z => .inl (by have := hZ b z; omega))
theorem FI.new {w1 wr w' : World} {L : List Sn} {k : Nat} {A : Option Addr} {c : Nat} {l : List Ck} (f : FI w1 Fd t tail p dp S D L k A c l wr) (kk : Keeps (fun _ => False) wr w') : FI w1 Fd t tail p dp S D L k A c l w' :=
  ⟨f.at_.new kk, f.rows.keeps kk (fun _ _ h => h), fun Z hZ a ha => (f.secs Z hZ a ha).keep (kk.mono (fun _ _ h => h.elim)) (fun _ _ h => h), f.sn, f.wk, f.ks.trans (kk.mono (fun _ _ h => h.elim))⟩
theorem loadSn {w : World} {b : Nat} {g top : Value} (h : w.heap[b]? = some (.cells #[g, top] 117 (0, 0))) : (Instr.loadAt 117 (.pointer (some ⟨b, 0, none⟩))).run Tryz.prog w = .ok (.agg #[g, top]) w :=
  run_loadAt_mid w b 0 117 [g, top] _ (by intro j v hv; rw [Nat.zero_add, cell_of_row _ _ _ _ _ _ h]; simpa using hv) Tryz.underlying117 rfl (by kernel_rfl)
theorem OwnK.app2 {w : World} {B : Nat} {R : Option Addr} {cap : Nat} {l : List Ck} (h : OwnK w B R cap l) (hB : B ≤ w.heap.size) (hl : l.length ≤ 1000) (a : Ck) (ad : Addr) (c : Nat) (ty : TypeId)
    (hc : ∀ j u, (kcells a)[j]? = some u → w.cell? (ad.add j) = some u) :
    ∃ R' cap' w', (Builtin.append_ #[76, 76] ty #[.slice R l.length cap, .slice (some ad) 1 c]).run Tryz.prog w = .ok (.slice R' (l.length + 1) cap') w' ∧ OwnK w' B R' cap' (l ++ [a]) ∧ w.grownBy w' (Value.ownBlock (.slice R l.length cap)) ∧
      (Value.ownBlock (.slice R' (l.length + 1) cap') = Value.ownBlock (.slice R l.length cap) ∨ Value.ownBlock (.slice R' (l.length + 1) cap') = some w.heap.size) := by
  obtain ⟨i0, hi, hz0, hz1, hz2⟩ := info_parts Tryz.infoK
  obtain ⟨v', w', hrun, hown, hg, _, hb⟩ := run_append_own_at (P := Tryz.prog) w B 76 ty 176 i0 _ 3 40 Tryz.underlying76 hi hz0 hz1 hz2 rfl (by decide) _ l.length _ h ad 1 c (kcells a) rfl hc (fun u hu => oneCellK [a] u (by simpa using hu)) (by unfold maxLen; omega) (by omega) hB
  obtain ⟨g, cap', rfl, _, _⟩ := World.ownsRow.form hown (by omega)
  refine ⟨_, cap', w', hrun, ?_, hg, hb⟩
  unfold OwnK
  rw [List.flatMap_append, List.length_append]
  simpa using hown
/-- One checkpoint more. -/
theorem FI.one {w1 wr w3 : World} {L : List Sn} {k : Nat} {A : Option Addr} {c : Nat} {l : List Ck} (f : FI w1 Fd t tail p dp S D L k A c l wr) (hk : k < L.length) (h4 : L.length ≤ 4) (hn : ∀ s ∈ L, s.g < 18446744073709551616 ∧ 0 ≤ s.t ∧ s.t ≤ 65535) (hpl : p < w1.heap.size) (hF1 : ∀ b, Fd b → b < w1.heap.size) (h2000 : D.n ≤ 2000)
    {ps : PL} (hw : walkT D D.n (L.getD k sn0).t = some ps) {R : Option Addr} {cp : Nat} (hni : NewI wr w3 R (ps.map Prod.fst)) (k3 : Keeps (fun _ => False) wr w3) :
    ∃ R' cap' w5, (Builtin.append_ #[76, 76] 76 #[.slice A l.length c, .slice (some ⟨w3.heap.size, 0, none⟩) 1 1]).run Tryz.prog (w3.alloc (.cells (kcells ⟨(L.getD k sn0).g, (L.getD k sn0).t, R, ps.map Prod.fst, cp⟩).toArray 176)) = .ok (.slice R' (l.length + 1) cap') w5 ∧
      (∀ b, wr.heap.size ≤ b → b < w3.heap.size → w5.heap[b]? = w3.heap[b]?) ∧ w5.heap[p]? = wr.heap[p]? ∧ w3.heap.size < w5.heap.size ∧
      FI w1 Fd t tail p dp S D L (k + 1) R' cap' (l ++ [⟨(L.getD k sn0).g, (L.getD k sn0).t, R, ps.map Prod.fst, cp⟩]) (w5.setCell ⟨p, 3, none⟩ (.slice R' (l.length + 1) cap')) := by
  have hs : L.getD k sn0 = L[k]?.getD sn0 := List.getD_eq_getElem?_getD
  rw [List.getElem?_eq_getElem hk] at hs
  have hnk := hn _ (List.getElem_mem hk)
  rw [← show L.getD k sn0 = L[k] from hs] at hnk
  have hll : l.length = k := by
    have := congrArg List.length f.sn
    rw [List.length_map, List.length_take] at this
    omega
  have hsn : L.take (k + 1) = L.take k ++ [L.getD k sn0] := by rw [List.take_succ_eq_append_getElem hk, hs]; rfl
  generalize L.getD k sn0 = s at *
  have hwl := walkT_len hw h2000
  generalize ha : (⟨s.g, s.t, R, ps.map Prod.fst, cp⟩ : Ck) = a at *
  have haR : a.R = R ∧ a.secs = ps.map Prod.fst ∧ a.gen = s.g ∧ a.top = s.t := by subst ha; exact ⟨rfl, rfl, rfl, rfl⟩
  have hw1r := f.ks.size
  have hr3 := k3.size
  have o3 := f.rows.keeps k3 (fun _ _ h => h)
  have kA : Keeps (fun _ => False) w3 (w3.alloc (.cells (kcells a).toArray 176)) := Keeps.alloc _ _ _
  have eA := heap_alloc_new w3 (.cells (kcells a).toArray 176)
  have sA : (w3.alloc (.cells (kcells a).toArray 176)).heap.size = w3.heap.size + 1 := World.size_alloc _ _
  have o4 := o3.keeps kA (fun _ _ h => h)
  obtain ⟨R', cap', w5, hrun, o5, g5, hob⟩ := o4.app2 (by omega) (by omega) a ⟨w3.heap.size, 0, none⟩ 1 76 (fun j u hu => by
    rw [Addr.add_mid, Nat.zero_add, cell_of_row _ _ _ _ _ _ eA]
    simpa using hu)
  have hlow : ∀ b, Value.ownBlock (.slice A l.length c) = some b → w1.heap.size ≤ b ∧ b < wr.heap.size := fun b e => World.ownsRow.lt f.rows b e
  have hs5 := g5.size
  have k5 : ∀ b, b < w3.heap.size → Value.ownBlock (.slice A l.length c) ≠ some b → w5.heap[b]? = w3.heap[b]? := fun b hb hne => (g5.block b (by omega) (fun e => hne e.symm)).trans (Below.heap_alloc _ _ _ hb)
  have kr5 : ∀ b, b < wr.heap.size → Value.ownBlock (.slice A l.length c) ≠ some b → w5.heap[b]? = wr.heap[b]? := fun b hb hne => (k5 b (by omega) hne).trans (k3.block b hb (fun h => h))
  have KG : Keeps (fun b => Value.ownBlock (.slice A l.length c) = some b) wr w5 := ⟨g5.os.trans k3.os, g5.tape.trans k3.tape, g5.output.trans k3.output, by omega, fun b hb hne => kr5 b hb hne⟩
  have hown : ∀ b, own p Fd b → b < w1.heap.size := by
    rintro b (rfl | hb)
    · exact hpl
    · exact hF1 b hb
  have hp5 : w5.heap[p]? = wr.heap[p]? := kr5 p (by omega) (fun e => by have := (hlow p e).1; omega)
  have sec5 : ∀ Z : Nat → Prop, (∀ b, Z b → b < w1.heap.size ∨ Value.ownBlock (.slice R' (l.length + 1) cap') = some b) → ∀ a' ∈ l ++ [a], NR w5 Z a'.R a'.secs := by
    intro Z hZ a' ha' hne
    rcases List.mem_append.1 ha' with hm | hm
    · obtain ⟨ad, e, hb, hf, hc⟩ := f.secs (fun b => (Z b ∧ b < w1.heap.size) ∨ Value.ownBlock (.slice A l.length c) = some b) (fun b h => h.imp (fun h => h.2) id) a' hm hne
      have hb5 := kr5 ad.block hb (fun e => hf (.inr e))
      refine ⟨ad, e, by omega, fun z => ?_, fun i u hu => (World.cell?_of_block (w := wr) (by rw [block_add]; exact hb5)).trans (hc i u hu)⟩
      rcases hZ _ z with h | h
      · exact hf (.inl ⟨z, h⟩)
      · rcases hob with h' | h'
        · exact hf (.inr (h'.symm.trans h))
        · have := h'.symm.trans h
          injection this with this
          omega
    · obtain rfl := List.mem_singleton.1 hm
      have hne' : ps.map Prod.fst ≠ [] := by rw [← haR.2.1]; exact hne
      obtain ⟨ad, e, hb, hlt, hc⟩ := hni hne'
      have hb5 := k5 ad.block hlt (fun e => by have := (hlow _ e).2; omega)
      refine ⟨ad, by rw [haR.1]; exact e, by omega, fun z => ?_, fun i u hu => (World.cell?_of_block (w := w3) (by rw [block_add]; exact hb5)).trans (hc i u (by rw [← haR.2.1]; exact hu))⟩
      rcases hZ _ z with h | h
      · omega
      · rcases hob with h' | h'
        · have := (hlow _ (h'.symm.trans h)).2
          omega
        · have := h'.symm.trans h
          injection this with this
          omega
  have hrow : LR w5 (own p Fd) R' (l ++ [a]) := LR.ofOwn o5 (fun b hb _ z => by have := hown b z; omega) (sec5 _ (fun b z => .inl (hown b z)))
  have hcap : l.length + 1 ≤ cap' := by
    rcases o5.2 with ⟨hv, hn⟩ | ⟨g, c', cur, hv, _, _, hnc, _⟩
    · injection hv with _ e2 _
      simp at e2
    · injection hv with _ _ e3
      simp only [List.length_append, List.length_singleton] at hnc
      omega
  have hok : ({ S with A := R', c := cap', l := l ++ [a] } : SSt).Ok := by
    have ok := f.at_.ok
    refine ⟨ok.gen, ok.at_, by show (l ++ [a]).length ≤ 4; simp; omega, by show (l ++ [a]).length ≤ cap'; simpa using hcap, ok.saved, ok.live, fun a' ha' => ?_⟩
    rcases List.mem_append.1 ha' with hm | hm
    · exact ok.secs a' hm
    · obtain rfl := List.mem_singleton.1 hm
      exact ⟨by rw [haR.2.1]; exact hwl, by rw [haR.2.2.1]; exact hnk.1, by rw [haR.2.2.2]; exact hnk.2.1, by rw [haR.2.2.2]; exact hnk.2.2⟩
  have hrel := f.at_.relist KG (fun b hb e o => by have := (hlow b e).1; have := hown b o; omega) (c := cap') hrow hok
  rw [List.length_append, List.length_singleton] at hrel
  obtain ⟨h6, k6⟩ := hrel
  have hs6 := k6.size
  refine ⟨R', cap', w5, hrun, fun b hb hb3 => k5 b hb3 (fun e => by have := (hlow b e).2; omega), hp5, by omega, h6, ?_, ?_, ?_, ?_, ?_⟩
  · exact o5.keeps k6 (fun g e h => by
      have := (World.ownsRow.lt o5 g e).1
      omega)
  · intro Z hZ a' ha' hne
    rw [List.length_append, List.length_singleton] at hZ
    obtain ⟨ad, e, hb, hf, hc⟩ := sec5 (fun b => Z b ∨ b = p) (fun b h => h.elim (hZ b) (fun e => .inl (e ▸ hpl))) a' ha' hne
    exact ⟨ad, e, by omega, fun z => hf (.inl z), fun i u hu => (World.cell?_of_block (w := w5) (by rw [block_add]; exact k6.block _ hb (fun e => hf (.inr e)))).trans (hc i u hu)⟩
  · rw [List.map_append, f.sn, hsn]
    show _ ++ [snOf a] = _
    rw [← ha]
    rfl
  · intro a' ha'
    rcases List.mem_append.1 ha' with hm | hm
    · exact f.wk a' hm
    · obtain rfl := List.mem_singleton.1 hm
      exact ⟨ps, by rw [haR.2.2.2]; exact hw, haR.2.1⟩
  · have kp : Keeps (· = p) w1 w5 := ⟨KG.os.trans f.ks.os, KG.tape.trans f.ks.tape, KG.output.trans f.ks.output, by omega, fun b hb hne => (kr5 b (by omega) (fun e => by have := (hlow b e).1; omega)).trans (f.ks.block b hb hne)⟩
    exact kp.trans k6
theorem chN_is (a b : List UInt8) : chN a b = 0 ∨ chN a b = 1 := by unfold chN; split <;> simp
theorem chE_is (a b : List UInt8) : chE a b = 0 ∨ chE a b = 30 := by unfold chE; split <;> simp
theorem reached_may {g : Nat} {top : Int} {w' : World} {e : Ending} (h : ReachedOut w D g top e w') : (∃ u, e = .returned u ∧ ReachedOut w D g top (.returned u) w') ∨ (∃ ch, e = .panicked ch ∧ (Ending.panicked ch = thrownE 60 ∧ walkT D D.n top = none ∧ Keeps (fun _ => False) w w')) := by
  obtain ⟨k, ⟨ps', R, c, h1, rfl, h2⟩ | ⟨h1, rfl⟩⟩ := h
  · exact .inl ⟨_, rfl, k, .inl ⟨ps', R, c, h1, rfl, h2⟩⟩
  · exact .inr ⟨_, rfl, rfl, h1, k⟩
set_option maxRecDepth 20000 in
set_option maxHeartbeats 1600000 in
theorem find_at (h : SnAt w Fd t tail p dp S D) (hd : D.down = false) (h8 : 8 ≤ D.n) (h2000 : D.n ≤ 2000) (hl0 : S.l = []) (hA0 : S.A = none) (hc0 : S.c = 0) :
    Calls Tryz.prog 67 #[.pointer (some ⟨p, 0, none⟩)] w (FindOut w Fd t tail p dp S D) := by
  obtain ⟨g0, a0, A0, c00, l0, sv, lv⟩ := S
  simp only at hl0 hA0 hc0
  subst hl0 hA0 hc0
  have he0 : D.readErr 0 = 0 := by unfold DSt.readErr; rw [if_neg (by rw [hd]; simp), if_pos (by omega)]
  have he1 : D.readErr 1 = 0 := by unfold DSt.readErr; rw [if_neg (by rw [hd]; simp), if_pos (by omega)]
  have r0 := sector_at h 0
  rw [he0] at r0
  have hG := decG_lt (chB (D.readAt 0) (D.readAt 1))
  have hL4 := decS_four (chB (D.readAt 0) (D.readAt 1))
  have hLn := decS_num (chB (D.readAt 0) (D.readAt 1))
  have hN := chN_is (D.readAt 0) (D.readAt 1)
  have hE := chE_is (D.readAt 0) (D.readAt 1)
  go_enter Tryz.func67, Tryz.ntmps67
  go_wp2_with fail
  refine r0.mono ?_
  rintro e w1 ⟨k1, ⟨_, R0, c0, rfl, br0, hcc0⟩ | ⟨hx, _⟩⟩
  rotate_left
  · exact absurd rfl hx
  have r1 := sector_at (h.new k1) 1
  rw [he1] at r1
  clear r0
  go_wp2_with fail
  refine r1.mono ?_
  rintro e w2 ⟨k2, ⟨_, R1, c1, rfl, br1, hcc1⟩ | ⟨hx, _⟩⟩
  rotate_left
  · exact absurd rfl hx
  have hch := chooseL_any R0 (D.readAt 0) c0 R1 (D.readAt 1) c1 w2 ((br0.below (k2.toBelow _ (Nat.le_refl _) (fun _ h => h.elim))).more k2.size) br1 hcc0 hcc1
  clear r1 br0 br1 hcc0 hcc1
  unfold FindOut GivesChL at *
  generalize decG (chB (D.readAt 0) (D.readAt 1)) = g at *
  generalize decS (chB (D.readAt 0) (D.readAt 1)) = L at *
  generalize chN (D.readAt 0) (D.readAt 1) = n at *
  generalize chE (D.readAt 0) (D.readAt 1) = E at *
  go_wp2_with fail
  refine hch.mono ?_
  rintro e w3 ⟨R, c, rfl, sr, b3, hlo⟩
  clear hch
  unfold agR
  have k3 : Keeps (fun _ => False) w w3 := (k1.trans k2).trans (keeps_below b3)
  have kR : Keeps (fun _ => False) w3 (w3.alloc (.cells #[.int .u64 (g : Int), .slice R L.length c] 138)) := Keeps.alloc _ _ _
  have eR := heap_alloc_new w3 (.cells #[.int .u64 (g : Int), .slice R L.length c] 138)
  have k4 := k3.trans kR
  have sz4 : (w3.alloc (.cells #[.int .u64 (g : Int), .slice R L.length c] 138)).heap.size = w3.heap.size + 1 := World.size_alloc _ _
  have sr4 : SR (w3.alloc (.cells #[.int .u64 (g : Int), .slice R L.length c] 138)) w3.heap.size R L := sr.below (kR.toBelow _ (Nat.le_refl _) (fun _ h => h.elim))
  have h4 := h.new k4
  have hp3 : p < w3.heap.size := (h.new k3).pl
  have hlo3 : ∀ ad, R = some ad → p < ad.block := fun ad e => by
    have := hlo ad e
    have := ((h.new k1).new k2).pl
    omega
  have D4 := Lib.hid h
  clear sr hlo b3 h
  have hst4 : Stepped w Fd t tail p dp ⟨g0, a0, none, 0, [], sv, lv⟩ D (w3.alloc (.cells #[.int .u64 (g : Int), .slice R L.length c] 138)) := ⟨⟨Fd, h4, fun _ h => .inl h⟩, k4.mono (fun _ _ h => h.elim)⟩
  have hro4 := Stepped.rows D4.out hst4 rfl rfl
  have HST := Lib.hid hst4
  have HRO := Lib.hid hro4
  clear hst4 hro4
  go_wp2_with fail
  generalize (w3.alloc (.cells #[.int .u64 (g : Int), .slice R L.length c] 138)) = w4 at *
  rcases hE with rfl | rfl
  rotate_left
  · refine (demand_bad 30 (by decide) w4).mono ?_
    rintro e w' ⟨rfl, rfl⟩
    exact ⟨rfl, .inr ⟨_, HST.out, HRO.out, .inl ⟨by decide, rfl⟩⟩⟩
  refine (demand_ok w4).mono ?_
  rintro e w' ⟨rfl, rfl⟩
  have ok4 := h4.ok
  obtain ⟨h5, k5⟩ := h4.set (S' := ⟨g, a0, none, 0, [], sv, lv⟩) 1 (.int .u64 (g : Int)) rfl LR.nil ⟨hG, ok4.at_, ok4.len, ok4.room, ok4.saved, ok4.live, ok4.secs⟩
  obtain ⟨h6, k6⟩ := h5.set (S' := ⟨g, n, none, 0, [], sv, lv⟩) 2 (.int .i64 n) rfl LR.nil ⟨hG, hN, ok4.len, ok4.room, ok4.saved, ok4.live, ok4.secs⟩
  have kp5 : Keeps (· = p) w4 (w4.setCell ⟨p, 1, none⟩ (.int .u64 (g : Int))) := Keeps.setCell _ _ _ _ rfl
  have kp6 : Keeps (· = p) w4 ((w4.setCell ⟨p, 1, none⟩ (.int .u64 (g : Int))).setCell ⟨p, 2, none⟩ (.int .i64 n)) := kp5.trans (Keeps.setCell _ _ _ _ rfl)
  have x0 : w4.cell? ⟨w3.heap.size, 0, none⟩ = some (.int .u64 (g : Int)) := by rw [cell_of_row _ _ _ _ _ _ eR]; rfl
  have x1 : ((w4.setCell ⟨p, 1, none⟩ (.int .u64 (g : Int))).setCell ⟨p, 2, none⟩ (.int .i64 n)).cell? ⟨w3.heap.size, 1, none⟩ = some (.slice R L.length c) := by
    rw [cell_of_row _ _ _ _ _ _ ((kp6.block w3.heap.size (by omega) (by omega)).trans eR)]; rfl
  have c1 := h4.c1
  have z1 := h4.fz 1
  have c2 := h5.c2
  have z2 := h5.fz 2
  have sr6 := (sr4.more (B' := w4.heap.size) (by omega)).keepsA kp6 (fun ad e hb => by have := hlo3 ad e; omega)
  have kw6 : Keeps (· = p) w ((w4.setCell ⟨p, 1, none⟩ (.int .u64 (g : Int))).setCell ⟨p, 2, none⟩ (.int .i64 n)) := (k4.mono (fun _ _ h => h.elim)).trans kp6
  have H6 := Lib.hid h6
  have KW6 := Lib.hid kw6
  have SR6 := Lib.hid sr6
  have KP6 := Lib.hid kp6
  clear h5 k5 h6 k6 kp5 sr6 kw6 HST HRO sr4 kp6
  go_wp2_with fail
  clear x0 x1 c1 z1 c2 z2
  generalize hW6 : ((w4.setCell ⟨p, 1, none⟩ (.int .u64 (g : Int))).setCell ⟨p, 2, none⟩ (.int .i64 n)) = W6 at *
  clear hW6
  have hF6 := H6.out.lt
  have hp6 := H6.out.pl
  have f0 : FI W6 Fd t tail p dp ⟨g, n, none, 0, [], sv, lv⟩ D L 0 none 0 [] W6 := ⟨H6.out, ⟨rfl, .inl ⟨rfl, rfl⟩⟩, fun _ _ a ha => by (cases ha), rfl, fun a ha => by (cases ha), Keeps.refl _ _⟩
  have hsz6 := KP6.out.size
  go_loopw [30] (fun i wr => ∃ k : Nat, k ≤ L.length ∧ i = .int .i64 (k : Int) ∧ ∃ A c' l, FI W6 Fd t tail p dp ⟨g, n, none, 0, [], sv, lv⟩ D L k A c' l wr) (fun i _ => L.length - (RowKit.intOf i).toNat)
  case atStart => exact ⟨0, by omega, rfl, none, 0, [], f0⟩
  case round =>
    obtain ⟨k, hk, rfl, A, c', l, f⟩ := hrel
    clear f0
    have hwr := f.ks.size
    by_cases hlt : k < L.length
    · have srk := SR6.out.keepsA f.ks (fun ad e hb => by have := hlo3 ad e; omega)
      obtain ⟨ad, rfl, hb, q0, q1⟩ := srk.at_ hlt
      have hnk := hLn (L.getD k sn0) (by rw [List.getD_eq_getElem?_getD, List.getElem?_eq_getElem hlt]; exact List.getElem_mem hlt)
      have kS : Keeps (fun _ => False) wr (wr.alloc (.cells #[.int .u64 ((L.getD k sn0).g : Int), .int .i64 (L.getD k sn0).t] 117)) := Keeps.alloc _ _ _
      have eS := heap_alloc_new wr (.cells #[.int .u64 ((L.getD k sn0).g : Int), .int .i64 (L.getD k sn0).t] 117)
      have zS : (wr.alloc (.cells #[.int .u64 ((L.getD k sn0).g : Int), .int .i64 (L.getD k sn0).t] 117)).heap.size = wr.heap.size + 1 := World.size_alloc _ _
      have KS := Lib.hid kS
      have ES := Lib.hid eS
      have ZS := Lib.hid zS
      have F := Lib.hid f
      clear kS eS zS srk f
      generalize hsn : L.getD k sn0 = sn at *
      go_wp2_with fail
      generalize (wr.alloc (.cells #[.int .u64 (sn.g : Int), .int .i64 sn.t] 117)) = w7 at *
      refine wp_region_held (S := fun W => W.heap[wr.heap.size]? = some (.cells #[.int .u64 (sn.g : Int), .int .i64 sn.t] 117 (0, 0))) (by kernel_rfl) ?_
      change wpAnyH _ _ _ _ _ _ _ _ w7.drew
      have KD := Lib.hid (KS.out.trans (Keeps.drew _ w7))
      have E8 : Hid (w7.drew.heap[wr.heap.size]? = some (.cells #[.int .u64 (sn.g : Int), .int .i64 sn.t] 117 (0, 0))) := ES.out
      have Z8 : Hid (w7.drew.heap.size = wr.heap.size + 1) := ZS.out
      clear KS ES ZS
      generalize w7.drew = w8 at *
      have f8 := F.out.new KD.out
      have hS : w8.heap[wr.heap.size]? = some (.cells #[.int .u64 (sn.g : Int), .int .i64 sn.t] 117 (0, 0)) := E8.out
      have hre := reached_at f8.at_ hd sn.g sn.t (by omega) (by omega)
      have hp8 := f8.at_.pl
      have y0 : w8.cell? ⟨p, 3, none⟩ = some (.slice A l.length c') := f8.at_.c3
      clear f8
      refine wpAnyH_take (oi := ⟨_, _, _, _, _, _⟩) (i := 0) (v := .pointer (some ⟨p, 0, none⟩)) rfl (by kernel_rfl) (by kernel_rfl) (by kernel_rfl) (fun _ _ _ h => h) (Or.inl ⟨by rfl, fun _ _ => rfl⟩) hS ?_
      try simp only [Act.put, List.setIfInBounds_toArray, List.set_cons_zero, List.set_cons_succ]
      refine wpAnyH_take (oi := ⟨_, _, _, _, _, _⟩) (i := 1) (v := .pointer (some ⟨p, 0, none⟩)) rfl (by kernel_rfl) (by kernel_rfl) (by kernel_rfl) (fun _ _ _ h => h) (Or.inl ⟨by rfl, fun _ _ => rfl⟩) hS ?_
      try simp only [Act.put, List.setIfInBounds_toArray, List.set_cons_zero, List.set_cons_succ]
      refine wpAnyH_take (oi := ⟨_, _, _, _, _, _⟩) (i := 2) (v := .pointer (some ⟨p, 0, none⟩)) rfl (by kernel_rfl) (by kernel_rfl) (by kernel_rfl) (fun _ _ _ h => h) (Or.inl ⟨by rfl, fun _ _ => by go_simp⟩) hS ?_
      try simp only [Act.put, List.setIfInBounds_toArray, List.set_cons_zero, List.set_cons_succ]
      refine wpAnyH_take (oi := ⟨_, _, _, _, _, _⟩) (i := 3) (v := .pointer (some ⟨p, 3, none⟩)) rfl (by kernel_rfl) (by kernel_rfl) (by kernel_rfl) (fun _ _ _ h => h) (Or.inl ⟨by rfl, fun _ _ => by go_simp⟩) hS ?_
      try simp only [Act.put, List.setIfInBounds_toArray, List.set_cons_zero, List.set_cons_succ]
      refine wpAnyH_take (oi := ⟨_, _, _, _, _, _⟩) (i := 5) (v := .pointer (some ⟨p, 0, none⟩)) rfl (by kernel_rfl) (by kernel_rfl) (by kernel_rfl) (fun _ _ _ h => h) (Or.inl ⟨by rfl, fun _ _ => rfl⟩) hS ?_
      try simp only [Act.put, List.setIfInBounds_toArray, List.set_cons_zero, List.set_cons_succ]
      refine wpAnyH_take (oi := ⟨_, _, _, _, _, _⟩) (i := 6) (v := .agg #[.int .u64 (sn.g : Int), .int .i64 sn.t]) rfl (by kernel_rfl) (by kernel_rfl) (by kernel_rfl) (fun _ _ _ h => h) (yif_load rfl 117 (.tmp 6) rfl _ _ rfl fun W h => loadSn h) hS ?_
      try simp only [Act.put, List.setIfInBounds_toArray, List.set_cons_zero, List.set_cons_succ]
      refine BothH.go (oi := ⟨_, _, _, _, _, _⟩) (i := 4) (v := .slice A l.length c') rfl ?_
      refine bothP_step rfl 7 ⟨_, _, _, _, _, _⟩ rfl (by kernel_rfl) hS (yields_load rfl 76 (.tmp 37) rfl _ _ rfl (load_one aggSl y0))
        (fun u w' => ReachedOut w8 D sn.g sn.t (.returned u) w') (fun ch w' => Ending.panicked ch = thrownE 60 ∧ walkT D D.n sn.t = none ∧ Keeps (fun _ => False) w8 w')
        (fun u w' hu => (hu.1.block wr.heap.size (by have := Z8.out; omega) (fun h => h)).trans hS)
        (op_callP (om := ⟨_, _, _, _, _, _⟩) (fn := 126) (args := #[.pointer (some ⟨p, 0, none⟩), .agg #[.int .u64 (sn.g : Int), .int .i64 sn.t]]) rfl rfl (by go_simp) (hre.mono fun e w' h => reached_may h)) ?_ ?_
      · rintro ch w' ⟨hch, hw, kk⟩
        have FX := Lib.hid ((F.out.new (KD.out.trans kk)).fin (S0 := ⟨g0, a0, none, 0, [], sv, lv⟩) KW6.out)
        have hmem : sn ∈ L := by rw [← hsn, List.getD_eq_getElem?_getD, List.getElem?_eq_getElem hlt]; exact List.getElem_mem hlt
        refine ⟨?_, ?_⟩
        · exact ⟨rfl, .inr ⟨_, FX.out.1, FX.out.2, .inr ⟨rfl, hch, sn, hmem, hw⟩⟩⟩
        · exact ⟨rfl, .inr ⟨_, FX.out.1, FX.out.2, .inr ⟨rfl, hch, sn, hmem, hw⟩⟩⟩
      · rintro u w9 hu
        try simp only [Act.put, List.setIfInBounds_toArray, List.set_cons_zero, List.set_cons_succ]
        obtain ⟨k9, ⟨ps, R9, cp, hw, hu, hni⟩ | ⟨_, hx⟩⟩ := hu
        rotate_left
        · cases hx
        cases hu
        have hz9 := k9.size
        have one := F.out.one hlt hL4 hLn hp6 hF6 h2000 (ps := ps) (by rw [hsn]; exact hw) (R := R9) (cp := cp) (w3 := w9) (fun hne => by
          obtain ⟨ad, e, q1, q2, q3⟩ := hni hne
          exact ⟨ad, e, by have := Z8.out; omega, q2, q3⟩) (KD.out.trans k9)
        rw [hsn] at one
        obtain ⟨R', cap', W5, hrun, hb5, hp5, hz5, f5⟩ := one
        have hS9 := (k9.block wr.heap.size (by have := Z8.out; omega) (fun h => h)).trans hS
        have y9 : w9.cell? ⟨p, 3, none⟩ = some (.slice A l.length c') := (k9.cell p 3 hp8 (fun h => h)).trans y0
        have k10 : Keeps (fun _ => False) w9 (w9.alloc (.cells (kcells ⟨sn.g, sn.t, R9, ps.map Prod.fst, cp⟩).toArray 176)) := Keeps.alloc _ _ _
        have hS10 := (k10.block wr.heap.size (by have := Z8.out; omega) (fun h => h)).trans hS9
        have y10 := (k10.cell p 3 (by omega) (fun h => h)).trans y9
        have hS11 := (hb5 wr.heap.size (Nat.le_refl _) (by have := Z8.out; omega)).trans hS9
        have hh5 := hp5.trans F.out.at_.head
        have x5 : W5.cell? ⟨p, 3, none⟩ = some (.slice A l.length c') := by rw [cell_of_row _ _ _ _ _ _ hh5]; rfl
        have xf := frozen_of_row W5 p 3 _ _ hh5
        have hS12 := (Below.heap_setCell W5 ⟨p, 3, none⟩ (.slice R' (l.length + 1) cap') wr.heap.size (by simp; omega)).trans hS11
        have F5 := Lib.hid f5
        clear f5 hb5 hp5 hh5 hni k9 hre hS k10
        refine BothH.step rfl 8 ⟨_, _, _, _, _, _⟩ rfl (by kernel_rfl) hS9 (yields_load rfl 76 (.tmp 37) rfl _ _ rfl (load_one aggSl y9)) (fun u W => u = .slice (some ⟨w9.heap.size, 0, none⟩) 1 1 ∧ W = w9.alloc (.cells (kcells ⟨sn.g, sn.t, R9, ps.map Prod.fst, cp⟩).toArray 176)) (by rintro _ _ ⟨_, rfl⟩; exact hS10) (op_run rfl rfl (by
          simp only [execOp, Sem.run_bind, List.map_toArray, List.map_cons, List.map_nil]
          erw [bsliceK]
          rfl)) ?_
        rintro _ _ ⟨rfl, rfl⟩
        try simp only [Act.put, List.setIfInBounds_toArray, List.set_cons_zero, List.set_cons_succ]
        refine BothH.done rfl (by kernel_rfl) hS10 (yields_load rfl 76 (.tmp 37) rfl _ _ rfl (load_one aggSl y10)) ?_
        try simp only [Act.put, List.setIfInBounds_toArray, List.set_cons_zero, List.set_cons_succ]
        refine wpAnyH_all (rs := [9]) (by kernel_rfl) (by simp) fun i hi => ?_
        obtain rfl : i = 9 := by simpa using hi
        refine op_run (om := ⟨_, _, _, _, _, _⟩) (u := .slice R' (l.length + 1) cap') (w' := W5) rfl rfl (app_op (.tmp 38) (.tmp 42) 76 76 rfl _ hrun) _ _ rfl rfl ?_
        rintro u W ⟨rfl, rfl⟩
        clear hrun hi y10 hS10 y9 hS9
        have hS := hS11
        refine ⟨hS, ?_⟩
        try simp only [Act.put, List.setIfInBounds_toArray, List.set_cons_zero, List.set_cons_succ]
        refine wpAnyH_take (oi := ⟨_, _, _, _, _, _⟩) (i := 10) (v := .pointer (some ⟨p, 0, none⟩)) rfl (by kernel_rfl) (by kernel_rfl) (by kernel_rfl) (fun _ _ _ h => h) (Or.inl ⟨by rfl, fun _ _ => by go_simp⟩) hS ?_
        try simp only [Act.put, List.setIfInBounds_toArray, List.set_cons_zero, List.set_cons_succ]
        refine wpAnyH_take (oi := ⟨_, _, _, _, _, _⟩) (i := 11) (v := .pointer (some ⟨p, 3, none⟩)) rfl (by kernel_rfl) (by kernel_rfl) (by kernel_rfl) (fun _ _ _ h => h) (Or.inl ⟨by rfl, fun _ _ => by go_simp⟩) hS ?_
        try simp only [Act.put, List.setIfInBounds_toArray, List.set_cons_zero, List.set_cons_succ]
        refine wpAnyH_all (rs := [12]) (by kernel_rfl) (by simp) fun i hi => ?_
        obtain rfl : i = 12 := by simpa using hi
        refine skip_op (om := ⟨_, _, _, _, _, _⟩) (w' := W.setCell ⟨p, 3, none⟩ (.slice R' (l.length + 1) cap')) rfl rfl (by go_simp) ?_
        refine ⟨hS12, ?_⟩
        clear x5 xf hS12 hS11 hS hi
        generalize W.setCell ⟨p, 3, none⟩ (.slice R' (l.length + 1) cap') = W9 at *
        try simp only [Act.put, List.setIfInBounds_toArray, List.set_cons_zero, List.set_cons_succ]
        refine wpAnyH_done (by kernel_rfl) ?_ _
        try simp only [Act.put, List.setIfInBounds_toArray, List.set_cons_zero, List.set_cons_succ]
        go_wp2_with fail
        go_roundw
        case rel => exact ⟨k + 1, by omega, by go_num, _, _, _, F5.out⟩
        case measure => simp [RowKit.intOf]; omega
    · obtain rfl : k = L.length := by omega
      have FX := Lib.hid (f.fin (S0 := ⟨g0, a0, none, 0, [], sv, lv⟩) KW6.out)
      have HSN := Lib.hid f.sn
      have HWK := Lib.hid f.wk
      clear f
      go_wp2_with fail
      go_end0
      have hsl := HSN.out
      rw [List.take_length] at hsl
      first
        | exact .inl ⟨rfl, A, c', l, hsl, HWK.out, FX.out.1, FX.out.2⟩
        | exact .inl ⟨rfl, rfl, A, c', l, hsl, HWK.out, FX.out.1, FX.out.2⟩
end
end Go.Proofs.YtebecpjecchfoaaGreatDoor.St
namespace Go.Proofs.YtebecpjecchfoaaGreatDoor.St
set_option linter.unusedSimpArgs false
set_option linter.unusedVariables false
open Go.RowKit Go.Maps

/-- What find and load come to. -/
def FoundS (D : DSt) (S : SSt) : Prop := chE (D.readAt 0) (D.readAt 1) = 0 ∧ S.gen = decG (chB (D.readAt 0) (D.readAt 1)) ∧ S.at_ = chN (D.readAt 0) (D.readAt 1) ∧ S.l.map snOf = decS (chB (D.readAt 0) (D.readAt 1)) ∧ S.l ≠ [] ∧ ∀ a ∈ S.l, ∃ ps, walkT D D.n a.top = some ps ∧ a.secs = ps.map Prod.fst
def OP (D : DSt) : Nat → SSt → DSt → Prop
  | 0, S, D' => S = zst 0 ∧ D' = D
  | 1, S, D' => fitsE D = 0 ∧ S = zst 0 ∧ D' = D
  | 2, S, D' => fitsE D = 0 ∧ FoundS D S ∧ D' = D
  | _, S, D' => fitsE D = 0 ∧ FoundS D S ∧ D' = D ∧ ∃ ps, walkT D D.n S.last.top = some ps ∧ S.saved = memS D ps ∧ S.live = memS D ps
/-- Why a disk is none. -/
def OX (D : DSt) (E : Int) (_ : SSt) (_ : DSt) : Prop := E ≠ 0 ∧ ((E = fitsE D) ∨ (fitsE D = 0 ∧ E = 30 ∧ chE (D.readAt 0) (D.readAt 1) ≠ 0) ∨ (fitsE D = 0 ∧ E = 60 ∧ chE (D.readAt 0) (D.readAt 1) = 0 ∧ ∃ s ∈ decS (chB (D.readAt 0) (D.readAt 1)), walkT D D.n s.t = none))
def fsO : List FuncId := [57, 67, 68]
theorem fsO_enters : ∀ f ∈ fsO, ∀ args w, (callFunc f args).run Tryz.prog w = .ok (.enter f args) w := by
  intro f hf args w
  simp only [fsO, List.mem_cons, List.not_mem_nil, or_false] at hf
  rcases hf with rfl | rfl | rfl
  · exact enters_of Tryz.func57 (by kernel_rfl) rfl args w
  · exact enters_of Tryz.func67 (by kernel_rfl) rfl args w
  · exact enters_of Tryz.func68 (by kernel_rfl) rfl args w
theorem decS_some {a b : List UInt8} (h : chE a b = 0) : decS (chB a b) ≠ [] := by
  have hd : decB (chB a b) = true := by
    unfold chE at h
    unfold chB
    cases ha : decB a <;> cases hb : decB b
    · simp [chW, ha, hb] at h
    · simp [chW, ha, hb]
    · simp [chW, ha, hb]
    · by_cases hg : genOf a < genOf b
      · simp [chW, ha, hb, hg]
      · simp [chW, ha, hb, hg]
  unfold decS
  rw [if_pos hd]
  unfold decB at hd
  simp only [Bool.and_eq_true, decide_eq_true_eq] at hd
  have := hd.1.2
  unfold mayB at this
  simp only [Bool.and_eq_true, decide_eq_true_eq] at this
  intro e
  rw [e] at this
  simp at this
theorem open_steps {D : DSt} (h2000 : D.n ≤ 2000) (B : Nat) (t : TypeId) (p dp : Nat) : Steps (IS False (OP D) B (fun _ => False) t p dp) (XS (OX D) B (fun _ => False) t p dp) B fsO (.pointer (some ⟨p, 0, none⟩)) := by
  refine steps_of (fun h => h.elim) (fun _ h => h.elim) fsO_enters ?_
  intro k hk w Fd S D' h hP _
  have hk3 : k < 3 := hk
  match k, hk3 with
  | 0, _ =>
    obtain ⟨rfl, rfl⟩ := hP
    refine (fits_at h).mono ?_
    rintro e w' ⟨rfl, rfl⟩
    by_cases hf : fitsE D' = 0
    · exact .inl ⟨by unfold endE; rw [if_pos hf], _, _, Stepped.refl h, Rows.refl _ _, hf, rfl, rfl⟩
    · exact .inr ⟨fitsE D', by unfold endE; rw [if_neg hf], _, _, Stepped.refl h, Rows.refl _ _, hf, .inl rfl⟩
  | 1, _ =>
    obtain ⟨hf, rfl, rfl⟩ := hP
    have hd : D'.down = false := by
      unfold fitsE at hf
      cases hdd : D'.down
      · rfl
      · rw [hdd] at hf; simp at hf
    have h8 : 8 ≤ D'.n := by
      unfold fitsE at hf
      rw [hd] at hf
      simp only [Bool.false_eq_true, if_false] at hf
      split at hf
      · cases hf
      · omega
    refine (find_at h hd h8 h2000 rfl rfl rfl).mono ?_
    rintro e w' (⟨rfl, he, A, c, l, hl, hw, hs, hr⟩ | ⟨S', hs, hr, ⟨he, rfl⟩ | ⟨he, rfl, hb⟩⟩)
    · exact .inl ⟨rfl, _, _, hs, hr, hf, ⟨he, rfl, rfl, hl, fun e => decS_some he (by rw [← hl]; show l.map snOf = []; rw [show l = [] from e]; rfl), hw⟩, rfl⟩
    · exact .inr ⟨30, rfl, _, _, hs, hr, by decide, .inr (.inl ⟨hf, rfl, he⟩)⟩
    · exact .inr ⟨60, rfl, _, _, hs, hr, by decide, .inr (.inr ⟨hf, rfl, he, hb⟩)⟩
  | 2, _ =>
    obtain ⟨hf, hF, rfl⟩ := hP
    have hd : D'.down = false := by
      unfold fitsE at hf
      cases hdd : D'.down
      · rfl
      · rw [hdd] at hf; simp at hf
    refine (load_at h hd hF.2.2.2.2.1).mono ?_
    obtain ⟨hk2, el⟩ := SSt.last_eq hF.2.2.2.2.1
    obtain ⟨ps0, hw0, _⟩ := hF.2.2.2.2.2 S.last (by rw [el]; exact List.getElem_mem hk2)
    rintro e w' (⟨ps, hw, rfl, hs⟩ | ⟨hw, _⟩)
    · exact .inl ⟨rfl, _, _, hs, Stepped.rows h hs rfl rfl, hf, hF, rfl, ps, hw, rfl, rfl⟩
    · rw [hw0] at hw; cases hw
/-- What Open leaves. -/
def OpenOut (w : World) (F : Nat → Prop) (dp : Nat) (D : DSt) (e : Ending) (w' : World) : Prop :=
  (∃ q S Fd, e = .returned (.tuple #[.pointer (some ⟨q, 0, none⟩), .int .i64 0]) ∧ w.heap.size ≤ q ∧ SnAt w' Fd 84 [.bool false] q dp S D ∧ OP D 3 S D ∧ Keeps F w w' ∧ ∀ b, Fd b → F b ∨ w.heap.size ≤ b) ∨
  (∃ E S, OX D E S D ∧ e = .returned (.tuple #[.pointer none, .int .i64 E]) ∧ Keeps F w w')
theorem bsliceO (w : World) (q : Nat) (a b c : FuncId) : (Instr.buildSlice 163 3 #[(0, .func (.func a) #[.pointer (some ⟨q, 0, none⟩)] #[]), (1, .func (.func b) #[.pointer (some ⟨q, 0, none⟩)] #[]), (2, .func (.func c) #[.pointer (some ⟨q, 0, none⟩)] #[])]).run Tryz.prog w = .ok (.slice (some ⟨w.heap.size, 0, none⟩) 3 3) (w.alloc (.cells #[mv a q, mv b q, mv c q] 1)) := by kernel_rfl
theorem cellsOpn (dp : Nat) : Tryz.zeroCells82.setIfInBounds 0 (.pointer (some ⟨dp, 0, none⟩)) = (scells dp (zst 0) []).toArray := by
  have hcs : ([.pointer (some ⟨dp, 0, none⟩), .int .u64 0, .int .i64 0, .slice none 0 0] ++ (z8192.map B8 ++ (z8192.map B8 ++ [])) : List Value) = scells dp (zst 0) [] := rfl
  rw [zc82, z82_eq, ← hcs, ← zst_cells]
  generalize List.replicate 16384 zb = Z
  simp
set_option maxRecDepth 20000 in
set_option maxHeartbeats 800000 in
theorem open_any {w : World} {F : Nat → Prop} {dp : Nat} {D : DSt} (h : Dk w F dp D) (hlt : ∀ b, F b → b < w.heap.size) (h2000 : D.n ≤ 2000) :
    Calls Tryz.prog 19 #[.pointer (some ⟨dp, 0, none⟩)] w (OpenOut w F dp D) := by
  have hmf : ∀ (fn : Fn) (first cap : Array Value) (w : World), (Instr.makeFunc fn first cap).run Tryz.prog w = .ok (.func fn first cap) w := fun _ _ _ _ => rfl
  have e1 := heap_alloc_new w (.cells (scells dp (zst 0) []).toArray 82)
  have k1 : Keeps (fun _ => False) w (w.alloc (.cells (scells dp (zst 0) []).toArray 82)) := Keeps.alloc _ _ _
  have k2 : Keeps (fun _ => False) w ((w.alloc (.cells (scells dp (zst 0) []).toArray 82)).alloc (.cells (fsO.map fun f => Value.func (.func f) #[.pointer (some ⟨w.heap.size, 0, none⟩)] #[]).toArray 1)) := k1.trans (Keeps.alloc _ _ _)
  have e2 : ((w.alloc (.cells (scells dp (zst 0) []).toArray 82)).alloc (.cells (fsO.map fun f => Value.func (.func f) #[.pointer (some ⟨w.heap.size, 0, none⟩)] #[]).toArray 1)).heap[w.heap.size]? = some (.cells (scells dp (zst 0) []).toArray 82 (0, 0)) := by
    rw [Below.heap_alloc _ _ _ (by rw [World.size_alloc]; omega)]; exact e1
  have e3 : ((w.alloc (.cells (scells dp (zst 0) []).toArray 82)).alloc (.cells (fsO.map fun f => Value.func (.func f) #[.pointer (some ⟨w.heap.size, 0, none⟩)] #[]).toArray 1)).heap[w.heap.size + 1]? = some (.cells (fsO.map fun f => Value.func (.func f) #[.pointer (some ⟨w.heap.size, 0, none⟩)] #[]).toArray 1 (0, 0)) := blk_at_last _ _ _ (by rw [World.size_alloc])
  have BL := Lib.hid (fun w q => bsliceO w q 57 67 68)
  have hst : SnAt ((w.alloc (.cells (scells dp (zst 0) []).toArray 82)).alloc (.cells (fsO.map fun f => Value.func (.func f) #[.pointer (some ⟨w.heap.size, 0, none⟩)] #[]).toArray 1)) F 82 [] w.heap.size dp (zst 0) D := by
    refine ⟨e2, LR.nil, h.keep k2 (fun _ _ _ h => h), fun b hb => Nat.lt_of_lt_of_le (hlt b hb) k2.size, fun hf => by have := hlt _ hf; omega, ⟨by show 0 < 18446744073709551616; omega, .inl rfl, by show 0 ≤ 4; omega, Nat.le_refl _, z8192_len, z8192_len, fun a ha => by cases ha⟩⟩
  have s2 : ((w.alloc (.cells (scells dp (zst 0) []).toArray 82)).alloc (.cells (fsO.map fun f => Value.func (.func f) #[.pointer (some ⟨w.heap.size, 0, none⟩)] #[]).toArray 1)).heap.size = w.heap.size + 2 := by rw [World.size_alloc, World.size_alloc]
  have hbg := begin_any (open_steps h2000 _ 82 w.heap.size dp) (IS.start hst ⟨rfl, rfl⟩ LR.nil (fun h => h.elim)) (sb := w.heap.size + 1) e3 (fun hf => by
    rcases hf with hf | hf
    · omega
    · have := hlt _ hf; omega) (by decide) (X := XS (OX D) _ (fun _ => False) 82 w.heap.size dp) (fun hx => by obtain ⟨_, _, _, _, _, hx, _⟩ := hx; exact hx.1)
    (J := fun _ S D' => OP D 3 S D') (fun hi => by obtain ⟨Fd, S, D', hF, h, hP, _⟩ := hi; exact ⟨S, D', Fd, h, hP, fun b hb => (hF b).2 (.inr hb)⟩)
  have hfin : ∀ e w', Begun ((w.alloc (.cells (scells dp (zst 0) []).toArray 82)).alloc (.cells (fsO.map fun f => Value.func (.func f) #[.pointer (some ⟨w.heap.size, 0, none⟩)] #[]).toArray 1)) (own w.heap.size F) (fun _ S D' => OP D 3 S D') dp (XS (OX D) ((w.alloc (.cells (scells dp (zst 0) []).toArray 82)).alloc (.cells (fsO.map fun f => Value.func (.func f) #[.pointer (some ⟨w.heap.size, 0, none⟩)] #[]).toArray 1)).heap.size (fun _ => False) 82 w.heap.size dp) e w' → OpenOut w F dp D e w' := by
    intro e w' hB
    have kk : ∀ {w'}, Keeps (own w.heap.size F) ((w.alloc (.cells (scells dp (zst 0) []).toArray 82)).alloc (.cells (fsO.map fun f => Value.func (.func f) #[.pointer (some ⟨w.heap.size, 0, none⟩)] #[]).toArray 1)) w' → Keeps F w w' := fun k => by
      refine ((k2.mono (fun _ _ h => h.elim) : Keeps (own w.heap.size F) w ((w.alloc (.cells (scells dp (zst 0) []).toArray 82)).alloc (.cells (fsO.map fun f => Value.func (.func f) #[.pointer (some ⟨w.heap.size, 0, none⟩)] #[]).toArray 1))).trans k).mono (fun b hb f => ?_)
      rcases f with f | f
      · omega
      · exact f
    have ss : ∀ {Fd : Nat → Prop}, (∀ b, Fd b → own w.heap.size F b ∨ ((w.alloc (.cells (scells dp (zst 0) []).toArray 82)).alloc (.cells (fsO.map fun f => Value.func (.func f) #[.pointer (some ⟨w.heap.size, 0, none⟩)] #[]).toArray 1)).heap.size ≤ b) → ∀ b, Fd b → F b ∨ w.heap.size ≤ b := fun hs b hb => by
      rcases hs b hb with (f | f) | f
      · exact .inr (by omega)
      · exact .inl f
      · exact .inr (by omega)
    rcases hB with ⟨q, S, D', Fd, rfl, hq', h', hP, k', s'⟩ | ⟨E, F', hE, rfl, ⟨_, S, _, _, _, hx, _⟩, k', s'⟩
    · obtain ⟨hf, hF, rfl, hps⟩ := hP
      exact .inl ⟨q, S, Fd, rfl, by omega, h', ⟨hf, hF, rfl, hps⟩, kk k', ss s'⟩
    · exact .inr ⟨E, S, hx, rfl, kk k'⟩
  have HB := Lib.hid (hbg.mono hfin)
  have HC := Lib.hid (cellsOpn dp)
  clear hbg hfin hst e1 e2 e3 k1 k2 h hlt s2
  have hfs : (fsO.map fun f => Value.func (.func f) #[.pointer (some ⟨w.heap.size, 0, none⟩)] #[]).toArray = #[mv 57 w.heap.size, mv 67 w.heap.size, mv 68 w.heap.size] := rfl
  rw [hfs] at HB
  clear hfs
  generalize (scells dp (zst 0) []).toArray = cs at *
  go_enter Tryz.func19, Tryz.ntmps19
  go_wp2_with fail
  rw [HC.out]
  refine HB.out.mono ?_
  intro e w' hF
  have HF := Lib.hid hF
  have hret : ∃ a b, e = .returned (.tuple #[a, b]) := by
    rcases hF with ⟨q, _, _, rfl, _⟩ | ⟨E, _, _, rfl, _⟩
    · exact ⟨_, _, rfl⟩
    · exact ⟨_, _, rfl⟩
  obtain ⟨a, b, rfl⟩ := hret
  clear hF HB
  go_wp2_with fail
  go_ret2
  exact HF.out
end Go.Proofs.YtebecpjecchfoaaGreatDoor.St
namespace Go.Proofs.YtebecpjecchfoaaGreatDoor.St
set_option linter.unusedSimpArgs false
set_option linter.unusedVariables false
open Go.RowKit Go.Maps

/-- A state with no disk, at block p. -/
def IN (p : Nat) (k : Nat) (F : Nat → Prop) (w : World) : Prop := k = 0 ∧ F = (· = p) ∧ p < w.heap.size ∧ w.cell? ⟨p, 0, none⟩ = some (.pointer none)
def XN (E : Int) (_ : Nat → Prop) (_ : World) : Prop := E = 1
theorem nil_steps (B p : Nat) (f : FuncId) (fs : List FuncId) (hen : ∀ g ∈ f :: fs, ∀ args w, (callFunc g args).run Tryz.prog w = .ok (.enter g args) w) (hf : f = 57) : Steps (IN p) XN B (f :: fs) (.pointer (some ⟨p, 0, none⟩)) where
  keepI := by
    rintro k F w w' G ⟨rfl, rfl, hl, hc⟩ kk hG
    exact ⟨rfl, rfl, Nat.lt_of_lt_of_le hl kk.size, (kk.cell p 0 hl (fun g => (hG p hl g).2 rfl)).trans hc⟩
  keepX := fun h _ _ => h
  lt := by
    rintro k F w b ⟨rfl, rfl, hl, _⟩ rfl
    exact hl
  enters := hen
  step := by
    rintro k F w hk hB ⟨rfl, rfl, hl, hc⟩
    subst hf
    refine (fits_nil hc).mono ?_
    rintro e w' ⟨rfl, rfl⟩
    exact .inr ⟨1, rfl, _, rfl, Keeps.refl _ _, fun _ h => .inl h⟩
def NilOut (w : World) (e : Ending) (w' : World) : Prop := e = .returned (.tuple #[.pointer none, .int .i64 1]) ∧ Keeps (fun _ => False) w w'
theorem begin_nil (w : World) (cs : Array Value) (hc : cs[0]? = some (.pointer none)) (f : FuncId) (fs : List FuncId) (hen : ∀ g ∈ f :: fs, ∀ args w, (callFunc g args).run Tryz.prog w = .ok (.enter g args) w) (hf : f = 57) (hn : (f :: fs).length ≤ 10) :
    Calls Tryz.prog 56 #[.pointer (some ⟨w.heap.size, 0, none⟩), .slice (some ⟨w.heap.size + 1, 0, none⟩) (f :: fs).length (f :: fs).length]
      ((w.alloc (.cells cs 82)).alloc (.cells ((f :: fs).map fun f => Value.func (.func f) #[.pointer (some ⟨w.heap.size, 0, none⟩)] #[]).toArray 1)) (NilOut w) := by
  have k2 : Keeps (fun _ => False) w ((w.alloc (.cells cs 82)).alloc (.cells ((f :: fs).map fun f => Value.func (.func f) #[.pointer (some ⟨w.heap.size, 0, none⟩)] #[]).toArray 1)) := (Keeps.alloc _ _ _).trans (Keeps.alloc _ _ _)
  have e2 : ((w.alloc (.cells cs 82)).alloc (.cells ((f :: fs).map fun f => Value.func (.func f) #[.pointer (some ⟨w.heap.size, 0, none⟩)] #[]).toArray 1)).heap[w.heap.size]? = some (.cells cs 82 (0, 0)) := by
    rw [Below.heap_alloc _ _ _ (by rw [World.size_alloc]; omega)]; exact heap_alloc_new _ _
  have e3 : ((w.alloc (.cells cs 82)).alloc (.cells ((f :: fs).map fun f => Value.func (.func f) #[.pointer (some ⟨w.heap.size, 0, none⟩)] #[]).toArray 1)).heap[w.heap.size + 1]? = some (.cells ((f :: fs).map fun f => Value.func (.func f) #[.pointer (some ⟨w.heap.size, 0, none⟩)] #[]).toArray 1 (0, 0)) := blk_at_last _ _ _ (by rw [World.size_alloc])
  have hst : IN w.heap.size 0 (· = w.heap.size) ((w.alloc (.cells cs 82)).alloc (.cells ((f :: fs).map fun f => Value.func (.func f) #[.pointer (some ⟨w.heap.size, 0, none⟩)] #[]).toArray 1)) :=
    ⟨rfl, rfl, by rw [World.size_alloc, World.size_alloc]; omega, by rw [cell_of_row _ _ _ _ _ _ e2]; exact hc⟩
  refine (begin_any (dp := 0) (nil_steps _ w.heap.size f fs hen hf) hst e3 (by show ¬ (w.heap.size + 1 = w.heap.size); omega) hn (fun hx => by show _ ≠ (0 : Int); rw [show _ = (1 : Int) from hx]; decide) (J := fun _ _ _ => False) (fun hi => by obtain ⟨h, _⟩ := hi; cases h)).mono ?_
  rintro e w' (⟨_, _, _, _, _, _, _, hj, _⟩ | ⟨E, F', _, rfl, hx, k', _⟩)
  · exact hj.elim
  · obtain rfl : E = 1 := hx
    exact ⟨rfl, ⟨k'.os.trans k2.os, k'.tape.trans k2.tape, k'.output.trans k2.output, Nat.le_trans k2.size k'.size, fun b hb hf => (k'.block b (Nat.lt_of_lt_of_le hb k2.size) (fun e => by have : b = w.heap.size := e; omega)).trans (k2.block b hb hf)⟩⟩
theorem cells_nil (i : Nat) (v : Value) (hi : i ≠ 0) : ((Tryz.zeroCells82.setIfInBounds 0 (.pointer none)).setIfInBounds i v)[0]? = some (.pointer none) := by
  rw [zc82, z82_eq]
  generalize List.replicate 16384 zb = Z
  rw [Array.getElem?_setIfInBounds_ne hi]
  simp
theorem cells_nil0 : (Tryz.zeroCells82.setIfInBounds 0 (.pointer none))[0]? = some (.pointer none) := by
  rw [zc82, z82_eq]
  generalize List.replicate 16384 zb = Z
  simp
set_option maxRecDepth 20000 in
set_option maxHeartbeats 800000 in
theorem format_nil (w : World) : Calls Tryz.prog 13 #[.pointer none] w (NilOut w) := by
  have hmf : ∀ (fn : Fn) (first cap : Array Value) (w : World), (Instr.makeFunc fn first cap).run Tryz.prog w = .ok (.func fn first cap) w := fun _ _ _ _ => rfl
  have BL := Lib.hid (fun w q => bslice5 w q 57 58 59 60 61)
  have HB := Lib.hid (begin_nil w _ (cells_nil 2 (.int .i64 1) (by decide)) 57 [58, 59, 60, 61] fsF_enters rfl (by decide))
  go_enter Tryz.func13, Tryz.ntmps13
  go_wp2_with fail
  refine HB.out.mono ?_
  rintro e w' ⟨rfl, k⟩
  have HK := Lib.hid k
  clear k HB
  go_wp2_with fail
  go_ret2
  exact ⟨rfl, HK.out⟩
set_option maxRecDepth 100000 in
theorem open_nil (w : World) : Calls Tryz.prog 19 #[.pointer none] w (NilOut w) := by
  have hmf : ∀ (fn : Fn) (first cap : Array Value) (w : World), (Instr.makeFunc fn first cap).run Tryz.prog w = .ok (.func fn first cap) w := fun _ _ _ _ => rfl
  have BL := Lib.hid (fun w q => bsliceO w q 57 67 68)
  have HB := Lib.hid (begin_nil w _ cells_nil0 57 [67, 68] fsO_enters rfl (by decide))
  go_enter Tryz.func19, Tryz.ntmps19
  go_wp2_with fail
  refine HB.out.mono ?_
  rintro e w' ⟨rfl, k⟩
  have HK := Lib.hid k
  clear k HB
  go_wp2_with fail
  go_ret2
  exact ⟨rfl, HK.out⟩
end Go.Proofs.YtebecpjecchfoaaGreatDoor.St
namespace Go.Proofs.YtebecpjecchfoaaGreatDoor.St
set_option linter.unusedSimpArgs false
open Go.ChangeShapes Go.WideShapes Go.ChangeAt Go.RowKit
set_option linter.unusedVariables false

theorem cellsSA : Tryz.prog.cellsOf 36 = 3 := by kernel_rfl
/-- A call: which, its page, its bytes. -/
structure SAct where
  do_ : Int
  pg : Int
  A : Option Addr
  xs : List UInt8
  c : Nat
def sacells (x : SAct) : List Value := [.int .i64 x.do_, .int .i64 x.pg, .slice x.A x.xs.length x.c]
structure SAct.Ok (W : World) (x : SAct) : Prop where
  br : BR W W.heap.size x.A x.xs
  cap : x.xs.length ≤ x.c
  p0 : -9223372036854775808 ≤ x.pg
  p1 : x.pg ≤ 9223372036854775807
variable {H : Type} {enc : TypeId × Value → H} {W : World}
set_option maxRecDepth 100000 in
theorem sslice_of {fuel : Nat} {c : Value} {x : DataW H × List MemPlace} (h : DataW.trod enc Tryz.prog W 0 (fun _ => true) true fuel 34 [c] = some x) : ∃ A xs cap, c = .slice A (xs : List UInt8).length cap ∧ xs.length ≤ cap ∧ BR W W.heap.size A xs ∧
    ∀ (ts : List TypeId) (ds : List (DataW H)) (j : Nat), (DataW.weightsEach Tryz.prog ts ds).all (· ≤ reachBytes) = true → ts[j]? = some 34 → ds[j]? = some x.1 → xs.length ≤ 140737488351232 := by
  rcases DataW.trod_slice Tryz.underlying34 h with ⟨e, _⟩ | ⟨a, len, cap, _, _, _, _, e, _, _, hl, _⟩
  · cases e
    exact ⟨none, [], 0, rfl, Nat.le_refl _, BR.nil, fun _ _ _ _ _ _ => by simp⟩
  · cases e
    obtain ⟨xs, rfl, hb, hs⟩ := bytes_in (H := H) (enc := enc) (W := W) (a := some a) (cap := cap) (d := x.1) (p := x.2) ⟨fuel, h⟩
    exact ⟨some a, xs, cap, rfl, hl, hb, hs⟩
set_option maxRecDepth 100000 in
/-- One that lies in memory; its own data's weights bound its bytes. -/
theorem sact_cells {fuel : Nat} {cs : List Value} {x : DataW H × List MemPlace} (h : DataW.trod enc Tryz.prog W 0 (fun _ => true) true fuel 36 cs = some x) :
    ∃ a : SAct, cs = sacells a ∧ a.Ok W ∧ ((∀ n ∈ x.1.weights Tryz.prog 36, n ≤ reachBytes) → a.xs.length ≤ 140737488351232) := by
  obtain ⟨xs, n, _, hx, hl, hlen, hg⟩ := DataW.trod_struct Tryz.underlying36 h
  rw [cellsSA] at hl
  match cs, hl with
  | [c0, c1, c2], _ =>
    match xs, hlen with
    | [y0, y1, y2], _ =>
      have g0 := hg 0 _ rfl
      have g1 := hg 1 _ rfl
      have g2 := hg 2 _ rfl
      obtain ⟨a0, e0, _, _⟩ := DataW.trod_int Tryz.underlying3 g0
      obtain ⟨a1, e1, _, w1⟩ := DataW.trod_int Tryz.underlying3 g1
      obtain ⟨A, ys, cap, rfl, hc, hb, hs⟩ := sslice_of g2
      cases e0; cases e1
      refine ⟨⟨a0, a1, A, ys, cap⟩, rfl, ⟨hb, hc, (i64_of_wf w1).1, (i64_of_wf w1).2⟩, fun hw => ?_⟩
      refine hs [3, 3, 34] [y0.1, y1.1, y2.1] 2 (List.all_eq_true.2 fun m hm => ?_) rfl rfl
      have : x.1 = .agg [y0.1, y1.1, y2.1] := by rw [hx]; rfl
      rw [this] at hw
      unfold DataW.weights at hw
      rw [Tryz.underlying36] at hw
      simpa using hw m hm
set_option maxRecDepth 100000 in
theorem sact_in {r : Reach} {b0 : Nat} {v : Value} {d : DataW H} {p : List MemPlace} (hv : Value.okWide Tryz.prog W r b0 36 v) (h : DataW.Trod enc Tryz.prog W 0 (fun _ => true) true 36 v d p) : ∃ a : SAct, v = .agg (sacells a).toArray ∧ a.Ok W := by
  obtain ⟨cs, rfl, hsz⟩ := okWide_struct Tryz.underlying36 hv
  obtain ⟨fuel, hf⟩ := h
  obtain ⟨a, e, ho, _⟩ := sact_cells hf
  refine ⟨a, ?_, ho⟩
  have : (Value.agg cs).cells = cs := rfl
  rw [this] at e
  rw [← e]
end Go.Proofs.YtebecpjecchfoaaGreatDoor.St
namespace Go.Proofs.YtebecpjecchfoaaGreatDoor
open Go.ChangeShapes Go.WideShapes Go.ChangeAt Go.RowKit

set_option maxRecDepth 100000 in
theorem bytes_cap {H : Type} {enc : TypeId × Value → H} {W : World} {a : Option Addr} {len cap : Nat} {d : DataW H} {p : List MemPlace} (h : DataW.Trod enc Tryz.prog W 0 (fun _ => true) true 34 (.slice a len cap) d p) : len ≤ cap := by
  obtain ⟨fuel, hf⟩ := h
  rcases DataW.trod_slice Tryz.underlying34 hf with ⟨e, _⟩ | ⟨a', len', cap', _, _, _, _, e, _, _, hl, _⟩
  · simp [Value.cells] at e
    omega
  · simp [Value.cells] at e
    omega
end Go.Proofs.YtebecpjecchfoaaGreatDoor
