/- merged -/
import Derived.Test.YtdopfpcjpjlkmaaGreatDoorGT
namespace Go.Proofs.YtdopfpcjpjlkmaaGreatDoor
section
open Go.RowKit
section
variable {P:Program} {ops:Array Oper} {md:Region.Mode} {S:World→Prop}
structure BothH (P:Program) (md:Region.Mode) (ops:Array Oper) (Q:Exit→Act→World→Prop) (S:World→Prop) (i:Nat) (oi:Oper) (v:Value) (f:Nat) (listed:Array Bool) (a:Act) (w:World):Prop where
 any:wpAnyH P md ops Q S (f+1) listed a w
 first:wpAnyH P md ops Q S f (listed.setIfInBounds i true) (a.put oi.dst v) w
variable {Q:Exit→Act→World→Prop} {i:Nat} {oi:Oper} {v:Value}
theorem BothH.go {f:Nat} {listed:Array Bool} {a:Act} {w:World} (_hi:ops[i]?=some oi)(h:BothH P md ops Q S i oi v f listed a w):wpAnyH P md ops Q S (f+1) listed a w:=h.any
theorem BothH.done {f:Nat} {listed:Array Bool} {a:Act} {w:World} (hi:ops[i]?=some oi)(hr:Region.ready md ops listed=[i])(hS:S w)(hy:YieldsAt P ops w oi v a)(h:wpAnyH P md ops Q S f (listed.setIfInBounds i true) (a.put oi.dst v) w):BothH P md ops Q S i oi v f listed a w:=by
 refine⟨⟨fun h0=>(by rw[hr] at h0;cases h0),fun j hj=>?_⟩,h⟩
 rw[hr] at hj
 obtain rfl:j=i:=by simpa using hj
 exact zdu hi hy ⟨hS,h⟩
theorem BothH.step {f:Nat} {listed:Array Bool} {a:Act} {w:World} (hi:ops[i]?=some oi)(m:Nat)(om:Oper)(hm:ops[m]?=some om)
  (hB:((Region.ready md ops listed).all (fun j=>j==i || j==m) && !(Region.ready md ops listed).isEmpty && decide (Region.ready md ops (listed.setIfInBounds i true)=[m]) && oi.apart ops om && Region.noSelect ops && i != m)=true)
  (hS:S w) (hy:YieldsAt P ops w oi v a) (R:Value→World→Prop) (hRS:∀ u w',R u w'→S w')
  (hop:∀ (K:Act→World→Prop) (a':Act),execOp a'.eval om=execOp a.eval om→Region.wanted om (yielded ops a'.tmps)=Region.wanted om (yielded ops a.tmps)→(∀ u w',R u w'→K (a'.put om.dst u) w')→wpOp P ops Q m K a' w)
  (h:∀ u w',R u w'→BothH P md ops Q S i oi v f (listed.setIfInBounds m true) (a.put om.dst u) w'):BothH P md ops Q S i oi v (f+1) listed a w:=by
 simp only[Bool.and_eq_true,decide_eq_true_eq,List.all_eq_true,Bool.or_eq_true,beq_iff_eq,Bool.not_eq_true',List.isEmpty_eq_false_iff] at hB
 obtain⟨⟨⟨⟨⟨hall,hne0⟩,hr⟩,hap⟩,hs⟩,hne⟩:=hB
 obtain⟨h1,h2,h3⟩:=Oper.apart_spec hap
 have hF:wpAnyH P md ops Q S (f+1) (listed.setIfInBounds i true) (a.put oi.dst v) w:=by
  refine⟨fun h0=>(by rw[hr] at h0;cases h0),fun j hj=>?_⟩
  rw[hr] at hj
  obtain rfl:j=m:=by simpa using hj
  refine hop _ _ (execOp_put om (fun cs b=>Region.noSelect_spec hs j om cs b hm) a oi.dst v h1) (wanted_put om a oi.dst v h1) fun u w' hu=>⟨hRS u w' hu,?_⟩
  rw[Act.put_comm a v u h2,Array.setIfInBounds_comm _ _ (by simpa using hne)]
  exact(h u w' hu).first
 refine⟨⟨fun h0=>absurd h0 hne0,fun j hj=>?_⟩,hF⟩
 rcases hall j hj with rfl | rfl
 ·exact zdu hi hy ⟨hS,hF⟩
 ·exact hop _ _ rfl rfl fun u w' hu=>⟨hRS u w' hu,(h u w' hu).any⟩
end
end
section
open Go.ChangeShapes Go.WideShapes Go.ChangeAt Go.RowKit
end
end Go.Proofs.YtdopfpcjpjlkmaaGreatDoor
