/- merged -/
import Derived.WalkLawsBesides
import Derived.Test.YtdopfpcjpjlkmaaGreatDoorGT
import Derived.RangeFuncNested
import Derived.RangeFuncBox
import Derived.RangeFuncBound
import Derived.RangeFuncCalls
import Derived.RangeFuncLeaves
import Derived.Shelf.Abstract
import Derived.Shelf.RegionOpen
import Derived.OwnWalkIn
import Derived.TacticsInMore
import Derived.LoopNIn
import Derived.LoopIn
namespace Go.Proofs.YtdopfpcjpjlkmaaGreatDoor
section
open Go.RowKit
end
section
open Go.RowKit
abbrev I6 (z:Int):Value:=.int .i64 z
def ng (zs:List Int):Value:=.agg (zs.map I6).toArray
def z32:List Int:=List.replicate 32 0
theorem ygo:z32.length=32:=by simp[z32]
end
section
open Go.RowKit
section
variable {F:Fence} {n:Nat} {P:Program} {w w':World} {ops:Array Oper} {rest:List Oper} {o:Oper} {a:Act} {Q:Exit→Act→World→Prop}
theorem zcy (hw:Region.wanted o (yielded ops a.tmps)=true)(hd:∀ c,o.op≠.defer c)(hab:o.about P w a.eval=none)(v:Value)(hrun:(execOp a.eval o).run P w=.ok (.value v) w')(h:wpListIn F n P ops Q rest (a.put o.dst v) w'):wpListIn F n P ops Q (o::rest) a w:=by
 unfold wpListIn
 rw[zp hw]
 refine⟨fun f hf=>(by rw[hab] at hf;cases hf),?_⟩
 rw[Oper.semAt_plain F _ _ hd,hrun]
 exact h
theorem zke {op:Op} {d:Option Tmp} {ty:TypeId} {pos:String} {af:Array Edge} {g:Option (Nat × Bool)}
  (h:wpListIn F n P ops Q (⟨d,op,ty,pos,af,g⟩::rest) a w):wpListIn F n P ops Q (⟨d,op,ty,pos,af,g⟩::rest) a w:=h
end
theorem zbt {W W':World} {row:Option Nat} {b:Nat} {c:Array Value} {t:TypeId} {fr:Nat × Nat} (h:W.heap[b]?=some (.cells c t fr))(hg:W.grownBy W' row)(hr:∀ r,row=some r→∃ o:Obj,W.heap[r]?=some o∧o.isCells=false):W'.heap[b]?=some (.cells c t fr):=
 (hg.block b (Array.getElem?_eq_some_iff.1 h).1 (fun e=>by
  obtain⟨o,ho,hc⟩:=hr b e.symm
  rw[h] at ho
  cases ho
  cases hc)).trans h
end
end Go.Proofs.YtdopfpcjpjlkmaaGreatDoor
