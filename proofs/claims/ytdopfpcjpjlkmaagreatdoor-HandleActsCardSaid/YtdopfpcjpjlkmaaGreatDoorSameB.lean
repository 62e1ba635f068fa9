/-
  SameB
-/
import Derived.Test.YtdopfpcjpjlkmaaGreatDoorGLe
set_option maxHeartbeats 400000
namespace Go.Proofs.YtdopfpcjpjlkmaaGreatDoor
open Go.RowKit
set_option maxRecDepth 100000 in
theorem sameB_any (A:Option Addr)(xs:List UInt8)(c:Nat)(A':Option Addr)(ys:List UInt8)(c':Nat)(w:World)(hx:BR w w.heap.size A xs)(hy:BR w w.heap.size A' ys):
  Calls Tryz.prog 140 #[.slice A xs.length c,.slice A' ys.length c'] w fun e w'=>e=.returned (.bool (decide (xs=ys)))∧w=w':=by
 have c1:=zex (P:=Tryz.prog) w _ _ _ _ A xs c hx Tryz.underlying31 Tryz.underlying5 Tryz.underlying9
 have c2:=zex (P:=Tryz.prog) w _ _ _ _ A' ys c' hy Tryz.underlying31 Tryz.underlying5 Tryz.underlying9
 clear hx hy
 go_enter Tryz.func140,Tryz.ntmps140
 go_wp2
 go_ret
 exact⟨zge (zsq xs ys),rfl⟩
end Go.Proofs.YtdopfpcjpjlkmaaGreatDoor
