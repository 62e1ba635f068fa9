/-
  WalkHandlePlaces
-/
import Derived.Deep.DeepHandedRow
import Derived.Lib.LaidTab
import Derived.ChangeOld
import Derived.Test.YtefgabnmcfpdcaaGreatDoorHaPl
set_option maxHeartbeats 1000000
set_option linter.unusedVariables false
namespace Go.Proofs.YtefgabnmcfpdcaaGreatDoor.handlePlaces
open Go.ChangeShapes Go.WideShapes Go.ChangeAt Go.RowKit Ex Fs Ino Mm Fr Hd
theorem walk (A0:Option Addr)(x0:List UInt8)(c0:Nat)(A1:Option Addr)(l1:List HAct)(c1:Nat)(w:World)(b0:BR w w.heap.size A0 x0)(l0:x0.length≤140737488351232)(q0:x0.length≤c0)(o1:HActsOk w A1 l1)(m1:l1.length≤1759218604441∧∀ a∈l1,a.xs.length≤140737488351232)(hT:Tab w):
  Calls Tryz.prog 7 #[.slice A0 x0.length c0,.slice A1 l1.length c1] w fun e w'=>e=.returned (.bool true)∧Below w.heap.size w w':=by
---
 obtain⟨n1,n2⟩:=m1
 exact zvy w hT A0 x0 c0 b0 A1 l1 c1 o1 n1 n2
end Go.Proofs.YtefgabnmcfpdcaaGreatDoor.handlePlaces
