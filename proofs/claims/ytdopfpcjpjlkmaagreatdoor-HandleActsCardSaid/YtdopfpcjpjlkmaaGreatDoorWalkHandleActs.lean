/-
  WalkHandleActs
-/
import Derived.Deep.DeepHandedRow
import Derived.Lib.LaidTab
import Derived.ChangeOld
import Derived.Test.YtdopfpcjpjlkmaaGreatDoorHaLw
set_option maxHeartbeats 1000000
set_option linter.unusedVariables false
namespace Go.Proofs.YtdopfpcjpjlkmaaGreatDoor.handleActs
open Go.ChangeShapes Go.WideShapes Go.ChangeAt Go.RowKit Ex Fs Ino Mm Fr Hd
theorem own:ownKnob Tryz.prog.godebug=none:=by kernel_rfl
theorem yhp:laidOutB Tryz.prog=true:=by kernel_rfl
theorem walk (A0:Option Addr)(l0:List HAct)(c0:Nat)(w:World)(o0:HActsOk w A0 l0)(m0:l0.length≤1759218604441∧∀ a∈l0,a.xs.length≤140737488351232)(hT:Tab w):
  Calls Tryz.prog 3 #[.slice A0 l0.length c0] w fun e w'=>e=.returned (.bool true)∧Below w.heap.size w w':=by
 obtain⟨n1,n2⟩:=m0
 exact yax w hT A0 l0 c0 o0 n1 n2
end Go.Proofs.YtdopfpcjpjlkmaaGreatDoor.handleActs
