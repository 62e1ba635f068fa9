/-
  WalkFsActs
-/
import Derived.Test.YtefgabnmcfpdcaaGreatDoorGA
import Derived.WalkKit
import Derived.ProofKit
import Derived.OpenShut
import Derived.Deep.DeepHandedRow
import Derived.Lib.LaidTab
import Derived.ChangeOld
import Derived.Below
import Derived.Deep.QuietTactic
import Derived.BigQuiet
import Derived.WalkSmall
import Derived.Test.YtefgabnmcfpdcaaGreatDoorGFp
import Derived.Test.YtefgabnmcfpdcaaGreatDoorGSnG
import Derived.Test.YtefgabnmcfpdcaaGreatDoorGFi
namespace Go.Proofs.YtefgabnmcfpdcaaGreatDoor.fsActs
open Go.ChangeShapes Go.WideShapes Go.ChangeAt Go.RowKit Ex Fs Ino Mm Fr
set_option linter.unusedVariables false
theorem own : ownKnob Tryz.prog.godebug = none := by kernel_rfl
theorem laidOut : laidOutB Tryz.prog = true := by kernel_rfl
set_option maxHeartbeats 1000000 in
theorem walk (A0 : Option Addr) (l0 : List FAct) (c0 : Nat) (w : World) (o0 : FActsOk w A0 l0) (m0 : l0.length ≤ 1599289640401 ∧ ∀ a ∈ l0, a.xs.length ≤ 140737488351232) (hT : Tab w) :
  Calls Tryz.prog 3 #[.slice A0 l0.length c0] w fun e w' => e = .returned (.bool true) ∧ Below w.heap.size w w' := by
 obtain ⟨n1, n2⟩ := m0
 exact acts_any w hT A0 l0 c0 o0 n1 n2
end Go.Proofs.YtefgabnmcfpdcaaGreatDoor.fsActs
