/-
  WalkFsRaw
-/
import Derived.Test.YtefgabnmcfpdcaaGreatDoorGA
import Derived.WalkKit
import Derived.ProofKit
import Derived.OpenShut
import Derived.Deep.DeepHandedRow
import Derived.Lib.LaidTab
import Derived.ChangeOld
import Derived.Below
import Derived.Deep.QuietTactic
import Derived.BigQuiet
import Derived.WalkSmall
import Derived.Test.YtefgabnmcfpdcaaGreatDoorFrRaw
import Derived.Test.YtefgabnmcfpdcaaGreatDoorGSnG
import Derived.Test.YtefgabnmcfpdcaaGreatDoorGFi
namespace Go.Proofs.YtefgabnmcfpdcaaGreatDoor.fsRaw
open Go.ChangeShapes Go.WideShapes Go.ChangeAt Go.RowKit Ex Fs Ino Mm Fr
set_option linter.unusedVariables false
theorem own : ownKnob Tryz.prog.godebug = none := by kernel_rfl
theorem laidOut : laidOutB Tryz.prog = true := by kernel_rfl
set_option maxHeartbeats 1000000 in
theorem walk (A0 : Option Addr) (x0 : List UInt8) (c0 : Nat) (A1 : Option Addr) (l1 : List FAct) (c1 : Nat) (w : World) (b0 : BR w w.heap.size A0 x0) (l0 : x0.length ≤ 140737488351232) (q0 : x0.length ≤ c0) (o1 : FActsOk w A1 l1) (m1 : l1.length ≤ 1599289640401 ∧ ∀ a ∈ l1, a.xs.length ≤ 140737488351232) (hT : Tab w) :
  Calls Tryz.prog 4 #[.slice A0 x0.length c0, .slice A1 l1.length c1] w fun e w' => e = .returned (.bool true) ∧ Below w.heap.size w w' := by
 obtain ⟨n1, n2⟩ := m1
 exact raw_any w hT A0 x0 c0 b0 A1 l1 c1 o1 n1 n2
end Go.Proofs.YtefgabnmcfpdcaaGreatDoor.fsRaw
