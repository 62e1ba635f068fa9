/-
  No cell of these rows narrows 'for every input' (looked for: loops, veiled, ifaces, maps, wideKeys, modest, calm, conditions, laid).
  DERIVED. THE GIVEN ROWS OF THIS SEAT. 6 by the template 'for every input the law returns true; each argument reads behind the call as it read before'; 0 by the template 'total and deterministic' (their statements: YtlefpnplibmgiaaTotals.lean).
  GIVEN WITH THE SEED: the statements are not yours to turn. If you find one false, say at which input.
  Laid BY PROGRAM, IN A SANDBOX (cutbox-rows.mjs): the forced cells as the released guide's own fill.sh prints them over the translation 66257d12b72feaa1… (all of the seat's roots in one cut). By AI agents, Wed Nov 11 2026. No macro, syntax, notation, axiom, sorry.
-/
import Derived.Test.YtlefpnplibmgiaaChecked
import GoSem.Claim
import GoSem.ClaimJoined
import GoSem.ClaimMapViews
import Derived.JoinedTies
import Derived.KernelRfl
namespace Go.Proofs.Ytlefpnplibmgiaa
/- THE CELL 'sum', in the pinned program and in every row, IS THE sha256 OF THE DUMP (.gsa) THAT YtlefpnplibmgiaaProg.lean LOADS. Nothing in Lean hashes anything: it is a label: what it is worth is what the hold of that sum in a sandbox is worth. -/
noncomputable def Try.pinned : Pinned := { name := "ytlefpnplibmgiaa", sum := "66257d12b72feaa13bfeeb3ae9e84e319e1afd51d9100b4812d216f28d6f31f3", checked := Try.checked }
namespace Rows
def none {H : Type} : Left H := { results := [], args := [] }

/-- 'carrellaw03.RootWrites': WHATEVER THE INPUT: true; the input reads as it did. -/
def rootWritesSpec : ChangeSpec := { name := "rootWrites", fn := fun _ => fun
  | [d] => { results := [.lit (.bool true)], args := [d] }
  | _ => none }
def rootWritesRow : OpenClaim := { program := "ytlefpnplibmgiaa", sum := "66257d12b72feaa13bfeeb3ae9e84e319e1afd51d9100b4812d216f28d6f31f3", func := "carrel/carrellaw03.RootWrites", spec := "rootWrites", unfollowed := true, recurses := true, apart := false }
def RootWritesSaid : Prop := rootWritesRow.holds Try.pinned (OpenSpec.ofChange rootWritesSpec)

/-- ITS FALSE NEIGHBOUR: 'it returns false'. Refute it at one input. -/
def rootWritesWrong : ChangeSpec := { name := "rootWrites", fn := fun _ => fun
  | [d] => { results := [.lit (.bool false)], args := [d] }
  | _ => none }
def RootWritesWrongFalsely : Prop := rootWritesRow.holds Try.pinned (OpenSpec.ofChange rootWritesWrong)

/-- 'carrellaw03.RootReads': WHATEVER THE INPUT: true; the input reads as it did. -/
def rootReadsSpec : ChangeSpec := { name := "rootReads", fn := fun _ => fun
  | [d] => { results := [.lit (.bool true)], args := [d] }
  | _ => none }
def rootReadsRow : OpenClaim := { program := "ytlefpnplibmgiaa", sum := "66257d12b72feaa13bfeeb3ae9e84e319e1afd51d9100b4812d216f28d6f31f3", func := "carrel/carrellaw03.RootReads", spec := "rootReads", unfollowed := true, recurses := true, apart := false }
def RootReadsSaid : Prop := rootReadsRow.holds Try.pinned (OpenSpec.ofChange rootReadsSpec)

/-- ITS FALSE NEIGHBOUR: 'it returns false'. Refute it at one input. -/
def rootReadsWrong : ChangeSpec := { name := "rootReads", fn := fun _ => fun
  | [d] => { results := [.lit (.bool false)], args := [d] }
  | _ => none }
def RootReadsWrongFalsely : Prop := rootReadsRow.holds Try.pinned (OpenSpec.ofChange rootReadsWrong)

/-- 'carrellaw03.RootChooses': WHATEVER THE INPUT: true; the input reads as it did. -/
def rootChoosesSpec : ChangeSpec := { name := "rootChooses", fn := fun _ => fun
  | [d1, d2] => { results := [.lit (.bool true)], args := [d1, d2] }
  | _ => none }
def rootChoosesRow : OpenClaim := { program := "ytlefpnplibmgiaa", sum := "66257d12b72feaa13bfeeb3ae9e84e319e1afd51d9100b4812d216f28d6f31f3", func := "carrel/carrellaw03.RootChooses", spec := "rootChooses", unfollowed := true, recurses := true, apart := false }
def RootChoosesSaid : Prop := rootChoosesRow.holds Try.pinned (OpenSpec.ofChange rootChoosesSpec)

/-- ITS FALSE NEIGHBOUR: 'it returns false'. Refute it at one input. -/
def rootChoosesWrong : ChangeSpec := { name := "rootChooses", fn := fun _ => fun
  | [d1, d2] => { results := [.lit (.bool false)], args := [d1, d2] }
  | _ => none }
def RootChoosesWrongFalsely : Prop := rootChoosesRow.holds Try.pinned (OpenSpec.ofChange rootChoosesWrong)

/-- 'carrellaw03.RootBack': WHATEVER THE INPUT: true; the input reads as it did. -/
def rootBackSpec : ChangeSpec := { name := "rootBack", fn := fun _ => fun
  | [d1, d2] => { results := [.lit (.bool true)], args := [d1, d2] }
  | _ => none }
def rootBackRow : OpenClaim := { program := "ytlefpnplibmgiaa", sum := "66257d12b72feaa13bfeeb3ae9e84e319e1afd51d9100b4812d216f28d6f31f3", func := "carrel/carrellaw03.RootBack", spec := "rootBack", unfollowed := true, recurses := true, apart := false }
def RootBackSaid : Prop := rootBackRow.holds Try.pinned (OpenSpec.ofChange rootBackSpec)

/-- ITS FALSE NEIGHBOUR: 'it returns false'. Refute it at one input. -/
def rootBackWrong : ChangeSpec := { name := "rootBack", fn := fun _ => fun
  | [d1, d2] => { results := [.lit (.bool false)], args := [d1, d2] }
  | _ => none }
def RootBackWrongFalsely : Prop := rootBackRow.holds Try.pinned (OpenSpec.ofChange rootBackWrong)

/-- 'carrellaw03.RootTorn': WHATEVER THE INPUT: true; the input reads as it did. -/
def rootTornSpec : ChangeSpec := { name := "rootTorn", fn := fun _ => fun
  | [d1, d2, d3, d4] => { results := [.lit (.bool true)], args := [d1, d2, d3, d4] }
  | _ => none }
def rootTornRow : OpenClaim := { program := "ytlefpnplibmgiaa", sum := "66257d12b72feaa13bfeeb3ae9e84e319e1afd51d9100b4812d216f28d6f31f3", func := "carrel/carrellaw03.RootTorn", spec := "rootTorn", unfollowed := true, recurses := true, apart := false }
def RootTornSaid : Prop := rootTornRow.holds Try.pinned (OpenSpec.ofChange rootTornSpec)

/-- ITS FALSE NEIGHBOUR: 'it returns false'. Refute it at one input. -/
def rootTornWrong : ChangeSpec := { name := "rootTorn", fn := fun _ => fun
  | [d1, d2, d3, d4] => { results := [.lit (.bool false)], args := [d1, d2, d3, d4] }
  | _ => none }
def RootTornWrongFalsely : Prop := rootTornRow.holds Try.pinned (OpenSpec.ofChange rootTornWrong)

/-- 'carrellaw03.RootBursts': WHATEVER THE INPUT: true; the input reads as it did. -/
def rootBurstsSpec : ChangeSpec := { name := "rootBursts", fn := fun _ => fun
  | [d1, d2, d3] => { results := [.lit (.bool true)], args := [d1, d2, d3] }
  | _ => none }
def rootBurstsRow : OpenClaim := { program := "ytlefpnplibmgiaa", sum := "66257d12b72feaa13bfeeb3ae9e84e319e1afd51d9100b4812d216f28d6f31f3", func := "carrel/carrellaw03.RootBursts", spec := "rootBursts", unfollowed := true, recurses := true, apart := false }
def RootBurstsSaid : Prop := rootBurstsRow.holds Try.pinned (OpenSpec.ofChange rootBurstsSpec)

/-- ITS FALSE NEIGHBOUR: 'it returns false'. Refute it at one input. -/
def rootBurstsWrong : ChangeSpec := { name := "rootBursts", fn := fun _ => fun
  | [d1, d2, d3] => { results := [.lit (.bool false)], args := [d1, d2, d3] }
  | _ => none }
def RootBurstsWrongFalsely : Prop := rootBurstsRow.holds Try.pinned (OpenSpec.ofChange rootBurstsWrong)

/- THE SECOND FORM. 'bulk': how many values and letters a reading holds, each counted each time it is reached (what is shared counts as often as it is met; a slice's spare places count too). A statement '..UptoSaid' is the law's where the arguments, and the package variables that the reading takes, are together of bulk at most 1048576: NARROWER than '..Said'. Prove '..Said' where nothing that the law and all that it calls make is longer than what came in: it says more and counts as full. Else prove '..UptoSaid'. A law counts once. -/
mutual
def uptoBulk {H : Type} : DataW H → Nat
  | .lit (.string bytes) => bytes.length + 1
  | .lit _ => 1
  | .nil => 1
  | .ptr d => uptoBulk d + 1
  | .slice elems spare => uptoBulkAll elems + uptoBulkAll spare + 1
  | .agg parts => uptoBulkAll parts + 1
  | .iface _ d => uptoBulk d + 1
  | .map entries => uptoBulkEntries entries + 1
  | .held _ => 1
def uptoBulkAll {H : Type} : List (DataW H) → Nat
  | [] => 0
  | d :: r => uptoBulk d + uptoBulkAll r
def uptoBulkEntries {H : Type} : List (Lit × DataW H) → Nat
  | [] => 0
  | x :: r => uptoBulkEntry x + uptoBulkEntries r
def uptoBulkEntry {H : Type} : Lit × DataW H → Nat
  | (.string bytes, d) => bytes.length + uptoBulk d + 1
  | (_, d) => uptoBulk d + 1
 end
def uptoSmall : (H : Type) → List (DataW H) → Bool := fun _ ds => decide (uptoBulkAll ds ≤ 1048576)
def OpenSpec.upto (s : _root_.Go.ChangeSpec) : _root_.Go.OpenSpec := { _root_.Go.OpenSpec.ofChange s with cond := some uptoSmall }

/-- 'carrellaw03.RootWrites', WHERE WHAT IT READS IS OF BULK AT MOST 1048576: true; the input reads as it did. -/
def rootWritesUptoRow : OpenClaim := { program := "ytlefpnplibmgiaa", sum := "66257d12b72feaa13bfeeb3ae9e84e319e1afd51d9100b4812d216f28d6f31f3", func := "carrel/carrellaw03.RootWrites", spec := "rootWrites", unfollowed := true, recurses := true, apart := false, narrowed := true }
def RootWritesUptoSaid : Prop := rootWritesUptoRow.holds Try.pinned (OpenSpec.upto rootWritesSpec)

/-- 'carrellaw03.RootReads', WHERE WHAT IT READS IS OF BULK AT MOST 1048576: true; the input reads as it did. -/
def rootReadsUptoRow : OpenClaim := { program := "ytlefpnplibmgiaa", sum := "66257d12b72feaa13bfeeb3ae9e84e319e1afd51d9100b4812d216f28d6f31f3", func := "carrel/carrellaw03.RootReads", spec := "rootReads", unfollowed := true, recurses := true, apart := false, narrowed := true }
def RootReadsUptoSaid : Prop := rootReadsUptoRow.holds Try.pinned (OpenSpec.upto rootReadsSpec)

/-- 'carrellaw03.RootChooses', WHERE WHAT IT READS IS OF BULK AT MOST 1048576: true; the input reads as it did. -/
def rootChoosesUptoRow : OpenClaim := { program := "ytlefpnplibmgiaa", sum := "66257d12b72feaa13bfeeb3ae9e84e319e1afd51d9100b4812d216f28d6f31f3", func := "carrel/carrellaw03.RootChooses", spec := "rootChooses", unfollowed := true, recurses := true, apart := false, narrowed := true }
def RootChoosesUptoSaid : Prop := rootChoosesUptoRow.holds Try.pinned (OpenSpec.upto rootChoosesSpec)

/-- 'carrellaw03.RootBack', WHERE WHAT IT READS IS OF BULK AT MOST 1048576: true; the input reads as it did. -/
def rootBackUptoRow : OpenClaim := { program := "ytlefpnplibmgiaa", sum := "66257d12b72feaa13bfeeb3ae9e84e319e1afd51d9100b4812d216f28d6f31f3", func := "carrel/carrellaw03.RootBack", spec := "rootBack", unfollowed := true, recurses := true, apart := false, narrowed := true }
def RootBackUptoSaid : Prop := rootBackUptoRow.holds Try.pinned (OpenSpec.upto rootBackSpec)

/-- 'carrellaw03.RootTorn', WHERE WHAT IT READS IS OF BULK AT MOST 1048576: true; the input reads as it did. -/
def rootTornUptoRow : OpenClaim := { program := "ytlefpnplibmgiaa", sum := "66257d12b72feaa13bfeeb3ae9e84e319e1afd51d9100b4812d216f28d6f31f3", func := "carrel/carrellaw03.RootTorn", spec := "rootTorn", unfollowed := true, recurses := true, apart := false, narrowed := true }
def RootTornUptoSaid : Prop := rootTornUptoRow.holds Try.pinned (OpenSpec.upto rootTornSpec)

/-- 'carrellaw03.RootBursts', WHERE WHAT IT READS IS OF BULK AT MOST 1048576: true; the input reads as it did. -/
def rootBurstsUptoRow : OpenClaim := { program := "ytlefpnplibmgiaa", sum := "66257d12b72feaa13bfeeb3ae9e84e319e1afd51d9100b4812d216f28d6f31f3", func := "carrel/carrellaw03.RootBursts", spec := "rootBursts", unfollowed := true, recurses := true, apart := false, narrowed := true }
def RootBurstsUptoSaid : Prop := rootBurstsUptoRow.holds Try.pinned (OpenSpec.upto rootBurstsSpec)

end Rows
end Go.Proofs.Ytlefpnplibmgiaa
