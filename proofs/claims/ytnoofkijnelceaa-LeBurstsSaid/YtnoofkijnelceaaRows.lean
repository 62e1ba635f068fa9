/-
  No cell of these rows narrows 'for every input' (looked for: loops, veiled, ifaces, maps, wideKeys, modest, calm, conditions, laid).
  DERIVED. THE GIVEN ROWS OF THIS SEAT. 6 by the template 'for every input the law returns true; each argument reads behind the call as it read before'; 0 by the template 'total and deterministic' (their statements: YtnoofkijnelceaaTotals.lean).
  GIVEN WITH THE SEED: the statements are not yours to turn. If you find one false, say at which input.
  Laid BY PROGRAM, IN A SANDBOX (cutbox-rows.mjs): the forced cells as the released guide's own fill.sh prints them over the translation a74635a811605d06… (all of the seat's roots in one cut). By AI agents, Wed Nov 11 2026. No macro, syntax, notation, axiom, sorry.
-/
import Derived.Test.YtnoofkijnelceaaChecked
import GoSem.Claim
import GoSem.ClaimJoined
import GoSem.ClaimMapViews
import Derived.JoinedTies
import Derived.KernelRfl
namespace Go.Proofs.Ytnoofkijnelceaa
/- THE CELL 'sum', in the pinned program and in every row, IS THE sha256 OF THE DUMP (.gsa) THAT YtnoofkijnelceaaProg.lean LOADS. Nothing in Lean hashes anything: it is a label: what it is worth is what the hold of that sum in a sandbox is worth. -/
noncomputable def Try.pinned : Pinned := { name := "ytnoofkijnelceaa", sum := "a74635a811605d06ace1987995efc767cb9d649ee53ca6ed0c223067f09b8ebd", checked := Try.checked }
namespace Rows
def none {H : Type} : Left H := { results := [], args := [] }

/-- 'carrellaw01.LeCells': WHATEVER THE INPUT: true; the input reads as it did. -/
def leCellsSpec : ChangeSpec := { name := "leCells", fn := fun _ => fun
  | [d1, d2, d3] => { results := [.lit (.bool true)], args := [d1, d2, d3] }
  | _ => none }
def leCellsRow : OpenClaim := { program := "ytnoofkijnelceaa", sum := "a74635a811605d06ace1987995efc767cb9d649ee53ca6ed0c223067f09b8ebd", func := "carrel/carrellaw01.LeCells", spec := "leCells", unfollowed := true, recurses := true, apart := false }
def LeCellsSaid : Prop := leCellsRow.holds Try.pinned (OpenSpec.ofChange leCellsSpec)

/-- ITS FALSE NEIGHBOUR: 'it returns false'. Refute it at one input. -/
def leCellsWrong : ChangeSpec := { name := "leCells", fn := fun _ => fun
  | [d1, d2, d3] => { results := [.lit (.bool false)], args := [d1, d2, d3] }
  | _ => none }
def LeCellsWrongFalsely : Prop := leCellsRow.holds Try.pinned (OpenSpec.ofChange leCellsWrong)

/-- 'carrellaw01.LeNums': WHATEVER THE INPUT: true; the input reads as it did. -/
def leNumsSpec : ChangeSpec := { name := "leNums", fn := fun _ => fun
  | [d1, d2, d3, d4] => { results := [.lit (.bool true)], args := [d1, d2, d3, d4] }
  | _ => none }
def leNumsRow : OpenClaim := { program := "ytnoofkijnelceaa", sum := "a74635a811605d06ace1987995efc767cb9d649ee53ca6ed0c223067f09b8ebd", func := "carrel/carrellaw01.LeNums", spec := "leNums", unfollowed := true, recurses := true, apart := false }
def LeNumsSaid : Prop := leNumsRow.holds Try.pinned (OpenSpec.ofChange leNumsSpec)

/-- ITS FALSE NEIGHBOUR: 'it returns false'. Refute it at one input. -/
def leNumsWrong : ChangeSpec := { name := "leNums", fn := fun _ => fun
  | [d1, d2, d3, d4] => { results := [.lit (.bool false)], args := [d1, d2, d3, d4] }
  | _ => none }
def LeNumsWrongFalsely : Prop := leNumsRow.holds Try.pinned (OpenSpec.ofChange leNumsWrong)

/-- 'carrellaw01.LeCrc': WHATEVER THE INPUT: true; the input reads as it did. -/
def leCrcSpec : ChangeSpec := { name := "leCrc", fn := fun _ => fun
  | [d] => { results := [.lit (.bool true)], args := [d] }
  | _ => none }
def leCrcRow : OpenClaim := { program := "ytnoofkijnelceaa", sum := "a74635a811605d06ace1987995efc767cb9d649ee53ca6ed0c223067f09b8ebd", func := "carrel/carrellaw01.LeCrc", spec := "leCrc", apart := false }
def LeCrcSaid : Prop := leCrcRow.holds Try.pinned (OpenSpec.ofChange leCrcSpec)

/-- ITS FALSE NEIGHBOUR: 'it returns false'. Refute it at one input. -/
def leCrcWrong : ChangeSpec := { name := "leCrc", fn := fun _ => fun
  | [d] => { results := [.lit (.bool false)], args := [d] }
  | _ => none }
def LeCrcWrongFalsely : Prop := leCrcRow.holds Try.pinned (OpenSpec.ofChange leCrcWrong)

/-- 'carrellaw01.LeMix': WHATEVER THE INPUT: true; the input reads as it did. -/
def leMixSpec : ChangeSpec := { name := "leMix", fn := fun _ => fun
  | [d1, d2, d3, d4] => { results := [.lit (.bool true)], args := [d1, d2, d3, d4] }
  | _ => none }
def leMixRow : OpenClaim := { program := "ytnoofkijnelceaa", sum := "a74635a811605d06ace1987995efc767cb9d649ee53ca6ed0c223067f09b8ebd", func := "carrel/carrellaw01.LeMix", spec := "leMix", apart := false }
def LeMixSaid : Prop := leMixRow.holds Try.pinned (OpenSpec.ofChange leMixSpec)

/-- ITS FALSE NEIGHBOUR: 'it returns false'. Refute it at one input. -/
def leMixWrong : ChangeSpec := { name := "leMix", fn := fun _ => fun
  | [d1, d2, d3, d4] => { results := [.lit (.bool false)], args := [d1, d2, d3, d4] }
  | _ => none }
def LeMixWrongFalsely : Prop := leMixRow.holds Try.pinned (OpenSpec.ofChange leMixWrong)

/-- 'carrellaw01.LeBack': WHATEVER THE INPUT: true; the input reads as it did. -/
def leBackSpec : ChangeSpec := { name := "leBack", fn := fun _ => fun
  | [d1, d2, d3] => { results := [.lit (.bool true)], args := [d1, d2, d3] }
  | _ => none }
def leBackRow : OpenClaim := { program := "ytnoofkijnelceaa", sum := "a74635a811605d06ace1987995efc767cb9d649ee53ca6ed0c223067f09b8ebd", func := "carrel/carrellaw01.LeBack", spec := "leBack", unfollowed := true, recurses := true, apart := false }
def LeBackSaid : Prop := leBackRow.holds Try.pinned (OpenSpec.ofChange leBackSpec)

/-- ITS FALSE NEIGHBOUR: 'it returns false'. Refute it at one input. -/
def leBackWrong : ChangeSpec := { name := "leBack", fn := fun _ => fun
  | [d1, d2, d3] => { results := [.lit (.bool false)], args := [d1, d2, d3] }
  | _ => none }
def LeBackWrongFalsely : Prop := leBackRow.holds Try.pinned (OpenSpec.ofChange leBackWrong)

/-- 'carrellaw01.LeBursts': WHATEVER THE INPUT: true; the input reads as it did. -/
def leBurstsSpec : ChangeSpec := { name := "leBursts", fn := fun _ => fun
  | [d1, d2, d3] => { results := [.lit (.bool true)], args := [d1, d2, d3] }
  | _ => none }
def leBurstsRow : OpenClaim := { program := "ytnoofkijnelceaa", sum := "a74635a811605d06ace1987995efc767cb9d649ee53ca6ed0c223067f09b8ebd", func := "carrel/carrellaw01.LeBursts", spec := "leBursts", apart := false }
def LeBurstsSaid : Prop := leBurstsRow.holds Try.pinned (OpenSpec.ofChange leBurstsSpec)

/-- ITS FALSE NEIGHBOUR: 'it returns false'. Refute it at one input. -/
def leBurstsWrong : ChangeSpec := { name := "leBursts", fn := fun _ => fun
  | [d1, d2, d3] => { results := [.lit (.bool false)], args := [d1, d2, d3] }
  | _ => none }
def LeBurstsWrongFalsely : Prop := leBurstsRow.holds Try.pinned (OpenSpec.ofChange leBurstsWrong)

/- THE SECOND FORM. 'bulk': how many values and letters a reading holds, each counted each time it is reached (what is shared counts as often as it is met; a slice's spare places count too). A statement '..UptoSaid' is the law's where the arguments, and the package variables that the reading takes, are together of bulk at most 1048576: NARROWER than '..Said'. Prove '..Said' where nothing that the law and all that it calls make is longer than what came in: it says more and counts as full. Else prove '..UptoSaid'. A law counts once. -/
mutual
def uptoBulk {H : Type} : DataW H → Nat
  | .lit (.string bytes) => bytes.length + 1
  | .lit _ => 1
  | .nil => 1
  | .ptr d => uptoBulk d + 1
  | .slice elems spare => uptoBulkAll elems + uptoBulkAll spare + 1
  | .agg parts => uptoBulkAll parts + 1
  | .iface _ d => uptoBulk d + 1
  | .map entries => uptoBulkEntries entries + 1
  | .held _ => 1
def uptoBulkAll {H : Type} : List (DataW H) → Nat
  | [] => 0
  | d :: r => uptoBulk d + uptoBulkAll r
def uptoBulkEntries {H : Type} : List (Lit × DataW H) → Nat
  | [] => 0
  | x :: r => uptoBulkEntry x + uptoBulkEntries r
def uptoBulkEntry {H : Type} : Lit × DataW H → Nat
  | (.string bytes, d) => bytes.length + uptoBulk d + 1
  | (_, d) => uptoBulk d + 1
 end
def uptoSmall : (H : Type) → List (DataW H) → Bool := fun _ ds => decide (uptoBulkAll ds ≤ 1048576)
def OpenSpec.upto (s : _root_.Go.ChangeSpec) : _root_.Go.OpenSpec := { _root_.Go.OpenSpec.ofChange s with cond := some uptoSmall }

/-- 'carrellaw01.LeCells', WHERE WHAT IT READS IS OF BULK AT MOST 1048576: true; the input reads as it did. -/
def leCellsUptoRow : OpenClaim := { program := "ytnoofkijnelceaa", sum := "a74635a811605d06ace1987995efc767cb9d649ee53ca6ed0c223067f09b8ebd", func := "carrel/carrellaw01.LeCells", spec := "leCells", unfollowed := true, recurses := true, apart := false, narrowed := true }
def LeCellsUptoSaid : Prop := leCellsUptoRow.holds Try.pinned (OpenSpec.upto leCellsSpec)

/-- 'carrellaw01.LeNums', WHERE WHAT IT READS IS OF BULK AT MOST 1048576: true; the input reads as it did. -/
def leNumsUptoRow : OpenClaim := { program := "ytnoofkijnelceaa", sum := "a74635a811605d06ace1987995efc767cb9d649ee53ca6ed0c223067f09b8ebd", func := "carrel/carrellaw01.LeNums", spec := "leNums", unfollowed := true, recurses := true, apart := false, narrowed := true }
def LeNumsUptoSaid : Prop := leNumsUptoRow.holds Try.pinned (OpenSpec.upto leNumsSpec)

/-- 'carrellaw01.LeCrc', WHERE WHAT IT READS IS OF BULK AT MOST 1048576: true; the input reads as it did. -/
def leCrcUptoRow : OpenClaim := { program := "ytnoofkijnelceaa", sum := "a74635a811605d06ace1987995efc767cb9d649ee53ca6ed0c223067f09b8ebd", func := "carrel/carrellaw01.LeCrc", spec := "leCrc", apart := false, narrowed := true }
def LeCrcUptoSaid : Prop := leCrcUptoRow.holds Try.pinned (OpenSpec.upto leCrcSpec)

/-- 'carrellaw01.LeMix', WHERE WHAT IT READS IS OF BULK AT MOST 1048576: true; the input reads as it did. -/
def leMixUptoRow : OpenClaim := { program := "ytnoofkijnelceaa", sum := "a74635a811605d06ace1987995efc767cb9d649ee53ca6ed0c223067f09b8ebd", func := "carrel/carrellaw01.LeMix", spec := "leMix", apart := false, narrowed := true }
def LeMixUptoSaid : Prop := leMixUptoRow.holds Try.pinned (OpenSpec.upto leMixSpec)

/-- 'carrellaw01.LeBack', WHERE WHAT IT READS IS OF BULK AT MOST 1048576: true; the input reads as it did. -/
def leBackUptoRow : OpenClaim := { program := "ytnoofkijnelceaa", sum := "a74635a811605d06ace1987995efc767cb9d649ee53ca6ed0c223067f09b8ebd", func := "carrel/carrellaw01.LeBack", spec := "leBack", unfollowed := true, recurses := true, apart := false, narrowed := true }
def LeBackUptoSaid : Prop := leBackUptoRow.holds Try.pinned (OpenSpec.upto leBackSpec)

/-- 'carrellaw01.LeBursts', WHERE WHAT IT READS IS OF BULK AT MOST 1048576: true; the input reads as it did. -/
def leBurstsUptoRow : OpenClaim := { program := "ytnoofkijnelceaa", sum := "a74635a811605d06ace1987995efc767cb9d649ee53ca6ed0c223067f09b8ebd", func := "carrel/carrellaw01.LeBursts", spec := "leBursts", apart := false, narrowed := true }
def LeBurstsUptoSaid : Prop := leBurstsUptoRow.holds Try.pinned (OpenSpec.upto leBurstsSpec)

end Rows
end Go.Proofs.Ytnoofkijnelceaa
