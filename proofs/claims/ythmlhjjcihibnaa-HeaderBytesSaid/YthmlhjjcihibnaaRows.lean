/-
  No cell of these rows narrows 'for every input' (looked for: loops, veiled, ifaces, maps, wideKeys, modest, calm, conditions, laid).
  DERIVED. THE GIVEN ROWS OF THIS SEAT. 5 by the template 'for every input the law returns true; each argument reads behind the call as it read before'; 0 by the template 'total and deterministic' (their statements: YthmlhjjcihibnaaTotals.lean).
  GIVEN WITH THE SEED: the statements are not yours to turn. If you find one false, say at which input.
  Laid BY PROGRAM, IN A SANDBOX (cutbox-rows.mjs): the forced cells as the released guide's own fill.sh prints them over the translation d96b8f07ba61a5ff… (all of the seat's roots in one cut). By AI agents, Wed Nov 11 2026. No macro, syntax, notation, axiom, sorry.
-/
import Derived.Test.YthmlhjjcihibnaaChecked
import GoSem.Claim
import GoSem.ClaimJoined
import GoSem.ClaimMapViews
import Derived.JoinedTies
import Derived.KernelRfl
namespace Go.Proofs.Ythmlhjjcihibnaa
/- THE CELL 'sum', in the pinned program and in every row, IS THE sha256 OF THE DUMP (.gsa) THAT YthmlhjjcihibnaaProg.lean LOADS. Nothing in Lean hashes anything: it is a label: what it is worth is what the hold of that sum in a sandbox is worth. -/
noncomputable def Try.pinned : Pinned := { name := "ythmlhjjcihibnaa", sum := "d96b8f07ba61a5ffe7b1118099ca72fb446c431603479021f46ece5f8194e44f", checked := Try.checked }
namespace Rows
def none {H : Type} : Left H := { results := [], args := [] }

/-- 'carrellaw18.HeaderReads': WHATEVER THE INPUT: true; the input reads as it did. -/
def headerReadsSpec : ChangeSpec := { name := "headerReads", fn := fun _ => fun
  | [d1, d2] => { results := [.lit (.bool true)], args := [d1, d2] }
  | _ => none }
def headerReadsRow : OpenClaim := { program := "ythmlhjjcihibnaa", sum := "d96b8f07ba61a5ffe7b1118099ca72fb446c431603479021f46ece5f8194e44f", func := "carrel/carrellaw18.HeaderReads", spec := "headerReads", unfollowed := true, recurses := true, apart := false }
def HeaderReadsSaid : Prop := headerReadsRow.holds Try.pinned (OpenSpec.ofChange headerReadsSpec)

/-- ITS FALSE NEIGHBOUR: 'it returns false'. Refute it at one input. -/
def headerReadsWrong : ChangeSpec := { name := "headerReads", fn := fun _ => fun
  | [d1, d2] => { results := [.lit (.bool false)], args := [d1, d2] }
  | _ => none }
def HeaderReadsWrongFalsely : Prop := headerReadsRow.holds Try.pinned (OpenSpec.ofChange headerReadsWrong)

/-- 'carrellaw18.HeaderBytes': WHATEVER THE INPUT: true; the input reads as it did. -/
def headerBytesSpec : ChangeSpec := { name := "headerBytes", fn := fun _ => fun
  | [d] => { results := [.lit (.bool true)], args := [d] }
  | _ => none }
def headerBytesRow : OpenClaim := { program := "ythmlhjjcihibnaa", sum := "d96b8f07ba61a5ffe7b1118099ca72fb446c431603479021f46ece5f8194e44f", func := "carrel/carrellaw18.HeaderBytes", spec := "headerBytes", unfollowed := true, recurses := true, apart := false }
def HeaderBytesSaid : Prop := headerBytesRow.holds Try.pinned (OpenSpec.ofChange headerBytesSpec)

/-- ITS FALSE NEIGHBOUR: 'it returns false'. Refute it at one input. -/
def headerBytesWrong : ChangeSpec := { name := "headerBytes", fn := fun _ => fun
  | [d] => { results := [.lit (.bool false)], args := [d] }
  | _ => none }
def HeaderBytesWrongFalsely : Prop := headerBytesRow.holds Try.pinned (OpenSpec.ofChange headerBytesWrong)

/-- 'carrellaw18.HeaderMarks': WHATEVER THE INPUT: true; the input reads as it did. -/
def headerMarksSpec : ChangeSpec := { name := "headerMarks", fn := fun _ => fun
  | [d1, d2, d3, d4] => { results := [.lit (.bool true)], args := [d1, d2, d3, d4] }
  | _ => none }
def headerMarksRow : OpenClaim := { program := "ythmlhjjcihibnaa", sum := "d96b8f07ba61a5ffe7b1118099ca72fb446c431603479021f46ece5f8194e44f", func := "carrel/carrellaw18.HeaderMarks", spec := "headerMarks", unfollowed := true, recurses := true, apart := false }
def HeaderMarksSaid : Prop := headerMarksRow.holds Try.pinned (OpenSpec.ofChange headerMarksSpec)

/-- ITS FALSE NEIGHBOUR: 'it returns false'. Refute it at one input. -/
def headerMarksWrong : ChangeSpec := { name := "headerMarks", fn := fun _ => fun
  | [d1, d2, d3, d4] => { results := [.lit (.bool false)], args := [d1, d2, d3, d4] }
  | _ => none }
def HeaderMarksWrongFalsely : Prop := headerMarksRow.holds Try.pinned (OpenSpec.ofChange headerMarksWrong)

/-- 'carrellaw18.HeaderBack': WHATEVER THE INPUT: true; the input reads as it did. -/
def headerBackSpec : ChangeSpec := { name := "headerBack", fn := fun _ => fun
  | [d1, d2] => { results := [.lit (.bool true)], args := [d1, d2] }
  | _ => none }
def headerBackRow : OpenClaim := { program := "ythmlhjjcihibnaa", sum := "d96b8f07ba61a5ffe7b1118099ca72fb446c431603479021f46ece5f8194e44f", func := "carrel/carrellaw18.HeaderBack", spec := "headerBack", unfollowed := true, recurses := true, apart := false }
def HeaderBackSaid : Prop := headerBackRow.holds Try.pinned (OpenSpec.ofChange headerBackSpec)

/-- ITS FALSE NEIGHBOUR: 'it returns false'. Refute it at one input. -/
def headerBackWrong : ChangeSpec := { name := "headerBack", fn := fun _ => fun
  | [d1, d2] => { results := [.lit (.bool false)], args := [d1, d2] }
  | _ => none }
def HeaderBackWrongFalsely : Prop := headerBackRow.holds Try.pinned (OpenSpec.ofChange headerBackWrong)

/-- 'carrellaw18.HeaderAligns': WHATEVER THE INPUT: true; the input reads as it did. -/
def headerAlignsSpec : ChangeSpec := { name := "headerAligns", fn := fun _ => fun
  | [d] => { results := [.lit (.bool true)], args := [d] }
  | _ => none }
def headerAlignsRow : OpenClaim := { program := "ythmlhjjcihibnaa", sum := "d96b8f07ba61a5ffe7b1118099ca72fb446c431603479021f46ece5f8194e44f", func := "carrel/carrellaw18.HeaderAligns", spec := "headerAligns", unfollowed := true, recurses := true, apart := false }
def HeaderAlignsSaid : Prop := headerAlignsRow.holds Try.pinned (OpenSpec.ofChange headerAlignsSpec)

/-- ITS FALSE NEIGHBOUR: 'it returns false'. Refute it at one input. -/
def headerAlignsWrong : ChangeSpec := { name := "headerAligns", fn := fun _ => fun
  | [d] => { results := [.lit (.bool false)], args := [d] }
  | _ => none }
def HeaderAlignsWrongFalsely : Prop := headerAlignsRow.holds Try.pinned (OpenSpec.ofChange headerAlignsWrong)

/- THE SECOND FORM. 'bulk': how many values and letters a reading holds, each counted each time it is reached (what is shared counts as often as it is met; a slice's spare places count too). A statement '..UptoSaid' is the law's where the arguments, and the package variables that the reading takes, are together of bulk at most 1048576: NARROWER than '..Said'. Prove '..Said' where nothing that the law and all that it calls make is longer than what came in: it says more and counts as full. Else prove '..UptoSaid'. A law counts once. -/
mutual
def uptoBulk {H : Type} : DataW H → Nat
  | .lit (.string bytes) => bytes.length + 1
  | .lit _ => 1
  | .nil => 1
  | .ptr d => uptoBulk d + 1
  | .slice elems spare => uptoBulkAll elems + uptoBulkAll spare + 1
  | .agg parts => uptoBulkAll parts + 1
  | .iface _ d => uptoBulk d + 1
  | .map entries => uptoBulkEntries entries + 1
  | .held _ => 1
def uptoBulkAll {H : Type} : List (DataW H) → Nat
  | [] => 0
  | d :: r => uptoBulk d + uptoBulkAll r
def uptoBulkEntries {H : Type} : List (Lit × DataW H) → Nat
  | [] => 0
  | x :: r => uptoBulkEntry x + uptoBulkEntries r
def uptoBulkEntry {H : Type} : Lit × DataW H → Nat
  | (.string bytes, d) => bytes.length + uptoBulk d + 1
  | (_, d) => uptoBulk d + 1
 end
def uptoSmall : (H : Type) → List (DataW H) → Bool := fun _ ds => decide (uptoBulkAll ds ≤ 1048576)
def OpenSpec.upto (s : _root_.Go.ChangeSpec) : _root_.Go.OpenSpec := { _root_.Go.OpenSpec.ofChange s with cond := some uptoSmall }

/-- 'carrellaw18.HeaderReads', WHERE WHAT IT READS IS OF BULK AT MOST 1048576: true; the input reads as it did. -/
def headerReadsUptoRow : OpenClaim := { program := "ythmlhjjcihibnaa", sum := "d96b8f07ba61a5ffe7b1118099ca72fb446c431603479021f46ece5f8194e44f", func := "carrel/carrellaw18.HeaderReads", spec := "headerReads", unfollowed := true, recurses := true, apart := false, narrowed := true }
def HeaderReadsUptoSaid : Prop := headerReadsUptoRow.holds Try.pinned (OpenSpec.upto headerReadsSpec)

/-- 'carrellaw18.HeaderBytes', WHERE WHAT IT READS IS OF BULK AT MOST 1048576: true; the input reads as it did. -/
def headerBytesUptoRow : OpenClaim := { program := "ythmlhjjcihibnaa", sum := "d96b8f07ba61a5ffe7b1118099ca72fb446c431603479021f46ece5f8194e44f", func := "carrel/carrellaw18.HeaderBytes", spec := "headerBytes", unfollowed := true, recurses := true, apart := false, narrowed := true }
def HeaderBytesUptoSaid : Prop := headerBytesUptoRow.holds Try.pinned (OpenSpec.upto headerBytesSpec)

/-- 'carrellaw18.HeaderMarks', WHERE WHAT IT READS IS OF BULK AT MOST 1048576: true; the input reads as it did. -/
def headerMarksUptoRow : OpenClaim := { program := "ythmlhjjcihibnaa", sum := "d96b8f07ba61a5ffe7b1118099ca72fb446c431603479021f46ece5f8194e44f", func := "carrel/carrellaw18.HeaderMarks", spec := "headerMarks", unfollowed := true, recurses := true, apart := false, narrowed := true }
def HeaderMarksUptoSaid : Prop := headerMarksUptoRow.holds Try.pinned (OpenSpec.upto headerMarksSpec)

/-- 'carrellaw18.HeaderBack', WHERE WHAT IT READS IS OF BULK AT MOST 1048576: true; the input reads as it did. -/
def headerBackUptoRow : OpenClaim := { program := "ythmlhjjcihibnaa", sum := "d96b8f07ba61a5ffe7b1118099ca72fb446c431603479021f46ece5f8194e44f", func := "carrel/carrellaw18.HeaderBack", spec := "headerBack", unfollowed := true, recurses := true, apart := false, narrowed := true }
def HeaderBackUptoSaid : Prop := headerBackUptoRow.holds Try.pinned (OpenSpec.upto headerBackSpec)

/-- 'carrellaw18.HeaderAligns', WHERE WHAT IT READS IS OF BULK AT MOST 1048576: true; the input reads as it did. -/
def headerAlignsUptoRow : OpenClaim := { program := "ythmlhjjcihibnaa", sum := "d96b8f07ba61a5ffe7b1118099ca72fb446c431603479021f46ece5f8194e44f", func := "carrel/carrellaw18.HeaderAligns", spec := "headerAligns", unfollowed := true, recurses := true, apart := false, narrowed := true }
def HeaderAlignsUptoSaid : Prop := headerAlignsUptoRow.holds Try.pinned (OpenSpec.upto headerAlignsSpec)

end Rows
end Go.Proofs.Ythmlhjjcihibnaa
