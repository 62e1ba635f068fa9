/-
  No cell of these rows narrows 'for every input' (looked for: loops, veiled, ifaces, maps, wideKeys, modest, calm, conditions, laid).
  DERIVED. THE GIVEN ROWS OF THIS SEAT. 4 by the template 'for every input the law returns true; each argument reads behind the call as it read before'; 0 by the template 'total and deterministic' (their statements: YthbkjndnconakaaTotals.lean).
  GIVEN WITH THE SEED: the statements are not yours to turn. If you find one false, say at which input.
  Laid BY PROGRAM, IN A SANDBOX (cutbox-rows.mjs): the forced cells as the released guide's own fill.sh prints them over the translation da4f1238b6c46658… (all of the seat's roots in one cut). By AI agents, Wed Nov 11 2026. No macro, syntax, notation, axiom, sorry.
-/
import Derived.Test.YthbkjndnconakaaChecked
import GoSem.Claim
import GoSem.ClaimJoined
import GoSem.ClaimMapViews
import Derived.JoinedTies
import Derived.KernelRfl
namespace Go.Proofs.Ythbkjndnconakaa
/- THE CELL 'sum', in the pinned program and in every row, IS THE sha256 OF THE DUMP (.gsa) THAT YthbkjndnconakaaProg.lean LOADS. Nothing in Lean hashes anything: it is a label: what it is worth is what the hold of that sum in a sandbox is worth. -/
noncomputable def Try.pinned : Pinned := { name := "ythbkjndnconakaa", sum := "da4f1238b6c4665814a0993c79979223290f133dd590107254ba96a57a7b93dc", checked := Try.checked }
namespace Rows
def none {H : Type} : Left H := { results := [], args := [] }

/-- 'carrellaw16.PrimsOf': WHATEVER THE INPUT: true; the input reads as it did. -/
def primsOfSpec : ChangeSpec := { name := "primsOf", fn := fun _ => fun
  | [d] => { results := [.lit (.bool true)], args := [d] }
  | _ => none }
def primsOfRow : OpenClaim := { program := "ythbkjndnconakaa", sum := "da4f1238b6c4665814a0993c79979223290f133dd590107254ba96a57a7b93dc", func := "carrel/carrellaw16.PrimsOf", spec := "primsOf", unfollowed := true, recurses := true, apart := false }
def PrimsOfSaid : Prop := primsOfRow.holds Try.pinned (OpenSpec.ofChange primsOfSpec)

/-- ITS FALSE NEIGHBOUR: 'it returns false'. Refute it at one input. -/
def primsOfWrong : ChangeSpec := { name := "primsOf", fn := fun _ => fun
  | [d] => { results := [.lit (.bool false)], args := [d] }
  | _ => none }
def PrimsOfWrongFalsely : Prop := primsOfRow.holds Try.pinned (OpenSpec.ofChange primsOfWrong)

/-- 'carrellaw16.PrimsFind': WHATEVER THE INPUT: true; the input reads as it did. -/
def primsFindSpec : ChangeSpec := { name := "primsFind", fn := fun _ => fun
  | [d] => { results := [.lit (.bool true)], args := [d] }
  | _ => none }
def primsFindRow : OpenClaim := { program := "ythbkjndnconakaa", sum := "da4f1238b6c4665814a0993c79979223290f133dd590107254ba96a57a7b93dc", func := "carrel/carrellaw16.PrimsFind", spec := "primsFind", unfollowed := true, recurses := true, apart := false }
def PrimsFindSaid : Prop := primsFindRow.holds Try.pinned (OpenSpec.ofChange primsFindSpec)

/-- ITS FALSE NEIGHBOUR: 'it returns false'. Refute it at one input. -/
def primsFindWrong : ChangeSpec := { name := "primsFind", fn := fun _ => fun
  | [d] => { results := [.lit (.bool false)], args := [d] }
  | _ => none }
def PrimsFindWrongFalsely : Prop := primsFindRow.holds Try.pinned (OpenSpec.ofChange primsFindWrong)

/-- 'carrellaw16.PrimsXt': WHATEVER THE INPUT: true; the input reads as it did. -/
def primsXtSpec : ChangeSpec := { name := "primsXt", fn := fun _ => fun
  | [d] => { results := [.lit (.bool true)], args := [d] }
  | _ => none }
def primsXtRow : OpenClaim := { program := "ythbkjndnconakaa", sum := "da4f1238b6c4665814a0993c79979223290f133dd590107254ba96a57a7b93dc", func := "carrel/carrellaw16.PrimsXt", spec := "primsXt", unfollowed := true, recurses := true, apart := false }
def PrimsXtSaid : Prop := primsXtRow.holds Try.pinned (OpenSpec.ofChange primsXtSpec)

/-- ITS FALSE NEIGHBOUR: 'it returns false'. Refute it at one input. -/
def primsXtWrong : ChangeSpec := { name := "primsXt", fn := fun _ => fun
  | [d] => { results := [.lit (.bool false)], args := [d] }
  | _ => none }
def PrimsXtWrongFalsely : Prop := primsXtRow.holds Try.pinned (OpenSpec.ofChange primsXtWrong)

/-- 'carrellaw16.PrimsAll': WHATEVER THE INPUT: true; the input reads as it did. -/
def primsAllSpec : ChangeSpec := { name := "primsAll", fn := fun _ => fun
  | [d] => { results := [.lit (.bool true)], args := [d] }
  | _ => none }
def primsAllRow : OpenClaim := { program := "ythbkjndnconakaa", sum := "da4f1238b6c4665814a0993c79979223290f133dd590107254ba96a57a7b93dc", func := "carrel/carrellaw16.PrimsAll", spec := "primsAll", unfollowed := true, recurses := true, apart := false }
def PrimsAllSaid : Prop := primsAllRow.holds Try.pinned (OpenSpec.ofChange primsAllSpec)

/-- ITS FALSE NEIGHBOUR: 'it returns false'. Refute it at one input. -/
def primsAllWrong : ChangeSpec := { name := "primsAll", fn := fun _ => fun
  | [d] => { results := [.lit (.bool false)], args := [d] }
  | _ => none }
def PrimsAllWrongFalsely : Prop := primsAllRow.holds Try.pinned (OpenSpec.ofChange primsAllWrong)

/- THE SECOND FORM. 'bulk': how many values and letters a reading holds, each counted each time it is reached (what is shared counts as often as it is met; a slice's spare places count too). A statement '..UptoSaid' is the law's where the arguments, and the package variables that the reading takes, are together of bulk at most 1048576: NARROWER than '..Said'. Prove '..Said' where nothing that the law and all that it calls make is longer than what came in: it says more and counts as full. Else prove '..UptoSaid'. A law counts once. -/
mutual
def uptoBulk {H : Type} : DataW H → Nat
  | .lit (.string bytes) => bytes.length + 1
  | .lit _ => 1
  | .nil => 1
  | .ptr d => uptoBulk d + 1
  | .slice elems spare => uptoBulkAll elems + uptoBulkAll spare + 1
  | .agg parts => uptoBulkAll parts + 1
  | .iface _ d => uptoBulk d + 1
  | .map entries => uptoBulkEntries entries + 1
  | .held _ => 1
def uptoBulkAll {H : Type} : List (DataW H) → Nat
  | [] => 0
  | d :: r => uptoBulk d + uptoBulkAll r
def uptoBulkEntries {H : Type} : List (Lit × DataW H) → Nat
  | [] => 0
  | x :: r => uptoBulkEntry x + uptoBulkEntries r
def uptoBulkEntry {H : Type} : Lit × DataW H → Nat
  | (.string bytes, d) => bytes.length + uptoBulk d + 1
  | (_, d) => uptoBulk d + 1
 end
def uptoSmall : (H : Type) → List (DataW H) → Bool := fun _ ds => decide (uptoBulkAll ds ≤ 1048576)
def OpenSpec.upto (s : _root_.Go.ChangeSpec) : _root_.Go.OpenSpec := { _root_.Go.OpenSpec.ofChange s with cond := some uptoSmall }

/-- 'carrellaw16.PrimsOf', WHERE WHAT IT READS IS OF BULK AT MOST 1048576: true; the input reads as it did. -/
def primsOfUptoRow : OpenClaim := { program := "ythbkjndnconakaa", sum := "da4f1238b6c4665814a0993c79979223290f133dd590107254ba96a57a7b93dc", func := "carrel/carrellaw16.PrimsOf", spec := "primsOf", unfollowed := true, recurses := true, apart := false, narrowed := true }
def PrimsOfUptoSaid : Prop := primsOfUptoRow.holds Try.pinned (OpenSpec.upto primsOfSpec)

/-- 'carrellaw16.PrimsFind', WHERE WHAT IT READS IS OF BULK AT MOST 1048576: true; the input reads as it did. -/
def primsFindUptoRow : OpenClaim := { program := "ythbkjndnconakaa", sum := "da4f1238b6c4665814a0993c79979223290f133dd590107254ba96a57a7b93dc", func := "carrel/carrellaw16.PrimsFind", spec := "primsFind", unfollowed := true, recurses := true, apart := false, narrowed := true }
def PrimsFindUptoSaid : Prop := primsFindUptoRow.holds Try.pinned (OpenSpec.upto primsFindSpec)

/-- 'carrellaw16.PrimsXt', WHERE WHAT IT READS IS OF BULK AT MOST 1048576: true; the input reads as it did. -/
def primsXtUptoRow : OpenClaim := { program := "ythbkjndnconakaa", sum := "da4f1238b6c4665814a0993c79979223290f133dd590107254ba96a57a7b93dc", func := "carrel/carrellaw16.PrimsXt", spec := "primsXt", unfollowed := true, recurses := true, apart := false, narrowed := true }
def PrimsXtUptoSaid : Prop := primsXtUptoRow.holds Try.pinned (OpenSpec.upto primsXtSpec)

/-- 'carrellaw16.PrimsAll', WHERE WHAT IT READS IS OF BULK AT MOST 1048576: true; the input reads as it did. -/
def primsAllUptoRow : OpenClaim := { program := "ythbkjndnconakaa", sum := "da4f1238b6c4665814a0993c79979223290f133dd590107254ba96a57a7b93dc", func := "carrel/carrellaw16.PrimsAll", spec := "primsAll", unfollowed := true, recurses := true, apart := false, narrowed := true }
def PrimsAllUptoSaid : Prop := primsAllUptoRow.holds Try.pinned (OpenSpec.upto primsAllSpec)

end Rows
end Go.Proofs.Ythbkjndnconakaa
