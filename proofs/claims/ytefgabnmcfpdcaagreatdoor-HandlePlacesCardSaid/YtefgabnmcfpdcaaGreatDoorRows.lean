/-
  NARROWER THAN 'FOR EVERY INPUT', by the rows' own cells (each row's printed sentence says how): FsActs: laid · FsRaw: laid · HandleActs: laid · HandleReads: laid · HandlePlaces: laid.
  DERIVED. THE GIVEN ROWS OF THIS SEAT. 5 by the template 'for every input the law returns true; each argument reads behind the call as it read before'; 0 by the template 'total and deterministic' (their statements: YtefgabnmcfpdcaaGreatDoorTotals.lean).
  GIVEN WITH THE SEED: the statements are not yours to turn. If you find one false, say at which input.
  Laid BY PROGRAM, IN A SANDBOX (cutbox-rows.mjs): the forced cells as the released guide's own fill.sh prints them over the translation 5c04c0d5494fb710… (all of the seat's roots in one cut). By AI agents, Wed Nov 11 2026. No macro, syntax, notation, axiom, sorry.
-/
import Derived.Test.YtefgabnmcfpdcaaGreatDoorChecked
import GoSem.Claim
import GoSem.ClaimJoined
import GoSem.ClaimMapViews
import Derived.JoinedTies
import Derived.KernelRfl
namespace Go.Proofs.YtefgabnmcfpdcaaGreatDoor
/- THE CELL 'sum', in the pinned program and in every row, IS THE sha256 OF THE DUMP (.gsa) THAT YtefgabnmcfpdcaaGreatDoorProg.lean LOADS. Nothing in Lean hashes anything: it is a label: what it is worth is what the hold of that sum in a sandbox is worth. -/
noncomputable def Tryz.pinned : Pinned := { name := "ytefgabnmcfpdcaagreatdoor", sum := "5c04c0d5494fb7100516059e0b7c3be148c14a2468e96a0c392f5bef0423636b", checked := Tryz.checked }
namespace Rows
def none {H : Type} : Left H := { results := [], args := [] }

/- WHAT THE LISTED PACKAGE-LEVEL VARIABLES READ AS WHEN THE CALL BEGINS. Each datum BY PROGRAM (the guide's laid-datum.mjs) off the statement by which the dump's own 'gosem.cut.vars' lays the variable. In a bare row this is a premise. The card (YtefgabnmcfpdcaaGreatDoorCards.lean) ties it to the program's text. -/
def laid_math_bits_deBruijn32tab {H : Type} : DataW H := .agg [.lit (.int .u8 0), .lit (.int .u8 1), .lit (.int .u8 28), .lit (.int .u8 2), .lit (.int .u8 29), .lit (.int .u8 14), .lit (.int .u8 24), .lit (.int .u8 3), .lit (.int .u8 30), .lit (.int .u8 22), .lit (.int .u8 20), .lit (.int .u8 15), .lit (.int .u8 25), .lit (.int .u8 17), .lit (.int .u8 4), .lit (.int .u8 8), .lit (.int .u8 31), .lit (.int .u8 27), .lit (.int .u8 13), .lit (.int .u8 23), .lit (.int .u8 21), .lit (.int .u8 19), .lit (.int .u8 16), .lit (.int .u8 7), .lit (.int .u8 26), .lit (.int .u8 12), .lit (.int .u8 18), .lit (.int .u8 6), .lit (.int .u8 11), .lit (.int .u8 5), .lit (.int .u8 10), .lit (.int .u8 9)]

/-- 'carrellaw12.FsActs': WHATEVER THE INPUT: true; the input reads as it did. -/
def fsActsSpec : ChangeSpec := { name := "fsActs", fn := fun _ => fun
  | [d] => { results := [.lit (.bool true)], args := [d] }
  | _ => none }
def fsActsRow : OpenClaim := { program := "ytefgabnmcfpdcaagreatdoor", sum := "5c04c0d5494fb7100516059e0b7c3be148c14a2468e96a0c392f5bef0423636b", func := "carrel/carrellaw12.FsActs", spec := "fsActs", unfollowed := true, recurses := true, named := ["math/bits.deBruijn32tab"], apart := false, laid := [("math/bits.deBruijn32tab", laid_math_bits_deBruijn32tab)] }
def FsActsSaid : Prop := fsActsRow.holds Tryz.pinned (OpenSpec.ofChange fsActsSpec)

/-- ITS FALSE NEIGHBOUR: 'it returns false'. Refute it at one input. -/
def fsActsWrong : ChangeSpec := { name := "fsActs", fn := fun _ => fun
  | [d] => { results := [.lit (.bool false)], args := [d] }
  | _ => none }
def FsActsWrongFalsely : Prop := fsActsRow.holds Tryz.pinned (OpenSpec.ofChange fsActsWrong)

/-- 'carrellaw12.FsRaw': WHATEVER THE INPUT: true; the input reads as it did. -/
def fsRawSpec : ChangeSpec := { name := "fsRaw", fn := fun _ => fun
  | [d1, d2] => { results := [.lit (.bool true)], args := [d1, d2] }
  | _ => none }
def fsRawRow : OpenClaim := { program := "ytefgabnmcfpdcaagreatdoor", sum := "5c04c0d5494fb7100516059e0b7c3be148c14a2468e96a0c392f5bef0423636b", func := "carrel/carrellaw12.FsRaw", spec := "fsRaw", unfollowed := true, recurses := true, named := ["math/bits.deBruijn32tab"], apart := false, laid := [("math/bits.deBruijn32tab", laid_math_bits_deBruijn32tab)] }
def FsRawSaid : Prop := fsRawRow.holds Tryz.pinned (OpenSpec.ofChange fsRawSpec)

/-- ITS FALSE NEIGHBOUR: 'it returns false'. Refute it at one input. -/
def fsRawWrong : ChangeSpec := { name := "fsRaw", fn := fun _ => fun
  | [d1, d2] => { results := [.lit (.bool false)], args := [d1, d2] }
  | _ => none }
def FsRawWrongFalsely : Prop := fsRawRow.holds Tryz.pinned (OpenSpec.ofChange fsRawWrong)

/-- 'carrellaw13.HandleActs': WHATEVER THE INPUT: true; the input reads as it did. -/
def handleActsSpec : ChangeSpec := { name := "handleActs", fn := fun _ => fun
  | [d] => { results := [.lit (.bool true)], args := [d] }
  | _ => none }
def handleActsRow : OpenClaim := { program := "ytefgabnmcfpdcaagreatdoor", sum := "5c04c0d5494fb7100516059e0b7c3be148c14a2468e96a0c392f5bef0423636b", func := "carrel/carrellaw13.HandleActs", spec := "handleActs", unfollowed := true, recurses := true, named := ["math/bits.deBruijn32tab"], apart := false, laid := [("math/bits.deBruijn32tab", laid_math_bits_deBruijn32tab)] }
def HandleActsSaid : Prop := handleActsRow.holds Tryz.pinned (OpenSpec.ofChange handleActsSpec)

/-- ITS FALSE NEIGHBOUR: 'it returns false'. Refute it at one input. -/
def handleActsWrong : ChangeSpec := { name := "handleActs", fn := fun _ => fun
  | [d] => { results := [.lit (.bool false)], args := [d] }
  | _ => none }
def HandleActsWrongFalsely : Prop := handleActsRow.holds Tryz.pinned (OpenSpec.ofChange handleActsWrong)

/-- 'carrellaw13.HandleReads': WHATEVER THE INPUT: true; the input reads as it did. -/
def handleReadsSpec : ChangeSpec := { name := "handleReads", fn := fun _ => fun
  | [d1, d2] => { results := [.lit (.bool true)], args := [d1, d2] }
  | _ => none }
def handleReadsRow : OpenClaim := { program := "ytefgabnmcfpdcaagreatdoor", sum := "5c04c0d5494fb7100516059e0b7c3be148c14a2468e96a0c392f5bef0423636b", func := "carrel/carrellaw13.HandleReads", spec := "handleReads", unfollowed := true, recurses := true, named := ["math/bits.deBruijn32tab"], apart := false, laid := [("math/bits.deBruijn32tab", laid_math_bits_deBruijn32tab)] }
def HandleReadsSaid : Prop := handleReadsRow.holds Tryz.pinned (OpenSpec.ofChange handleReadsSpec)

/-- ITS FALSE NEIGHBOUR: 'it returns false'. Refute it at one input. -/
def handleReadsWrong : ChangeSpec := { name := "handleReads", fn := fun _ => fun
  | [d1, d2] => { results := [.lit (.bool false)], args := [d1, d2] }
  | _ => none }
def HandleReadsWrongFalsely : Prop := handleReadsRow.holds Tryz.pinned (OpenSpec.ofChange handleReadsWrong)

/-- 'carrellaw13.HandlePlaces': WHATEVER THE INPUT: true; the input reads as it did. -/
def handlePlacesSpec : ChangeSpec := { name := "handlePlaces", fn := fun _ => fun
  | [d1, d2] => { results := [.lit (.bool true)], args := [d1, d2] }
  | _ => none }
def handlePlacesRow : OpenClaim := { program := "ytefgabnmcfpdcaagreatdoor", sum := "5c04c0d5494fb7100516059e0b7c3be148c14a2468e96a0c392f5bef0423636b", func := "carrel/carrellaw13.HandlePlaces", spec := "handlePlaces", unfollowed := true, recurses := true, named := ["math/bits.deBruijn32tab"], apart := false, laid := [("math/bits.deBruijn32tab", laid_math_bits_deBruijn32tab)] }
def HandlePlacesSaid : Prop := handlePlacesRow.holds Tryz.pinned (OpenSpec.ofChange handlePlacesSpec)

/-- ITS FALSE NEIGHBOUR: 'it returns false'. Refute it at one input. -/
def handlePlacesWrong : ChangeSpec := { name := "handlePlaces", fn := fun _ => fun
  | [d1, d2] => { results := [.lit (.bool false)], args := [d1, d2] }
  | _ => none }
def HandlePlacesWrongFalsely : Prop := handlePlacesRow.holds Tryz.pinned (OpenSpec.ofChange handlePlacesWrong)

/- THE SECOND FORM. 'bulk': how many values and letters a reading holds, each counted each time it is reached (what is shared counts as often as it is met; a slice's spare places count too). A statement '..UptoSaid' is the law's where the arguments, and the package variables that the reading takes, are together of bulk at most 1048576: NARROWER than '..Said'. Prove '..Said' where nothing that the law and all that it calls make is longer than what came in: it says more and counts as full. Else prove '..UptoSaid'. A law counts once. -/
mutual
def uptoBulk {H : Type} : DataW H → Nat
  | .lit (.string bytes) => bytes.length + 1
  | .lit _ => 1
  | .nil => 1
  | .ptr d => uptoBulk d + 1
  | .slice elems spare => uptoBulkAll elems + uptoBulkAll spare + 1
  | .agg parts => uptoBulkAll parts + 1
  | .iface _ d => uptoBulk d + 1
  | .map entries => uptoBulkEntries entries + 1
  | .held _ => 1
def uptoBulkAll {H : Type} : List (DataW H) → Nat
  | [] => 0
  | d :: r => uptoBulk d + uptoBulkAll r
def uptoBulkEntries {H : Type} : List (Lit × DataW H) → Nat
  | [] => 0
  | x :: r => uptoBulkEntry x + uptoBulkEntries r
def uptoBulkEntry {H : Type} : Lit × DataW H → Nat
  | (.string bytes, d) => bytes.length + uptoBulk d + 1
  | (_, d) => uptoBulk d + 1
 end
def uptoSmall : (H : Type) → List (DataW H) → Bool := fun _ ds => decide (uptoBulkAll ds ≤ 1048576)
def OpenSpec.upto (s : _root_.Go.ChangeSpec) : _root_.Go.OpenSpec := { _root_.Go.OpenSpec.ofChange s with cond := some uptoSmall }

/-- 'carrellaw12.FsActs', WHERE WHAT IT READS IS OF BULK AT MOST 1048576: true; the input reads as it did. -/
def fsActsUptoRow : OpenClaim := { program := "ytefgabnmcfpdcaagreatdoor", sum := "5c04c0d5494fb7100516059e0b7c3be148c14a2468e96a0c392f5bef0423636b", func := "carrel/carrellaw12.FsActs", spec := "fsActs", unfollowed := true, recurses := true, named := ["math/bits.deBruijn32tab"], apart := false, laid := [("math/bits.deBruijn32tab", laid_math_bits_deBruijn32tab)], narrowed := true }
def FsActsUptoSaid : Prop := fsActsUptoRow.holds Tryz.pinned (OpenSpec.upto fsActsSpec)

/-- 'carrellaw12.FsRaw', WHERE WHAT IT READS IS OF BULK AT MOST 1048576: true; the input reads as it did. -/
def fsRawUptoRow : OpenClaim := { program := "ytefgabnmcfpdcaagreatdoor", sum := "5c04c0d5494fb7100516059e0b7c3be148c14a2468e96a0c392f5bef0423636b", func := "carrel/carrellaw12.FsRaw", spec := "fsRaw", unfollowed := true, recurses := true, named := ["math/bits.deBruijn32tab"], apart := false, laid := [("math/bits.deBruijn32tab", laid_math_bits_deBruijn32tab)], narrowed := true }
def FsRawUptoSaid : Prop := fsRawUptoRow.holds Tryz.pinned (OpenSpec.upto fsRawSpec)

/-- 'carrellaw13.HandleActs', WHERE WHAT IT READS IS OF BULK AT MOST 1048576: true; the input reads as it did. -/
def handleActsUptoRow : OpenClaim := { program := "ytefgabnmcfpdcaagreatdoor", sum := "5c04c0d5494fb7100516059e0b7c3be148c14a2468e96a0c392f5bef0423636b", func := "carrel/carrellaw13.HandleActs", spec := "handleActs", unfollowed := true, recurses := true, named := ["math/bits.deBruijn32tab"], apart := false, laid := [("math/bits.deBruijn32tab", laid_math_bits_deBruijn32tab)], narrowed := true }
def HandleActsUptoSaid : Prop := handleActsUptoRow.holds Tryz.pinned (OpenSpec.upto handleActsSpec)

/-- 'carrellaw13.HandleReads', WHERE WHAT IT READS IS OF BULK AT MOST 1048576: true; the input reads as it did. -/
def handleReadsUptoRow : OpenClaim := { program := "ytefgabnmcfpdcaagreatdoor", sum := "5c04c0d5494fb7100516059e0b7c3be148c14a2468e96a0c392f5bef0423636b", func := "carrel/carrellaw13.HandleReads", spec := "handleReads", unfollowed := true, recurses := true, named := ["math/bits.deBruijn32tab"], apart := false, laid := [("math/bits.deBruijn32tab", laid_math_bits_deBruijn32tab)], narrowed := true }
def HandleReadsUptoSaid : Prop := handleReadsUptoRow.holds Tryz.pinned (OpenSpec.upto handleReadsSpec)

/-- 'carrellaw13.HandlePlaces', WHERE WHAT IT READS IS OF BULK AT MOST 1048576: true; the input reads as it did. -/
def handlePlacesUptoRow : OpenClaim := { program := "ytefgabnmcfpdcaagreatdoor", sum := "5c04c0d5494fb7100516059e0b7c3be148c14a2468e96a0c392f5bef0423636b", func := "carrel/carrellaw13.HandlePlaces", spec := "handlePlaces", unfollowed := true, recurses := true, named := ["math/bits.deBruijn32tab"], apart := false, laid := [("math/bits.deBruijn32tab", laid_math_bits_deBruijn32tab)], narrowed := true }
def HandlePlacesUptoSaid : Prop := handlePlacesUptoRow.holds Tryz.pinned (OpenSpec.upto handlePlacesSpec)

end Rows
end Go.Proofs.YtefgabnmcfpdcaaGreatDoor
