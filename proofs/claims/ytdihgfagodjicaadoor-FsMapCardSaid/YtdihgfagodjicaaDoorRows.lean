/-
  NARROWER THAN 'FOR EVERY INPUT', by the rows' own cells (each row's printed sentence says how): FsFormats: laid · FsMap: laid · FsNone: laid · FsApart: laid.
  DERIVED. THE GIVEN ROWS OF THIS SEAT. 4 by the template 'for every input the law returns true; each argument reads behind the call as it read before'; 0 by the template 'total and deterministic' (their statements: YtdihgfagodjicaaDoorTotals.lean).
  GIVEN WITH THE SEED: the statements are not yours to turn. If you find one false, say at which input.
  Laid BY PROGRAM, IN A SANDBOX (cutbox-rows.mjs): the forced cells as the released guide's own fill.sh prints them over the translation 9e8624061b3c6b7b… (all of the seat's roots in one cut). By AI agents, Wed Nov 11 2026. No macro, syntax, notation, axiom, sorry.
-/
import Derived.Test.YtdihgfagodjicaaDoorChecked
import GoSem.Claim
import GoSem.ClaimJoined
import GoSem.ClaimMapViews
import Derived.JoinedTies
import Derived.KernelRfl
namespace Go.Proofs.YtdihgfagodjicaaDoor
/- THE CELL 'sum', in the pinned program and in every row, IS THE sha256 OF THE DUMP (.gsa) THAT YtdihgfagodjicaaDoorProg.lean LOADS. Nothing in Lean hashes anything: it is a label: what it is worth is what the hold of that sum in a sandbox is worth. -/
noncomputable def Tryd.pinned : Pinned := { name := "ytdihgfagodjicaadoor", sum := "9e8624061b3c6b7b4592cda247765ddbb985ffd5440bff13a6afe2ff6309bbda", checked := Tryd.checked }
namespace Rows
def none {H : Type} : Left H := { results := [], args := [] }

/- WHAT THE LISTED PACKAGE-LEVEL VARIABLES READ AS WHEN THE CALL BEGINS. Each datum BY PROGRAM (the guide's laid-datum.mjs) off the statement by which the dump's own 'gosem.cut.vars' lays the variable. In a bare row this is a premise. The card (YtdihgfagodjicaaDoorCards.lean) ties it to the program's text. -/
def laid_math_bits_deBruijn32tab {H : Type} : DataW H := .agg [.lit (.int .u8 0), .lit (.int .u8 1), .lit (.int .u8 28), .lit (.int .u8 2), .lit (.int .u8 29), .lit (.int .u8 14), .lit (.int .u8 24), .lit (.int .u8 3), .lit (.int .u8 30), .lit (.int .u8 22), .lit (.int .u8 20), .lit (.int .u8 15), .lit (.int .u8 25), .lit (.int .u8 17), .lit (.int .u8 4), .lit (.int .u8 8), .lit (.int .u8 31), .lit (.int .u8 27), .lit (.int .u8 13), .lit (.int .u8 23), .lit (.int .u8 21), .lit (.int .u8 19), .lit (.int .u8 16), .lit (.int .u8 7), .lit (.int .u8 26), .lit (.int .u8 12), .lit (.int .u8 18), .lit (.int .u8 6), .lit (.int .u8 11), .lit (.int .u8 5), .lit (.int .u8 10), .lit (.int .u8 9)]

/-- 'carrellaw12.FsFormats': WHATEVER THE INPUT: true; the input reads as it did. -/
def fsFormatsSpec : ChangeSpec := { name := "fsFormats", fn := fun _ => fun
  | [d] => { results := [.lit (.bool true)], args := [d] }
  | _ => none }
def fsFormatsRow : OpenClaim := { program := "ytdihgfagodjicaadoor", sum := "9e8624061b3c6b7b4592cda247765ddbb985ffd5440bff13a6afe2ff6309bbda", func := "carrel/carrellaw12.FsFormats", spec := "fsFormats", unfollowed := true, recurses := true, named := ["math/bits.deBruijn32tab"], apart := false, laid := [("math/bits.deBruijn32tab", laid_math_bits_deBruijn32tab)] }
def FsFormatsSaid : Prop := fsFormatsRow.holds Tryd.pinned (OpenSpec.ofChange fsFormatsSpec)

/-- ITS FALSE NEIGHBOUR: 'it returns false'. Refute it at one input. -/
def fsFormatsWrong : ChangeSpec := { name := "fsFormats", fn := fun _ => fun
  | [d] => { results := [.lit (.bool false)], args := [d] }
  | _ => none }
def FsFormatsWrongFalsely : Prop := fsFormatsRow.holds Tryd.pinned (OpenSpec.ofChange fsFormatsWrong)

/-- 'carrellaw12.FsMap': WHATEVER THE INPUT: true; the input reads as it did. -/
def fsMapSpec : ChangeSpec := { name := "fsMap", fn := fun _ => fun
  | [d] => { results := [.lit (.bool true)], args := [d] }
  | _ => none }
def fsMapRow : OpenClaim := { program := "ytdihgfagodjicaadoor", sum := "9e8624061b3c6b7b4592cda247765ddbb985ffd5440bff13a6afe2ff6309bbda", func := "carrel/carrellaw12.FsMap", spec := "fsMap", unfollowed := true, recurses := true, named := ["math/bits.deBruijn32tab"], apart := false, laid := [("math/bits.deBruijn32tab", laid_math_bits_deBruijn32tab)] }
def FsMapSaid : Prop := fsMapRow.holds Tryd.pinned (OpenSpec.ofChange fsMapSpec)

/-- ITS FALSE NEIGHBOUR: 'it returns false'. Refute it at one input. -/
def fsMapWrong : ChangeSpec := { name := "fsMap", fn := fun _ => fun
  | [d] => { results := [.lit (.bool false)], args := [d] }
  | _ => none }
def FsMapWrongFalsely : Prop := fsMapRow.holds Tryd.pinned (OpenSpec.ofChange fsMapWrong)

/-- 'carrellaw12.FsNone': WHATEVER THE INPUT: true; the input reads as it did. -/
def fsNoneSpec : ChangeSpec := { name := "fsNone", fn := fun _ => fun
  | [d] => { results := [.lit (.bool true)], args := [d] }
  | _ => none }
def fsNoneRow : OpenClaim := { program := "ytdihgfagodjicaadoor", sum := "9e8624061b3c6b7b4592cda247765ddbb985ffd5440bff13a6afe2ff6309bbda", func := "carrel/carrellaw12.FsNone", spec := "fsNone", unfollowed := true, recurses := true, named := ["math/bits.deBruijn32tab"], apart := false, laid := [("math/bits.deBruijn32tab", laid_math_bits_deBruijn32tab)] }
def FsNoneSaid : Prop := fsNoneRow.holds Tryd.pinned (OpenSpec.ofChange fsNoneSpec)

/-- ITS FALSE NEIGHBOUR: 'it returns false'. Refute it at one input. -/
def fsNoneWrong : ChangeSpec := { name := "fsNone", fn := fun _ => fun
  | [d] => { results := [.lit (.bool false)], args := [d] }
  | _ => none }
def FsNoneWrongFalsely : Prop := fsNoneRow.holds Tryd.pinned (OpenSpec.ofChange fsNoneWrong)

/-- 'carrellaw12.FsApart': WHATEVER THE INPUT: true; the input reads as it did. -/
def fsApartSpec : ChangeSpec := { name := "fsApart", fn := fun _ => fun
  | [d1, d2, d3, d4, d5] => { results := [.lit (.bool true)], args := [d1, d2, d3, d4, d5] }
  | _ => none }
def fsApartRow : OpenClaim := { program := "ytdihgfagodjicaadoor", sum := "9e8624061b3c6b7b4592cda247765ddbb985ffd5440bff13a6afe2ff6309bbda", func := "carrel/carrellaw12.FsApart", spec := "fsApart", unfollowed := true, recurses := true, named := ["math/bits.deBruijn32tab"], apart := false, laid := [("math/bits.deBruijn32tab", laid_math_bits_deBruijn32tab)] }
def FsApartSaid : Prop := fsApartRow.holds Tryd.pinned (OpenSpec.ofChange fsApartSpec)

/-- ITS FALSE NEIGHBOUR: 'it returns false'. Refute it at one input. -/
def fsApartWrong : ChangeSpec := { name := "fsApart", fn := fun _ => fun
  | [d1, d2, d3, d4, d5] => { results := [.lit (.bool false)], args := [d1, d2, d3, d4, d5] }
  | _ => none }
def FsApartWrongFalsely : Prop := fsApartRow.holds Tryd.pinned (OpenSpec.ofChange fsApartWrong)

/- THE SECOND FORM. 'bulk': how many values and letters a reading holds, each counted each time it is reached (what is shared counts as often as it is met; a slice's spare places count too). A statement '..UptoSaid' is the law's where the arguments, and the package variables that the reading takes, are together of bulk at most 1048576: NARROWER than '..Said'. Prove '..Said' where nothing that the law and all that it calls make is longer than what came in: it says more and counts as full. Else prove '..UptoSaid'. A law counts once. -/
mutual
def uptoBulk {H : Type} : DataW H → Nat
  | .lit (.string bytes) => bytes.length + 1
  | .lit _ => 1
  | .nil => 1
  | .ptr d => uptoBulk d + 1
  | .slice elems spare => uptoBulkAll elems + uptoBulkAll spare + 1
  | .agg parts => uptoBulkAll parts + 1
  | .iface _ d => uptoBulk d + 1
  | .map entries => uptoBulkEntries entries + 1
  | .held _ => 1
def uptoBulkAll {H : Type} : List (DataW H) → Nat
  | [] => 0
  | d :: r => uptoBulk d + uptoBulkAll r
def uptoBulkEntries {H : Type} : List (Lit × DataW H) → Nat
  | [] => 0
  | x :: r => uptoBulkEntry x + uptoBulkEntries r
def uptoBulkEntry {H : Type} : Lit × DataW H → Nat
  | (.string bytes, d) => bytes.length + uptoBulk d + 1
  | (_, d) => uptoBulk d + 1
 end
def uptoSmall : (H : Type) → List (DataW H) → Bool := fun _ ds => decide (uptoBulkAll ds ≤ 1048576)
def OpenSpec.upto (s : _root_.Go.ChangeSpec) : _root_.Go.OpenSpec := { _root_.Go.OpenSpec.ofChange s with cond := some uptoSmall }

/-- 'carrellaw12.FsFormats', WHERE WHAT IT READS IS OF BULK AT MOST 1048576: true; the input reads as it did. -/
def fsFormatsUptoRow : OpenClaim := { program := "ytdihgfagodjicaadoor", sum := "9e8624061b3c6b7b4592cda247765ddbb985ffd5440bff13a6afe2ff6309bbda", func := "carrel/carrellaw12.FsFormats", spec := "fsFormats", unfollowed := true, recurses := true, named := ["math/bits.deBruijn32tab"], apart := false, laid := [("math/bits.deBruijn32tab", laid_math_bits_deBruijn32tab)], narrowed := true }
def FsFormatsUptoSaid : Prop := fsFormatsUptoRow.holds Tryd.pinned (OpenSpec.upto fsFormatsSpec)

/-- 'carrellaw12.FsMap', WHERE WHAT IT READS IS OF BULK AT MOST 1048576: true; the input reads as it did. -/
def fsMapUptoRow : OpenClaim := { program := "ytdihgfagodjicaadoor", sum := "9e8624061b3c6b7b4592cda247765ddbb985ffd5440bff13a6afe2ff6309bbda", func := "carrel/carrellaw12.FsMap", spec := "fsMap", unfollowed := true, recurses := true, named := ["math/bits.deBruijn32tab"], apart := false, laid := [("math/bits.deBruijn32tab", laid_math_bits_deBruijn32tab)], narrowed := true }
def FsMapUptoSaid : Prop := fsMapUptoRow.holds Tryd.pinned (OpenSpec.upto fsMapSpec)

/-- 'carrellaw12.FsNone', WHERE WHAT IT READS IS OF BULK AT MOST 1048576: true; the input reads as it did. -/
def fsNoneUptoRow : OpenClaim := { program := "ytdihgfagodjicaadoor", sum := "9e8624061b3c6b7b4592cda247765ddbb985ffd5440bff13a6afe2ff6309bbda", func := "carrel/carrellaw12.FsNone", spec := "fsNone", unfollowed := true, recurses := true, named := ["math/bits.deBruijn32tab"], apart := false, laid := [("math/bits.deBruijn32tab", laid_math_bits_deBruijn32tab)], narrowed := true }
def FsNoneUptoSaid : Prop := fsNoneUptoRow.holds Tryd.pinned (OpenSpec.upto fsNoneSpec)

/-- 'carrellaw12.FsApart', WHERE WHAT IT READS IS OF BULK AT MOST 1048576: true; the input reads as it did. -/
def fsApartUptoRow : OpenClaim := { program := "ytdihgfagodjicaadoor", sum := "9e8624061b3c6b7b4592cda247765ddbb985ffd5440bff13a6afe2ff6309bbda", func := "carrel/carrellaw12.FsApart", spec := "fsApart", unfollowed := true, recurses := true, named := ["math/bits.deBruijn32tab"], apart := false, laid := [("math/bits.deBruijn32tab", laid_math_bits_deBruijn32tab)], narrowed := true }
def FsApartUptoSaid : Prop := fsApartUptoRow.holds Tryd.pinned (OpenSpec.upto fsApartSpec)

end Rows
end Go.Proofs.YtdihgfagodjicaaDoor
