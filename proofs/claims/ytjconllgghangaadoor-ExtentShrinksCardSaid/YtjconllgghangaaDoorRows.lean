/-
  NARROWER THAN 'FOR EVERY INPUT', by the rows' own cells (each row's printed sentence says how): ExtentChecks: laid · ExtentTells: laid · ExtentGrows: laid · ExtentShrinks: laid · ExtentBack: laid.
  DERIVED. THE GIVEN ROWS OF THIS SEAT. 5 by the template 'for every input the law returns true; each argument reads behind the call as it read before'; 0 by the template 'total and deterministic' (their statements: YtjconllgghangaaDoorTotals.lean).
  GIVEN WITH THE SEED: the statements are not yours to turn. If you find one false, say at which input.
  Laid BY PROGRAM, IN A SANDBOX (cutbox-rows.mjs): the forced cells as the released guide's own fill.sh prints them over the translation b72e414aa174e112… (all of the seat's roots in one cut). By AI agents, Wed Nov 11 2026. No macro, syntax, notation, axiom, sorry.
-/
import Derived.Test.YtjconllgghangaaDoorChecked
import GoSem.Claim
import GoSem.ClaimJoined
import GoSem.ClaimMapViews
import Derived.JoinedTies
import Derived.KernelRfl
namespace Go.Proofs.YtjconllgghangaaDoor
/- THE CELL 'sum', in the pinned program and in every row, IS THE sha256 OF THE DUMP (.gsa) THAT YtjconllgghangaaDoorProg.lean LOADS. Nothing in Lean hashes anything: it is a label: what it is worth is what the hold of that sum in a sandbox is worth. -/
noncomputable def Tryd.pinned : Pinned := { name := "ytjconllgghangaadoor", sum := "b72e414aa174e112d4fed42d8707b1a7ad545d4a0fd72798ad1b52e4452c0ddf", checked := Tryd.checked }
namespace Rows
def none {H : Type} : Left H := { results := [], args := [] }

/- WHAT THE LISTED PACKAGE-LEVEL VARIABLES READ AS WHEN THE CALL BEGINS. Each datum BY PROGRAM (the guide's laid-datum.mjs) off the statement by which the dump's own 'gosem.cut.vars' lays the variable. In a bare row this is a premise. The card (YtjconllgghangaaDoorCards.lean) ties it to the program's text. -/
def laid_math_bits_deBruijn32tab {H : Type} : DataW H := .agg [.lit (.int .u8 0), .lit (.int .u8 1), .lit (.int .u8 28), .lit (.int .u8 2), .lit (.int .u8 29), .lit (.int .u8 14), .lit (.int .u8 24), .lit (.int .u8 3), .lit (.int .u8 30), .lit (.int .u8 22), .lit (.int .u8 20), .lit (.int .u8 15), .lit (.int .u8 25), .lit (.int .u8 17), .lit (.int .u8 4), .lit (.int .u8 8), .lit (.int .u8 31), .lit (.int .u8 27), .lit (.int .u8 13), .lit (.int .u8 23), .lit (.int .u8 21), .lit (.int .u8 19), .lit (.int .u8 16), .lit (.int .u8 7), .lit (.int .u8 26), .lit (.int .u8 12), .lit (.int .u8 18), .lit (.int .u8 6), .lit (.int .u8 11), .lit (.int .u8 5), .lit (.int .u8 10), .lit (.int .u8 9)]

/-- 'carrellaw10.ExtentChecks': WHATEVER THE INPUT: true; the input reads as it did. -/
def extentChecksSpec : ChangeSpec := { name := "extentChecks", fn := fun _ => fun
  | [d] => { results := [.lit (.bool true)], args := [d] }
  | _ => none }
def extentChecksRow : OpenClaim := { program := "ytjconllgghangaadoor", sum := "b72e414aa174e112d4fed42d8707b1a7ad545d4a0fd72798ad1b52e4452c0ddf", func := "carrel/carrellaw10.ExtentChecks", spec := "extentChecks", named := ["math/bits.deBruijn32tab"], apart := false, laid := [("math/bits.deBruijn32tab", laid_math_bits_deBruijn32tab)] }
def ExtentChecksSaid : Prop := extentChecksRow.holds Tryd.pinned (OpenSpec.ofChange extentChecksSpec)

/-- ITS FALSE NEIGHBOUR: 'it returns false'. Refute it at one input. -/
def extentChecksWrong : ChangeSpec := { name := "extentChecks", fn := fun _ => fun
  | [d] => { results := [.lit (.bool false)], args := [d] }
  | _ => none }
def ExtentChecksWrongFalsely : Prop := extentChecksRow.holds Tryd.pinned (OpenSpec.ofChange extentChecksWrong)

/-- 'carrellaw10.ExtentTells': WHATEVER THE INPUT: true; the input reads as it did. -/
def extentTellsSpec : ChangeSpec := { name := "extentTells", fn := fun _ => fun
  | [d1, d2] => { results := [.lit (.bool true)], args := [d1, d2] }
  | _ => none }
def extentTellsRow : OpenClaim := { program := "ytjconllgghangaadoor", sum := "b72e414aa174e112d4fed42d8707b1a7ad545d4a0fd72798ad1b52e4452c0ddf", func := "carrel/carrellaw10.ExtentTells", spec := "extentTells", unfollowed := true, recurses := true, named := ["math/bits.deBruijn32tab"], apart := false, laid := [("math/bits.deBruijn32tab", laid_math_bits_deBruijn32tab)] }
def ExtentTellsSaid : Prop := extentTellsRow.holds Tryd.pinned (OpenSpec.ofChange extentTellsSpec)

/-- ITS FALSE NEIGHBOUR: 'it returns false'. Refute it at one input. -/
def extentTellsWrong : ChangeSpec := { name := "extentTells", fn := fun _ => fun
  | [d1, d2] => { results := [.lit (.bool false)], args := [d1, d2] }
  | _ => none }
def ExtentTellsWrongFalsely : Prop := extentTellsRow.holds Tryd.pinned (OpenSpec.ofChange extentTellsWrong)

/-- 'carrellaw10.ExtentGrows': WHATEVER THE INPUT: true; the input reads as it did. -/
def extentGrowsSpec : ChangeSpec := { name := "extentGrows", fn := fun _ => fun
  | [d1, d2, d3] => { results := [.lit (.bool true)], args := [d1, d2, d3] }
  | _ => none }
def extentGrowsRow : OpenClaim := { program := "ytjconllgghangaadoor", sum := "b72e414aa174e112d4fed42d8707b1a7ad545d4a0fd72798ad1b52e4452c0ddf", func := "carrel/carrellaw10.ExtentGrows", spec := "extentGrows", named := ["math/bits.deBruijn32tab"], apart := false, laid := [("math/bits.deBruijn32tab", laid_math_bits_deBruijn32tab)] }
def ExtentGrowsSaid : Prop := extentGrowsRow.holds Tryd.pinned (OpenSpec.ofChange extentGrowsSpec)

/-- ITS FALSE NEIGHBOUR: 'it returns false'. Refute it at one input. -/
def extentGrowsWrong : ChangeSpec := { name := "extentGrows", fn := fun _ => fun
  | [d1, d2, d3] => { results := [.lit (.bool false)], args := [d1, d2, d3] }
  | _ => none }
def ExtentGrowsWrongFalsely : Prop := extentGrowsRow.holds Tryd.pinned (OpenSpec.ofChange extentGrowsWrong)

/-- 'carrellaw10.ExtentShrinks': WHATEVER THE INPUT: true; the input reads as it did. -/
def extentShrinksSpec : ChangeSpec := { name := "extentShrinks", fn := fun _ => fun
  | [d1, d2, d3] => { results := [.lit (.bool true)], args := [d1, d2, d3] }
  | _ => none }
def extentShrinksRow : OpenClaim := { program := "ytjconllgghangaadoor", sum := "b72e414aa174e112d4fed42d8707b1a7ad545d4a0fd72798ad1b52e4452c0ddf", func := "carrel/carrellaw10.ExtentShrinks", spec := "extentShrinks", unfollowed := true, recurses := true, named := ["math/bits.deBruijn32tab"], apart := false, laid := [("math/bits.deBruijn32tab", laid_math_bits_deBruijn32tab)] }
def ExtentShrinksSaid : Prop := extentShrinksRow.holds Tryd.pinned (OpenSpec.ofChange extentShrinksSpec)

/-- ITS FALSE NEIGHBOUR: 'it returns false'. Refute it at one input. -/
def extentShrinksWrong : ChangeSpec := { name := "extentShrinks", fn := fun _ => fun
  | [d1, d2, d3] => { results := [.lit (.bool false)], args := [d1, d2, d3] }
  | _ => none }
def ExtentShrinksWrongFalsely : Prop := extentShrinksRow.holds Tryd.pinned (OpenSpec.ofChange extentShrinksWrong)

/-- 'carrellaw10.ExtentBack': WHATEVER THE INPUT: true; the input reads as it did. -/
def extentBackSpec : ChangeSpec := { name := "extentBack", fn := fun _ => fun
  | [d1, d2, d3] => { results := [.lit (.bool true)], args := [d1, d2, d3] }
  | _ => none }
def extentBackRow : OpenClaim := { program := "ytjconllgghangaadoor", sum := "b72e414aa174e112d4fed42d8707b1a7ad545d4a0fd72798ad1b52e4452c0ddf", func := "carrel/carrellaw10.ExtentBack", spec := "extentBack", unfollowed := true, recurses := true, named := ["math/bits.deBruijn32tab"], apart := false, laid := [("math/bits.deBruijn32tab", laid_math_bits_deBruijn32tab)] }
def ExtentBackSaid : Prop := extentBackRow.holds Tryd.pinned (OpenSpec.ofChange extentBackSpec)

/-- ITS FALSE NEIGHBOUR: 'it returns false'. Refute it at one input. -/
def extentBackWrong : ChangeSpec := { name := "extentBack", fn := fun _ => fun
  | [d1, d2, d3] => { results := [.lit (.bool false)], args := [d1, d2, d3] }
  | _ => none }
def ExtentBackWrongFalsely : Prop := extentBackRow.holds Tryd.pinned (OpenSpec.ofChange extentBackWrong)

/- THE SECOND FORM. 'bulk': how many values and letters a reading holds, each counted each time it is reached (what is shared counts as often as it is met; a slice's spare places count too). A statement '..UptoSaid' is the law's where the arguments, and the package variables that the reading takes, are together of bulk at most 1048576: NARROWER than '..Said'. Prove '..Said' where nothing that the law and all that it calls make is longer than what came in: it says more and counts as full. Else prove '..UptoSaid'. A law counts once. -/
mutual
def uptoBulk {H : Type} : DataW H → Nat
  | .lit (.string bytes) => bytes.length + 1
  | .lit _ => 1
  | .nil => 1
  | .ptr d => uptoBulk d + 1
  | .slice elems spare => uptoBulkAll elems + uptoBulkAll spare + 1
  | .agg parts => uptoBulkAll parts + 1
  | .iface _ d => uptoBulk d + 1
  | .map entries => uptoBulkEntries entries + 1
  | .held _ => 1
def uptoBulkAll {H : Type} : List (DataW H) → Nat
  | [] => 0
  | d :: r => uptoBulk d + uptoBulkAll r
def uptoBulkEntries {H : Type} : List (Lit × DataW H) → Nat
  | [] => 0
  | x :: r => uptoBulkEntry x + uptoBulkEntries r
def uptoBulkEntry {H : Type} : Lit × DataW H → Nat
  | (.string bytes, d) => bytes.length + uptoBulk d + 1
  | (_, d) => uptoBulk d + 1
 end
def uptoSmall : (H : Type) → List (DataW H) → Bool := fun _ ds => decide (uptoBulkAll ds ≤ 1048576)
def OpenSpec.upto (s : _root_.Go.ChangeSpec) : _root_.Go.OpenSpec := { _root_.Go.OpenSpec.ofChange s with cond := some uptoSmall }

/-- 'carrellaw10.ExtentChecks', WHERE WHAT IT READS IS OF BULK AT MOST 1048576: true; the input reads as it did. -/
def extentChecksUptoRow : OpenClaim := { program := "ytjconllgghangaadoor", sum := "b72e414aa174e112d4fed42d8707b1a7ad545d4a0fd72798ad1b52e4452c0ddf", func := "carrel/carrellaw10.ExtentChecks", spec := "extentChecks", named := ["math/bits.deBruijn32tab"], apart := false, laid := [("math/bits.deBruijn32tab", laid_math_bits_deBruijn32tab)], narrowed := true }
def ExtentChecksUptoSaid : Prop := extentChecksUptoRow.holds Tryd.pinned (OpenSpec.upto extentChecksSpec)

/-- 'carrellaw10.ExtentTells', WHERE WHAT IT READS IS OF BULK AT MOST 1048576: true; the input reads as it did. -/
def extentTellsUptoRow : OpenClaim := { program := "ytjconllgghangaadoor", sum := "b72e414aa174e112d4fed42d8707b1a7ad545d4a0fd72798ad1b52e4452c0ddf", func := "carrel/carrellaw10.ExtentTells", spec := "extentTells", unfollowed := true, recurses := true, named := ["math/bits.deBruijn32tab"], apart := false, laid := [("math/bits.deBruijn32tab", laid_math_bits_deBruijn32tab)], narrowed := true }
def ExtentTellsUptoSaid : Prop := extentTellsUptoRow.holds Tryd.pinned (OpenSpec.upto extentTellsSpec)

/-- 'carrellaw10.ExtentGrows', WHERE WHAT IT READS IS OF BULK AT MOST 1048576: true; the input reads as it did. -/
def extentGrowsUptoRow : OpenClaim := { program := "ytjconllgghangaadoor", sum := "b72e414aa174e112d4fed42d8707b1a7ad545d4a0fd72798ad1b52e4452c0ddf", func := "carrel/carrellaw10.ExtentGrows", spec := "extentGrows", named := ["math/bits.deBruijn32tab"], apart := false, laid := [("math/bits.deBruijn32tab", laid_math_bits_deBruijn32tab)], narrowed := true }
def ExtentGrowsUptoSaid : Prop := extentGrowsUptoRow.holds Tryd.pinned (OpenSpec.upto extentGrowsSpec)

/-- 'carrellaw10.ExtentShrinks', WHERE WHAT IT READS IS OF BULK AT MOST 1048576: true; the input reads as it did. -/
def extentShrinksUptoRow : OpenClaim := { program := "ytjconllgghangaadoor", sum := "b72e414aa174e112d4fed42d8707b1a7ad545d4a0fd72798ad1b52e4452c0ddf", func := "carrel/carrellaw10.ExtentShrinks", spec := "extentShrinks", unfollowed := true, recurses := true, named := ["math/bits.deBruijn32tab"], apart := false, laid := [("math/bits.deBruijn32tab", laid_math_bits_deBruijn32tab)], narrowed := true }
def ExtentShrinksUptoSaid : Prop := extentShrinksUptoRow.holds Tryd.pinned (OpenSpec.upto extentShrinksSpec)

/-- 'carrellaw10.ExtentBack', WHERE WHAT IT READS IS OF BULK AT MOST 1048576: true; the input reads as it did. -/
def extentBackUptoRow : OpenClaim := { program := "ytjconllgghangaadoor", sum := "b72e414aa174e112d4fed42d8707b1a7ad545d4a0fd72798ad1b52e4452c0ddf", func := "carrel/carrellaw10.ExtentBack", spec := "extentBack", unfollowed := true, recurses := true, named := ["math/bits.deBruijn32tab"], apart := false, laid := [("math/bits.deBruijn32tab", laid_math_bits_deBruijn32tab)], narrowed := true }
def ExtentBackUptoSaid : Prop := extentBackUptoRow.holds Tryd.pinned (OpenSpec.upto extentBackSpec)

end Rows
end Go.Proofs.YtjconllgghangaaDoor
