/-
  DERIVED. GIVEN WITH THE SEED: THE CARDS: each row of YtdihgfagodjicaaDoorRows.lean that lists a variable, with what it lists TIED to the program's text (the seventh form; the later family's looks); each row that meets fmt, with fmt's text TOLD by the authors' own Lean function (tested against real Go, not proved from fmt's source: count such statements apart). THE CARD IS WHAT COUNTS. Prove the row's statement (the work); the ties are given (YtdihgfagodjicaaDoorTie.lean); close each card by the builder's one call (the guide's Derived/Test/ToyasCard.lean, 'card_holds'). Laid BY PROGRAM, IN A SANDBOX (cutbox-door.mjs). By AI agents, Wed Nov 11 2026. No macro, syntax, notation, axiom, sorry.
-/
import Derived.Test.YtdihgfagodjicaaDoorRows
import GoSem.ClaimSeven
namespace Go.Proofs.YtdihgfagodjicaaDoor
namespace Rows

/-- THE TIED CARD OF 'carrellaw12.FsFormats'. -/
def fsFormatsCard : Claim7 := { stood := { row := fsFormatsRow, standIns := [], harness := (true, "6c84515c19efac930d41e262fe0925053843d68b7f2a70315127c6d4e683cf21"), looks := false }, kinds := [], alts := [], laidByText := true, laidKinds := [.data], laidTests := true, laidLooks := .later }
def FsFormatsCardSaid : Prop := Claim7.holds Tryd.pinned (.plain (OpenSpec.ofChange fsFormatsSpec)) fsFormatsCard

/-- THE TIED CARD OF 'carrellaw12.FsMap'. -/
def fsMapCard : Claim7 := { stood := { row := fsMapRow, standIns := [], harness := (true, "6c84515c19efac930d41e262fe0925053843d68b7f2a70315127c6d4e683cf21"), looks := false }, kinds := [], alts := [], laidByText := true, laidKinds := [.data], laidTests := true, laidLooks := .later }
def FsMapCardSaid : Prop := Claim7.holds Tryd.pinned (.plain (OpenSpec.ofChange fsMapSpec)) fsMapCard

/-- THE TIED CARD OF 'carrellaw12.FsNone'. -/
def fsNoneCard : Claim7 := { stood := { row := fsNoneRow, standIns := [], harness := (true, "6c84515c19efac930d41e262fe0925053843d68b7f2a70315127c6d4e683cf21"), looks := false }, kinds := [], alts := [], laidByText := true, laidKinds := [.data], laidTests := true, laidLooks := .later }
def FsNoneCardSaid : Prop := Claim7.holds Tryd.pinned (.plain (OpenSpec.ofChange fsNoneSpec)) fsNoneCard

/-- THE TIED CARD OF 'carrellaw12.FsApart'. -/
def fsApartCard : Claim7 := { stood := { row := fsApartRow, standIns := [], harness := (true, "6c84515c19efac930d41e262fe0925053843d68b7f2a70315127c6d4e683cf21"), looks := false }, kinds := [], alts := [], laidByText := true, laidKinds := [.data], laidTests := true, laidLooks := .later }
def FsApartCardSaid : Prop := Claim7.holds Tryd.pinned (.plain (OpenSpec.ofChange fsApartSpec)) fsApartCard

/-- THE SECOND FORM's CARD OF 'carrellaw12.FsFormats'. -/
def fsFormatsUptoCard : Claim7 := { stood := { row := fsFormatsUptoRow, standIns := [], harness := (true, "6c84515c19efac930d41e262fe0925053843d68b7f2a70315127c6d4e683cf21"), looks := false }, kinds := [], alts := [], laidByText := true, laidKinds := [.data], laidTests := true, laidLooks := .later }
def FsFormatsUptoCardSaid : Prop := Claim7.holds Tryd.pinned (.plain (OpenSpec.upto fsFormatsSpec)) fsFormatsUptoCard

/-- THE SECOND FORM's CARD OF 'carrellaw12.FsMap'. -/
def fsMapUptoCard : Claim7 := { stood := { row := fsMapUptoRow, standIns := [], harness := (true, "6c84515c19efac930d41e262fe0925053843d68b7f2a70315127c6d4e683cf21"), looks := false }, kinds := [], alts := [], laidByText := true, laidKinds := [.data], laidTests := true, laidLooks := .later }
def FsMapUptoCardSaid : Prop := Claim7.holds Tryd.pinned (.plain (OpenSpec.upto fsMapSpec)) fsMapUptoCard

/-- THE SECOND FORM's CARD OF 'carrellaw12.FsNone'. -/
def fsNoneUptoCard : Claim7 := { stood := { row := fsNoneUptoRow, standIns := [], harness := (true, "6c84515c19efac930d41e262fe0925053843d68b7f2a70315127c6d4e683cf21"), looks := false }, kinds := [], alts := [], laidByText := true, laidKinds := [.data], laidTests := true, laidLooks := .later }
def FsNoneUptoCardSaid : Prop := Claim7.holds Tryd.pinned (.plain (OpenSpec.upto fsNoneSpec)) fsNoneUptoCard

/-- THE SECOND FORM's CARD OF 'carrellaw12.FsApart'. -/
def fsApartUptoCard : Claim7 := { stood := { row := fsApartUptoRow, standIns := [], harness := (true, "6c84515c19efac930d41e262fe0925053843d68b7f2a70315127c6d4e683cf21"), looks := false }, kinds := [], alts := [], laidByText := true, laidKinds := [.data], laidTests := true, laidLooks := .later }
def FsApartUptoCardSaid : Prop := Claim7.holds Tryd.pinned (.plain (OpenSpec.upto fsApartSpec)) fsApartUptoCard
end Rows
end Go.Proofs.YtdihgfagodjicaaDoor
