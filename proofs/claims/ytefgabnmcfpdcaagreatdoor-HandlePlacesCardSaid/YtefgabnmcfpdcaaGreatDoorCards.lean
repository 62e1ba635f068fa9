/-
  DERIVED. GIVEN WITH THE SEED: THE CARDS: each row of YtefgabnmcfpdcaaGreatDoorRows.lean that lists a variable, with what it lists TIED to the program's text (the seventh form; the later family's looks); each row that meets fmt, with fmt's text TOLD by the authors' own Lean function (tested against real Go, not proved from fmt's source: count such statements apart). THE CARD IS WHAT COUNTS. Prove the row's statement (the work); the ties are given (YtefgabnmcfpdcaaGreatDoorTie.lean); close each card by the builder's one call (the guide's Derived/Test/ToyasCard.lean, 'card_holds'). Laid BY PROGRAM, IN A SANDBOX (cutbox-door.mjs). By AI agents, Wed Nov 11 2026. No macro, syntax, notation, axiom, sorry.
-/
import Derived.Test.YtefgabnmcfpdcaaGreatDoorRows
import GoSem.ClaimSeven
namespace Go.Proofs.YtefgabnmcfpdcaaGreatDoor
namespace Rows

/-- THE TIED CARD OF 'carrellaw12.FsActs'. -/
def fsActsCard : Claim7 := { stood := { row := fsActsRow, standIns := [], harness := (true, "32f2ee535989ada1dff898c391036d2a55c67b467f4933804bdc70c494ff6726"), looks := false }, kinds := [], alts := [], laidByText := true, laidKinds := [.data], laidTests := true, laidLooks := .later }
def FsActsCardSaid : Prop := Claim7.holds Tryz.pinned (.plain (OpenSpec.ofChange fsActsSpec)) fsActsCard

/-- THE TIED CARD OF 'carrellaw12.FsRaw'. -/
def fsRawCard : Claim7 := { stood := { row := fsRawRow, standIns := [], harness := (true, "32f2ee535989ada1dff898c391036d2a55c67b467f4933804bdc70c494ff6726"), looks := false }, kinds := [], alts := [], laidByText := true, laidKinds := [.data], laidTests := true, laidLooks := .later }
def FsRawCardSaid : Prop := Claim7.holds Tryz.pinned (.plain (OpenSpec.ofChange fsRawSpec)) fsRawCard

/-- THE TIED CARD OF 'carrellaw13.HandleActs'. -/
def handleActsCard : Claim7 := { stood := { row := handleActsRow, standIns := [], harness := (true, "32f2ee535989ada1dff898c391036d2a55c67b467f4933804bdc70c494ff6726"), looks := false }, kinds := [], alts := [], laidByText := true, laidKinds := [.data], laidTests := true, laidLooks := .later }
def HandleActsCardSaid : Prop := Claim7.holds Tryz.pinned (.plain (OpenSpec.ofChange handleActsSpec)) handleActsCard

/-- THE TIED CARD OF 'carrellaw13.HandleReads'. -/
def handleReadsCard : Claim7 := { stood := { row := handleReadsRow, standIns := [], harness := (true, "32f2ee535989ada1dff898c391036d2a55c67b467f4933804bdc70c494ff6726"), looks := false }, kinds := [], alts := [], laidByText := true, laidKinds := [.data], laidTests := true, laidLooks := .later }
def HandleReadsCardSaid : Prop := Claim7.holds Tryz.pinned (.plain (OpenSpec.ofChange handleReadsSpec)) handleReadsCard

/-- THE TIED CARD OF 'carrellaw13.HandlePlaces'. -/
def handlePlacesCard : Claim7 := { stood := { row := handlePlacesRow, standIns := [], harness := (true, "32f2ee535989ada1dff898c391036d2a55c67b467f4933804bdc70c494ff6726"), looks := false }, kinds := [], alts := [], laidByText := true, laidKinds := [.data], laidTests := true, laidLooks := .later }
def HandlePlacesCardSaid : Prop := Claim7.holds Tryz.pinned (.plain (OpenSpec.ofChange handlePlacesSpec)) handlePlacesCard

/-- THE SECOND FORM's CARD OF 'carrellaw12.FsActs'. -/
def fsActsUptoCard : Claim7 := { stood := { row := fsActsUptoRow, standIns := [], harness := (true, "32f2ee535989ada1dff898c391036d2a55c67b467f4933804bdc70c494ff6726"), looks := false }, kinds := [], alts := [], laidByText := true, laidKinds := [.data], laidTests := true, laidLooks := .later }
def FsActsUptoCardSaid : Prop := Claim7.holds Tryz.pinned (.plain (OpenSpec.upto fsActsSpec)) fsActsUptoCard

/-- THE SECOND FORM's CARD OF 'carrellaw12.FsRaw'. -/
def fsRawUptoCard : Claim7 := { stood := { row := fsRawUptoRow, standIns := [], harness := (true, "32f2ee535989ada1dff898c391036d2a55c67b467f4933804bdc70c494ff6726"), looks := false }, kinds := [], alts := [], laidByText := true, laidKinds := [.data], laidTests := true, laidLooks := .later }
def FsRawUptoCardSaid : Prop := Claim7.holds Tryz.pinned (.plain (OpenSpec.upto fsRawSpec)) fsRawUptoCard

/-- THE SECOND FORM's CARD OF 'carrellaw13.HandleActs'. -/
def handleActsUptoCard : Claim7 := { stood := { row := handleActsUptoRow, standIns := [], harness := (true, "32f2ee535989ada1dff898c391036d2a55c67b467f4933804bdc70c494ff6726"), looks := false }, kinds := [], alts := [], laidByText := true, laidKinds := [.data], laidTests := true, laidLooks := .later }
def HandleActsUptoCardSaid : Prop := Claim7.holds Tryz.pinned (.plain (OpenSpec.upto handleActsSpec)) handleActsUptoCard

/-- THE SECOND FORM's CARD OF 'carrellaw13.HandleReads'. -/
def handleReadsUptoCard : Claim7 := { stood := { row := handleReadsUptoRow, standIns := [], harness := (true, "32f2ee535989ada1dff898c391036d2a55c67b467f4933804bdc70c494ff6726"), looks := false }, kinds := [], alts := [], laidByText := true, laidKinds := [.data], laidTests := true, laidLooks := .later }
def HandleReadsUptoCardSaid : Prop := Claim7.holds Tryz.pinned (.plain (OpenSpec.upto handleReadsSpec)) handleReadsUptoCard

/-- THE SECOND FORM's CARD OF 'carrellaw13.HandlePlaces'. -/
def handlePlacesUptoCard : Claim7 := { stood := { row := handlePlacesUptoRow, standIns := [], harness := (true, "32f2ee535989ada1dff898c391036d2a55c67b467f4933804bdc70c494ff6726"), looks := false }, kinds := [], alts := [], laidByText := true, laidKinds := [.data], laidTests := true, laidLooks := .later }
def HandlePlacesUptoCardSaid : Prop := Claim7.holds Tryz.pinned (.plain (OpenSpec.upto handlePlacesSpec)) handlePlacesUptoCard
end Rows
end Go.Proofs.YtefgabnmcfpdcaaGreatDoor
