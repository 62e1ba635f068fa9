/-
  DERIVED. GIVEN WITH THE SEED: THE CARDS: each row of YtdopfpcjpjlkmaaGreatDoorRows.lean that lists a variable, with what it lists TIED to the program's text (the seventh form; the later family's looks); each row that meets fmt, with fmt's text TOLD by the authors' own Lean function (tested against real Go, not proved from fmt's source: count such statements apart). THE CARD IS WHAT COUNTS. Prove the row's statement (the work); the ties are given (YtdopfpcjpjlkmaaGreatDoorTie.lean); close each card by the builder's one call (the guide's Derived/Test/ToyasCard.lean, 'card_holds'). Laid BY PROGRAM, IN A SANDBOX (cutbox-door.mjs). By AI agents, Wed Nov 11 2026. No macro, syntax, notation, axiom, sorry.
-/
import Derived.Test.YtdopfpcjpjlkmaaGreatDoorRows
import GoSem.ClaimSeven
namespace Go.Proofs.YtdopfpcjpjlkmaaGreatDoor
namespace Rows

/-- THE TIED CARD OF 'carrellaw13.HandleActs'. -/
def handleActsCard : Claim7 := { stood := { row := handleActsRow, standIns := [], harness := (true, "fe289b8af81fc1a931f96d67a81c55f4796f91ba10db7d84ebce90e5373222db"), looks := false }, kinds := [], alts := [], laidByText := true, laidKinds := [.data], laidTests := true, laidLooks := .later }
def HandleActsCardSaid : Prop := Claim7.holds Tryz.pinned (.plain (OpenSpec.ofChange handleActsSpec)) handleActsCard

/-- THE TIED CARD OF 'carrellaw13.HandlePlaces'. -/
def handlePlacesCard : Claim7 := { stood := { row := handlePlacesRow, standIns := [], harness := (true, "fe289b8af81fc1a931f96d67a81c55f4796f91ba10db7d84ebce90e5373222db"), looks := false }, kinds := [], alts := [], laidByText := true, laidKinds := [.data], laidTests := true, laidLooks := .later }
def HandlePlacesCardSaid : Prop := Claim7.holds Tryz.pinned (.plain (OpenSpec.ofChange handlePlacesSpec)) handlePlacesCard

/-- THE SECOND FORM's CARD OF 'carrellaw13.HandleActs'. -/
def handleActsUptoCard : Claim7 := { stood := { row := handleActsUptoRow, standIns := [], harness := (true, "fe289b8af81fc1a931f96d67a81c55f4796f91ba10db7d84ebce90e5373222db"), looks := false }, kinds := [], alts := [], laidByText := true, laidKinds := [.data], laidTests := true, laidLooks := .later }
def HandleActsUptoCardSaid : Prop := Claim7.holds Tryz.pinned (.plain (OpenSpec.upto handleActsSpec)) handleActsUptoCard

/-- THE SECOND FORM's CARD OF 'carrellaw13.HandlePlaces'. -/
def handlePlacesUptoCard : Claim7 := { stood := { row := handlePlacesUptoRow, standIns := [], harness := (true, "fe289b8af81fc1a931f96d67a81c55f4796f91ba10db7d84ebce90e5373222db"), looks := false }, kinds := [], alts := [], laidByText := true, laidKinds := [.data], laidTests := true, laidLooks := .later }
def HandlePlacesUptoCardSaid : Prop := Claim7.holds Tryz.pinned (.plain (OpenSpec.upto handlePlacesSpec)) handlePlacesUptoCard
end Rows
end Go.Proofs.YtdopfpcjpjlkmaaGreatDoor
