/-
  DERIVED. GIVEN WITH THE SEED: THE CARDS: each row of YtebecpjecchfoaaGreatDoorRows.lean that lists a variable, with what it lists TIED to the program's text (the seventh form; the later family's looks); each row that meets fmt, with fmt's text TOLD by the authors' own Lean function (tested against real Go, not proved from fmt's source: count such statements apart). THE CARD IS WHAT COUNTS. Prove the row's statement (the work); the ties are given (YtebecpjecchfoaaGreatDoorTie.lean); close each card by the builder's one call (the guide's Derived/Test/ToyasCard.lean, 'card_holds'). Laid BY PROGRAM, IN A SANDBOX (cutbox-door.mjs). By AI agents, Wed Nov 11 2026. No macro, syntax, notation, axiom, sorry.
-/
import Derived.Test.YtebecpjecchfoaaGreatDoorRows
import GoSem.ClaimSeven
namespace Go.Proofs.YtebecpjecchfoaaGreatDoor
namespace Rows

/-- THE TIED CARD OF 'carrellaw08.SnapActs'. -/
def snapActsCard : Claim7 := { stood := { row := snapActsRow, standIns := [], harness := (true, "d692a09c22719f603488d9feedbd7410f7058076afc613ad5865ab3b2c7faf3c"), looks := true }, kinds := [], alts := [], laidByText := true, laidKinds := [.data], laidTests := true, laidLooks := .later }
def SnapActsCardSaid : Prop := Claim7.holds Tryz.pinned (.plain (OpenSpec.ofChange snapActsSpec)) snapActsCard

/-- THE TIED CARD OF 'carrellaw08.SnapOpens'. -/
def snapOpensCard : Claim7 := { stood := { row := snapOpensRow, standIns := [], harness := (true, "d692a09c22719f603488d9feedbd7410f7058076afc613ad5865ab3b2c7faf3c"), looks := true }, kinds := [], alts := [], laidByText := true, laidKinds := [.data], laidTests := true, laidLooks := .later }
def SnapOpensCardSaid : Prop := Claim7.holds Tryz.pinned (.plain (OpenSpec.ofChange snapOpensSpec)) snapOpensCard

/-- THE TIED CARD OF 'carrellaw08.SnapEach'. -/
def snapEachCard : Claim7 := { stood := { row := snapEachRow, standIns := [], harness := (true, "d692a09c22719f603488d9feedbd7410f7058076afc613ad5865ab3b2c7faf3c"), looks := true }, kinds := [], alts := [], laidByText := true, laidKinds := [.data], laidTests := true, laidLooks := .later }
def SnapEachCardSaid : Prop := Claim7.holds Tryz.pinned (.plain (OpenSpec.ofChange snapEachSpec)) snapEachCard

/-- THE TIED CARD OF 'carrellaw08.SnapCrashes'. -/
def snapCrashesCard : Claim7 := { stood := { row := snapCrashesRow, standIns := [], harness := (true, "d692a09c22719f603488d9feedbd7410f7058076afc613ad5865ab3b2c7faf3c"), looks := true }, kinds := [], alts := [], laidByText := true, laidKinds := [.data], laidTests := true, laidLooks := .later }
def SnapCrashesCardSaid : Prop := Claim7.holds Tryz.pinned (.plain (OpenSpec.ofChange snapCrashesSpec)) snapCrashesCard

/-- THE TIED CARD OF 'carrellaw08.SnapGoesOn'. -/
def snapGoesOnCard : Claim7 := { stood := { row := snapGoesOnRow, standIns := [], harness := (true, "d692a09c22719f603488d9feedbd7410f7058076afc613ad5865ab3b2c7faf3c"), looks := true }, kinds := [], alts := [], laidByText := true, laidKinds := [.data], laidTests := true, laidLooks := .later }
def SnapGoesOnCardSaid : Prop := Claim7.holds Tryz.pinned (.plain (OpenSpec.ofChange snapGoesOnSpec)) snapGoesOnCard

/-- THE TIED CARD OF 'carrellaw08.SnapRoom'. -/
def snapRoomCard : Claim7 := { stood := { row := snapRoomRow, standIns := [], harness := (true, "d692a09c22719f603488d9feedbd7410f7058076afc613ad5865ab3b2c7faf3c"), looks := true }, kinds := [], alts := [], laidByText := true, laidKinds := [.data], laidTests := true, laidLooks := .later }
def SnapRoomCardSaid : Prop := Claim7.holds Tryz.pinned (.plain (OpenSpec.ofChange snapRoomSpec)) snapRoomCard

/-- THE TIED CARD OF 'carrellaw08.SnapNone'. -/
def snapNoneCard : Claim7 := { stood := { row := snapNoneRow, standIns := [], harness := (true, "d692a09c22719f603488d9feedbd7410f7058076afc613ad5865ab3b2c7faf3c"), looks := true }, kinds := [], alts := [], laidByText := true, laidKinds := [.data], laidTests := true, laidLooks := .later }
def SnapNoneCardSaid : Prop := Claim7.holds Tryz.pinned (.plain (OpenSpec.ofChange snapNoneSpec)) snapNoneCard

/-- THE TIED CARD OF 'carrellaw09.MemStores'. -/
def memStoresCard : Claim7 := { stood := { row := memStoresRow, standIns := [], harness := (true, "d692a09c22719f603488d9feedbd7410f7058076afc613ad5865ab3b2c7faf3c"), looks := true }, kinds := [], alts := [], laidByText := true, laidKinds := [.data], laidTests := true, laidLooks := .later }
def MemStoresCardSaid : Prop := Claim7.holds Tryz.pinned (.plain (OpenSpec.ofChange memStoresSpec)) memStoresCard

/-- THE SECOND FORM's CARD OF 'carrellaw08.SnapActs'. -/
def snapActsUptoCard : Claim7 := { stood := { row := snapActsUptoRow, standIns := [], harness := (true, "d692a09c22719f603488d9feedbd7410f7058076afc613ad5865ab3b2c7faf3c"), looks := true }, kinds := [], alts := [], laidByText := true, laidKinds := [.data], laidTests := true, laidLooks := .later }
def SnapActsUptoCardSaid : Prop := Claim7.holds Tryz.pinned (.plain (OpenSpec.upto snapActsSpec)) snapActsUptoCard

/-- THE SECOND FORM's CARD OF 'carrellaw08.SnapOpens'. -/
def snapOpensUptoCard : Claim7 := { stood := { row := snapOpensUptoRow, standIns := [], harness := (true, "d692a09c22719f603488d9feedbd7410f7058076afc613ad5865ab3b2c7faf3c"), looks := true }, kinds := [], alts := [], laidByText := true, laidKinds := [.data], laidTests := true, laidLooks := .later }
def SnapOpensUptoCardSaid : Prop := Claim7.holds Tryz.pinned (.plain (OpenSpec.upto snapOpensSpec)) snapOpensUptoCard

/-- THE SECOND FORM's CARD OF 'carrellaw08.SnapEach'. -/
def snapEachUptoCard : Claim7 := { stood := { row := snapEachUptoRow, standIns := [], harness := (true, "d692a09c22719f603488d9feedbd7410f7058076afc613ad5865ab3b2c7faf3c"), looks := true }, kinds := [], alts := [], laidByText := true, laidKinds := [.data], laidTests := true, laidLooks := .later }
def SnapEachUptoCardSaid : Prop := Claim7.holds Tryz.pinned (.plain (OpenSpec.upto snapEachSpec)) snapEachUptoCard

/-- THE SECOND FORM's CARD OF 'carrellaw08.SnapCrashes'. -/
def snapCrashesUptoCard : Claim7 := { stood := { row := snapCrashesUptoRow, standIns := [], harness := (true, "d692a09c22719f603488d9feedbd7410f7058076afc613ad5865ab3b2c7faf3c"), looks := true }, kinds := [], alts := [], laidByText := true, laidKinds := [.data], laidTests := true, laidLooks := .later }
def SnapCrashesUptoCardSaid : Prop := Claim7.holds Tryz.pinned (.plain (OpenSpec.upto snapCrashesSpec)) snapCrashesUptoCard

/-- THE SECOND FORM's CARD OF 'carrellaw08.SnapGoesOn'. -/
def snapGoesOnUptoCard : Claim7 := { stood := { row := snapGoesOnUptoRow, standIns := [], harness := (true, "d692a09c22719f603488d9feedbd7410f7058076afc613ad5865ab3b2c7faf3c"), looks := true }, kinds := [], alts := [], laidByText := true, laidKinds := [.data], laidTests := true, laidLooks := .later }
def SnapGoesOnUptoCardSaid : Prop := Claim7.holds Tryz.pinned (.plain (OpenSpec.upto snapGoesOnSpec)) snapGoesOnUptoCard

/-- THE SECOND FORM's CARD OF 'carrellaw08.SnapRoom'. -/
def snapRoomUptoCard : Claim7 := { stood := { row := snapRoomUptoRow, standIns := [], harness := (true, "d692a09c22719f603488d9feedbd7410f7058076afc613ad5865ab3b2c7faf3c"), looks := true }, kinds := [], alts := [], laidByText := true, laidKinds := [.data], laidTests := true, laidLooks := .later }
def SnapRoomUptoCardSaid : Prop := Claim7.holds Tryz.pinned (.plain (OpenSpec.upto snapRoomSpec)) snapRoomUptoCard

/-- THE SECOND FORM's CARD OF 'carrellaw08.SnapNone'. -/
def snapNoneUptoCard : Claim7 := { stood := { row := snapNoneUptoRow, standIns := [], harness := (true, "d692a09c22719f603488d9feedbd7410f7058076afc613ad5865ab3b2c7faf3c"), looks := true }, kinds := [], alts := [], laidByText := true, laidKinds := [.data], laidTests := true, laidLooks := .later }
def SnapNoneUptoCardSaid : Prop := Claim7.holds Tryz.pinned (.plain (OpenSpec.upto snapNoneSpec)) snapNoneUptoCard

/-- THE SECOND FORM's CARD OF 'carrellaw09.MemStores'. -/
def memStoresUptoCard : Claim7 := { stood := { row := memStoresUptoRow, standIns := [], harness := (true, "d692a09c22719f603488d9feedbd7410f7058076afc613ad5865ab3b2c7faf3c"), looks := true }, kinds := [], alts := [], laidByText := true, laidKinds := [.data], laidTests := true, laidLooks := .later }
def MemStoresUptoCardSaid : Prop := Claim7.holds Tryz.pinned (.plain (OpenSpec.upto memStoresSpec)) memStoresUptoCard
end Rows
end Go.Proofs.YtebecpjecchfoaaGreatDoor
