/-
  DERIVED. GIVEN WITH THE SEED: THE CARDS: each row of YtacghpabjmnfiaaGreatDoorRows.lean that lists a variable, with what it lists TIED to the program's text (the seventh form; the later family's looks); each row that meets fmt, with fmt's text TOLD by the authors' own Lean function (tested against real Go, not proved from fmt's source: count such statements apart). THE CARD IS WHAT COUNTS. Prove the row's statement (the work); the ties are given (YtacghpabjmnfiaaGreatDoorTie.lean); close each card by the builder's one call (the guide's Derived/Test/ToyasCard.lean, 'card_holds'). Laid BY PROGRAM, IN A SANDBOX (cutbox-door.mjs). By AI agents, Wed Nov 11 2026. No macro, syntax, notation, axiom, sorry.
-/
import Derived.Test.YtacghpabjmnfiaaGreatDoorRows
import GoSem.ClaimSeven
namespace Go.Proofs.YtacghpabjmnfiaaGreatDoor
namespace Rows

/-- THE TIED CARD OF 'carrellaw07.ShadowMerges'. -/
def shadowMergesCard : Claim7 := { stood := { row := shadowMergesRow, standIns := [], harness := (true, "6cc534d3fa7fa330860a80fbf80cadc628ecf31aca9cc4c227afe1ca075ea0b8"), looks := true }, kinds := [], alts := [], laidByText := true, laidKinds := [.data], laidTests := true, laidLooks := .later }
def ShadowMergesCardSaid : Prop := Claim7.holds Tryz.pinned (.plain (OpenSpec.ofChange shadowMergesSpec)) shadowMergesCard

/-- THE TIED CARD OF 'carrellaw07.ShadowCosts'. -/
def shadowCostsCard : Claim7 := { stood := { row := shadowCostsRow, standIns := [], harness := (true, "6cc534d3fa7fa330860a80fbf80cadc628ecf31aca9cc4c227afe1ca075ea0b8"), looks := true }, kinds := [], alts := [], laidByText := true, laidKinds := [.data], laidTests := true, laidLooks := .later }
def ShadowCostsCardSaid : Prop := Claim7.holds Tryz.pinned (.plain (OpenSpec.ofChange shadowCostsSpec)) shadowCostsCard

/-- THE TIED CARD OF 'carrellaw07.ShadowBuilds'. -/
def shadowBuildsCard : Claim7 := { stood := { row := shadowBuildsRow, standIns := [], harness := (true, "6cc534d3fa7fa330860a80fbf80cadc628ecf31aca9cc4c227afe1ca075ea0b8"), looks := true }, kinds := [], alts := [], laidByText := true, laidKinds := [.data], laidTests := true, laidLooks := .later }
def ShadowBuildsCardSaid : Prop := Claim7.holds Tryz.pinned (.plain (OpenSpec.ofChange shadowBuildsSpec)) shadowBuildsCard

/-- THE TIED CARD OF 'carrellaw07.ShadowOld'. -/
def shadowOldCard : Claim7 := { stood := { row := shadowOldRow, standIns := [], harness := (true, "6cc534d3fa7fa330860a80fbf80cadc628ecf31aca9cc4c227afe1ca075ea0b8"), looks := true }, kinds := [], alts := [], laidByText := true, laidKinds := [.data], laidTests := true, laidLooks := .later }
def ShadowOldCardSaid : Prop := Claim7.holds Tryz.pinned (.plain (OpenSpec.ofChange shadowOldSpec)) shadowOldCard

/-- THE TIED CARD OF 'carrellaw07.ShadowSame'. -/
def shadowSameCard : Claim7 := { stood := { row := shadowSameRow, standIns := [], harness := (true, "6cc534d3fa7fa330860a80fbf80cadc628ecf31aca9cc4c227afe1ca075ea0b8"), looks := true }, kinds := [], alts := [], laidByText := true, laidKinds := [.data], laidTests := true, laidLooks := .later }
def ShadowSameCardSaid : Prop := Claim7.holds Tryz.pinned (.plain (OpenSpec.ofChange shadowSameSpec)) shadowSameCard

/-- THE TIED CARD OF 'carrellaw08.SnapActs'. -/
def snapActsCard : Claim7 := { stood := { row := snapActsRow, standIns := [], harness := (true, "6cc534d3fa7fa330860a80fbf80cadc628ecf31aca9cc4c227afe1ca075ea0b8"), looks := true }, kinds := [], alts := [], laidByText := true, laidKinds := [.data], laidTests := true, laidLooks := .later }
def SnapActsCardSaid : Prop := Claim7.holds Tryz.pinned (.plain (OpenSpec.ofChange snapActsSpec)) snapActsCard

/-- THE TIED CARD OF 'carrellaw08.SnapOpens'. -/
def snapOpensCard : Claim7 := { stood := { row := snapOpensRow, standIns := [], harness := (true, "6cc534d3fa7fa330860a80fbf80cadc628ecf31aca9cc4c227afe1ca075ea0b8"), looks := true }, kinds := [], alts := [], laidByText := true, laidKinds := [.data], laidTests := true, laidLooks := .later }
def SnapOpensCardSaid : Prop := Claim7.holds Tryz.pinned (.plain (OpenSpec.ofChange snapOpensSpec)) snapOpensCard

/-- THE TIED CARD OF 'carrellaw08.SnapEach'. -/
def snapEachCard : Claim7 := { stood := { row := snapEachRow, standIns := [], harness := (true, "6cc534d3fa7fa330860a80fbf80cadc628ecf31aca9cc4c227afe1ca075ea0b8"), looks := true }, kinds := [], alts := [], laidByText := true, laidKinds := [.data], laidTests := true, laidLooks := .later }
def SnapEachCardSaid : Prop := Claim7.holds Tryz.pinned (.plain (OpenSpec.ofChange snapEachSpec)) snapEachCard

/-- THE TIED CARD OF 'carrellaw08.SnapCrashes'. -/
def snapCrashesCard : Claim7 := { stood := { row := snapCrashesRow, standIns := [], harness := (true, "6cc534d3fa7fa330860a80fbf80cadc628ecf31aca9cc4c227afe1ca075ea0b8"), looks := true }, kinds := [], alts := [], laidByText := true, laidKinds := [.data], laidTests := true, laidLooks := .later }
def SnapCrashesCardSaid : Prop := Claim7.holds Tryz.pinned (.plain (OpenSpec.ofChange snapCrashesSpec)) snapCrashesCard

/-- THE TIED CARD OF 'carrellaw08.SnapGoesOn'. -/
def snapGoesOnCard : Claim7 := { stood := { row := snapGoesOnRow, standIns := [], harness := (true, "6cc534d3fa7fa330860a80fbf80cadc628ecf31aca9cc4c227afe1ca075ea0b8"), looks := true }, kinds := [], alts := [], laidByText := true, laidKinds := [.data], laidTests := true, laidLooks := .later }
def SnapGoesOnCardSaid : Prop := Claim7.holds Tryz.pinned (.plain (OpenSpec.ofChange snapGoesOnSpec)) snapGoesOnCard

/-- THE TIED CARD OF 'carrellaw08.SnapRoom'. -/
def snapRoomCard : Claim7 := { stood := { row := snapRoomRow, standIns := [], harness := (true, "6cc534d3fa7fa330860a80fbf80cadc628ecf31aca9cc4c227afe1ca075ea0b8"), looks := true }, kinds := [], alts := [], laidByText := true, laidKinds := [.data], laidTests := true, laidLooks := .later }
def SnapRoomCardSaid : Prop := Claim7.holds Tryz.pinned (.plain (OpenSpec.ofChange snapRoomSpec)) snapRoomCard

/-- THE TIED CARD OF 'carrellaw08.SnapNone'. -/
def snapNoneCard : Claim7 := { stood := { row := snapNoneRow, standIns := [], harness := (true, "6cc534d3fa7fa330860a80fbf80cadc628ecf31aca9cc4c227afe1ca075ea0b8"), looks := true }, kinds := [], alts := [], laidByText := true, laidKinds := [.data], laidTests := true, laidLooks := .later }
def SnapNoneCardSaid : Prop := Claim7.holds Tryz.pinned (.plain (OpenSpec.ofChange snapNoneSpec)) snapNoneCard

/-- THE SECOND FORM's CARD OF 'carrellaw07.ShadowMerges'. -/
def shadowMergesUptoCard : Claim7 := { stood := { row := shadowMergesUptoRow, standIns := [], harness := (true, "6cc534d3fa7fa330860a80fbf80cadc628ecf31aca9cc4c227afe1ca075ea0b8"), looks := true }, kinds := [], alts := [], laidByText := true, laidKinds := [.data], laidTests := true, laidLooks := .later }
def ShadowMergesUptoCardSaid : Prop := Claim7.holds Tryz.pinned (.plain (OpenSpec.upto shadowMergesSpec)) shadowMergesUptoCard

/-- THE SECOND FORM's CARD OF 'carrellaw07.ShadowCosts'. -/
def shadowCostsUptoCard : Claim7 := { stood := { row := shadowCostsUptoRow, standIns := [], harness := (true, "6cc534d3fa7fa330860a80fbf80cadc628ecf31aca9cc4c227afe1ca075ea0b8"), looks := true }, kinds := [], alts := [], laidByText := true, laidKinds := [.data], laidTests := true, laidLooks := .later }
def ShadowCostsUptoCardSaid : Prop := Claim7.holds Tryz.pinned (.plain (OpenSpec.upto shadowCostsSpec)) shadowCostsUptoCard

/-- THE SECOND FORM's CARD OF 'carrellaw07.ShadowBuilds'. -/
def shadowBuildsUptoCard : Claim7 := { stood := { row := shadowBuildsUptoRow, standIns := [], harness := (true, "6cc534d3fa7fa330860a80fbf80cadc628ecf31aca9cc4c227afe1ca075ea0b8"), looks := true }, kinds := [], alts := [], laidByText := true, laidKinds := [.data], laidTests := true, laidLooks := .later }
def ShadowBuildsUptoCardSaid : Prop := Claim7.holds Tryz.pinned (.plain (OpenSpec.upto shadowBuildsSpec)) shadowBuildsUptoCard

/-- THE SECOND FORM's CARD OF 'carrellaw07.ShadowOld'. -/
def shadowOldUptoCard : Claim7 := { stood := { row := shadowOldUptoRow, standIns := [], harness := (true, "6cc534d3fa7fa330860a80fbf80cadc628ecf31aca9cc4c227afe1ca075ea0b8"), looks := true }, kinds := [], alts := [], laidByText := true, laidKinds := [.data], laidTests := true, laidLooks := .later }
def ShadowOldUptoCardSaid : Prop := Claim7.holds Tryz.pinned (.plain (OpenSpec.upto shadowOldSpec)) shadowOldUptoCard

/-- THE SECOND FORM's CARD OF 'carrellaw07.ShadowSame'. -/
def shadowSameUptoCard : Claim7 := { stood := { row := shadowSameUptoRow, standIns := [], harness := (true, "6cc534d3fa7fa330860a80fbf80cadc628ecf31aca9cc4c227afe1ca075ea0b8"), looks := true }, kinds := [], alts := [], laidByText := true, laidKinds := [.data], laidTests := true, laidLooks := .later }
def ShadowSameUptoCardSaid : Prop := Claim7.holds Tryz.pinned (.plain (OpenSpec.upto shadowSameSpec)) shadowSameUptoCard

/-- THE SECOND FORM's CARD OF 'carrellaw08.SnapActs'. -/
def snapActsUptoCard : Claim7 := { stood := { row := snapActsUptoRow, standIns := [], harness := (true, "6cc534d3fa7fa330860a80fbf80cadc628ecf31aca9cc4c227afe1ca075ea0b8"), looks := true }, kinds := [], alts := [], laidByText := true, laidKinds := [.data], laidTests := true, laidLooks := .later }
def SnapActsUptoCardSaid : Prop := Claim7.holds Tryz.pinned (.plain (OpenSpec.upto snapActsSpec)) snapActsUptoCard

/-- THE SECOND FORM's CARD OF 'carrellaw08.SnapOpens'. -/
def snapOpensUptoCard : Claim7 := { stood := { row := snapOpensUptoRow, standIns := [], harness := (true, "6cc534d3fa7fa330860a80fbf80cadc628ecf31aca9cc4c227afe1ca075ea0b8"), looks := true }, kinds := [], alts := [], laidByText := true, laidKinds := [.data], laidTests := true, laidLooks := .later }
def SnapOpensUptoCardSaid : Prop := Claim7.holds Tryz.pinned (.plain (OpenSpec.upto snapOpensSpec)) snapOpensUptoCard

/-- THE SECOND FORM's CARD OF 'carrellaw08.SnapEach'. -/
def snapEachUptoCard : Claim7 := { stood := { row := snapEachUptoRow, standIns := [], harness := (true, "6cc534d3fa7fa330860a80fbf80cadc628ecf31aca9cc4c227afe1ca075ea0b8"), looks := true }, kinds := [], alts := [], laidByText := true, laidKinds := [.data], laidTests := true, laidLooks := .later }
def SnapEachUptoCardSaid : Prop := Claim7.holds Tryz.pinned (.plain (OpenSpec.upto snapEachSpec)) snapEachUptoCard

/-- THE SECOND FORM's CARD OF 'carrellaw08.SnapCrashes'. -/
def snapCrashesUptoCard : Claim7 := { stood := { row := snapCrashesUptoRow, standIns := [], harness := (true, "6cc534d3fa7fa330860a80fbf80cadc628ecf31aca9cc4c227afe1ca075ea0b8"), looks := true }, kinds := [], alts := [], laidByText := true, laidKinds := [.data], laidTests := true, laidLooks := .later }
def SnapCrashesUptoCardSaid : Prop := Claim7.holds Tryz.pinned (.plain (OpenSpec.upto snapCrashesSpec)) snapCrashesUptoCard

/-- THE SECOND FORM's CARD OF 'carrellaw08.SnapGoesOn'. -/
def snapGoesOnUptoCard : Claim7 := { stood := { row := snapGoesOnUptoRow, standIns := [], harness := (true, "6cc534d3fa7fa330860a80fbf80cadc628ecf31aca9cc4c227afe1ca075ea0b8"), looks := true }, kinds := [], alts := [], laidByText := true, laidKinds := [.data], laidTests := true, laidLooks := .later }
def SnapGoesOnUptoCardSaid : Prop := Claim7.holds Tryz.pinned (.plain (OpenSpec.upto snapGoesOnSpec)) snapGoesOnUptoCard

/-- THE SECOND FORM's CARD OF 'carrellaw08.SnapRoom'. -/
def snapRoomUptoCard : Claim7 := { stood := { row := snapRoomUptoRow, standIns := [], harness := (true, "6cc534d3fa7fa330860a80fbf80cadc628ecf31aca9cc4c227afe1ca075ea0b8"), looks := true }, kinds := [], alts := [], laidByText := true, laidKinds := [.data], laidTests := true, laidLooks := .later }
def SnapRoomUptoCardSaid : Prop := Claim7.holds Tryz.pinned (.plain (OpenSpec.upto snapRoomSpec)) snapRoomUptoCard

/-- THE SECOND FORM's CARD OF 'carrellaw08.SnapNone'. -/
def snapNoneUptoCard : Claim7 := { stood := { row := snapNoneUptoRow, standIns := [], harness := (true, "6cc534d3fa7fa330860a80fbf80cadc628ecf31aca9cc4c227afe1ca075ea0b8"), looks := true }, kinds := [], alts := [], laidByText := true, laidKinds := [.data], laidTests := true, laidLooks := .later }
def SnapNoneUptoCardSaid : Prop := Claim7.holds Tryz.pinned (.plain (OpenSpec.upto snapNoneSpec)) snapNoneUptoCard
end Rows
end Go.Proofs.YtacghpabjmnfiaaGreatDoor
