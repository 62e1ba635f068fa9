/-
  DERIVED. GIVEN WITH THE SEED: THE CARDS: each row of YtlalbhmlmedikaaGreatDoorRows.lean that lists a variable, with what it lists TIED to the program's text (the seventh form; the later family's looks); each row that meets fmt, with fmt's text TOLD by the authors' own Lean function (tested against real Go, not proved from fmt's source: count such statements apart). THE CARD IS WHAT COUNTS. Prove the row's statement (the work); the ties are given (YtlalbhmlmedikaaGreatDoorTie.lean); close each card by the builder's one call (the guide's Derived/Test/ToyasCard.lean, 'card_holds'). Laid BY PROGRAM, IN A SANDBOX (cutbox-door.mjs). By AI agents, Wed Nov 11 2026. No macro, syntax, notation, axiom, sorry.
-/
import Derived.Test.YtlalbhmlmedikaaGreatDoorRows
import GoSem.ClaimSeven
namespace Go.Proofs.YtlalbhmlmedikaaGreatDoor
namespace Rows

/-- THE TIED CARD OF 'carrellaw07.ShadowMerges'. -/
def shadowMergesCard : Claim7 := { stood := { row := shadowMergesRow, standIns := [], harness := (true, "f70da8b28fcf91d9e5794daf1ad3e25fcb78f7309b23ebee4b4e93a7030b732e"), looks := true }, kinds := [], alts := [], laidByText := true, laidKinds := [.data], laidTests := true, laidLooks := .later }
def ShadowMergesCardSaid : Prop := Claim7.holds Tryz.pinned (.plain (OpenSpec.ofChange shadowMergesSpec)) shadowMergesCard

/-- THE TIED CARD OF 'carrellaw07.ShadowCosts'. -/
def shadowCostsCard : Claim7 := { stood := { row := shadowCostsRow, standIns := [], harness := (true, "f70da8b28fcf91d9e5794daf1ad3e25fcb78f7309b23ebee4b4e93a7030b732e"), looks := true }, kinds := [], alts := [], laidByText := true, laidKinds := [.data], laidTests := true, laidLooks := .later }
def ShadowCostsCardSaid : Prop := Claim7.holds Tryz.pinned (.plain (OpenSpec.ofChange shadowCostsSpec)) shadowCostsCard

/-- THE TIED CARD OF 'carrellaw07.ShadowBuilds'. -/
def shadowBuildsCard : Claim7 := { stood := { row := shadowBuildsRow, standIns := [], harness := (true, "f70da8b28fcf91d9e5794daf1ad3e25fcb78f7309b23ebee4b4e93a7030b732e"), looks := true }, kinds := [], alts := [], laidByText := true, laidKinds := [.data], laidTests := true, laidLooks := .later }
def ShadowBuildsCardSaid : Prop := Claim7.holds Tryz.pinned (.plain (OpenSpec.ofChange shadowBuildsSpec)) shadowBuildsCard

/-- THE TIED CARD OF 'carrellaw07.ShadowOld'. -/
def shadowOldCard : Claim7 := { stood := { row := shadowOldRow, standIns := [], harness := (true, "f70da8b28fcf91d9e5794daf1ad3e25fcb78f7309b23ebee4b4e93a7030b732e"), looks := true }, kinds := [], alts := [], laidByText := true, laidKinds := [.data], laidTests := true, laidLooks := .later }
def ShadowOldCardSaid : Prop := Claim7.holds Tryz.pinned (.plain (OpenSpec.ofChange shadowOldSpec)) shadowOldCard

/-- THE TIED CARD OF 'carrellaw07.ShadowSame'. -/
def shadowSameCard : Claim7 := { stood := { row := shadowSameRow, standIns := [], harness := (true, "f70da8b28fcf91d9e5794daf1ad3e25fcb78f7309b23ebee4b4e93a7030b732e"), looks := true }, kinds := [], alts := [], laidByText := true, laidKinds := [.data], laidTests := true, laidLooks := .later }
def ShadowSameCardSaid : Prop := Claim7.holds Tryz.pinned (.plain (OpenSpec.ofChange shadowSameSpec)) shadowSameCard

/-- THE SECOND FORM's CARD OF 'carrellaw07.ShadowMerges'. -/
def shadowMergesUptoCard : Claim7 := { stood := { row := shadowMergesUptoRow, standIns := [], harness := (true, "f70da8b28fcf91d9e5794daf1ad3e25fcb78f7309b23ebee4b4e93a7030b732e"), looks := true }, kinds := [], alts := [], laidByText := true, laidKinds := [.data], laidTests := true, laidLooks := .later }
def ShadowMergesUptoCardSaid : Prop := Claim7.holds Tryz.pinned (.plain (OpenSpec.upto shadowMergesSpec)) shadowMergesUptoCard

/-- THE SECOND FORM's CARD OF 'carrellaw07.ShadowCosts'. -/
def shadowCostsUptoCard : Claim7 := { stood := { row := shadowCostsUptoRow, standIns := [], harness := (true, "f70da8b28fcf91d9e5794daf1ad3e25fcb78f7309b23ebee4b4e93a7030b732e"), looks := true }, kinds := [], alts := [], laidByText := true, laidKinds := [.data], laidTests := true, laidLooks := .later }
def ShadowCostsUptoCardSaid : Prop := Claim7.holds Tryz.pinned (.plain (OpenSpec.upto shadowCostsSpec)) shadowCostsUptoCard

/-- THE SECOND FORM's CARD OF 'carrellaw07.ShadowBuilds'. -/
def shadowBuildsUptoCard : Claim7 := { stood := { row := shadowBuildsUptoRow, standIns := [], harness := (true, "f70da8b28fcf91d9e5794daf1ad3e25fcb78f7309b23ebee4b4e93a7030b732e"), looks := true }, kinds := [], alts := [], laidByText := true, laidKinds := [.data], laidTests := true, laidLooks := .later }
def ShadowBuildsUptoCardSaid : Prop := Claim7.holds Tryz.pinned (.plain (OpenSpec.upto shadowBuildsSpec)) shadowBuildsUptoCard

/-- THE SECOND FORM's CARD OF 'carrellaw07.ShadowOld'. -/
def shadowOldUptoCard : Claim7 := { stood := { row := shadowOldUptoRow, standIns := [], harness := (true, "f70da8b28fcf91d9e5794daf1ad3e25fcb78f7309b23ebee4b4e93a7030b732e"), looks := true }, kinds := [], alts := [], laidByText := true, laidKinds := [.data], laidTests := true, laidLooks := .later }
def ShadowOldUptoCardSaid : Prop := Claim7.holds Tryz.pinned (.plain (OpenSpec.upto shadowOldSpec)) shadowOldUptoCard

/-- THE SECOND FORM's CARD OF 'carrellaw07.ShadowSame'. -/
def shadowSameUptoCard : Claim7 := { stood := { row := shadowSameUptoRow, standIns := [], harness := (true, "f70da8b28fcf91d9e5794daf1ad3e25fcb78f7309b23ebee4b4e93a7030b732e"), looks := true }, kinds := [], alts := [], laidByText := true, laidKinds := [.data], laidTests := true, laidLooks := .later }
def ShadowSameUptoCardSaid : Prop := Claim7.holds Tryz.pinned (.plain (OpenSpec.upto shadowSameSpec)) shadowSameUptoCard
end Rows
end Go.Proofs.YtlalbhmlmedikaaGreatDoor
