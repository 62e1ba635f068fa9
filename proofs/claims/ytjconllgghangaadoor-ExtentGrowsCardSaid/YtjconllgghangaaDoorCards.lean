/-
  DERIVED. GIVEN WITH THE SEED: THE CARDS: each row of YtjconllgghangaaDoorRows.lean that lists a variable, with what it lists TIED to the program's text (the seventh form; the later family's looks); each row that meets fmt, with fmt's text TOLD by the authors' own Lean function (tested against real Go, not proved from fmt's source: count such statements apart). THE CARD IS WHAT COUNTS. Prove the row's statement (the work); the ties are given (YtjconllgghangaaDoorTie.lean); close each card by the builder's one call (the guide's Derived/Test/ToyasCard.lean, 'card_holds'). Laid BY PROGRAM, IN A SANDBOX (cutbox-door.mjs). By AI agents, Wed Nov 11 2026. No macro, syntax, notation, axiom, sorry.
-/
import Derived.Test.YtjconllgghangaaDoorRows
import GoSem.ClaimSeven
namespace Go.Proofs.YtjconllgghangaaDoor
namespace Rows

/-- THE TIED CARD OF 'carrellaw10.ExtentChecks'. -/
def extentChecksCard : Claim7 := { stood := { row := extentChecksRow, standIns := [], harness := (true, "872a2f3f0af2a1f002256d6b83bf9847b91d03612efab62979aa1c362ddee21f"), looks := false }, kinds := [], alts := [], laidByText := true, laidKinds := [.data], laidTests := true, laidLooks := .later }
def ExtentChecksCardSaid : Prop := Claim7.holds Tryd.pinned (.plain (OpenSpec.ofChange extentChecksSpec)) extentChecksCard

/-- THE TIED CARD OF 'carrellaw10.ExtentTells'. -/
def extentTellsCard : Claim7 := { stood := { row := extentTellsRow, standIns := [], harness := (true, "872a2f3f0af2a1f002256d6b83bf9847b91d03612efab62979aa1c362ddee21f"), looks := false }, kinds := [], alts := [], laidByText := true, laidKinds := [.data], laidTests := true, laidLooks := .later }
def ExtentTellsCardSaid : Prop := Claim7.holds Tryd.pinned (.plain (OpenSpec.ofChange extentTellsSpec)) extentTellsCard

/-- THE TIED CARD OF 'carrellaw10.ExtentGrows'. -/
def extentGrowsCard : Claim7 := { stood := { row := extentGrowsRow, standIns := [], harness := (true, "872a2f3f0af2a1f002256d6b83bf9847b91d03612efab62979aa1c362ddee21f"), looks := false }, kinds := [], alts := [], laidByText := true, laidKinds := [.data], laidTests := true, laidLooks := .later }
def ExtentGrowsCardSaid : Prop := Claim7.holds Tryd.pinned (.plain (OpenSpec.ofChange extentGrowsSpec)) extentGrowsCard

/-- THE TIED CARD OF 'carrellaw10.ExtentShrinks'. -/
def extentShrinksCard : Claim7 := { stood := { row := extentShrinksRow, standIns := [], harness := (true, "872a2f3f0af2a1f002256d6b83bf9847b91d03612efab62979aa1c362ddee21f"), looks := false }, kinds := [], alts := [], laidByText := true, laidKinds := [.data], laidTests := true, laidLooks := .later }
def ExtentShrinksCardSaid : Prop := Claim7.holds Tryd.pinned (.plain (OpenSpec.ofChange extentShrinksSpec)) extentShrinksCard

/-- THE TIED CARD OF 'carrellaw10.ExtentBack'. -/
def extentBackCard : Claim7 := { stood := { row := extentBackRow, standIns := [], harness := (true, "872a2f3f0af2a1f002256d6b83bf9847b91d03612efab62979aa1c362ddee21f"), looks := false }, kinds := [], alts := [], laidByText := true, laidKinds := [.data], laidTests := true, laidLooks := .later }
def ExtentBackCardSaid : Prop := Claim7.holds Tryd.pinned (.plain (OpenSpec.ofChange extentBackSpec)) extentBackCard

/-- THE SECOND FORM's CARD OF 'carrellaw10.ExtentChecks'. -/
def extentChecksUptoCard : Claim7 := { stood := { row := extentChecksUptoRow, standIns := [], harness := (true, "872a2f3f0af2a1f002256d6b83bf9847b91d03612efab62979aa1c362ddee21f"), looks := false }, kinds := [], alts := [], laidByText := true, laidKinds := [.data], laidTests := true, laidLooks := .later }
def ExtentChecksUptoCardSaid : Prop := Claim7.holds Tryd.pinned (.plain (OpenSpec.upto extentChecksSpec)) extentChecksUptoCard

/-- THE SECOND FORM's CARD OF 'carrellaw10.ExtentTells'. -/
def extentTellsUptoCard : Claim7 := { stood := { row := extentTellsUptoRow, standIns := [], harness := (true, "872a2f3f0af2a1f002256d6b83bf9847b91d03612efab62979aa1c362ddee21f"), looks := false }, kinds := [], alts := [], laidByText := true, laidKinds := [.data], laidTests := true, laidLooks := .later }
def ExtentTellsUptoCardSaid : Prop := Claim7.holds Tryd.pinned (.plain (OpenSpec.upto extentTellsSpec)) extentTellsUptoCard

/-- THE SECOND FORM's CARD OF 'carrellaw10.ExtentGrows'. -/
def extentGrowsUptoCard : Claim7 := { stood := { row := extentGrowsUptoRow, standIns := [], harness := (true, "872a2f3f0af2a1f002256d6b83bf9847b91d03612efab62979aa1c362ddee21f"), looks := false }, kinds := [], alts := [], laidByText := true, laidKinds := [.data], laidTests := true, laidLooks := .later }
def ExtentGrowsUptoCardSaid : Prop := Claim7.holds Tryd.pinned (.plain (OpenSpec.upto extentGrowsSpec)) extentGrowsUptoCard

/-- THE SECOND FORM's CARD OF 'carrellaw10.ExtentShrinks'. -/
def extentShrinksUptoCard : Claim7 := { stood := { row := extentShrinksUptoRow, standIns := [], harness := (true, "872a2f3f0af2a1f002256d6b83bf9847b91d03612efab62979aa1c362ddee21f"), looks := false }, kinds := [], alts := [], laidByText := true, laidKinds := [.data], laidTests := true, laidLooks := .later }
def ExtentShrinksUptoCardSaid : Prop := Claim7.holds Tryd.pinned (.plain (OpenSpec.upto extentShrinksSpec)) extentShrinksUptoCard

/-- THE SECOND FORM's CARD OF 'carrellaw10.ExtentBack'. -/
def extentBackUptoCard : Claim7 := { stood := { row := extentBackUptoRow, standIns := [], harness := (true, "872a2f3f0af2a1f002256d6b83bf9847b91d03612efab62979aa1c362ddee21f"), looks := false }, kinds := [], alts := [], laidByText := true, laidKinds := [.data], laidTests := true, laidLooks := .later }
def ExtentBackUptoCardSaid : Prop := Claim7.holds Tryd.pinned (.plain (OpenSpec.upto extentBackSpec)) extentBackUptoCard
end Rows
end Go.Proofs.YtjconllgghangaaDoor
