/-
  DERIVED. GIVEN WITH THE SEED: THE CARDS: each row of YtdihcmohpbgmmaaDoorRows.lean that lists a variable, with what it lists TIED to the program's text (the seventh form; the later family's looks); each row that meets fmt, with fmt's text TOLD by the authors' own Lean function (tested against real Go, not proved from fmt's source: count such statements apart). THE CARD IS WHAT COUNTS. Prove the row's statement (the work); the ties are given (YtdihcmohpbgmmaaDoorTie.lean); close each card by the builder's one call (the guide's Derived/Test/ToyasCard.lean, 'card_holds'). Laid BY PROGRAM, IN A SANDBOX (cutbox-door.mjs). By AI agents, Wed Nov 11 2026. No macro, syntax, notation, axiom, sorry.
-/
import Derived.Test.YtdihcmohpbgmmaaDoorRows
import GoSem.ClaimSeven
namespace Go.Proofs.YtdihcmohpbgmmaaDoor
namespace Rows

/-- THE TIED CARD OF 'laws.FnExactValidPoset'. -/
def fnExactValidPosetCard : Claim7 := { stood := { row := fnExactValidPosetRow, standIns := [], harness := (true, "d33bbb1c95c93b702a969f54b126979cc299654c608586b6df0021f76cff7c05"), looks := false }, kinds := [], alts := [], laidByText := true, laidKinds := [.data], laidTests := true, laidLooks := .later }
def FnExactValidPosetCardSaid : Prop := Claim7.holds Tryd.pinned (.plain (OpenSpec.ofChange fnExactValidPosetSpec)) fnExactValidPosetCard

/-- THE TIED CARD OF 'laws.FnExactPosetOf'. -/
def fnExactPosetOfCard : Claim7 := { stood := { row := fnExactPosetOfRow, standIns := [], harness := (true, "d33bbb1c95c93b702a969f54b126979cc299654c608586b6df0021f76cff7c05"), looks := false }, kinds := [], alts := [], laidByText := true, laidKinds := [.data], laidTests := true, laidLooks := .later }
def FnExactPosetOfCardSaid : Prop := Claim7.holds Tryd.pinned (.plain (OpenSpec.ofChange fnExactPosetOfSpec)) fnExactPosetOfCard

/-- THE TIED CARD OF 'laws.FnExactIsBelow'. -/
def fnExactIsBelowCard : Claim7 := { stood := { row := fnExactIsBelowRow, standIns := [], harness := (true, "d33bbb1c95c93b702a969f54b126979cc299654c608586b6df0021f76cff7c05"), looks := false }, kinds := [], alts := [], laidByText := true, laidKinds := [.data], laidTests := true, laidLooks := .later }
def FnExactIsBelowCardSaid : Prop := Claim7.holds Tryd.pinned (.plain (OpenSpec.ofChange fnExactIsBelowSpec)) fnExactIsBelowCard

/-- THE TIED CARD OF 'laws.FnExactMinimalOf'. -/
def fnExactMinimalOfCard : Claim7 := { stood := { row := fnExactMinimalOfRow, standIns := [], harness := (true, "d33bbb1c95c93b702a969f54b126979cc299654c608586b6df0021f76cff7c05"), looks := false }, kinds := [], alts := [], laidByText := true, laidKinds := [.data], laidTests := true, laidLooks := .later }
def FnExactMinimalOfCardSaid : Prop := Claim7.holds Tryd.pinned (.plain (OpenSpec.ofChange fnExactMinimalOfSpec)) fnExactMinimalOfCard

/-- THE TIED CARD OF 'laws.FnExactHeightOf'. -/
def fnExactHeightOfCard : Claim7 := { stood := { row := fnExactHeightOfRow, standIns := [], harness := (true, "d33bbb1c95c93b702a969f54b126979cc299654c608586b6df0021f76cff7c05"), looks := false }, kinds := [], alts := [], laidByText := true, laidKinds := [.data], laidTests := true, laidLooks := .later }
def FnExactHeightOfCardSaid : Prop := Claim7.holds Tryd.pinned (.plain (OpenSpec.ofChange fnExactHeightOfSpec)) fnExactHeightOfCard

/-- THE TIED CARD OF 'laws.FnExactWidthOf'. -/
def fnExactWidthOfCard : Claim7 := { stood := { row := fnExactWidthOfRow, standIns := [], harness := (true, "d33bbb1c95c93b702a969f54b126979cc299654c608586b6df0021f76cff7c05"), looks := false }, kinds := [], alts := [], laidByText := true, laidKinds := [.data], laidTests := true, laidLooks := .later }
def FnExactWidthOfCardSaid : Prop := Claim7.holds Tryd.pinned (.plain (OpenSpec.ofChange fnExactWidthOfSpec)) fnExactWidthOfCard

/-- THE TIED CARD OF 'laws.FnExactIdealOf'. -/
def fnExactIdealOfCard : Claim7 := { stood := { row := fnExactIdealOfRow, standIns := [], harness := (true, "d33bbb1c95c93b702a969f54b126979cc299654c608586b6df0021f76cff7c05"), looks := false }, kinds := [], alts := [], laidByText := true, laidKinds := [.data], laidTests := true, laidLooks := .later }
def FnExactIdealOfCardSaid : Prop := Claim7.holds Tryd.pinned (.plain (OpenSpec.ofChange fnExactIdealOfSpec)) fnExactIdealOfCard

/-- THE TIED CARD OF 'laws.FnExactCountIdeals'. -/
def fnExactCountIdealsCard : Claim7 := { stood := { row := fnExactCountIdealsRow, standIns := [], harness := (true, "d33bbb1c95c93b702a969f54b126979cc299654c608586b6df0021f76cff7c05"), looks := false }, kinds := [], alts := [], laidByText := true, laidKinds := [.data], laidTests := true, laidLooks := .later }
def FnExactCountIdealsCardSaid : Prop := Claim7.holds Tryd.pinned (.plain (OpenSpec.ofChange fnExactCountIdealsSpec)) fnExactCountIdealsCard

/-- THE TIED CARD OF 'laws.FnExactCountExtensions'. -/
def fnExactCountExtensionsCard : Claim7 := { stood := { row := fnExactCountExtensionsRow, standIns := [], harness := (true, "d33bbb1c95c93b702a969f54b126979cc299654c608586b6df0021f76cff7c05"), looks := false }, kinds := [], alts := [], laidByText := true, laidKinds := [.data], laidTests := true, laidLooks := .later }
def FnExactCountExtensionsCardSaid : Prop := Claim7.holds Tryd.pinned (.plain (OpenSpec.ofChange fnExactCountExtensionsSpec)) fnExactCountExtensionsCard

/-- THE TIED CARD OF 'laws.FnExactFirstExtension'. -/
def fnExactFirstExtensionCard : Claim7 := { stood := { row := fnExactFirstExtensionRow, standIns := [], harness := (true, "d33bbb1c95c93b702a969f54b126979cc299654c608586b6df0021f76cff7c05"), looks := false }, kinds := [], alts := [], laidByText := true, laidKinds := [.data], laidTests := true, laidLooks := .later }
def FnExactFirstExtensionCardSaid : Prop := Claim7.holds Tryd.pinned (.plain (OpenSpec.ofChange fnExactFirstExtensionSpec)) fnExactFirstExtensionCard

/-- THE TIED CARD OF 'laws.FnExactMoebiusOf'. -/
def fnExactMoebiusOfCard : Claim7 := { stood := { row := fnExactMoebiusOfRow, standIns := [], harness := (true, "d33bbb1c95c93b702a969f54b126979cc299654c608586b6df0021f76cff7c05"), looks := false }, kinds := [], alts := [], laidByText := true, laidKinds := [.data], laidTests := true, laidLooks := .later }
def FnExactMoebiusOfCardSaid : Prop := Claim7.holds Tryd.pinned (.plain (OpenSpec.ofChange fnExactMoebiusOfSpec)) fnExactMoebiusOfCard

/-- THE TIED CARD OF 'laws.FnExactDualPoset'. -/
def fnExactDualPosetCard : Claim7 := { stood := { row := fnExactDualPosetRow, standIns := [], harness := (true, "d33bbb1c95c93b702a969f54b126979cc299654c608586b6df0021f76cff7c05"), looks := false }, kinds := [], alts := [], laidByText := true, laidKinds := [.data], laidTests := true, laidLooks := .later }
def FnExactDualPosetCardSaid : Prop := Claim7.holds Tryd.pinned (.plain (OpenSpec.ofChange fnExactDualPosetSpec)) fnExactDualPosetCard

/-- THE SECOND FORM's CARD OF 'laws.FnExactValidPoset'. -/
def fnExactValidPosetUptoCard : Claim7 := { stood := { row := fnExactValidPosetUptoRow, standIns := [], harness := (true, "d33bbb1c95c93b702a969f54b126979cc299654c608586b6df0021f76cff7c05"), looks := false }, kinds := [], alts := [], laidByText := true, laidKinds := [.data], laidTests := true, laidLooks := .later }
def FnExactValidPosetUptoCardSaid : Prop := Claim7.holds Tryd.pinned (.plain (OpenSpec.upto fnExactValidPosetSpec)) fnExactValidPosetUptoCard

/-- THE SECOND FORM's CARD OF 'laws.FnExactPosetOf'. -/
def fnExactPosetOfUptoCard : Claim7 := { stood := { row := fnExactPosetOfUptoRow, standIns := [], harness := (true, "d33bbb1c95c93b702a969f54b126979cc299654c608586b6df0021f76cff7c05"), looks := false }, kinds := [], alts := [], laidByText := true, laidKinds := [.data], laidTests := true, laidLooks := .later }
def FnExactPosetOfUptoCardSaid : Prop := Claim7.holds Tryd.pinned (.plain (OpenSpec.upto fnExactPosetOfSpec)) fnExactPosetOfUptoCard

/-- THE SECOND FORM's CARD OF 'laws.FnExactIsBelow'. -/
def fnExactIsBelowUptoCard : Claim7 := { stood := { row := fnExactIsBelowUptoRow, standIns := [], harness := (true, "d33bbb1c95c93b702a969f54b126979cc299654c608586b6df0021f76cff7c05"), looks := false }, kinds := [], alts := [], laidByText := true, laidKinds := [.data], laidTests := true, laidLooks := .later }
def FnExactIsBelowUptoCardSaid : Prop := Claim7.holds Tryd.pinned (.plain (OpenSpec.upto fnExactIsBelowSpec)) fnExactIsBelowUptoCard

/-- THE SECOND FORM's CARD OF 'laws.FnExactMinimalOf'. -/
def fnExactMinimalOfUptoCard : Claim7 := { stood := { row := fnExactMinimalOfUptoRow, standIns := [], harness := (true, "d33bbb1c95c93b702a969f54b126979cc299654c608586b6df0021f76cff7c05"), looks := false }, kinds := [], alts := [], laidByText := true, laidKinds := [.data], laidTests := true, laidLooks := .later }
def FnExactMinimalOfUptoCardSaid : Prop := Claim7.holds Tryd.pinned (.plain (OpenSpec.upto fnExactMinimalOfSpec)) fnExactMinimalOfUptoCard

/-- THE SECOND FORM's CARD OF 'laws.FnExactHeightOf'. -/
def fnExactHeightOfUptoCard : Claim7 := { stood := { row := fnExactHeightOfUptoRow, standIns := [], harness := (true, "d33bbb1c95c93b702a969f54b126979cc299654c608586b6df0021f76cff7c05"), looks := false }, kinds := [], alts := [], laidByText := true, laidKinds := [.data], laidTests := true, laidLooks := .later }
def FnExactHeightOfUptoCardSaid : Prop := Claim7.holds Tryd.pinned (.plain (OpenSpec.upto fnExactHeightOfSpec)) fnExactHeightOfUptoCard

/-- THE SECOND FORM's CARD OF 'laws.FnExactWidthOf'. -/
def fnExactWidthOfUptoCard : Claim7 := { stood := { row := fnExactWidthOfUptoRow, standIns := [], harness := (true, "d33bbb1c95c93b702a969f54b126979cc299654c608586b6df0021f76cff7c05"), looks := false }, kinds := [], alts := [], laidByText := true, laidKinds := [.data], laidTests := true, laidLooks := .later }
def FnExactWidthOfUptoCardSaid : Prop := Claim7.holds Tryd.pinned (.plain (OpenSpec.upto fnExactWidthOfSpec)) fnExactWidthOfUptoCard

/-- THE SECOND FORM's CARD OF 'laws.FnExactIdealOf'. -/
def fnExactIdealOfUptoCard : Claim7 := { stood := { row := fnExactIdealOfUptoRow, standIns := [], harness := (true, "d33bbb1c95c93b702a969f54b126979cc299654c608586b6df0021f76cff7c05"), looks := false }, kinds := [], alts := [], laidByText := true, laidKinds := [.data], laidTests := true, laidLooks := .later }
def FnExactIdealOfUptoCardSaid : Prop := Claim7.holds Tryd.pinned (.plain (OpenSpec.upto fnExactIdealOfSpec)) fnExactIdealOfUptoCard

/-- THE SECOND FORM's CARD OF 'laws.FnExactCountIdeals'. -/
def fnExactCountIdealsUptoCard : Claim7 := { stood := { row := fnExactCountIdealsUptoRow, standIns := [], harness := (true, "d33bbb1c95c93b702a969f54b126979cc299654c608586b6df0021f76cff7c05"), looks := false }, kinds := [], alts := [], laidByText := true, laidKinds := [.data], laidTests := true, laidLooks := .later }
def FnExactCountIdealsUptoCardSaid : Prop := Claim7.holds Tryd.pinned (.plain (OpenSpec.upto fnExactCountIdealsSpec)) fnExactCountIdealsUptoCard

/-- THE SECOND FORM's CARD OF 'laws.FnExactCountExtensions'. -/
def fnExactCountExtensionsUptoCard : Claim7 := { stood := { row := fnExactCountExtensionsUptoRow, standIns := [], harness := (true, "d33bbb1c95c93b702a969f54b126979cc299654c608586b6df0021f76cff7c05"), looks := false }, kinds := [], alts := [], laidByText := true, laidKinds := [.data], laidTests := true, laidLooks := .later }
def FnExactCountExtensionsUptoCardSaid : Prop := Claim7.holds Tryd.pinned (.plain (OpenSpec.upto fnExactCountExtensionsSpec)) fnExactCountExtensionsUptoCard

/-- THE SECOND FORM's CARD OF 'laws.FnExactFirstExtension'. -/
def fnExactFirstExtensionUptoCard : Claim7 := { stood := { row := fnExactFirstExtensionUptoRow, standIns := [], harness := (true, "d33bbb1c95c93b702a969f54b126979cc299654c608586b6df0021f76cff7c05"), looks := false }, kinds := [], alts := [], laidByText := true, laidKinds := [.data], laidTests := true, laidLooks := .later }
def FnExactFirstExtensionUptoCardSaid : Prop := Claim7.holds Tryd.pinned (.plain (OpenSpec.upto fnExactFirstExtensionSpec)) fnExactFirstExtensionUptoCard

/-- THE SECOND FORM's CARD OF 'laws.FnExactMoebiusOf'. -/
def fnExactMoebiusOfUptoCard : Claim7 := { stood := { row := fnExactMoebiusOfUptoRow, standIns := [], harness := (true, "d33bbb1c95c93b702a969f54b126979cc299654c608586b6df0021f76cff7c05"), looks := false }, kinds := [], alts := [], laidByText := true, laidKinds := [.data], laidTests := true, laidLooks := .later }
def FnExactMoebiusOfUptoCardSaid : Prop := Claim7.holds Tryd.pinned (.plain (OpenSpec.upto fnExactMoebiusOfSpec)) fnExactMoebiusOfUptoCard

/-- THE SECOND FORM's CARD OF 'laws.FnExactDualPoset'. -/
def fnExactDualPosetUptoCard : Claim7 := { stood := { row := fnExactDualPosetUptoRow, standIns := [], harness := (true, "d33bbb1c95c93b702a969f54b126979cc299654c608586b6df0021f76cff7c05"), looks := false }, kinds := [], alts := [], laidByText := true, laidKinds := [.data], laidTests := true, laidLooks := .later }
def FnExactDualPosetUptoCardSaid : Prop := Claim7.holds Tryd.pinned (.plain (OpenSpec.upto fnExactDualPosetSpec)) fnExactDualPosetUptoCard
end Rows
end Go.Proofs.YtdihcmohpbgmmaaDoor
