/-
  DERIVED. GIVEN WITH THE SEED: THE CARDS: each row of YtibdcejglkhcfaaDoorRows.lean that lists a variable, with what it lists TIED to the program's text (the seventh form; the later family's looks); each row that meets fmt, with fmt's text TOLD by the authors' own Lean function (tested against real Go, not proved from fmt's source: count such statements apart). THE CARD IS WHAT COUNTS. Prove the row's statement (the work); the ties are given (YtibdcejglkhcfaaDoorTie.lean); close each card by the builder's one call (the guide's Derived/Test/ToyasCard.lean, 'card_holds'). Laid BY PROGRAM, IN A SANDBOX (cutbox-door.mjs). By AI agents, Wed Nov 11 2026. No macro, syntax, notation, axiom, sorry.
-/
import Derived.Test.YtibdcejglkhcfaaDoorRows
import GoSem.ClaimSeven
namespace Go.Proofs.YtibdcejglkhcfaaDoor
namespace Rows

/-- THE TIED CARD OF 'laws.FnExactIsMap'. -/
def fnExactIsMapCard : Claim7 := { stood := { row := fnExactIsMapRow, standIns := [], harness := (true, "ca711c762a07c1e6b2a6999478b4517e8506fe5748086cc5b1d6a33c13d1215f"), looks := false }, kinds := [], alts := [], laidByText := true, laidKinds := [.data], laidTests := true, laidLooks := .later }
def FnExactIsMapCardSaid : Prop := Claim7.holds Tryd.pinned (.plain (OpenSpec.ofChange fnExactIsMapSpec)) fnExactIsMapCard

/-- THE TIED CARD OF 'laws.FnExactSimplexImage'. -/
def fnExactSimplexImageCard : Claim7 := { stood := { row := fnExactSimplexImageRow, standIns := [], harness := (true, "ca711c762a07c1e6b2a6999478b4517e8506fe5748086cc5b1d6a33c13d1215f"), looks := false }, kinds := [], alts := [], laidByText := true, laidKinds := [.data], laidTests := true, laidLooks := .later }
def FnExactSimplexImageCardSaid : Prop := Claim7.holds Tryd.pinned (.plain (OpenSpec.ofChange fnExactSimplexImageSpec)) fnExactSimplexImageCard

/-- THE TIED CARD OF 'laws.FnExactComposeMaps'. -/
def fnExactComposeMapsCard : Claim7 := { stood := { row := fnExactComposeMapsRow, standIns := [], harness := (true, "ca711c762a07c1e6b2a6999478b4517e8506fe5748086cc5b1d6a33c13d1215f"), looks := false }, kinds := [], alts := [], laidByText := true, laidKinds := [.data], laidTests := true, laidLooks := .later }
def FnExactComposeMapsCardSaid : Prop := Claim7.holds Tryd.pinned (.plain (OpenSpec.ofChange fnExactComposeMapsSpec)) fnExactComposeMapsCard

/-- THE TIED CARD OF 'laws.FnExactFreePairs'. -/
def fnExactFreePairsCard : Claim7 := { stood := { row := fnExactFreePairsRow, standIns := [], harness := (true, "ca711c762a07c1e6b2a6999478b4517e8506fe5748086cc5b1d6a33c13d1215f"), looks := false }, kinds := [], alts := [], laidByText := true, laidKinds := [.data], laidTests := true, laidLooks := .later }
def FnExactFreePairsCardSaid : Prop := Claim7.holds Tryd.pinned (.plain (OpenSpec.ofChange fnExactFreePairsSpec)) fnExactFreePairsCard

/-- THE TIED CARD OF 'laws.FnExactCollapsePair'. -/
def fnExactCollapsePairCard : Claim7 := { stood := { row := fnExactCollapsePairRow, standIns := [], harness := (true, "ca711c762a07c1e6b2a6999478b4517e8506fe5748086cc5b1d6a33c13d1215f"), looks := false }, kinds := [], alts := [], laidByText := true, laidKinds := [.data], laidTests := true, laidLooks := .later }
def FnExactCollapsePairCardSaid : Prop := Claim7.holds Tryd.pinned (.plain (OpenSpec.ofChange fnExactCollapsePairSpec)) fnExactCollapsePairCard

/-- THE TIED CARD OF 'laws.FnExactGreedyCollapse'. -/
def fnExactGreedyCollapseCard : Claim7 := { stood := { row := fnExactGreedyCollapseRow, standIns := [], harness := (true, "ca711c762a07c1e6b2a6999478b4517e8506fe5748086cc5b1d6a33c13d1215f"), looks := false }, kinds := [], alts := [], laidByText := true, laidKinds := [.data], laidTests := true, laidLooks := .later }
def FnExactGreedyCollapseCardSaid : Prop := Claim7.holds Tryd.pinned (.plain (OpenSpec.ofChange fnExactGreedyCollapseSpec)) fnExactGreedyCollapseCard

/-- THE TIED CARD OF 'laws.FnExactCountMaps'. -/
def fnExactCountMapsCard : Claim7 := { stood := { row := fnExactCountMapsRow, standIns := [], harness := (true, "ca711c762a07c1e6b2a6999478b4517e8506fe5748086cc5b1d6a33c13d1215f"), looks := false }, kinds := [], alts := [], laidByText := true, laidKinds := [.data], laidTests := true, laidLooks := .later }
def FnExactCountMapsCardSaid : Prop := Claim7.holds Tryd.pinned (.plain (OpenSpec.ofChange fnExactCountMapsSpec)) fnExactCountMapsCard

/-- THE SECOND FORM's CARD OF 'laws.FnExactIsMap'. -/
def fnExactIsMapUptoCard : Claim7 := { stood := { row := fnExactIsMapUptoRow, standIns := [], harness := (true, "ca711c762a07c1e6b2a6999478b4517e8506fe5748086cc5b1d6a33c13d1215f"), looks := false }, kinds := [], alts := [], laidByText := true, laidKinds := [.data], laidTests := true, laidLooks := .later }
def FnExactIsMapUptoCardSaid : Prop := Claim7.holds Tryd.pinned (.plain (OpenSpec.upto fnExactIsMapSpec)) fnExactIsMapUptoCard

/-- THE SECOND FORM's CARD OF 'laws.FnExactSimplexImage'. -/
def fnExactSimplexImageUptoCard : Claim7 := { stood := { row := fnExactSimplexImageUptoRow, standIns := [], harness := (true, "ca711c762a07c1e6b2a6999478b4517e8506fe5748086cc5b1d6a33c13d1215f"), looks := false }, kinds := [], alts := [], laidByText := true, laidKinds := [.data], laidTests := true, laidLooks := .later }
def FnExactSimplexImageUptoCardSaid : Prop := Claim7.holds Tryd.pinned (.plain (OpenSpec.upto fnExactSimplexImageSpec)) fnExactSimplexImageUptoCard

/-- THE SECOND FORM's CARD OF 'laws.FnExactComposeMaps'. -/
def fnExactComposeMapsUptoCard : Claim7 := { stood := { row := fnExactComposeMapsUptoRow, standIns := [], harness := (true, "ca711c762a07c1e6b2a6999478b4517e8506fe5748086cc5b1d6a33c13d1215f"), looks := false }, kinds := [], alts := [], laidByText := true, laidKinds := [.data], laidTests := true, laidLooks := .later }
def FnExactComposeMapsUptoCardSaid : Prop := Claim7.holds Tryd.pinned (.plain (OpenSpec.upto fnExactComposeMapsSpec)) fnExactComposeMapsUptoCard

/-- THE SECOND FORM's CARD OF 'laws.FnExactFreePairs'. -/
def fnExactFreePairsUptoCard : Claim7 := { stood := { row := fnExactFreePairsUptoRow, standIns := [], harness := (true, "ca711c762a07c1e6b2a6999478b4517e8506fe5748086cc5b1d6a33c13d1215f"), looks := false }, kinds := [], alts := [], laidByText := true, laidKinds := [.data], laidTests := true, laidLooks := .later }
def FnExactFreePairsUptoCardSaid : Prop := Claim7.holds Tryd.pinned (.plain (OpenSpec.upto fnExactFreePairsSpec)) fnExactFreePairsUptoCard

/-- THE SECOND FORM's CARD OF 'laws.FnExactCollapsePair'. -/
def fnExactCollapsePairUptoCard : Claim7 := { stood := { row := fnExactCollapsePairUptoRow, standIns := [], harness := (true, "ca711c762a07c1e6b2a6999478b4517e8506fe5748086cc5b1d6a33c13d1215f"), looks := false }, kinds := [], alts := [], laidByText := true, laidKinds := [.data], laidTests := true, laidLooks := .later }
def FnExactCollapsePairUptoCardSaid : Prop := Claim7.holds Tryd.pinned (.plain (OpenSpec.upto fnExactCollapsePairSpec)) fnExactCollapsePairUptoCard

/-- THE SECOND FORM's CARD OF 'laws.FnExactGreedyCollapse'. -/
def fnExactGreedyCollapseUptoCard : Claim7 := { stood := { row := fnExactGreedyCollapseUptoRow, standIns := [], harness := (true, "ca711c762a07c1e6b2a6999478b4517e8506fe5748086cc5b1d6a33c13d1215f"), looks := false }, kinds := [], alts := [], laidByText := true, laidKinds := [.data], laidTests := true, laidLooks := .later }
def FnExactGreedyCollapseUptoCardSaid : Prop := Claim7.holds Tryd.pinned (.plain (OpenSpec.upto fnExactGreedyCollapseSpec)) fnExactGreedyCollapseUptoCard

/-- THE SECOND FORM's CARD OF 'laws.FnExactCountMaps'. -/
def fnExactCountMapsUptoCard : Claim7 := { stood := { row := fnExactCountMapsUptoRow, standIns := [], harness := (true, "ca711c762a07c1e6b2a6999478b4517e8506fe5748086cc5b1d6a33c13d1215f"), looks := false }, kinds := [], alts := [], laidByText := true, laidKinds := [.data], laidTests := true, laidLooks := .later }
def FnExactCountMapsUptoCardSaid : Prop := Claim7.holds Tryd.pinned (.plain (OpenSpec.upto fnExactCountMapsSpec)) fnExactCountMapsUptoCard
end Rows
end Go.Proofs.YtibdcejglkhcfaaDoor
