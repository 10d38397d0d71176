/-
  DERIVED. GIVEN WITH THE SEED: THE CARDS: each row of YtljmfpifhbfdcaaDoorRows.lean that lists a variable, with what it lists TIED to the program's text (the seventh form; the later family's looks); each row that meets fmt, with fmt's text TOLD by the authors' own Lean function (tested against real Go, not proved from fmt's source: count such statements apart). THE CARD IS WHAT COUNTS. Prove the row's statement (the work); the ties are given (YtljmfpifhbfdcaaDoorTie.lean); close each card by the builder's one call (the guide's Derived/Test/ToyasCard.lean, 'card_holds'). Laid BY PROGRAM, IN A SANDBOX (cutbox-door.mjs). By AI agents, Wed Nov 11 2026. No macro, syntax, notation, axiom, sorry.
-/
import Derived.Test.YtljmfpifhbfdcaaDoorRows
import GoSem.ClaimSeven
namespace Go.Proofs.YtljmfpifhbfdcaaDoor
namespace Rows

/-- THE TIED CARD OF 'laws.FnExactValidComplex'. -/
def fnExactValidComplexCard : Claim7 := { stood := { row := fnExactValidComplexRow, standIns := [], harness := (true, "8b8082d7752e1d6b30faab2731a494644a6fcbe7e7dc59e965e2aecc8cf226ba"), looks := false }, kinds := [], alts := [], laidByText := true, laidKinds := [.data], laidTests := true, laidLooks := .later }
def FnExactValidComplexCardSaid : Prop := Claim7.holds Tryd.pinned (.plain (OpenSpec.ofChange fnExactValidComplexSpec)) fnExactValidComplexCard

/-- THE TIED CARD OF 'laws.FnExactClosureOf'. -/
def fnExactClosureOfCard : Claim7 := { stood := { row := fnExactClosureOfRow, standIns := [], harness := (true, "8b8082d7752e1d6b30faab2731a494644a6fcbe7e7dc59e965e2aecc8cf226ba"), looks := false }, kinds := [], alts := [], laidByText := true, laidKinds := [.data], laidTests := true, laidLooks := .later }
def FnExactClosureOfCardSaid : Prop := Claim7.holds Tryd.pinned (.plain (OpenSpec.ofChange fnExactClosureOfSpec)) fnExactClosureOfCard

/-- THE TIED CARD OF 'laws.FnExactIndexOf'. -/
def fnExactIndexOfCard : Claim7 := { stood := { row := fnExactIndexOfRow, standIns := [], harness := (true, "8b8082d7752e1d6b30faab2731a494644a6fcbe7e7dc59e965e2aecc8cf226ba"), looks := false }, kinds := [], alts := [], laidByText := true, laidKinds := [.data], laidTests := true, laidLooks := .later }
def FnExactIndexOfCardSaid : Prop := Claim7.holds Tryd.pinned (.plain (OpenSpec.ofChange fnExactIndexOfSpec)) fnExactIndexOfCard

/-- THE TIED CARD OF 'laws.FnExactSimplicesOf'. -/
def fnExactSimplicesOfCard : Claim7 := { stood := { row := fnExactSimplicesOfRow, standIns := [], harness := (true, "8b8082d7752e1d6b30faab2731a494644a6fcbe7e7dc59e965e2aecc8cf226ba"), looks := false }, kinds := [], alts := [], laidByText := true, laidKinds := [.data], laidTests := true, laidLooks := .later }
def FnExactSimplicesOfCardSaid : Prop := Claim7.holds Tryd.pinned (.plain (OpenSpec.ofChange fnExactSimplicesOfSpec)) fnExactSimplicesOfCard

/-- THE TIED CARD OF 'laws.FnExactFacesOf'. -/
def fnExactFacesOfCard : Claim7 := { stood := { row := fnExactFacesOfRow, standIns := [], harness := (true, "8b8082d7752e1d6b30faab2731a494644a6fcbe7e7dc59e965e2aecc8cf226ba"), looks := false }, kinds := [], alts := [], laidByText := true, laidKinds := [.data], laidTests := true, laidLooks := .later }
def FnExactFacesOfCardSaid : Prop := Claim7.holds Tryd.pinned (.plain (OpenSpec.ofChange fnExactFacesOfSpec)) fnExactFacesOfCard

/-- THE TIED CARD OF 'laws.FnExactStarOf'. -/
def fnExactStarOfCard : Claim7 := { stood := { row := fnExactStarOfRow, standIns := [], harness := (true, "8b8082d7752e1d6b30faab2731a494644a6fcbe7e7dc59e965e2aecc8cf226ba"), looks := false }, kinds := [], alts := [], laidByText := true, laidKinds := [.data], laidTests := true, laidLooks := .later }
def FnExactStarOfCardSaid : Prop := Claim7.holds Tryd.pinned (.plain (OpenSpec.ofChange fnExactStarOfSpec)) fnExactStarOfCard

/-- THE TIED CARD OF 'laws.FnExactLinkOf'. -/
def fnExactLinkOfCard : Claim7 := { stood := { row := fnExactLinkOfRow, standIns := [], harness := (true, "8b8082d7752e1d6b30faab2731a494644a6fcbe7e7dc59e965e2aecc8cf226ba"), looks := false }, kinds := [], alts := [], laidByText := true, laidKinds := [.data], laidTests := true, laidLooks := .later }
def FnExactLinkOfCardSaid : Prop := Claim7.holds Tryd.pinned (.plain (OpenSpec.ofChange fnExactLinkOfSpec)) fnExactLinkOfCard

/-- THE TIED CARD OF 'laws.FnExactSkeletonOf'. -/
def fnExactSkeletonOfCard : Claim7 := { stood := { row := fnExactSkeletonOfRow, standIns := [], harness := (true, "8b8082d7752e1d6b30faab2731a494644a6fcbe7e7dc59e965e2aecc8cf226ba"), looks := false }, kinds := [], alts := [], laidByText := true, laidKinds := [.data], laidTests := true, laidLooks := .later }
def FnExactSkeletonOfCardSaid : Prop := Claim7.holds Tryd.pinned (.plain (OpenSpec.ofChange fnExactSkeletonOfSpec)) fnExactSkeletonOfCard

/-- THE TIED CARD OF 'laws.FnExactConeOf'. -/
def fnExactConeOfCard : Claim7 := { stood := { row := fnExactConeOfRow, standIns := [], harness := (true, "8b8082d7752e1d6b30faab2731a494644a6fcbe7e7dc59e965e2aecc8cf226ba"), looks := false }, kinds := [], alts := [], laidByText := true, laidKinds := [.data], laidTests := true, laidLooks := .later }
def FnExactConeOfCardSaid : Prop := Claim7.holds Tryd.pinned (.plain (OpenSpec.ofChange fnExactConeOfSpec)) fnExactConeOfCard

/-- THE TIED CARD OF 'laws.FnExactEulerNumber'. -/
def fnExactEulerNumberCard : Claim7 := { stood := { row := fnExactEulerNumberRow, standIns := [], harness := (true, "8b8082d7752e1d6b30faab2731a494644a6fcbe7e7dc59e965e2aecc8cf226ba"), looks := false }, kinds := [], alts := [], laidByText := true, laidKinds := [.data], laidTests := true, laidLooks := .later }
def FnExactEulerNumberCardSaid : Prop := Claim7.holds Tryd.pinned (.plain (OpenSpec.ofChange fnExactEulerNumberSpec)) fnExactEulerNumberCard

/-- THE TIED CARD OF 'laws.FnExactPartsOf'. -/
def fnExactPartsOfCard : Claim7 := { stood := { row := fnExactPartsOfRow, standIns := [], harness := (true, "8b8082d7752e1d6b30faab2731a494644a6fcbe7e7dc59e965e2aecc8cf226ba"), looks := false }, kinds := [], alts := [], laidByText := true, laidKinds := [.data], laidTests := true, laidLooks := .later }
def FnExactPartsOfCardSaid : Prop := Claim7.holds Tryd.pinned (.plain (OpenSpec.ofChange fnExactPartsOfSpec)) fnExactPartsOfCard

/-- THE SECOND FORM's CARD OF 'laws.FnExactValidComplex'. -/
def fnExactValidComplexUptoCard : Claim7 := { stood := { row := fnExactValidComplexUptoRow, standIns := [], harness := (true, "8b8082d7752e1d6b30faab2731a494644a6fcbe7e7dc59e965e2aecc8cf226ba"), looks := false }, kinds := [], alts := [], laidByText := true, laidKinds := [.data], laidTests := true, laidLooks := .later }
def FnExactValidComplexUptoCardSaid : Prop := Claim7.holds Tryd.pinned (.plain (OpenSpec.upto fnExactValidComplexSpec)) fnExactValidComplexUptoCard

/-- THE SECOND FORM's CARD OF 'laws.FnExactClosureOf'. -/
def fnExactClosureOfUptoCard : Claim7 := { stood := { row := fnExactClosureOfUptoRow, standIns := [], harness := (true, "8b8082d7752e1d6b30faab2731a494644a6fcbe7e7dc59e965e2aecc8cf226ba"), looks := false }, kinds := [], alts := [], laidByText := true, laidKinds := [.data], laidTests := true, laidLooks := .later }
def FnExactClosureOfUptoCardSaid : Prop := Claim7.holds Tryd.pinned (.plain (OpenSpec.upto fnExactClosureOfSpec)) fnExactClosureOfUptoCard

/-- THE SECOND FORM's CARD OF 'laws.FnExactIndexOf'. -/
def fnExactIndexOfUptoCard : Claim7 := { stood := { row := fnExactIndexOfUptoRow, standIns := [], harness := (true, "8b8082d7752e1d6b30faab2731a494644a6fcbe7e7dc59e965e2aecc8cf226ba"), looks := false }, kinds := [], alts := [], laidByText := true, laidKinds := [.data], laidTests := true, laidLooks := .later }
def FnExactIndexOfUptoCardSaid : Prop := Claim7.holds Tryd.pinned (.plain (OpenSpec.upto fnExactIndexOfSpec)) fnExactIndexOfUptoCard

/-- THE SECOND FORM's CARD OF 'laws.FnExactSimplicesOf'. -/
def fnExactSimplicesOfUptoCard : Claim7 := { stood := { row := fnExactSimplicesOfUptoRow, standIns := [], harness := (true, "8b8082d7752e1d6b30faab2731a494644a6fcbe7e7dc59e965e2aecc8cf226ba"), looks := false }, kinds := [], alts := [], laidByText := true, laidKinds := [.data], laidTests := true, laidLooks := .later }
def FnExactSimplicesOfUptoCardSaid : Prop := Claim7.holds Tryd.pinned (.plain (OpenSpec.upto fnExactSimplicesOfSpec)) fnExactSimplicesOfUptoCard

/-- THE SECOND FORM's CARD OF 'laws.FnExactFacesOf'. -/
def fnExactFacesOfUptoCard : Claim7 := { stood := { row := fnExactFacesOfUptoRow, standIns := [], harness := (true, "8b8082d7752e1d6b30faab2731a494644a6fcbe7e7dc59e965e2aecc8cf226ba"), looks := false }, kinds := [], alts := [], laidByText := true, laidKinds := [.data], laidTests := true, laidLooks := .later }
def FnExactFacesOfUptoCardSaid : Prop := Claim7.holds Tryd.pinned (.plain (OpenSpec.upto fnExactFacesOfSpec)) fnExactFacesOfUptoCard

/-- THE SECOND FORM's CARD OF 'laws.FnExactStarOf'. -/
def fnExactStarOfUptoCard : Claim7 := { stood := { row := fnExactStarOfUptoRow, standIns := [], harness := (true, "8b8082d7752e1d6b30faab2731a494644a6fcbe7e7dc59e965e2aecc8cf226ba"), looks := false }, kinds := [], alts := [], laidByText := true, laidKinds := [.data], laidTests := true, laidLooks := .later }
def FnExactStarOfUptoCardSaid : Prop := Claim7.holds Tryd.pinned (.plain (OpenSpec.upto fnExactStarOfSpec)) fnExactStarOfUptoCard

/-- THE SECOND FORM's CARD OF 'laws.FnExactLinkOf'. -/
def fnExactLinkOfUptoCard : Claim7 := { stood := { row := fnExactLinkOfUptoRow, standIns := [], harness := (true, "8b8082d7752e1d6b30faab2731a494644a6fcbe7e7dc59e965e2aecc8cf226ba"), looks := false }, kinds := [], alts := [], laidByText := true, laidKinds := [.data], laidTests := true, laidLooks := .later }
def FnExactLinkOfUptoCardSaid : Prop := Claim7.holds Tryd.pinned (.plain (OpenSpec.upto fnExactLinkOfSpec)) fnExactLinkOfUptoCard

/-- THE SECOND FORM's CARD OF 'laws.FnExactSkeletonOf'. -/
def fnExactSkeletonOfUptoCard : Claim7 := { stood := { row := fnExactSkeletonOfUptoRow, standIns := [], harness := (true, "8b8082d7752e1d6b30faab2731a494644a6fcbe7e7dc59e965e2aecc8cf226ba"), looks := false }, kinds := [], alts := [], laidByText := true, laidKinds := [.data], laidTests := true, laidLooks := .later }
def FnExactSkeletonOfUptoCardSaid : Prop := Claim7.holds Tryd.pinned (.plain (OpenSpec.upto fnExactSkeletonOfSpec)) fnExactSkeletonOfUptoCard

/-- THE SECOND FORM's CARD OF 'laws.FnExactConeOf'. -/
def fnExactConeOfUptoCard : Claim7 := { stood := { row := fnExactConeOfUptoRow, standIns := [], harness := (true, "8b8082d7752e1d6b30faab2731a494644a6fcbe7e7dc59e965e2aecc8cf226ba"), looks := false }, kinds := [], alts := [], laidByText := true, laidKinds := [.data], laidTests := true, laidLooks := .later }
def FnExactConeOfUptoCardSaid : Prop := Claim7.holds Tryd.pinned (.plain (OpenSpec.upto fnExactConeOfSpec)) fnExactConeOfUptoCard

/-- THE SECOND FORM's CARD OF 'laws.FnExactEulerNumber'. -/
def fnExactEulerNumberUptoCard : Claim7 := { stood := { row := fnExactEulerNumberUptoRow, standIns := [], harness := (true, "8b8082d7752e1d6b30faab2731a494644a6fcbe7e7dc59e965e2aecc8cf226ba"), looks := false }, kinds := [], alts := [], laidByText := true, laidKinds := [.data], laidTests := true, laidLooks := .later }
def FnExactEulerNumberUptoCardSaid : Prop := Claim7.holds Tryd.pinned (.plain (OpenSpec.upto fnExactEulerNumberSpec)) fnExactEulerNumberUptoCard

/-- THE SECOND FORM's CARD OF 'laws.FnExactPartsOf'. -/
def fnExactPartsOfUptoCard : Claim7 := { stood := { row := fnExactPartsOfUptoRow, standIns := [], harness := (true, "8b8082d7752e1d6b30faab2731a494644a6fcbe7e7dc59e965e2aecc8cf226ba"), looks := false }, kinds := [], alts := [], laidByText := true, laidKinds := [.data], laidTests := true, laidLooks := .later }
def FnExactPartsOfUptoCardSaid : Prop := Claim7.holds Tryd.pinned (.plain (OpenSpec.upto fnExactPartsOfSpec)) fnExactPartsOfUptoCard
end Rows
end Go.Proofs.YtljmfpifhbfdcaaDoor
