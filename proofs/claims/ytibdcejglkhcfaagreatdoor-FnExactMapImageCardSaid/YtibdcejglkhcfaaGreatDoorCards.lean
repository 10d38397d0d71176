/-
  DERIVED. GIVEN WITH THE SEED: THE CARDS: each row of YtibdcejglkhcfaaGreatDoorRows.lean that lists a variable, with what it lists TIED to the program's text (the seventh form; the later family's looks); each row that meets fmt, with fmt's text TOLD by the authors' own Lean function (tested against real Go, not proved from fmt's source: count such statements apart). THE CARD IS WHAT COUNTS. Prove the row's statement (the work); the ties are given (YtibdcejglkhcfaaGreatDoorTie.lean); close each card by the builder's one call (the guide's Derived/Test/ToyasCard.lean, 'card_holds'). Laid BY PROGRAM, IN A SANDBOX (cutbox-door.mjs). By AI agents, Wed Nov 11 2026. No macro, syntax, notation, axiom, sorry.
-/
import Derived.Test.YtibdcejglkhcfaaGreatDoorRows
import GoSem.ClaimSeven
namespace Go.Proofs.YtibdcejglkhcfaaGreatDoor
namespace Rows

/-- THE TIED CARD OF 'laws.FnExactMapImage'. -/
def fnExactMapImageCard : Claim7 := { stood := { row := fnExactMapImageRow, standIns := [], harness := (true, "26aa0ef65abe3add79a1fd4403f33274da8e72483505e6f1d91d2db2fb7a531d"), looks := false }, kinds := [], alts := [], laidByText := true, laidKinds := [.data], laidTests := true, laidLooks := .later }
def FnExactMapImageCardSaid : Prop := Claim7.holds Tryz.pinned (.plain (OpenSpec.ofChange fnExactMapImageSpec)) fnExactMapImageCard

/-- THE TIED CARD OF 'laws.FnExactFibreOf'. -/
def fnExactFibreOfCard : Claim7 := { stood := { row := fnExactFibreOfRow, standIns := [], harness := (true, "26aa0ef65abe3add79a1fd4403f33274da8e72483505e6f1d91d2db2fb7a531d"), looks := false }, kinds := [], alts := [], laidByText := true, laidKinds := [.data], laidTests := true, laidLooks := .later }
def FnExactFibreOfCardSaid : Prop := Claim7.holds Tryz.pinned (.plain (OpenSpec.ofChange fnExactFibreOfSpec)) fnExactFibreOfCard

/-- THE TIED CARD OF 'laws.FnExactChainMap'. -/
def fnExactChainMapCard : Claim7 := { stood := { row := fnExactChainMapRow, standIns := [], harness := (true, "26aa0ef65abe3add79a1fd4403f33274da8e72483505e6f1d91d2db2fb7a531d"), looks := false }, kinds := [], alts := [], laidByText := true, laidKinds := [.data], laidTests := true, laidLooks := .later }
def FnExactChainMapCardSaid : Prop := Claim7.holds Tryz.pinned (.plain (OpenSpec.ofChange fnExactChainMapSpec)) fnExactChainMapCard

/-- THE TIED CARD OF 'laws.FnExactInducedRank'. -/
def fnExactInducedRankCard : Claim7 := { stood := { row := fnExactInducedRankRow, standIns := [], harness := (true, "26aa0ef65abe3add79a1fd4403f33274da8e72483505e6f1d91d2db2fb7a531d"), looks := false }, kinds := [], alts := [], laidByText := true, laidKinds := [.data], laidTests := true, laidLooks := .later }
def FnExactInducedRankCardSaid : Prop := Claim7.holds Tryz.pinned (.plain (OpenSpec.ofChange fnExactInducedRankSpec)) fnExactInducedRankCard

/-- THE TIED CARD OF 'laws.FnExactCollapseToPoint'. -/
def fnExactCollapseToPointCard : Claim7 := { stood := { row := fnExactCollapseToPointRow, standIns := [], harness := (true, "26aa0ef65abe3add79a1fd4403f33274da8e72483505e6f1d91d2db2fb7a531d"), looks := false }, kinds := [], alts := [], laidByText := true, laidKinds := [.data], laidTests := true, laidLooks := .later }
def FnExactCollapseToPointCardSaid : Prop := Claim7.holds Tryz.pinned (.plain (OpenSpec.ofChange fnExactCollapseToPointSpec)) fnExactCollapseToPointCard

/-- THE SECOND FORM's CARD OF 'laws.FnExactMapImage'. -/
def fnExactMapImageUptoCard : Claim7 := { stood := { row := fnExactMapImageUptoRow, standIns := [], harness := (true, "26aa0ef65abe3add79a1fd4403f33274da8e72483505e6f1d91d2db2fb7a531d"), looks := false }, kinds := [], alts := [], laidByText := true, laidKinds := [.data], laidTests := true, laidLooks := .later }
def FnExactMapImageUptoCardSaid : Prop := Claim7.holds Tryz.pinned (.plain (OpenSpec.upto fnExactMapImageSpec)) fnExactMapImageUptoCard

/-- THE SECOND FORM's CARD OF 'laws.FnExactFibreOf'. -/
def fnExactFibreOfUptoCard : Claim7 := { stood := { row := fnExactFibreOfUptoRow, standIns := [], harness := (true, "26aa0ef65abe3add79a1fd4403f33274da8e72483505e6f1d91d2db2fb7a531d"), looks := false }, kinds := [], alts := [], laidByText := true, laidKinds := [.data], laidTests := true, laidLooks := .later }
def FnExactFibreOfUptoCardSaid : Prop := Claim7.holds Tryz.pinned (.plain (OpenSpec.upto fnExactFibreOfSpec)) fnExactFibreOfUptoCard

/-- THE SECOND FORM's CARD OF 'laws.FnExactChainMap'. -/
def fnExactChainMapUptoCard : Claim7 := { stood := { row := fnExactChainMapUptoRow, standIns := [], harness := (true, "26aa0ef65abe3add79a1fd4403f33274da8e72483505e6f1d91d2db2fb7a531d"), looks := false }, kinds := [], alts := [], laidByText := true, laidKinds := [.data], laidTests := true, laidLooks := .later }
def FnExactChainMapUptoCardSaid : Prop := Claim7.holds Tryz.pinned (.plain (OpenSpec.upto fnExactChainMapSpec)) fnExactChainMapUptoCard

/-- THE SECOND FORM's CARD OF 'laws.FnExactInducedRank'. -/
def fnExactInducedRankUptoCard : Claim7 := { stood := { row := fnExactInducedRankUptoRow, standIns := [], harness := (true, "26aa0ef65abe3add79a1fd4403f33274da8e72483505e6f1d91d2db2fb7a531d"), looks := false }, kinds := [], alts := [], laidByText := true, laidKinds := [.data], laidTests := true, laidLooks := .later }
def FnExactInducedRankUptoCardSaid : Prop := Claim7.holds Tryz.pinned (.plain (OpenSpec.upto fnExactInducedRankSpec)) fnExactInducedRankUptoCard

/-- THE SECOND FORM's CARD OF 'laws.FnExactCollapseToPoint'. -/
def fnExactCollapseToPointUptoCard : Claim7 := { stood := { row := fnExactCollapseToPointUptoRow, standIns := [], harness := (true, "26aa0ef65abe3add79a1fd4403f33274da8e72483505e6f1d91d2db2fb7a531d"), looks := false }, kinds := [], alts := [], laidByText := true, laidKinds := [.data], laidTests := true, laidLooks := .later }
def FnExactCollapseToPointUptoCardSaid : Prop := Claim7.holds Tryz.pinned (.plain (OpenSpec.upto fnExactCollapseToPointSpec)) fnExactCollapseToPointUptoCard
end Rows
end Go.Proofs.YtibdcejglkhcfaaGreatDoor
