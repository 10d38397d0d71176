/-
  NARROWER THAN 'FOR EVERY INPUT', by the rows' own cells (each row's printed sentence says how): FnExactMapImage: laid · FnExactFibreOf: laid · FnExactChainMap: laid · FnExactInducedRank: laid · FnExactCollapseToPoint: laid.
  DERIVED. THE GIVEN ROWS OF THIS SEAT. 5 by the template 'for every input the law returns true; each argument reads behind the call as it read before'; 0 by the template 'total and deterministic' (their statements: YtibdcejglkhcfaaGreatDoorTotals.lean).
  GIVEN WITH THE SEED: the statements are not yours to turn. If you find one false, say at which input.
  Laid BY PROGRAM, IN A SANDBOX (cutbox-rows.mjs): the forced cells as the released guide's own fill.sh prints them over the translation 094de046d1ea71ce… (all of the seat's roots in one cut). By AI agents, Wed Nov 11 2026. No macro, syntax, notation, axiom, sorry.
-/
import Derived.Test.YtibdcejglkhcfaaGreatDoorChecked
import GoSem.Claim
import GoSem.ClaimJoined
import GoSem.ClaimMapViews
import Derived.JoinedTies
import Derived.KernelRfl
namespace Go.Proofs.YtibdcejglkhcfaaGreatDoor
/- THE CELL 'sum', in the pinned program and in every row, IS THE sha256 OF THE DUMP (.gsa) THAT YtibdcejglkhcfaaGreatDoorProg.lean LOADS. Nothing in Lean hashes anything: it is a label: what it is worth is what the hold of that sum in a sandbox is worth. -/
noncomputable def Tryz.pinned : Pinned := { name := "ytibdcejglkhcfaagreatdoor", sum := "094de046d1ea71cee31951bf692eb744302749cfe7bfb1507b6b68b4ee5a18e9", checked := Tryz.checked }
namespace Rows
def none {H : Type} : Left H := { results := [], args := [] }

/- WHAT THE LISTED PACKAGE-LEVEL VARIABLES READ AS WHEN THE CALL BEGINS. Each datum BY PROGRAM (the guide's laid-datum.mjs) off the statement by which the dump's own 'gosem.cut.vars' lays the variable. In a bare row this is a premise. The card (YtibdcejglkhcfaaGreatDoorCards.lean) ties it to the program's text. -/
def laid_math_bits_deBruijn32tab {H : Type} : DataW H := .agg [.lit (.int .u8 0), .lit (.int .u8 1), .lit (.int .u8 28), .lit (.int .u8 2), .lit (.int .u8 29), .lit (.int .u8 14), .lit (.int .u8 24), .lit (.int .u8 3), .lit (.int .u8 30), .lit (.int .u8 22), .lit (.int .u8 20), .lit (.int .u8 15), .lit (.int .u8 25), .lit (.int .u8 17), .lit (.int .u8 4), .lit (.int .u8 8), .lit (.int .u8 31), .lit (.int .u8 27), .lit (.int .u8 13), .lit (.int .u8 23), .lit (.int .u8 21), .lit (.int .u8 19), .lit (.int .u8 16), .lit (.int .u8 7), .lit (.int .u8 26), .lit (.int .u8 12), .lit (.int .u8 18), .lit (.int .u8 6), .lit (.int .u8 11), .lit (.int .u8 5), .lit (.int .u8 10), .lit (.int .u8 9)]

/-- 'laws.FnExactMapImage': WHATEVER THE INPUT: true; the input reads as it did. -/
def fnExactMapImageSpec : ChangeSpec := { name := "fnExactMapImage", fn := fun _ => fun
  | [d1, d2, d3] => { results := [.lit (.bool true)], args := [d1, d2, d3] }
  | _ => none }
def fnExactMapImageRow : OpenClaim := { program := "ytibdcejglkhcfaagreatdoor", sum := "094de046d1ea71cee31951bf692eb744302749cfe7bfb1507b6b68b4ee5a18e9", func := "loop.example/g01005/laws.FnExactMapImage", spec := "fnExactMapImage", inPlace := ["internal/reflectlite.ValueOf", "internal/reflectlite.Swapper", "(internal/reflectlite.Value).Len"], unfollowed := true, recurses := true, named := ["math/bits.deBruijn32tab"], plainKeys := false, apart := false, laid := [("math/bits.deBruijn32tab", laid_math_bits_deBruijn32tab)] }
def FnExactMapImageSaid : Prop := fnExactMapImageRow.holds Tryz.pinned (OpenSpec.ofChange fnExactMapImageSpec)

/-- ITS FALSE NEIGHBOUR: 'it returns false'. Refute it at one input. -/
def fnExactMapImageWrong : ChangeSpec := { name := "fnExactMapImage", fn := fun _ => fun
  | [d1, d2, d3] => { results := [.lit (.bool false)], args := [d1, d2, d3] }
  | _ => none }
def FnExactMapImageWrongFalsely : Prop := fnExactMapImageRow.holds Tryz.pinned (OpenSpec.ofChange fnExactMapImageWrong)

/-- 'laws.FnExactFibreOf': WHATEVER THE INPUT: true; the input reads as it did. -/
def fnExactFibreOfSpec : ChangeSpec := { name := "fnExactFibreOf", fn := fun _ => fun
  | [d1, d2, d3, d4] => { results := [.lit (.bool true)], args := [d1, d2, d3, d4] }
  | _ => none }
def fnExactFibreOfRow : OpenClaim := { program := "ytibdcejglkhcfaagreatdoor", sum := "094de046d1ea71cee31951bf692eb744302749cfe7bfb1507b6b68b4ee5a18e9", func := "loop.example/g01005/laws.FnExactFibreOf", spec := "fnExactFibreOf", inPlace := ["internal/reflectlite.ValueOf", "internal/reflectlite.Swapper", "(internal/reflectlite.Value).Len"], unfollowed := true, recurses := true, named := ["math/bits.deBruijn32tab"], plainKeys := false, apart := false, laid := [("math/bits.deBruijn32tab", laid_math_bits_deBruijn32tab)] }
def FnExactFibreOfSaid : Prop := fnExactFibreOfRow.holds Tryz.pinned (OpenSpec.ofChange fnExactFibreOfSpec)

/-- ITS FALSE NEIGHBOUR: 'it returns false'. Refute it at one input. -/
def fnExactFibreOfWrong : ChangeSpec := { name := "fnExactFibreOf", fn := fun _ => fun
  | [d1, d2, d3, d4] => { results := [.lit (.bool false)], args := [d1, d2, d3, d4] }
  | _ => none }
def FnExactFibreOfWrongFalsely : Prop := fnExactFibreOfRow.holds Tryz.pinned (OpenSpec.ofChange fnExactFibreOfWrong)

/-- 'laws.FnExactChainMap': WHATEVER THE INPUT: true; the input reads as it did. -/
def fnExactChainMapSpec : ChangeSpec := { name := "fnExactChainMap", fn := fun _ => fun
  | [d1, d2, d3, d4, d5] => { results := [.lit (.bool true)], args := [d1, d2, d3, d4, d5] }
  | _ => none }
def fnExactChainMapRow : OpenClaim := { program := "ytibdcejglkhcfaagreatdoor", sum := "094de046d1ea71cee31951bf692eb744302749cfe7bfb1507b6b68b4ee5a18e9", func := "loop.example/g01005/laws.FnExactChainMap", spec := "fnExactChainMap", inPlace := ["internal/reflectlite.ValueOf", "internal/reflectlite.Swapper", "(internal/reflectlite.Value).Len"], unfollowed := true, recurses := true, named := ["math/bits.deBruijn32tab"], plainKeys := false, apart := false, laid := [("math/bits.deBruijn32tab", laid_math_bits_deBruijn32tab)] }
def FnExactChainMapSaid : Prop := fnExactChainMapRow.holds Tryz.pinned (OpenSpec.ofChange fnExactChainMapSpec)

/-- ITS FALSE NEIGHBOUR: 'it returns false'. Refute it at one input. -/
def fnExactChainMapWrong : ChangeSpec := { name := "fnExactChainMap", fn := fun _ => fun
  | [d1, d2, d3, d4, d5] => { results := [.lit (.bool false)], args := [d1, d2, d3, d4, d5] }
  | _ => none }
def FnExactChainMapWrongFalsely : Prop := fnExactChainMapRow.holds Tryz.pinned (OpenSpec.ofChange fnExactChainMapWrong)

/-- 'laws.FnExactInducedRank': WHATEVER THE INPUT: true; the input reads as it did. -/
def fnExactInducedRankSpec : ChangeSpec := { name := "fnExactInducedRank", fn := fun _ => fun
  | [d1, d2, d3, d4, d5] => { results := [.lit (.bool true)], args := [d1, d2, d3, d4, d5] }
  | _ => none }
def fnExactInducedRankRow : OpenClaim := { program := "ytibdcejglkhcfaagreatdoor", sum := "094de046d1ea71cee31951bf692eb744302749cfe7bfb1507b6b68b4ee5a18e9", func := "loop.example/g01005/laws.FnExactInducedRank", spec := "fnExactInducedRank", inPlace := ["internal/reflectlite.ValueOf", "internal/reflectlite.Swapper", "(internal/reflectlite.Value).Len"], unfollowed := true, recurses := true, named := ["math/bits.deBruijn32tab"], plainKeys := false, apart := false, laid := [("math/bits.deBruijn32tab", laid_math_bits_deBruijn32tab)] }
def FnExactInducedRankSaid : Prop := fnExactInducedRankRow.holds Tryz.pinned (OpenSpec.ofChange fnExactInducedRankSpec)

/-- ITS FALSE NEIGHBOUR: 'it returns false'. Refute it at one input. -/
def fnExactInducedRankWrong : ChangeSpec := { name := "fnExactInducedRank", fn := fun _ => fun
  | [d1, d2, d3, d4, d5] => { results := [.lit (.bool false)], args := [d1, d2, d3, d4, d5] }
  | _ => none }
def FnExactInducedRankWrongFalsely : Prop := fnExactInducedRankRow.holds Tryz.pinned (OpenSpec.ofChange fnExactInducedRankWrong)

/-- 'laws.FnExactCollapseToPoint': WHATEVER THE INPUT: true; the input reads as it did. -/
def fnExactCollapseToPointSpec : ChangeSpec := { name := "fnExactCollapseToPoint", fn := fun _ => fun
  | [d1, d2] => { results := [.lit (.bool true)], args := [d1, d2] }
  | _ => none }
def fnExactCollapseToPointRow : OpenClaim := { program := "ytibdcejglkhcfaagreatdoor", sum := "094de046d1ea71cee31951bf692eb744302749cfe7bfb1507b6b68b4ee5a18e9", func := "loop.example/g01005/laws.FnExactCollapseToPoint", spec := "fnExactCollapseToPoint", inPlace := ["internal/reflectlite.ValueOf", "internal/reflectlite.Swapper", "(internal/reflectlite.Value).Len"], unfollowed := true, recurses := true, named := ["math/bits.deBruijn32tab"], plainKeys := false, apart := false, laid := [("math/bits.deBruijn32tab", laid_math_bits_deBruijn32tab)] }
def FnExactCollapseToPointSaid : Prop := fnExactCollapseToPointRow.holds Tryz.pinned (OpenSpec.ofChange fnExactCollapseToPointSpec)

/-- ITS FALSE NEIGHBOUR: 'it returns false'. Refute it at one input. -/
def fnExactCollapseToPointWrong : ChangeSpec := { name := "fnExactCollapseToPoint", fn := fun _ => fun
  | [d1, d2] => { results := [.lit (.bool false)], args := [d1, d2] }
  | _ => none }
def FnExactCollapseToPointWrongFalsely : Prop := fnExactCollapseToPointRow.holds Tryz.pinned (OpenSpec.ofChange fnExactCollapseToPointWrong)

/- THE SECOND FORM. 'bulk': how many values and letters a reading holds, each counted each time it is reached (what is shared counts as often as it is met; a slice's spare places count too). A statement '..UptoSaid' is the law's where the arguments, and the package variables that the reading takes, are together of bulk at most 1048576: NARROWER than '..Said'. Prove '..Said' where nothing that the law and all that it calls make is longer than what came in: it says more and counts as full. Else prove '..UptoSaid'. A law counts once. -/
mutual
def uptoBulk {H : Type} : DataW H → Nat
  | .lit (.string bytes) => bytes.length + 1
  | .lit _ => 1
  | .nil => 1
  | .ptr d => uptoBulk d + 1
  | .slice elems spare => uptoBulkAll elems + uptoBulkAll spare + 1
  | .agg parts => uptoBulkAll parts + 1
  | .iface _ d => uptoBulk d + 1
  | .map entries => uptoBulkEntries entries + 1
  | .held _ => 1
def uptoBulkAll {H : Type} : List (DataW H) → Nat
  | [] => 0
  | d :: r => uptoBulk d + uptoBulkAll r
def uptoBulkEntries {H : Type} : List (Lit × DataW H) → Nat
  | [] => 0
  | x :: r => uptoBulkEntry x + uptoBulkEntries r
def uptoBulkEntry {H : Type} : Lit × DataW H → Nat
  | (.string bytes, d) => bytes.length + uptoBulk d + 1
  | (_, d) => uptoBulk d + 1
 end
def uptoSmall : (H : Type) → List (DataW H) → Bool := fun _ ds => decide (uptoBulkAll ds ≤ 1048576)
def OpenSpec.upto (s : _root_.Go.ChangeSpec) : _root_.Go.OpenSpec := { _root_.Go.OpenSpec.ofChange s with cond := some uptoSmall }

/-- 'laws.FnExactMapImage', WHERE WHAT IT READS IS OF BULK AT MOST 1048576: true; the input reads as it did. -/
def fnExactMapImageUptoRow : OpenClaim := { program := "ytibdcejglkhcfaagreatdoor", sum := "094de046d1ea71cee31951bf692eb744302749cfe7bfb1507b6b68b4ee5a18e9", func := "loop.example/g01005/laws.FnExactMapImage", spec := "fnExactMapImage", inPlace := ["internal/reflectlite.ValueOf", "internal/reflectlite.Swapper", "(internal/reflectlite.Value).Len"], unfollowed := true, recurses := true, named := ["math/bits.deBruijn32tab"], plainKeys := false, apart := false, laid := [("math/bits.deBruijn32tab", laid_math_bits_deBruijn32tab)], narrowed := true }
def FnExactMapImageUptoSaid : Prop := fnExactMapImageUptoRow.holds Tryz.pinned (OpenSpec.upto fnExactMapImageSpec)

/-- 'laws.FnExactFibreOf', WHERE WHAT IT READS IS OF BULK AT MOST 1048576: true; the input reads as it did. -/
def fnExactFibreOfUptoRow : OpenClaim := { program := "ytibdcejglkhcfaagreatdoor", sum := "094de046d1ea71cee31951bf692eb744302749cfe7bfb1507b6b68b4ee5a18e9", func := "loop.example/g01005/laws.FnExactFibreOf", spec := "fnExactFibreOf", inPlace := ["internal/reflectlite.ValueOf", "internal/reflectlite.Swapper", "(internal/reflectlite.Value).Len"], unfollowed := true, recurses := true, named := ["math/bits.deBruijn32tab"], plainKeys := false, apart := false, laid := [("math/bits.deBruijn32tab", laid_math_bits_deBruijn32tab)], narrowed := true }
def FnExactFibreOfUptoSaid : Prop := fnExactFibreOfUptoRow.holds Tryz.pinned (OpenSpec.upto fnExactFibreOfSpec)

/-- 'laws.FnExactChainMap', WHERE WHAT IT READS IS OF BULK AT MOST 1048576: true; the input reads as it did. -/
def fnExactChainMapUptoRow : OpenClaim := { program := "ytibdcejglkhcfaagreatdoor", sum := "094de046d1ea71cee31951bf692eb744302749cfe7bfb1507b6b68b4ee5a18e9", func := "loop.example/g01005/laws.FnExactChainMap", spec := "fnExactChainMap", inPlace := ["internal/reflectlite.ValueOf", "internal/reflectlite.Swapper", "(internal/reflectlite.Value).Len"], unfollowed := true, recurses := true, named := ["math/bits.deBruijn32tab"], plainKeys := false, apart := false, laid := [("math/bits.deBruijn32tab", laid_math_bits_deBruijn32tab)], narrowed := true }
def FnExactChainMapUptoSaid : Prop := fnExactChainMapUptoRow.holds Tryz.pinned (OpenSpec.upto fnExactChainMapSpec)

/-- 'laws.FnExactInducedRank', WHERE WHAT IT READS IS OF BULK AT MOST 1048576: true; the input reads as it did. -/
def fnExactInducedRankUptoRow : OpenClaim := { program := "ytibdcejglkhcfaagreatdoor", sum := "094de046d1ea71cee31951bf692eb744302749cfe7bfb1507b6b68b4ee5a18e9", func := "loop.example/g01005/laws.FnExactInducedRank", spec := "fnExactInducedRank", inPlace := ["internal/reflectlite.ValueOf", "internal/reflectlite.Swapper", "(internal/reflectlite.Value).Len"], unfollowed := true, recurses := true, named := ["math/bits.deBruijn32tab"], plainKeys := false, apart := false, laid := [("math/bits.deBruijn32tab", laid_math_bits_deBruijn32tab)], narrowed := true }
def FnExactInducedRankUptoSaid : Prop := fnExactInducedRankUptoRow.holds Tryz.pinned (OpenSpec.upto fnExactInducedRankSpec)

/-- 'laws.FnExactCollapseToPoint', WHERE WHAT IT READS IS OF BULK AT MOST 1048576: true; the input reads as it did. -/
def fnExactCollapseToPointUptoRow : OpenClaim := { program := "ytibdcejglkhcfaagreatdoor", sum := "094de046d1ea71cee31951bf692eb744302749cfe7bfb1507b6b68b4ee5a18e9", func := "loop.example/g01005/laws.FnExactCollapseToPoint", spec := "fnExactCollapseToPoint", inPlace := ["internal/reflectlite.ValueOf", "internal/reflectlite.Swapper", "(internal/reflectlite.Value).Len"], unfollowed := true, recurses := true, named := ["math/bits.deBruijn32tab"], plainKeys := false, apart := false, laid := [("math/bits.deBruijn32tab", laid_math_bits_deBruijn32tab)], narrowed := true }
def FnExactCollapseToPointUptoSaid : Prop := fnExactCollapseToPointUptoRow.holds Tryz.pinned (OpenSpec.upto fnExactCollapseToPointSpec)

end Rows
end Go.Proofs.YtibdcejglkhcfaaGreatDoor
