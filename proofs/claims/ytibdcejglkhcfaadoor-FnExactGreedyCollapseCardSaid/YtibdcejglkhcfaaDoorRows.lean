/-
  NARROWER THAN 'FOR EVERY INPUT', by the rows' own cells (each row's printed sentence says how): FnExactIsMap: laid · FnExactSimplexImage: laid · FnExactComposeMaps: laid · FnExactFreePairs: laid · FnExactCollapsePair: laid · FnExactGreedyCollapse: laid · FnExactCountMaps: laid.
  DERIVED. THE GIVEN ROWS OF THIS SEAT. 7 by the template 'for every input the law returns true; each argument reads behind the call as it read before'; 0 by the template 'total and deterministic' (their statements: YtibdcejglkhcfaaDoorTotals.lean).
  GIVEN WITH THE SEED: the statements are not yours to turn. If you find one false, say at which input.
  Laid BY PROGRAM, IN A SANDBOX (cutbox-rows.mjs): the forced cells as the released guide's own fill.sh prints them over the translation f3e8a4e4aacfbc22… (all of the seat's roots in one cut). By AI agents, Wed Nov 11 2026. No macro, syntax, notation, axiom, sorry.
-/
import Derived.Test.YtibdcejglkhcfaaDoorChecked
import GoSem.Claim
import GoSem.ClaimJoined
import GoSem.ClaimMapViews
import Derived.JoinedTies
import Derived.KernelRfl
namespace Go.Proofs.YtibdcejglkhcfaaDoor
/- THE CELL 'sum', in the pinned program and in every row, IS THE sha256 OF THE DUMP (.gsa) THAT YtibdcejglkhcfaaDoorProg.lean LOADS. Nothing in Lean hashes anything: it is a label: what it is worth is what the hold of that sum in a sandbox is worth. -/
noncomputable def Tryd.pinned : Pinned := { name := "ytibdcejglkhcfaadoor", sum := "f3e8a4e4aacfbc222399f6befdc31190279668cf5cad1bbb09c1c718bb9dac55", checked := Tryd.checked }
namespace Rows
def none {H : Type} : Left H := { results := [], args := [] }

/- WHAT THE LISTED PACKAGE-LEVEL VARIABLES READ AS WHEN THE CALL BEGINS. Each datum BY PROGRAM (the guide's laid-datum.mjs) off the statement by which the dump's own 'gosem.cut.vars' lays the variable. In a bare row this is a premise. The card (YtibdcejglkhcfaaDoorCards.lean) ties it to the program's text. -/
def laid_math_bits_deBruijn32tab {H : Type} : DataW H := .agg [.lit (.int .u8 0), .lit (.int .u8 1), .lit (.int .u8 28), .lit (.int .u8 2), .lit (.int .u8 29), .lit (.int .u8 14), .lit (.int .u8 24), .lit (.int .u8 3), .lit (.int .u8 30), .lit (.int .u8 22), .lit (.int .u8 20), .lit (.int .u8 15), .lit (.int .u8 25), .lit (.int .u8 17), .lit (.int .u8 4), .lit (.int .u8 8), .lit (.int .u8 31), .lit (.int .u8 27), .lit (.int .u8 13), .lit (.int .u8 23), .lit (.int .u8 21), .lit (.int .u8 19), .lit (.int .u8 16), .lit (.int .u8 7), .lit (.int .u8 26), .lit (.int .u8 12), .lit (.int .u8 18), .lit (.int .u8 6), .lit (.int .u8 11), .lit (.int .u8 5), .lit (.int .u8 10), .lit (.int .u8 9)]

/-- 'laws.FnExactIsMap': WHATEVER THE INPUT: true; the input reads as it did. -/
def fnExactIsMapSpec : ChangeSpec := { name := "fnExactIsMap", fn := fun _ => fun
  | [d1, d2, d3] => { results := [.lit (.bool true)], args := [d1, d2, d3] }
  | _ => none }
def fnExactIsMapRow : OpenClaim := { program := "ytibdcejglkhcfaadoor", sum := "f3e8a4e4aacfbc222399f6befdc31190279668cf5cad1bbb09c1c718bb9dac55", func := "loop.example/g01005/laws.FnExactIsMap", spec := "fnExactIsMap", inPlace := ["internal/reflectlite.ValueOf", "internal/reflectlite.Swapper", "(internal/reflectlite.Value).Len"], unfollowed := true, recurses := true, named := ["math/bits.deBruijn32tab"], plainKeys := false, apart := false, laid := [("math/bits.deBruijn32tab", laid_math_bits_deBruijn32tab)] }
def FnExactIsMapSaid : Prop := fnExactIsMapRow.holds Tryd.pinned (OpenSpec.ofChange fnExactIsMapSpec)

/-- ITS FALSE NEIGHBOUR: 'it returns false'. Refute it at one input. -/
def fnExactIsMapWrong : ChangeSpec := { name := "fnExactIsMap", fn := fun _ => fun
  | [d1, d2, d3] => { results := [.lit (.bool false)], args := [d1, d2, d3] }
  | _ => none }
def FnExactIsMapWrongFalsely : Prop := fnExactIsMapRow.holds Tryd.pinned (OpenSpec.ofChange fnExactIsMapWrong)

/-- 'laws.FnExactSimplexImage': WHATEVER THE INPUT: true; the input reads as it did. -/
def fnExactSimplexImageSpec : ChangeSpec := { name := "fnExactSimplexImage", fn := fun _ => fun
  | [d1, d2, d3, d4] => { results := [.lit (.bool true)], args := [d1, d2, d3, d4] }
  | _ => none }
def fnExactSimplexImageRow : OpenClaim := { program := "ytibdcejglkhcfaadoor", sum := "f3e8a4e4aacfbc222399f6befdc31190279668cf5cad1bbb09c1c718bb9dac55", func := "loop.example/g01005/laws.FnExactSimplexImage", spec := "fnExactSimplexImage", inPlace := ["internal/reflectlite.ValueOf", "internal/reflectlite.Swapper", "(internal/reflectlite.Value).Len"], unfollowed := true, recurses := true, named := ["math/bits.deBruijn32tab"], plainKeys := false, apart := false, laid := [("math/bits.deBruijn32tab", laid_math_bits_deBruijn32tab)] }
def FnExactSimplexImageSaid : Prop := fnExactSimplexImageRow.holds Tryd.pinned (OpenSpec.ofChange fnExactSimplexImageSpec)

/-- ITS FALSE NEIGHBOUR: 'it returns false'. Refute it at one input. -/
def fnExactSimplexImageWrong : ChangeSpec := { name := "fnExactSimplexImage", fn := fun _ => fun
  | [d1, d2, d3, d4] => { results := [.lit (.bool false)], args := [d1, d2, d3, d4] }
  | _ => none }
def FnExactSimplexImageWrongFalsely : Prop := fnExactSimplexImageRow.holds Tryd.pinned (OpenSpec.ofChange fnExactSimplexImageWrong)

/-- 'laws.FnExactComposeMaps': WHATEVER THE INPUT: true; the input reads as it did. -/
def fnExactComposeMapsSpec : ChangeSpec := { name := "fnExactComposeMaps", fn := fun _ => fun
  | [d1, d2, d3, d4, d5] => { results := [.lit (.bool true)], args := [d1, d2, d3, d4, d5] }
  | _ => none }
def fnExactComposeMapsRow : OpenClaim := { program := "ytibdcejglkhcfaadoor", sum := "f3e8a4e4aacfbc222399f6befdc31190279668cf5cad1bbb09c1c718bb9dac55", func := "loop.example/g01005/laws.FnExactComposeMaps", spec := "fnExactComposeMaps", inPlace := ["internal/reflectlite.ValueOf", "internal/reflectlite.Swapper", "(internal/reflectlite.Value).Len"], unfollowed := true, recurses := true, named := ["math/bits.deBruijn32tab"], plainKeys := false, apart := false, laid := [("math/bits.deBruijn32tab", laid_math_bits_deBruijn32tab)] }
def FnExactComposeMapsSaid : Prop := fnExactComposeMapsRow.holds Tryd.pinned (OpenSpec.ofChange fnExactComposeMapsSpec)

/-- ITS FALSE NEIGHBOUR: 'it returns false'. Refute it at one input. -/
def fnExactComposeMapsWrong : ChangeSpec := { name := "fnExactComposeMaps", fn := fun _ => fun
  | [d1, d2, d3, d4, d5] => { results := [.lit (.bool false)], args := [d1, d2, d3, d4, d5] }
  | _ => none }
def FnExactComposeMapsWrongFalsely : Prop := fnExactComposeMapsRow.holds Tryd.pinned (OpenSpec.ofChange fnExactComposeMapsWrong)

/-- 'laws.FnExactFreePairs': WHATEVER THE INPUT: true; the input reads as it did. -/
def fnExactFreePairsSpec : ChangeSpec := { name := "fnExactFreePairs", fn := fun _ => fun
  | [d] => { results := [.lit (.bool true)], args := [d] }
  | _ => none }
def fnExactFreePairsRow : OpenClaim := { program := "ytibdcejglkhcfaadoor", sum := "f3e8a4e4aacfbc222399f6befdc31190279668cf5cad1bbb09c1c718bb9dac55", func := "loop.example/g01005/laws.FnExactFreePairs", spec := "fnExactFreePairs", inPlace := ["internal/reflectlite.ValueOf", "internal/reflectlite.Swapper", "(internal/reflectlite.Value).Len"], unfollowed := true, recurses := true, named := ["math/bits.deBruijn32tab"], plainKeys := false, apart := false, laid := [("math/bits.deBruijn32tab", laid_math_bits_deBruijn32tab)] }
def FnExactFreePairsSaid : Prop := fnExactFreePairsRow.holds Tryd.pinned (OpenSpec.ofChange fnExactFreePairsSpec)

/-- ITS FALSE NEIGHBOUR: 'it returns false'. Refute it at one input. -/
def fnExactFreePairsWrong : ChangeSpec := { name := "fnExactFreePairs", fn := fun _ => fun
  | [d] => { results := [.lit (.bool false)], args := [d] }
  | _ => none }
def FnExactFreePairsWrongFalsely : Prop := fnExactFreePairsRow.holds Tryd.pinned (OpenSpec.ofChange fnExactFreePairsWrong)

/-- 'laws.FnExactCollapsePair': WHATEVER THE INPUT: true; the input reads as it did. -/
def fnExactCollapsePairSpec : ChangeSpec := { name := "fnExactCollapsePair", fn := fun _ => fun
  | [d1, d2] => { results := [.lit (.bool true)], args := [d1, d2] }
  | _ => none }
def fnExactCollapsePairRow : OpenClaim := { program := "ytibdcejglkhcfaadoor", sum := "f3e8a4e4aacfbc222399f6befdc31190279668cf5cad1bbb09c1c718bb9dac55", func := "loop.example/g01005/laws.FnExactCollapsePair", spec := "fnExactCollapsePair", inPlace := ["internal/reflectlite.ValueOf", "internal/reflectlite.Swapper", "(internal/reflectlite.Value).Len"], unfollowed := true, recurses := true, named := ["math/bits.deBruijn32tab"], plainKeys := false, apart := false, laid := [("math/bits.deBruijn32tab", laid_math_bits_deBruijn32tab)] }
def FnExactCollapsePairSaid : Prop := fnExactCollapsePairRow.holds Tryd.pinned (OpenSpec.ofChange fnExactCollapsePairSpec)

/-- ITS FALSE NEIGHBOUR: 'it returns false'. Refute it at one input. -/
def fnExactCollapsePairWrong : ChangeSpec := { name := "fnExactCollapsePair", fn := fun _ => fun
  | [d1, d2] => { results := [.lit (.bool false)], args := [d1, d2] }
  | _ => none }
def FnExactCollapsePairWrongFalsely : Prop := fnExactCollapsePairRow.holds Tryd.pinned (OpenSpec.ofChange fnExactCollapsePairWrong)

/-- 'laws.FnExactGreedyCollapse': WHATEVER THE INPUT: true; the input reads as it did. -/
def fnExactGreedyCollapseSpec : ChangeSpec := { name := "fnExactGreedyCollapse", fn := fun _ => fun
  | [d] => { results := [.lit (.bool true)], args := [d] }
  | _ => none }
def fnExactGreedyCollapseRow : OpenClaim := { program := "ytibdcejglkhcfaadoor", sum := "f3e8a4e4aacfbc222399f6befdc31190279668cf5cad1bbb09c1c718bb9dac55", func := "loop.example/g01005/laws.FnExactGreedyCollapse", spec := "fnExactGreedyCollapse", inPlace := ["internal/reflectlite.ValueOf", "internal/reflectlite.Swapper", "(internal/reflectlite.Value).Len"], unfollowed := true, recurses := true, named := ["math/bits.deBruijn32tab"], plainKeys := false, apart := false, laid := [("math/bits.deBruijn32tab", laid_math_bits_deBruijn32tab)] }
def FnExactGreedyCollapseSaid : Prop := fnExactGreedyCollapseRow.holds Tryd.pinned (OpenSpec.ofChange fnExactGreedyCollapseSpec)

/-- ITS FALSE NEIGHBOUR: 'it returns false'. Refute it at one input. -/
def fnExactGreedyCollapseWrong : ChangeSpec := { name := "fnExactGreedyCollapse", fn := fun _ => fun
  | [d] => { results := [.lit (.bool false)], args := [d] }
  | _ => none }
def FnExactGreedyCollapseWrongFalsely : Prop := fnExactGreedyCollapseRow.holds Tryd.pinned (OpenSpec.ofChange fnExactGreedyCollapseWrong)

/-- 'laws.FnExactCountMaps': WHATEVER THE INPUT: true; the input reads as it did. -/
def fnExactCountMapsSpec : ChangeSpec := { name := "fnExactCountMaps", fn := fun _ => fun
  | [d1, d2, d3] => { results := [.lit (.bool true)], args := [d1, d2, d3] }
  | _ => none }
def fnExactCountMapsRow : OpenClaim := { program := "ytibdcejglkhcfaadoor", sum := "f3e8a4e4aacfbc222399f6befdc31190279668cf5cad1bbb09c1c718bb9dac55", func := "loop.example/g01005/laws.FnExactCountMaps", spec := "fnExactCountMaps", inPlace := ["internal/reflectlite.ValueOf", "internal/reflectlite.Swapper", "(internal/reflectlite.Value).Len"], unfollowed := true, recurses := true, named := ["math/bits.deBruijn32tab"], plainKeys := false, apart := false, laid := [("math/bits.deBruijn32tab", laid_math_bits_deBruijn32tab)] }
def FnExactCountMapsSaid : Prop := fnExactCountMapsRow.holds Tryd.pinned (OpenSpec.ofChange fnExactCountMapsSpec)

/-- ITS FALSE NEIGHBOUR: 'it returns false'. Refute it at one input. -/
def fnExactCountMapsWrong : ChangeSpec := { name := "fnExactCountMaps", fn := fun _ => fun
  | [d1, d2, d3] => { results := [.lit (.bool false)], args := [d1, d2, d3] }
  | _ => none }
def FnExactCountMapsWrongFalsely : Prop := fnExactCountMapsRow.holds Tryd.pinned (OpenSpec.ofChange fnExactCountMapsWrong)

/- THE SECOND FORM. 'bulk': how many values and letters a reading holds, each counted each time it is reached (what is shared counts as often as it is met; a slice's spare places count too). A statement '..UptoSaid' is the law's where the arguments, and the package variables that the reading takes, are together of bulk at most 1048576: NARROWER than '..Said'. Prove '..Said' where nothing that the law and all that it calls make is longer than what came in: it says more and counts as full. Else prove '..UptoSaid'. A law counts once. -/
mutual
def uptoBulk {H : Type} : DataW H → Nat
  | .lit (.string bytes) => bytes.length + 1
  | .lit _ => 1
  | .nil => 1
  | .ptr d => uptoBulk d + 1
  | .slice elems spare => uptoBulkAll elems + uptoBulkAll spare + 1
  | .agg parts => uptoBulkAll parts + 1
  | .iface _ d => uptoBulk d + 1
  | .map entries => uptoBulkEntries entries + 1
  | .held _ => 1
def uptoBulkAll {H : Type} : List (DataW H) → Nat
  | [] => 0
  | d :: r => uptoBulk d + uptoBulkAll r
def uptoBulkEntries {H : Type} : List (Lit × DataW H) → Nat
  | [] => 0
  | x :: r => uptoBulkEntry x + uptoBulkEntries r
def uptoBulkEntry {H : Type} : Lit × DataW H → Nat
  | (.string bytes, d) => bytes.length + uptoBulk d + 1
  | (_, d) => uptoBulk d + 1
 end
def uptoSmall : (H : Type) → List (DataW H) → Bool := fun _ ds => decide (uptoBulkAll ds ≤ 1048576)
def OpenSpec.upto (s : _root_.Go.ChangeSpec) : _root_.Go.OpenSpec := { _root_.Go.OpenSpec.ofChange s with cond := some uptoSmall }

/-- 'laws.FnExactIsMap', WHERE WHAT IT READS IS OF BULK AT MOST 1048576: true; the input reads as it did. -/
def fnExactIsMapUptoRow : OpenClaim := { program := "ytibdcejglkhcfaadoor", sum := "f3e8a4e4aacfbc222399f6befdc31190279668cf5cad1bbb09c1c718bb9dac55", func := "loop.example/g01005/laws.FnExactIsMap", spec := "fnExactIsMap", inPlace := ["internal/reflectlite.ValueOf", "internal/reflectlite.Swapper", "(internal/reflectlite.Value).Len"], unfollowed := true, recurses := true, named := ["math/bits.deBruijn32tab"], plainKeys := false, apart := false, laid := [("math/bits.deBruijn32tab", laid_math_bits_deBruijn32tab)], narrowed := true }
def FnExactIsMapUptoSaid : Prop := fnExactIsMapUptoRow.holds Tryd.pinned (OpenSpec.upto fnExactIsMapSpec)

/-- 'laws.FnExactSimplexImage', WHERE WHAT IT READS IS OF BULK AT MOST 1048576: true; the input reads as it did. -/
def fnExactSimplexImageUptoRow : OpenClaim := { program := "ytibdcejglkhcfaadoor", sum := "f3e8a4e4aacfbc222399f6befdc31190279668cf5cad1bbb09c1c718bb9dac55", func := "loop.example/g01005/laws.FnExactSimplexImage", spec := "fnExactSimplexImage", inPlace := ["internal/reflectlite.ValueOf", "internal/reflectlite.Swapper", "(internal/reflectlite.Value).Len"], unfollowed := true, recurses := true, named := ["math/bits.deBruijn32tab"], plainKeys := false, apart := false, laid := [("math/bits.deBruijn32tab", laid_math_bits_deBruijn32tab)], narrowed := true }
def FnExactSimplexImageUptoSaid : Prop := fnExactSimplexImageUptoRow.holds Tryd.pinned (OpenSpec.upto fnExactSimplexImageSpec)

/-- 'laws.FnExactComposeMaps', WHERE WHAT IT READS IS OF BULK AT MOST 1048576: true; the input reads as it did. -/
def fnExactComposeMapsUptoRow : OpenClaim := { program := "ytibdcejglkhcfaadoor", sum := "f3e8a4e4aacfbc222399f6befdc31190279668cf5cad1bbb09c1c718bb9dac55", func := "loop.example/g01005/laws.FnExactComposeMaps", spec := "fnExactComposeMaps", inPlace := ["internal/reflectlite.ValueOf", "internal/reflectlite.Swapper", "(internal/reflectlite.Value).Len"], unfollowed := true, recurses := true, named := ["math/bits.deBruijn32tab"], plainKeys := false, apart := false, laid := [("math/bits.deBruijn32tab", laid_math_bits_deBruijn32tab)], narrowed := true }
def FnExactComposeMapsUptoSaid : Prop := fnExactComposeMapsUptoRow.holds Tryd.pinned (OpenSpec.upto fnExactComposeMapsSpec)

/-- 'laws.FnExactFreePairs', WHERE WHAT IT READS IS OF BULK AT MOST 1048576: true; the input reads as it did. -/
def fnExactFreePairsUptoRow : OpenClaim := { program := "ytibdcejglkhcfaadoor", sum := "f3e8a4e4aacfbc222399f6befdc31190279668cf5cad1bbb09c1c718bb9dac55", func := "loop.example/g01005/laws.FnExactFreePairs", spec := "fnExactFreePairs", inPlace := ["internal/reflectlite.ValueOf", "internal/reflectlite.Swapper", "(internal/reflectlite.Value).Len"], unfollowed := true, recurses := true, named := ["math/bits.deBruijn32tab"], plainKeys := false, apart := false, laid := [("math/bits.deBruijn32tab", laid_math_bits_deBruijn32tab)], narrowed := true }
def FnExactFreePairsUptoSaid : Prop := fnExactFreePairsUptoRow.holds Tryd.pinned (OpenSpec.upto fnExactFreePairsSpec)

/-- 'laws.FnExactCollapsePair', WHERE WHAT IT READS IS OF BULK AT MOST 1048576: true; the input reads as it did. -/
def fnExactCollapsePairUptoRow : OpenClaim := { program := "ytibdcejglkhcfaadoor", sum := "f3e8a4e4aacfbc222399f6befdc31190279668cf5cad1bbb09c1c718bb9dac55", func := "loop.example/g01005/laws.FnExactCollapsePair", spec := "fnExactCollapsePair", inPlace := ["internal/reflectlite.ValueOf", "internal/reflectlite.Swapper", "(internal/reflectlite.Value).Len"], unfollowed := true, recurses := true, named := ["math/bits.deBruijn32tab"], plainKeys := false, apart := false, laid := [("math/bits.deBruijn32tab", laid_math_bits_deBruijn32tab)], narrowed := true }
def FnExactCollapsePairUptoSaid : Prop := fnExactCollapsePairUptoRow.holds Tryd.pinned (OpenSpec.upto fnExactCollapsePairSpec)

/-- 'laws.FnExactGreedyCollapse', WHERE WHAT IT READS IS OF BULK AT MOST 1048576: true; the input reads as it did. -/
def fnExactGreedyCollapseUptoRow : OpenClaim := { program := "ytibdcejglkhcfaadoor", sum := "f3e8a4e4aacfbc222399f6befdc31190279668cf5cad1bbb09c1c718bb9dac55", func := "loop.example/g01005/laws.FnExactGreedyCollapse", spec := "fnExactGreedyCollapse", inPlace := ["internal/reflectlite.ValueOf", "internal/reflectlite.Swapper", "(internal/reflectlite.Value).Len"], unfollowed := true, recurses := true, named := ["math/bits.deBruijn32tab"], plainKeys := false, apart := false, laid := [("math/bits.deBruijn32tab", laid_math_bits_deBruijn32tab)], narrowed := true }
def FnExactGreedyCollapseUptoSaid : Prop := fnExactGreedyCollapseUptoRow.holds Tryd.pinned (OpenSpec.upto fnExactGreedyCollapseSpec)

/-- 'laws.FnExactCountMaps', WHERE WHAT IT READS IS OF BULK AT MOST 1048576: true; the input reads as it did. -/
def fnExactCountMapsUptoRow : OpenClaim := { program := "ytibdcejglkhcfaadoor", sum := "f3e8a4e4aacfbc222399f6befdc31190279668cf5cad1bbb09c1c718bb9dac55", func := "loop.example/g01005/laws.FnExactCountMaps", spec := "fnExactCountMaps", inPlace := ["internal/reflectlite.ValueOf", "internal/reflectlite.Swapper", "(internal/reflectlite.Value).Len"], unfollowed := true, recurses := true, named := ["math/bits.deBruijn32tab"], plainKeys := false, apart := false, laid := [("math/bits.deBruijn32tab", laid_math_bits_deBruijn32tab)], narrowed := true }
def FnExactCountMapsUptoSaid : Prop := fnExactCountMapsUptoRow.holds Tryd.pinned (OpenSpec.upto fnExactCountMapsSpec)

end Rows
end Go.Proofs.YtibdcejglkhcfaaDoor
