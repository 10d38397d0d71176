/-
  NARROWER THAN 'FOR EVERY INPUT', by the rows' own cells (each row's printed sentence says how): FnExactValidPoset: laid · FnExactPosetOf: laid · FnExactIsBelow: laid · FnExactMinimalOf: laid · FnExactHeightOf: laid · FnExactWidthOf: laid · FnExactIdealOf: laid · FnExactCountIdeals: laid · FnExactCountExtensions: laid · FnExactFirstExtension: laid · FnExactMoebiusOf: laid · FnExactDualPoset: laid.
  DERIVED. THE GIVEN ROWS OF THIS SEAT. 12 by the template 'for every input the law returns true; each argument reads behind the call as it read before'; 0 by the template 'total and deterministic' (their statements: YtdihcmohpbgmmaaDoorTotals.lean).
  GIVEN WITH THE SEED: the statements are not yours to turn. If you find one false, say at which input.
  Laid BY PROGRAM, IN A SANDBOX (cutbox-rows.mjs): the forced cells as the released guide's own fill.sh prints them over the translation f39e1a4ad9d5af03… (all of the seat's roots in one cut). By AI agents, Wed Nov 11 2026. No macro, syntax, notation, axiom, sorry.
-/
import Derived.Test.YtdihcmohpbgmmaaDoorChecked
import GoSem.Claim
import GoSem.ClaimJoined
import GoSem.ClaimMapViews
import Derived.JoinedTies
import Derived.KernelRfl
namespace Go.Proofs.YtdihcmohpbgmmaaDoor
/- THE CELL 'sum', in the pinned program and in every row, IS THE sha256 OF THE DUMP (.gsa) THAT YtdihcmohpbgmmaaDoorProg.lean LOADS. Nothing in Lean hashes anything: it is a label: what it is worth is what the hold of that sum in a sandbox is worth. -/
noncomputable def Tryd.pinned : Pinned := { name := "ytdihcmohpbgmmaadoor", sum := "f39e1a4ad9d5af034abe9897bf74e0096141c4912a5057e29a9e149b74efb752", checked := Tryd.checked }
namespace Rows
def none {H : Type} : Left H := { results := [], args := [] }

/- WHAT THE LISTED PACKAGE-LEVEL VARIABLES READ AS WHEN THE CALL BEGINS. Each datum BY PROGRAM (the guide's laid-datum.mjs) off the statement by which the dump's own 'gosem.cut.vars' lays the variable. In a bare row this is a premise. The card (YtdihcmohpbgmmaaDoorCards.lean) ties it to the program's text. -/
def laid_math_bits_deBruijn32tab {H : Type} : DataW H := .agg [.lit (.int .u8 0), .lit (.int .u8 1), .lit (.int .u8 28), .lit (.int .u8 2), .lit (.int .u8 29), .lit (.int .u8 14), .lit (.int .u8 24), .lit (.int .u8 3), .lit (.int .u8 30), .lit (.int .u8 22), .lit (.int .u8 20), .lit (.int .u8 15), .lit (.int .u8 25), .lit (.int .u8 17), .lit (.int .u8 4), .lit (.int .u8 8), .lit (.int .u8 31), .lit (.int .u8 27), .lit (.int .u8 13), .lit (.int .u8 23), .lit (.int .u8 21), .lit (.int .u8 19), .lit (.int .u8 16), .lit (.int .u8 7), .lit (.int .u8 26), .lit (.int .u8 12), .lit (.int .u8 18), .lit (.int .u8 6), .lit (.int .u8 11), .lit (.int .u8 5), .lit (.int .u8 10), .lit (.int .u8 9)]

/-- 'laws.FnExactValidPoset': WHATEVER THE INPUT: true; the input reads as it did. -/
def fnExactValidPosetSpec : ChangeSpec := { name := "fnExactValidPoset", fn := fun _ => fun
  | [d] => { results := [.lit (.bool true)], args := [d] }
  | _ => none }
def fnExactValidPosetRow : OpenClaim := { program := "ytdihcmohpbgmmaadoor", sum := "f39e1a4ad9d5af034abe9897bf74e0096141c4912a5057e29a9e149b74efb752", func := "loop.example/g01005/laws.FnExactValidPoset", spec := "fnExactValidPoset", unfollowed := true, recurses := true, named := ["math/bits.deBruijn32tab"], apart := false, laid := [("math/bits.deBruijn32tab", laid_math_bits_deBruijn32tab)] }
def FnExactValidPosetSaid : Prop := fnExactValidPosetRow.holds Tryd.pinned (OpenSpec.ofChange fnExactValidPosetSpec)

/-- ITS FALSE NEIGHBOUR: 'it returns false'. Refute it at one input. -/
def fnExactValidPosetWrong : ChangeSpec := { name := "fnExactValidPoset", fn := fun _ => fun
  | [d] => { results := [.lit (.bool false)], args := [d] }
  | _ => none }
def FnExactValidPosetWrongFalsely : Prop := fnExactValidPosetRow.holds Tryd.pinned (OpenSpec.ofChange fnExactValidPosetWrong)

/-- 'laws.FnExactPosetOf': WHATEVER THE INPUT: true; the input reads as it did. -/
def fnExactPosetOfSpec : ChangeSpec := { name := "fnExactPosetOf", fn := fun _ => fun
  | [d1, d2] => { results := [.lit (.bool true)], args := [d1, d2] }
  | _ => none }
def fnExactPosetOfRow : OpenClaim := { program := "ytdihcmohpbgmmaadoor", sum := "f39e1a4ad9d5af034abe9897bf74e0096141c4912a5057e29a9e149b74efb752", func := "loop.example/g01005/laws.FnExactPosetOf", spec := "fnExactPosetOf", named := ["math/bits.deBruijn32tab"], apart := false, laid := [("math/bits.deBruijn32tab", laid_math_bits_deBruijn32tab)] }
def FnExactPosetOfSaid : Prop := fnExactPosetOfRow.holds Tryd.pinned (OpenSpec.ofChange fnExactPosetOfSpec)

/-- ITS FALSE NEIGHBOUR: 'it returns false'. Refute it at one input. -/
def fnExactPosetOfWrong : ChangeSpec := { name := "fnExactPosetOf", fn := fun _ => fun
  | [d1, d2] => { results := [.lit (.bool false)], args := [d1, d2] }
  | _ => none }
def FnExactPosetOfWrongFalsely : Prop := fnExactPosetOfRow.holds Tryd.pinned (OpenSpec.ofChange fnExactPosetOfWrong)

/-- 'laws.FnExactIsBelow': WHATEVER THE INPUT: true; the input reads as it did. -/
def fnExactIsBelowSpec : ChangeSpec := { name := "fnExactIsBelow", fn := fun _ => fun
  | [d1, d2, d3] => { results := [.lit (.bool true)], args := [d1, d2, d3] }
  | _ => none }
def fnExactIsBelowRow : OpenClaim := { program := "ytdihcmohpbgmmaadoor", sum := "f39e1a4ad9d5af034abe9897bf74e0096141c4912a5057e29a9e149b74efb752", func := "loop.example/g01005/laws.FnExactIsBelow", spec := "fnExactIsBelow", unfollowed := true, recurses := true, named := ["math/bits.deBruijn32tab"], apart := false, laid := [("math/bits.deBruijn32tab", laid_math_bits_deBruijn32tab)] }
def FnExactIsBelowSaid : Prop := fnExactIsBelowRow.holds Tryd.pinned (OpenSpec.ofChange fnExactIsBelowSpec)

/-- ITS FALSE NEIGHBOUR: 'it returns false'. Refute it at one input. -/
def fnExactIsBelowWrong : ChangeSpec := { name := "fnExactIsBelow", fn := fun _ => fun
  | [d1, d2, d3] => { results := [.lit (.bool false)], args := [d1, d2, d3] }
  | _ => none }
def FnExactIsBelowWrongFalsely : Prop := fnExactIsBelowRow.holds Tryd.pinned (OpenSpec.ofChange fnExactIsBelowWrong)

/-- 'laws.FnExactMinimalOf': WHATEVER THE INPUT: true; the input reads as it did. -/
def fnExactMinimalOfSpec : ChangeSpec := { name := "fnExactMinimalOf", fn := fun _ => fun
  | [d] => { results := [.lit (.bool true)], args := [d] }
  | _ => none }
def fnExactMinimalOfRow : OpenClaim := { program := "ytdihcmohpbgmmaadoor", sum := "f39e1a4ad9d5af034abe9897bf74e0096141c4912a5057e29a9e149b74efb752", func := "loop.example/g01005/laws.FnExactMinimalOf", spec := "fnExactMinimalOf", unfollowed := true, recurses := true, named := ["math/bits.deBruijn32tab"], apart := false, laid := [("math/bits.deBruijn32tab", laid_math_bits_deBruijn32tab)] }
def FnExactMinimalOfSaid : Prop := fnExactMinimalOfRow.holds Tryd.pinned (OpenSpec.ofChange fnExactMinimalOfSpec)

/-- ITS FALSE NEIGHBOUR: 'it returns false'. Refute it at one input. -/
def fnExactMinimalOfWrong : ChangeSpec := { name := "fnExactMinimalOf", fn := fun _ => fun
  | [d] => { results := [.lit (.bool false)], args := [d] }
  | _ => none }
def FnExactMinimalOfWrongFalsely : Prop := fnExactMinimalOfRow.holds Tryd.pinned (OpenSpec.ofChange fnExactMinimalOfWrong)

/-- 'laws.FnExactHeightOf': WHATEVER THE INPUT: true; the input reads as it did. -/
def fnExactHeightOfSpec : ChangeSpec := { name := "fnExactHeightOf", fn := fun _ => fun
  | [d] => { results := [.lit (.bool true)], args := [d] }
  | _ => none }
def fnExactHeightOfRow : OpenClaim := { program := "ytdihcmohpbgmmaadoor", sum := "f39e1a4ad9d5af034abe9897bf74e0096141c4912a5057e29a9e149b74efb752", func := "loop.example/g01005/laws.FnExactHeightOf", spec := "fnExactHeightOf", unfollowed := true, recurses := true, named := ["math/bits.deBruijn32tab"], apart := false, laid := [("math/bits.deBruijn32tab", laid_math_bits_deBruijn32tab)] }
def FnExactHeightOfSaid : Prop := fnExactHeightOfRow.holds Tryd.pinned (OpenSpec.ofChange fnExactHeightOfSpec)

/-- ITS FALSE NEIGHBOUR: 'it returns false'. Refute it at one input. -/
def fnExactHeightOfWrong : ChangeSpec := { name := "fnExactHeightOf", fn := fun _ => fun
  | [d] => { results := [.lit (.bool false)], args := [d] }
  | _ => none }
def FnExactHeightOfWrongFalsely : Prop := fnExactHeightOfRow.holds Tryd.pinned (OpenSpec.ofChange fnExactHeightOfWrong)

/-- 'laws.FnExactWidthOf': WHATEVER THE INPUT: true; the input reads as it did. -/
def fnExactWidthOfSpec : ChangeSpec := { name := "fnExactWidthOf", fn := fun _ => fun
  | [d] => { results := [.lit (.bool true)], args := [d] }
  | _ => none }
def fnExactWidthOfRow : OpenClaim := { program := "ytdihcmohpbgmmaadoor", sum := "f39e1a4ad9d5af034abe9897bf74e0096141c4912a5057e29a9e149b74efb752", func := "loop.example/g01005/laws.FnExactWidthOf", spec := "fnExactWidthOf", unfollowed := true, recurses := true, named := ["math/bits.deBruijn32tab"], apart := false, laid := [("math/bits.deBruijn32tab", laid_math_bits_deBruijn32tab)] }
def FnExactWidthOfSaid : Prop := fnExactWidthOfRow.holds Tryd.pinned (OpenSpec.ofChange fnExactWidthOfSpec)

/-- ITS FALSE NEIGHBOUR: 'it returns false'. Refute it at one input. -/
def fnExactWidthOfWrong : ChangeSpec := { name := "fnExactWidthOf", fn := fun _ => fun
  | [d] => { results := [.lit (.bool false)], args := [d] }
  | _ => none }
def FnExactWidthOfWrongFalsely : Prop := fnExactWidthOfRow.holds Tryd.pinned (OpenSpec.ofChange fnExactWidthOfWrong)

/-- 'laws.FnExactIdealOf': WHATEVER THE INPUT: true; the input reads as it did. -/
def fnExactIdealOfSpec : ChangeSpec := { name := "fnExactIdealOf", fn := fun _ => fun
  | [d1, d2] => { results := [.lit (.bool true)], args := [d1, d2] }
  | _ => none }
def fnExactIdealOfRow : OpenClaim := { program := "ytdihcmohpbgmmaadoor", sum := "f39e1a4ad9d5af034abe9897bf74e0096141c4912a5057e29a9e149b74efb752", func := "loop.example/g01005/laws.FnExactIdealOf", spec := "fnExactIdealOf", unfollowed := true, recurses := true, named := ["math/bits.deBruijn32tab"], apart := false, laid := [("math/bits.deBruijn32tab", laid_math_bits_deBruijn32tab)] }
def FnExactIdealOfSaid : Prop := fnExactIdealOfRow.holds Tryd.pinned (OpenSpec.ofChange fnExactIdealOfSpec)

/-- ITS FALSE NEIGHBOUR: 'it returns false'. Refute it at one input. -/
def fnExactIdealOfWrong : ChangeSpec := { name := "fnExactIdealOf", fn := fun _ => fun
  | [d1, d2] => { results := [.lit (.bool false)], args := [d1, d2] }
  | _ => none }
def FnExactIdealOfWrongFalsely : Prop := fnExactIdealOfRow.holds Tryd.pinned (OpenSpec.ofChange fnExactIdealOfWrong)

/-- 'laws.FnExactCountIdeals': WHATEVER THE INPUT: true; the input reads as it did. -/
def fnExactCountIdealsSpec : ChangeSpec := { name := "fnExactCountIdeals", fn := fun _ => fun
  | [d] => { results := [.lit (.bool true)], args := [d] }
  | _ => none }
def fnExactCountIdealsRow : OpenClaim := { program := "ytdihcmohpbgmmaadoor", sum := "f39e1a4ad9d5af034abe9897bf74e0096141c4912a5057e29a9e149b74efb752", func := "loop.example/g01005/laws.FnExactCountIdeals", spec := "fnExactCountIdeals", unfollowed := true, recurses := true, named := ["math/bits.deBruijn32tab"], apart := false, laid := [("math/bits.deBruijn32tab", laid_math_bits_deBruijn32tab)] }
def FnExactCountIdealsSaid : Prop := fnExactCountIdealsRow.holds Tryd.pinned (OpenSpec.ofChange fnExactCountIdealsSpec)

/-- ITS FALSE NEIGHBOUR: 'it returns false'. Refute it at one input. -/
def fnExactCountIdealsWrong : ChangeSpec := { name := "fnExactCountIdeals", fn := fun _ => fun
  | [d] => { results := [.lit (.bool false)], args := [d] }
  | _ => none }
def FnExactCountIdealsWrongFalsely : Prop := fnExactCountIdealsRow.holds Tryd.pinned (OpenSpec.ofChange fnExactCountIdealsWrong)

/-- 'laws.FnExactCountExtensions': WHATEVER THE INPUT: true; the input reads as it did. -/
def fnExactCountExtensionsSpec : ChangeSpec := { name := "fnExactCountExtensions", fn := fun _ => fun
  | [d] => { results := [.lit (.bool true)], args := [d] }
  | _ => none }
def fnExactCountExtensionsRow : OpenClaim := { program := "ytdihcmohpbgmmaadoor", sum := "f39e1a4ad9d5af034abe9897bf74e0096141c4912a5057e29a9e149b74efb752", func := "loop.example/g01005/laws.FnExactCountExtensions", spec := "fnExactCountExtensions", unfollowed := true, recurses := true, named := ["math/bits.deBruijn32tab"], apart := false, laid := [("math/bits.deBruijn32tab", laid_math_bits_deBruijn32tab)] }
def FnExactCountExtensionsSaid : Prop := fnExactCountExtensionsRow.holds Tryd.pinned (OpenSpec.ofChange fnExactCountExtensionsSpec)

/-- ITS FALSE NEIGHBOUR: 'it returns false'. Refute it at one input. -/
def fnExactCountExtensionsWrong : ChangeSpec := { name := "fnExactCountExtensions", fn := fun _ => fun
  | [d] => { results := [.lit (.bool false)], args := [d] }
  | _ => none }
def FnExactCountExtensionsWrongFalsely : Prop := fnExactCountExtensionsRow.holds Tryd.pinned (OpenSpec.ofChange fnExactCountExtensionsWrong)

/-- 'laws.FnExactFirstExtension': WHATEVER THE INPUT: true; the input reads as it did. -/
def fnExactFirstExtensionSpec : ChangeSpec := { name := "fnExactFirstExtension", fn := fun _ => fun
  | [d] => { results := [.lit (.bool true)], args := [d] }
  | _ => none }
def fnExactFirstExtensionRow : OpenClaim := { program := "ytdihcmohpbgmmaadoor", sum := "f39e1a4ad9d5af034abe9897bf74e0096141c4912a5057e29a9e149b74efb752", func := "loop.example/g01005/laws.FnExactFirstExtension", spec := "fnExactFirstExtension", unfollowed := true, recurses := true, named := ["math/bits.deBruijn32tab"], apart := false, laid := [("math/bits.deBruijn32tab", laid_math_bits_deBruijn32tab)] }
def FnExactFirstExtensionSaid : Prop := fnExactFirstExtensionRow.holds Tryd.pinned (OpenSpec.ofChange fnExactFirstExtensionSpec)

/-- ITS FALSE NEIGHBOUR: 'it returns false'. Refute it at one input. -/
def fnExactFirstExtensionWrong : ChangeSpec := { name := "fnExactFirstExtension", fn := fun _ => fun
  | [d] => { results := [.lit (.bool false)], args := [d] }
  | _ => none }
def FnExactFirstExtensionWrongFalsely : Prop := fnExactFirstExtensionRow.holds Tryd.pinned (OpenSpec.ofChange fnExactFirstExtensionWrong)

/-- 'laws.FnExactMoebiusOf': WHATEVER THE INPUT: true; the input reads as it did. -/
def fnExactMoebiusOfSpec : ChangeSpec := { name := "fnExactMoebiusOf", fn := fun _ => fun
  | [d1, d2, d3] => { results := [.lit (.bool true)], args := [d1, d2, d3] }
  | _ => none }
def fnExactMoebiusOfRow : OpenClaim := { program := "ytdihcmohpbgmmaadoor", sum := "f39e1a4ad9d5af034abe9897bf74e0096141c4912a5057e29a9e149b74efb752", func := "loop.example/g01005/laws.FnExactMoebiusOf", spec := "fnExactMoebiusOf", unfollowed := true, recurses := true, named := ["math/bits.deBruijn32tab"], apart := false, laid := [("math/bits.deBruijn32tab", laid_math_bits_deBruijn32tab)] }
def FnExactMoebiusOfSaid : Prop := fnExactMoebiusOfRow.holds Tryd.pinned (OpenSpec.ofChange fnExactMoebiusOfSpec)

/-- ITS FALSE NEIGHBOUR: 'it returns false'. Refute it at one input. -/
def fnExactMoebiusOfWrong : ChangeSpec := { name := "fnExactMoebiusOf", fn := fun _ => fun
  | [d1, d2, d3] => { results := [.lit (.bool false)], args := [d1, d2, d3] }
  | _ => none }
def FnExactMoebiusOfWrongFalsely : Prop := fnExactMoebiusOfRow.holds Tryd.pinned (OpenSpec.ofChange fnExactMoebiusOfWrong)

/-- 'laws.FnExactDualPoset': WHATEVER THE INPUT: true; the input reads as it did. -/
def fnExactDualPosetSpec : ChangeSpec := { name := "fnExactDualPoset", fn := fun _ => fun
  | [d] => { results := [.lit (.bool true)], args := [d] }
  | _ => none }
def fnExactDualPosetRow : OpenClaim := { program := "ytdihcmohpbgmmaadoor", sum := "f39e1a4ad9d5af034abe9897bf74e0096141c4912a5057e29a9e149b74efb752", func := "loop.example/g01005/laws.FnExactDualPoset", spec := "fnExactDualPoset", inPlace := ["internal/reflectlite.ValueOf", "internal/reflectlite.Swapper", "(internal/reflectlite.Value).Len"], unfollowed := true, recurses := true, named := ["math/bits.deBruijn32tab"], apart := false, laid := [("math/bits.deBruijn32tab", laid_math_bits_deBruijn32tab)] }
def FnExactDualPosetSaid : Prop := fnExactDualPosetRow.holds Tryd.pinned (OpenSpec.ofChange fnExactDualPosetSpec)

/-- ITS FALSE NEIGHBOUR: 'it returns false'. Refute it at one input. -/
def fnExactDualPosetWrong : ChangeSpec := { name := "fnExactDualPoset", fn := fun _ => fun
  | [d] => { results := [.lit (.bool false)], args := [d] }
  | _ => none }
def FnExactDualPosetWrongFalsely : Prop := fnExactDualPosetRow.holds Tryd.pinned (OpenSpec.ofChange fnExactDualPosetWrong)

/- THE SECOND FORM. 'bulk': how many values and letters a reading holds, each counted each time it is reached (what is shared counts as often as it is met; a slice's spare places count too). A statement '..UptoSaid' is the law's where the arguments, and the package variables that the reading takes, are together of bulk at most 1048576: NARROWER than '..Said'. Prove '..Said' where nothing that the law and all that it calls make is longer than what came in: it says more and counts as full. Else prove '..UptoSaid'. A law counts once. -/
mutual
def uptoBulk {H : Type} : DataW H → Nat
  | .lit (.string bytes) => bytes.length + 1
  | .lit _ => 1
  | .nil => 1
  | .ptr d => uptoBulk d + 1
  | .slice elems spare => uptoBulkAll elems + uptoBulkAll spare + 1
  | .agg parts => uptoBulkAll parts + 1
  | .iface _ d => uptoBulk d + 1
  | .map entries => uptoBulkEntries entries + 1
  | .held _ => 1
def uptoBulkAll {H : Type} : List (DataW H) → Nat
  | [] => 0
  | d :: r => uptoBulk d + uptoBulkAll r
def uptoBulkEntries {H : Type} : List (Lit × DataW H) → Nat
  | [] => 0
  | x :: r => uptoBulkEntry x + uptoBulkEntries r
def uptoBulkEntry {H : Type} : Lit × DataW H → Nat
  | (.string bytes, d) => bytes.length + uptoBulk d + 1
  | (_, d) => uptoBulk d + 1
 end
def uptoSmall : (H : Type) → List (DataW H) → Bool := fun _ ds => decide (uptoBulkAll ds ≤ 1048576)
def OpenSpec.upto (s : _root_.Go.ChangeSpec) : _root_.Go.OpenSpec := { _root_.Go.OpenSpec.ofChange s with cond := some uptoSmall }

/-- 'laws.FnExactValidPoset', WHERE WHAT IT READS IS OF BULK AT MOST 1048576: true; the input reads as it did. -/
def fnExactValidPosetUptoRow : OpenClaim := { program := "ytdihcmohpbgmmaadoor", sum := "f39e1a4ad9d5af034abe9897bf74e0096141c4912a5057e29a9e149b74efb752", func := "loop.example/g01005/laws.FnExactValidPoset", spec := "fnExactValidPoset", unfollowed := true, recurses := true, named := ["math/bits.deBruijn32tab"], apart := false, laid := [("math/bits.deBruijn32tab", laid_math_bits_deBruijn32tab)], narrowed := true }
def FnExactValidPosetUptoSaid : Prop := fnExactValidPosetUptoRow.holds Tryd.pinned (OpenSpec.upto fnExactValidPosetSpec)

/-- 'laws.FnExactPosetOf', WHERE WHAT IT READS IS OF BULK AT MOST 1048576: true; the input reads as it did. -/
def fnExactPosetOfUptoRow : OpenClaim := { program := "ytdihcmohpbgmmaadoor", sum := "f39e1a4ad9d5af034abe9897bf74e0096141c4912a5057e29a9e149b74efb752", func := "loop.example/g01005/laws.FnExactPosetOf", spec := "fnExactPosetOf", named := ["math/bits.deBruijn32tab"], apart := false, laid := [("math/bits.deBruijn32tab", laid_math_bits_deBruijn32tab)], narrowed := true }
def FnExactPosetOfUptoSaid : Prop := fnExactPosetOfUptoRow.holds Tryd.pinned (OpenSpec.upto fnExactPosetOfSpec)

/-- 'laws.FnExactIsBelow', WHERE WHAT IT READS IS OF BULK AT MOST 1048576: true; the input reads as it did. -/
def fnExactIsBelowUptoRow : OpenClaim := { program := "ytdihcmohpbgmmaadoor", sum := "f39e1a4ad9d5af034abe9897bf74e0096141c4912a5057e29a9e149b74efb752", func := "loop.example/g01005/laws.FnExactIsBelow", spec := "fnExactIsBelow", unfollowed := true, recurses := true, named := ["math/bits.deBruijn32tab"], apart := false, laid := [("math/bits.deBruijn32tab", laid_math_bits_deBruijn32tab)], narrowed := true }
def FnExactIsBelowUptoSaid : Prop := fnExactIsBelowUptoRow.holds Tryd.pinned (OpenSpec.upto fnExactIsBelowSpec)

/-- 'laws.FnExactMinimalOf', WHERE WHAT IT READS IS OF BULK AT MOST 1048576: true; the input reads as it did. -/
def fnExactMinimalOfUptoRow : OpenClaim := { program := "ytdihcmohpbgmmaadoor", sum := "f39e1a4ad9d5af034abe9897bf74e0096141c4912a5057e29a9e149b74efb752", func := "loop.example/g01005/laws.FnExactMinimalOf", spec := "fnExactMinimalOf", unfollowed := true, recurses := true, named := ["math/bits.deBruijn32tab"], apart := false, laid := [("math/bits.deBruijn32tab", laid_math_bits_deBruijn32tab)], narrowed := true }
def FnExactMinimalOfUptoSaid : Prop := fnExactMinimalOfUptoRow.holds Tryd.pinned (OpenSpec.upto fnExactMinimalOfSpec)

/-- 'laws.FnExactHeightOf', WHERE WHAT IT READS IS OF BULK AT MOST 1048576: true; the input reads as it did. -/
def fnExactHeightOfUptoRow : OpenClaim := { program := "ytdihcmohpbgmmaadoor", sum := "f39e1a4ad9d5af034abe9897bf74e0096141c4912a5057e29a9e149b74efb752", func := "loop.example/g01005/laws.FnExactHeightOf", spec := "fnExactHeightOf", unfollowed := true, recurses := true, named := ["math/bits.deBruijn32tab"], apart := false, laid := [("math/bits.deBruijn32tab", laid_math_bits_deBruijn32tab)], narrowed := true }
def FnExactHeightOfUptoSaid : Prop := fnExactHeightOfUptoRow.holds Tryd.pinned (OpenSpec.upto fnExactHeightOfSpec)

/-- 'laws.FnExactWidthOf', WHERE WHAT IT READS IS OF BULK AT MOST 1048576: true; the input reads as it did. -/
def fnExactWidthOfUptoRow : OpenClaim := { program := "ytdihcmohpbgmmaadoor", sum := "f39e1a4ad9d5af034abe9897bf74e0096141c4912a5057e29a9e149b74efb752", func := "loop.example/g01005/laws.FnExactWidthOf", spec := "fnExactWidthOf", unfollowed := true, recurses := true, named := ["math/bits.deBruijn32tab"], apart := false, laid := [("math/bits.deBruijn32tab", laid_math_bits_deBruijn32tab)], narrowed := true }
def FnExactWidthOfUptoSaid : Prop := fnExactWidthOfUptoRow.holds Tryd.pinned (OpenSpec.upto fnExactWidthOfSpec)

/-- 'laws.FnExactIdealOf', WHERE WHAT IT READS IS OF BULK AT MOST 1048576: true; the input reads as it did. -/
def fnExactIdealOfUptoRow : OpenClaim := { program := "ytdihcmohpbgmmaadoor", sum := "f39e1a4ad9d5af034abe9897bf74e0096141c4912a5057e29a9e149b74efb752", func := "loop.example/g01005/laws.FnExactIdealOf", spec := "fnExactIdealOf", unfollowed := true, recurses := true, named := ["math/bits.deBruijn32tab"], apart := false, laid := [("math/bits.deBruijn32tab", laid_math_bits_deBruijn32tab)], narrowed := true }
def FnExactIdealOfUptoSaid : Prop := fnExactIdealOfUptoRow.holds Tryd.pinned (OpenSpec.upto fnExactIdealOfSpec)

/-- 'laws.FnExactCountIdeals', WHERE WHAT IT READS IS OF BULK AT MOST 1048576: true; the input reads as it did. -/
def fnExactCountIdealsUptoRow : OpenClaim := { program := "ytdihcmohpbgmmaadoor", sum := "f39e1a4ad9d5af034abe9897bf74e0096141c4912a5057e29a9e149b74efb752", func := "loop.example/g01005/laws.FnExactCountIdeals", spec := "fnExactCountIdeals", unfollowed := true, recurses := true, named := ["math/bits.deBruijn32tab"], apart := false, laid := [("math/bits.deBruijn32tab", laid_math_bits_deBruijn32tab)], narrowed := true }
def FnExactCountIdealsUptoSaid : Prop := fnExactCountIdealsUptoRow.holds Tryd.pinned (OpenSpec.upto fnExactCountIdealsSpec)

/-- 'laws.FnExactCountExtensions', WHERE WHAT IT READS IS OF BULK AT MOST 1048576: true; the input reads as it did. -/
def fnExactCountExtensionsUptoRow : OpenClaim := { program := "ytdihcmohpbgmmaadoor", sum := "f39e1a4ad9d5af034abe9897bf74e0096141c4912a5057e29a9e149b74efb752", func := "loop.example/g01005/laws.FnExactCountExtensions", spec := "fnExactCountExtensions", unfollowed := true, recurses := true, named := ["math/bits.deBruijn32tab"], apart := false, laid := [("math/bits.deBruijn32tab", laid_math_bits_deBruijn32tab)], narrowed := true }
def FnExactCountExtensionsUptoSaid : Prop := fnExactCountExtensionsUptoRow.holds Tryd.pinned (OpenSpec.upto fnExactCountExtensionsSpec)

/-- 'laws.FnExactFirstExtension', WHERE WHAT IT READS IS OF BULK AT MOST 1048576: true; the input reads as it did. -/
def fnExactFirstExtensionUptoRow : OpenClaim := { program := "ytdihcmohpbgmmaadoor", sum := "f39e1a4ad9d5af034abe9897bf74e0096141c4912a5057e29a9e149b74efb752", func := "loop.example/g01005/laws.FnExactFirstExtension", spec := "fnExactFirstExtension", unfollowed := true, recurses := true, named := ["math/bits.deBruijn32tab"], apart := false, laid := [("math/bits.deBruijn32tab", laid_math_bits_deBruijn32tab)], narrowed := true }
def FnExactFirstExtensionUptoSaid : Prop := fnExactFirstExtensionUptoRow.holds Tryd.pinned (OpenSpec.upto fnExactFirstExtensionSpec)

/-- 'laws.FnExactMoebiusOf', WHERE WHAT IT READS IS OF BULK AT MOST 1048576: true; the input reads as it did. -/
def fnExactMoebiusOfUptoRow : OpenClaim := { program := "ytdihcmohpbgmmaadoor", sum := "f39e1a4ad9d5af034abe9897bf74e0096141c4912a5057e29a9e149b74efb752", func := "loop.example/g01005/laws.FnExactMoebiusOf", spec := "fnExactMoebiusOf", unfollowed := true, recurses := true, named := ["math/bits.deBruijn32tab"], apart := false, laid := [("math/bits.deBruijn32tab", laid_math_bits_deBruijn32tab)], narrowed := true }
def FnExactMoebiusOfUptoSaid : Prop := fnExactMoebiusOfUptoRow.holds Tryd.pinned (OpenSpec.upto fnExactMoebiusOfSpec)

/-- 'laws.FnExactDualPoset', WHERE WHAT IT READS IS OF BULK AT MOST 1048576: true; the input reads as it did. -/
def fnExactDualPosetUptoRow : OpenClaim := { program := "ytdihcmohpbgmmaadoor", sum := "f39e1a4ad9d5af034abe9897bf74e0096141c4912a5057e29a9e149b74efb752", func := "loop.example/g01005/laws.FnExactDualPoset", spec := "fnExactDualPoset", inPlace := ["internal/reflectlite.ValueOf", "internal/reflectlite.Swapper", "(internal/reflectlite.Value).Len"], unfollowed := true, recurses := true, named := ["math/bits.deBruijn32tab"], apart := false, laid := [("math/bits.deBruijn32tab", laid_math_bits_deBruijn32tab)], narrowed := true }
def FnExactDualPosetUptoSaid : Prop := fnExactDualPosetUptoRow.holds Tryd.pinned (OpenSpec.upto fnExactDualPosetSpec)

end Rows
end Go.Proofs.YtdihcmohpbgmmaaDoor
