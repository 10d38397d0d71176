/-
  No cell of these rows narrows 'for every input' (looked for: loops, veiled, ifaces, maps, wideKeys, modest, calm, conditions, laid).
  DERIVED. THE GIVEN ROWS OF THIS SEAT. 7 by the template 'for every input the law returns true; each argument reads behind the call as it read before'; 0 by the template 'total and deterministic' (their statements: YtcfmoafjkgmjdaaTotals.lean).
  GIVEN WITH THE SEED: the statements are not yours to turn. If you find one false, say at which input.
  Laid BY PROGRAM, IN A SANDBOX (cutbox-rows.mjs): the forced cells as the released guide's own fill.sh prints them over the translation dae44609a894a5bf… (all of the seat's roots in one cut). By AI agents, Wed Nov 11 2026. No macro, syntax, notation, axiom, sorry.
-/
import Derived.Test.YtcfmoafjkgmjdaaChecked
import GoSem.Claim
import GoSem.ClaimJoined
import GoSem.ClaimMapViews
import Derived.JoinedTies
import Derived.KernelRfl
namespace Go.Proofs.Ytcfmoafjkgmjdaa
/- THE CELL 'sum', in the pinned program and in every row, IS THE sha256 OF THE DUMP (.gsa) THAT YtcfmoafjkgmjdaaProg.lean LOADS. Nothing in Lean hashes anything: it is a label: what it is worth is what the hold of that sum in a sandbox is worth. -/
noncomputable def Try.pinned : Pinned := { name := "ytcfmoafjkgmjdaa", sum := "dae44609a894a5bfe220dbb2774e86e5f86f6a918cacb7fd2cbcb791a5f78b48", checked := Try.checked }
namespace Rows
def none {H : Type} : Left H := { results := [], args := [] }

/-- 'laws.FnExactValidSimplex': WHATEVER THE INPUT: true; the input reads as it did. -/
def fnExactValidSimplexSpec : ChangeSpec := { name := "fnExactValidSimplex", fn := fun _ => fun
  | [d] => { results := [.lit (.bool true)], args := [d] }
  | _ => none }
def fnExactValidSimplexRow : OpenClaim := { program := "ytcfmoafjkgmjdaa", sum := "dae44609a894a5bfe220dbb2774e86e5f86f6a918cacb7fd2cbcb791a5f78b48", func := "loop.example/g01005/laws.FnExactValidSimplex", spec := "fnExactValidSimplex", apart := false }
def FnExactValidSimplexSaid : Prop := fnExactValidSimplexRow.holds Try.pinned (OpenSpec.ofChange fnExactValidSimplexSpec)

/-- ITS FALSE NEIGHBOUR: 'it returns false'. Refute it at one input. -/
def fnExactValidSimplexWrong : ChangeSpec := { name := "fnExactValidSimplex", fn := fun _ => fun
  | [d] => { results := [.lit (.bool false)], args := [d] }
  | _ => none }
def FnExactValidSimplexWrongFalsely : Prop := fnExactValidSimplexRow.holds Try.pinned (OpenSpec.ofChange fnExactValidSimplexWrong)

/-- 'laws.FnExactSameComplex': WHATEVER THE INPUT: true; the input reads as it did. -/
def fnExactSameComplexSpec : ChangeSpec := { name := "fnExactSameComplex", fn := fun _ => fun
  | [d1, d2] => { results := [.lit (.bool true)], args := [d1, d2] }
  | _ => none }
def fnExactSameComplexRow : OpenClaim := { program := "ytcfmoafjkgmjdaa", sum := "dae44609a894a5bfe220dbb2774e86e5f86f6a918cacb7fd2cbcb791a5f78b48", func := "loop.example/g01005/laws.FnExactSameComplex", spec := "fnExactSameComplex", unfollowed := true, recurses := true, apart := false }
def FnExactSameComplexSaid : Prop := fnExactSameComplexRow.holds Try.pinned (OpenSpec.ofChange fnExactSameComplexSpec)

/-- ITS FALSE NEIGHBOUR: 'it returns false'. Refute it at one input. -/
def fnExactSameComplexWrong : ChangeSpec := { name := "fnExactSameComplex", fn := fun _ => fun
  | [d1, d2] => { results := [.lit (.bool false)], args := [d1, d2] }
  | _ => none }
def FnExactSameComplexWrongFalsely : Prop := fnExactSameComplexRow.holds Try.pinned (OpenSpec.ofChange fnExactSameComplexWrong)

/-- 'laws.FnExactValidComplex': WHATEVER THE INPUT: true; the input reads as it did. -/
def fnExactValidComplexSpec : ChangeSpec := { name := "fnExactValidComplex", fn := fun _ => fun
  | [d] => { results := [.lit (.bool true)], args := [d] }
  | _ => none }
def fnExactValidComplexRow : OpenClaim := { program := "ytcfmoafjkgmjdaa", sum := "dae44609a894a5bfe220dbb2774e86e5f86f6a918cacb7fd2cbcb791a5f78b48", func := "loop.example/g01005/laws.FnExactValidComplex", spec := "fnExactValidComplex", inPlace := ["internal/reflectlite.ValueOf", "internal/reflectlite.Swapper", "(internal/reflectlite.Value).Len"], unfollowed := true, recurses := true, apart := false }
def FnExactValidComplexSaid : Prop := fnExactValidComplexRow.holds Try.pinned (OpenSpec.ofChange fnExactValidComplexSpec)

/-- ITS FALSE NEIGHBOUR: 'it returns false'. Refute it at one input. -/
def fnExactValidComplexWrong : ChangeSpec := { name := "fnExactValidComplex", fn := fun _ => fun
  | [d] => { results := [.lit (.bool false)], args := [d] }
  | _ => none }
def FnExactValidComplexWrongFalsely : Prop := fnExactValidComplexRow.holds Try.pinned (OpenSpec.ofChange fnExactValidComplexWrong)

/-- 'laws.FnExactClosureOf': WHATEVER THE INPUT: true; the input reads as it did. -/
def fnExactClosureOfSpec : ChangeSpec := { name := "fnExactClosureOf", fn := fun _ => fun
  | [d] => { results := [.lit (.bool true)], args := [d] }
  | _ => none }
def fnExactClosureOfRow : OpenClaim := { program := "ytcfmoafjkgmjdaa", sum := "dae44609a894a5bfe220dbb2774e86e5f86f6a918cacb7fd2cbcb791a5f78b48", func := "loop.example/g01005/laws.FnExactClosureOf", spec := "fnExactClosureOf", inPlace := ["internal/reflectlite.ValueOf", "internal/reflectlite.Swapper", "(internal/reflectlite.Value).Len"], unfollowed := true, recurses := true, apart := false }
def FnExactClosureOfSaid : Prop := fnExactClosureOfRow.holds Try.pinned (OpenSpec.ofChange fnExactClosureOfSpec)

/-- ITS FALSE NEIGHBOUR: 'it returns false'. Refute it at one input. -/
def fnExactClosureOfWrong : ChangeSpec := { name := "fnExactClosureOf", fn := fun _ => fun
  | [d] => { results := [.lit (.bool false)], args := [d] }
  | _ => none }
def FnExactClosureOfWrongFalsely : Prop := fnExactClosureOfRow.holds Try.pinned (OpenSpec.ofChange fnExactClosureOfWrong)

/-- 'laws.FnExactIndexOf': WHATEVER THE INPUT: true; the input reads as it did. -/
def fnExactIndexOfSpec : ChangeSpec := { name := "fnExactIndexOf", fn := fun _ => fun
  | [d1, d2] => { results := [.lit (.bool true)], args := [d1, d2] }
  | _ => none }
def fnExactIndexOfRow : OpenClaim := { program := "ytcfmoafjkgmjdaa", sum := "dae44609a894a5bfe220dbb2774e86e5f86f6a918cacb7fd2cbcb791a5f78b48", func := "loop.example/g01005/laws.FnExactIndexOf", spec := "fnExactIndexOf", inPlace := ["internal/reflectlite.ValueOf", "internal/reflectlite.Swapper", "(internal/reflectlite.Value).Len"], unfollowed := true, recurses := true, apart := false }
def FnExactIndexOfSaid : Prop := fnExactIndexOfRow.holds Try.pinned (OpenSpec.ofChange fnExactIndexOfSpec)

/-- ITS FALSE NEIGHBOUR: 'it returns false'. Refute it at one input. -/
def fnExactIndexOfWrong : ChangeSpec := { name := "fnExactIndexOf", fn := fun _ => fun
  | [d1, d2] => { results := [.lit (.bool false)], args := [d1, d2] }
  | _ => none }
def FnExactIndexOfWrongFalsely : Prop := fnExactIndexOfRow.holds Try.pinned (OpenSpec.ofChange fnExactIndexOfWrong)

/-- 'laws.FnExactSimplicesOf': WHATEVER THE INPUT: true; the input reads as it did. -/
def fnExactSimplicesOfSpec : ChangeSpec := { name := "fnExactSimplicesOf", fn := fun _ => fun
  | [d1, d2] => { results := [.lit (.bool true)], args := [d1, d2] }
  | _ => none }
def fnExactSimplicesOfRow : OpenClaim := { program := "ytcfmoafjkgmjdaa", sum := "dae44609a894a5bfe220dbb2774e86e5f86f6a918cacb7fd2cbcb791a5f78b48", func := "loop.example/g01005/laws.FnExactSimplicesOf", spec := "fnExactSimplicesOf", inPlace := ["internal/reflectlite.ValueOf", "internal/reflectlite.Swapper", "(internal/reflectlite.Value).Len"], unfollowed := true, recurses := true, apart := false }
def FnExactSimplicesOfSaid : Prop := fnExactSimplicesOfRow.holds Try.pinned (OpenSpec.ofChange fnExactSimplicesOfSpec)

/-- ITS FALSE NEIGHBOUR: 'it returns false'. Refute it at one input. -/
def fnExactSimplicesOfWrong : ChangeSpec := { name := "fnExactSimplicesOf", fn := fun _ => fun
  | [d1, d2] => { results := [.lit (.bool false)], args := [d1, d2] }
  | _ => none }
def FnExactSimplicesOfWrongFalsely : Prop := fnExactSimplicesOfRow.holds Try.pinned (OpenSpec.ofChange fnExactSimplicesOfWrong)

/-- 'laws.FnExactEulerNumber': WHATEVER THE INPUT: true; the input reads as it did. -/
def fnExactEulerNumberSpec : ChangeSpec := { name := "fnExactEulerNumber", fn := fun _ => fun
  | [d] => { results := [.lit (.bool true)], args := [d] }
  | _ => none }
def fnExactEulerNumberRow : OpenClaim := { program := "ytcfmoafjkgmjdaa", sum := "dae44609a894a5bfe220dbb2774e86e5f86f6a918cacb7fd2cbcb791a5f78b48", func := "loop.example/g01005/laws.FnExactEulerNumber", spec := "fnExactEulerNumber", inPlace := ["internal/reflectlite.ValueOf", "internal/reflectlite.Swapper", "(internal/reflectlite.Value).Len"], unfollowed := true, recurses := true, apart := false }
def FnExactEulerNumberSaid : Prop := fnExactEulerNumberRow.holds Try.pinned (OpenSpec.ofChange fnExactEulerNumberSpec)

/-- ITS FALSE NEIGHBOUR: 'it returns false'. Refute it at one input. -/
def fnExactEulerNumberWrong : ChangeSpec := { name := "fnExactEulerNumber", fn := fun _ => fun
  | [d] => { results := [.lit (.bool false)], args := [d] }
  | _ => none }
def FnExactEulerNumberWrongFalsely : Prop := fnExactEulerNumberRow.holds Try.pinned (OpenSpec.ofChange fnExactEulerNumberWrong)

/- THE SECOND FORM. 'bulk': how many values and letters a reading holds, each counted each time it is reached (what is shared counts as often as it is met; a slice's spare places count too). A statement '..UptoSaid' is the law's where the arguments, and the package variables that the reading takes, are together of bulk at most 1048576: NARROWER than '..Said'. Prove '..Said' where nothing that the law and all that it calls make is longer than what came in: it says more and counts as full. Else prove '..UptoSaid'. A law counts once. -/
mutual
def uptoBulk {H : Type} : DataW H → Nat
  | .lit (.string bytes) => bytes.length + 1
  | .lit _ => 1
  | .nil => 1
  | .ptr d => uptoBulk d + 1
  | .slice elems spare => uptoBulkAll elems + uptoBulkAll spare + 1
  | .agg parts => uptoBulkAll parts + 1
  | .iface _ d => uptoBulk d + 1
  | .map entries => uptoBulkEntries entries + 1
  | .held _ => 1
def uptoBulkAll {H : Type} : List (DataW H) → Nat
  | [] => 0
  | d :: r => uptoBulk d + uptoBulkAll r
def uptoBulkEntries {H : Type} : List (Lit × DataW H) → Nat
  | [] => 0
  | x :: r => uptoBulkEntry x + uptoBulkEntries r
def uptoBulkEntry {H : Type} : Lit × DataW H → Nat
  | (.string bytes, d) => bytes.length + uptoBulk d + 1
  | (_, d) => uptoBulk d + 1
 end
def uptoSmall : (H : Type) → List (DataW H) → Bool := fun _ ds => decide (uptoBulkAll ds ≤ 1048576)
def OpenSpec.upto (s : _root_.Go.ChangeSpec) : _root_.Go.OpenSpec := { _root_.Go.OpenSpec.ofChange s with cond := some uptoSmall }

/-- 'laws.FnExactValidSimplex', WHERE WHAT IT READS IS OF BULK AT MOST 1048576: true; the input reads as it did. -/
def fnExactValidSimplexUptoRow : OpenClaim := { program := "ytcfmoafjkgmjdaa", sum := "dae44609a894a5bfe220dbb2774e86e5f86f6a918cacb7fd2cbcb791a5f78b48", func := "loop.example/g01005/laws.FnExactValidSimplex", spec := "fnExactValidSimplex", apart := false, narrowed := true }
def FnExactValidSimplexUptoSaid : Prop := fnExactValidSimplexUptoRow.holds Try.pinned (OpenSpec.upto fnExactValidSimplexSpec)

/-- 'laws.FnExactSameComplex', WHERE WHAT IT READS IS OF BULK AT MOST 1048576: true; the input reads as it did. -/
def fnExactSameComplexUptoRow : OpenClaim := { program := "ytcfmoafjkgmjdaa", sum := "dae44609a894a5bfe220dbb2774e86e5f86f6a918cacb7fd2cbcb791a5f78b48", func := "loop.example/g01005/laws.FnExactSameComplex", spec := "fnExactSameComplex", unfollowed := true, recurses := true, apart := false, narrowed := true }
def FnExactSameComplexUptoSaid : Prop := fnExactSameComplexUptoRow.holds Try.pinned (OpenSpec.upto fnExactSameComplexSpec)

/-- 'laws.FnExactValidComplex', WHERE WHAT IT READS IS OF BULK AT MOST 1048576: true; the input reads as it did. -/
def fnExactValidComplexUptoRow : OpenClaim := { program := "ytcfmoafjkgmjdaa", sum := "dae44609a894a5bfe220dbb2774e86e5f86f6a918cacb7fd2cbcb791a5f78b48", func := "loop.example/g01005/laws.FnExactValidComplex", spec := "fnExactValidComplex", inPlace := ["internal/reflectlite.ValueOf", "internal/reflectlite.Swapper", "(internal/reflectlite.Value).Len"], unfollowed := true, recurses := true, apart := false, narrowed := true }
def FnExactValidComplexUptoSaid : Prop := fnExactValidComplexUptoRow.holds Try.pinned (OpenSpec.upto fnExactValidComplexSpec)

/-- 'laws.FnExactClosureOf', WHERE WHAT IT READS IS OF BULK AT MOST 1048576: true; the input reads as it did. -/
def fnExactClosureOfUptoRow : OpenClaim := { program := "ytcfmoafjkgmjdaa", sum := "dae44609a894a5bfe220dbb2774e86e5f86f6a918cacb7fd2cbcb791a5f78b48", func := "loop.example/g01005/laws.FnExactClosureOf", spec := "fnExactClosureOf", inPlace := ["internal/reflectlite.ValueOf", "internal/reflectlite.Swapper", "(internal/reflectlite.Value).Len"], unfollowed := true, recurses := true, apart := false, narrowed := true }
def FnExactClosureOfUptoSaid : Prop := fnExactClosureOfUptoRow.holds Try.pinned (OpenSpec.upto fnExactClosureOfSpec)

/-- 'laws.FnExactIndexOf', WHERE WHAT IT READS IS OF BULK AT MOST 1048576: true; the input reads as it did. -/
def fnExactIndexOfUptoRow : OpenClaim := { program := "ytcfmoafjkgmjdaa", sum := "dae44609a894a5bfe220dbb2774e86e5f86f6a918cacb7fd2cbcb791a5f78b48", func := "loop.example/g01005/laws.FnExactIndexOf", spec := "fnExactIndexOf", inPlace := ["internal/reflectlite.ValueOf", "internal/reflectlite.Swapper", "(internal/reflectlite.Value).Len"], unfollowed := true, recurses := true, apart := false, narrowed := true }
def FnExactIndexOfUptoSaid : Prop := fnExactIndexOfUptoRow.holds Try.pinned (OpenSpec.upto fnExactIndexOfSpec)

/-- 'laws.FnExactSimplicesOf', WHERE WHAT IT READS IS OF BULK AT MOST 1048576: true; the input reads as it did. -/
def fnExactSimplicesOfUptoRow : OpenClaim := { program := "ytcfmoafjkgmjdaa", sum := "dae44609a894a5bfe220dbb2774e86e5f86f6a918cacb7fd2cbcb791a5f78b48", func := "loop.example/g01005/laws.FnExactSimplicesOf", spec := "fnExactSimplicesOf", inPlace := ["internal/reflectlite.ValueOf", "internal/reflectlite.Swapper", "(internal/reflectlite.Value).Len"], unfollowed := true, recurses := true, apart := false, narrowed := true }
def FnExactSimplicesOfUptoSaid : Prop := fnExactSimplicesOfUptoRow.holds Try.pinned (OpenSpec.upto fnExactSimplicesOfSpec)

/-- 'laws.FnExactEulerNumber', WHERE WHAT IT READS IS OF BULK AT MOST 1048576: true; the input reads as it did. -/
def fnExactEulerNumberUptoRow : OpenClaim := { program := "ytcfmoafjkgmjdaa", sum := "dae44609a894a5bfe220dbb2774e86e5f86f6a918cacb7fd2cbcb791a5f78b48", func := "loop.example/g01005/laws.FnExactEulerNumber", spec := "fnExactEulerNumber", inPlace := ["internal/reflectlite.ValueOf", "internal/reflectlite.Swapper", "(internal/reflectlite.Value).Len"], unfollowed := true, recurses := true, apart := false, narrowed := true }
def FnExactEulerNumberUptoSaid : Prop := fnExactEulerNumberUptoRow.holds Try.pinned (OpenSpec.upto fnExactEulerNumberSpec)

end Rows
end Go.Proofs.Ytcfmoafjkgmjdaa
