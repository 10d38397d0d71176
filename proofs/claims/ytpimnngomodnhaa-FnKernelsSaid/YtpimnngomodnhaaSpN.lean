/-
  The columns of a matrix as rows, by the model.
-/
import Derived.Test.YtpimnngomodnhaaSpI
import Derived.Test.YtpimnngomodnhaaSpH
namespace Go.Proofs.Ytpimnngomodnhaa
open Go.RowKit
open Lin
set_option linter.unusedVariables false
set_option linter.unusedSectionVars false

/-- The first i numbers of the k-th column. -/
def colL {q : Nat} [NeZero q] (A : Mt q) (k i : Nat) : List Int := rowL i (turn A) k
theorem colL_succ {q : Nat} [NeZero q] (A : Mt q) (k i : Nat) : colL A k (i + 1) = colL A k i ++ [fv (A i k)] := by
  unfold colL rowL
  rw [List.range_succ, List.map_append]
  rfl
theorem colL_len {q : Nat} [NeZero q] (A : Mt q) (k i : Nat) : (colL A k i).length = i := rowL_len _ _ _
end Go.Proofs.Ytpimnngomodnhaa
