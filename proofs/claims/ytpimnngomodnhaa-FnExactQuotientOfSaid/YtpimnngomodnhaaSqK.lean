/-
  ComplementOf of the program.
-/
import Derived.Test.YtpimnngomodnhaaSqH
import Derived.Test.YtpimnngomodnhaaSpC
import Derived.Test.YtpimnngomodnhaaSpV
import Derived.Test.YtpimnngomodnhaaGbv
namespace Go.Proofs.Ytpimnngomodnhaa
open Go.RowKit
open Lin
set_option linter.unusedVariables false
set_option linter.unusedSectionVars false

/-- A list of rows of a matrix, by their slices. -/
theorem rows_some_of {q N M : Nat} [NeZero q] {B : Nat} {w : World} {v : Value} {ua : Option Addr} {uc : Nat} {fs : List Nat} (hv : IntsC w (.slice ua (N * N) uc) (flat N N (unitM : Mt q))) (hN : N ≤ 32) (hlt : ∀ k ∈ fs, k < N)
    (h : w.ownsRow B 24 1 v M (fs.map (rowW ua N uc))) (hM : fs.length = M) (hM2 : M ≤ 2097152) : RowsC w v M (rowL N (mat q (unitR q N fs))) := by
  refine RowsC.of_own h hM2 (by rw [List.length_map, hM]) fun i hi => ?_
  have hi' : i < fs.length := by rw [List.length_map] at hi; exact hi
  rw [List.getElem_map]
  have e : rowL N (unitM : Mt q) fs[i] = rowL N (mat q (unitR q N fs)) i := by
    refine vec_row (vecs_unitR q N fs _ (List.mem_map.2 ⟨fs[i], List.getElem_mem hi', rfl⟩)) _ i ?_
    unfold unitR
    rw [List.getElem?_map, List.getElem?_eq_getElem hi']
    rfl
  rw [← e]
  exact rowW_ints hv (by omega) (hlt _ (List.getElem_mem hi'))
end Go.Proofs.Ytpimnngomodnhaa
