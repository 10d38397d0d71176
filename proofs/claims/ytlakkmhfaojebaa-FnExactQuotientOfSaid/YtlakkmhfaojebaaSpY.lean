/-
  CoordinatesIn and ContainsVector of the model.
-/
import Derived.Test.YtlakkmhfaojebaaSpX
namespace Go.Proofs.Ytlakkmhfaojebaa
open Go.RowKit
open Lin
set_option linter.unusedVariables false
set_option linter.unusedSectionVars false

theorem vis_first {p n : Int} {zz : List (List Int)} {q : Nat} [NeZero q] {N r : Nat} {A : Mt q} (h : VIs p n zz q N r A) {t : Nat} (ht : t < r) : FirstAt (rowL N A t) ((red r A N).piv.getD t 0) ∧ (red r A N).piv.getD t 0 < N := by
  have hp : t < (red r A N).piv.length := by rw [h.piv]; exact ht
  obtain ⟨h1, h2, h3⟩ := red_first (fd_of h.pr) hp
  have hq2 : 2 ≤ q := by have := h.pr.1; omega
  rw [getD_at _ _ hp]
  refine ⟨⟨by rw [rowL_len]; exact h3, fun j hj => ?_, ?_⟩, h3⟩
  · rw [getD_in (by rw [rowL_len]; omega), rowL_at, ← h.red t j ht (by omega), h1 j hj]
    exact fv_zero
  · rw [getD_in (by rw [rowL_len]; exact h3), rowL_at, ← h.red t _ ht h3, h2, fv_one hq2]
    decide
end Go.Proofs.Ytlakkmhfaojebaa
