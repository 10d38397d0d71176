/-
  A basis is reduced. Small and shared.
-/
import Derived.Test.YtpimnngomodnhaaSpL
namespace Go.Proofs.Ytpimnngomodnhaa
open Go.RowKit
open Lin
set_option linter.unusedVariables false
set_option linter.unusedSectionVars false

section
variable {q : Nat} [NeZero q]
/-- A basis is reduced. -/
theorem vis_basOf (hq : IsPr (q : Int)) {N : Nat} (hN : N ≤ 32) (m : Nat) (A : Mt q) : VIs q N (basOf m N A) q N (red m A N).piv.length (red m A N).A := by
  have hf := fd_of hq
  obtain ⟨h1, h2⟩ := red_idem hf m N A
  exact ⟨rfl, rfl, hq, hN, by unfold basOf; rw [rowsOf_len], rfl, by rw [h1], h2, piv_le_cols hf m N A⟩
end
end Go.Proofs.Ytpimnngomodnhaa
