/-
  OrthogonalOf of the model and of the program.
-/
import Derived.Test.YtpimnngomodnhaaSpW
import Derived.Test.YtpimnngomodnhaaSpK
import Derived.Test.YtpimnngomodnhaaPC
namespace Go.Proofs.Ytpimnngomodnhaa
open Go.RowKit
open Lin
set_option linter.unusedVariables false
set_option linter.unusedSectionVars false

theorem vecs_kerOf {q : Nat} [NeZero q] (m n : Nat) (A : Mt q) : Vecs q n (kerOf m n A) := vecs_kerR n _ _ _
theorem kerOf_len {q : Nat} [NeZero q] (m n : Nat) (A : Mt q) : (kerOf m n A).length ≤ n := by unfold kerOf; rw [kerR_len]; exact freeL_len _ _
/-- The rows that are orthogonal to those of a matrix, reduced. -/
noncomputable def ortOf {q : Nat} [NeZero q] (m n : Nat) (A : Mt q) : List (List Int) := bas q n (kerOf m n A)
theorem fit_ortOf {q m n : Nat} [NeZero q] (hf : FldP q) (A : Mt q) (hn : n ≤ 1024) : FitR (ortOf m n A) := fit_bas hf hn _
/-- What OrthogonalOf answers. -/
def OrtRes (p n : Int) (zz : List (List Int)) (P N : Int) (Z : List (List Int)) (k : Int) : Prop :=
  (¬ VOk p n zz ∧ P = 0 ∧ N = 0 ∧ Z = [] ∧ k = 1) ∨ (k = 0 ∧ P = p ∧ N = n ∧ ∃ (q : Nat) (_ : NeZero q) (M r : Nat) (A : Mt q), VIs p n zz q M r A ∧ Z = ortOf r M A)
theorem ortRes_has (p n : Int) (zz : List (List Int)) : ∃ P N Z k, OrtRes p n zz P N Z k := by
  by_cases h : VOk p n zz
  · obtain ⟨q, i, N, r, A, hA⟩ := h.form
    exact ⟨_, _, _, _, .inr ⟨rfl, rfl, rfl, q, i, N, r, A, hA, rfl⟩⟩
  · exact ⟨_, _, _, _, .inl ⟨h, rfl, rfl, rfl, rfl⟩⟩
theorem OrtRes.fit {p n P N k : Int} {zz Z : List (List Int)} (h : OrtRes p n zz P N Z k) : FitR Z := by
  rcases h with ⟨_, _, _, rfl, _⟩ | ⟨_, _, _, q, _, M, r, A, hA, rfl⟩
  · exact FitR.nil
  · exact fit_ortOf (fd_of hA.pr) _ (by have := hA.n32; omega)
end Go.Proofs.Ytpimnngomodnhaa
