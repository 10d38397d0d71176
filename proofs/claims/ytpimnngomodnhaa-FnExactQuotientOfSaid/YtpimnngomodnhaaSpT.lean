/-
  l03Solve and Solve of the model.
-/
import Derived.Test.YtpimnngomodnhaaSpS
namespace Go.Proofs.Ytpimnngomodnhaa
open Go.RowKit
open Lin
set_option linter.unusedVariables false
set_option linter.unusedSectionVars false

/-- A list of numbers and whether there is one. -/
def RetSB (zs : List Int) (T : Bool) (w : World) (e : Ending) (w' : World) : Prop :=
  ∃ v, e = .returned (.tuple #[v, .bool T]) ∧ OwnI w.heap.size w' v zs ∧ Below w.heap.size w w'
/-- What the model's solution is. -/
def SysB {q : Nat} [NeZero q] (m n : Nat) (s : St q) (Z : List Int) (T : Bool) : Prop := (Solv m n s ∧ Z = solL n s ∧ T = true) ∨ (¬ Solv m n s ∧ Z = [] ∧ T = false)
theorem SysRes.bool {q m n : Nat} [NeZero q] {s : St q} {Z : List Int} {k : Int} (h : SysRes m n s Z k) : (SysB m n s Z true ∧ k = 0) ∨ (SysB m n s Z false ∧ Z = [] ∧ k = 3) := by
  rcases h with ⟨h, rfl, rfl⟩ | ⟨h, rfl, rfl⟩
  · exact .inl ⟨.inl ⟨h, rfl, rfl⟩, rfl⟩
  · exact .inr ⟨.inr ⟨h, rfl, rfl⟩, rfl, rfl⟩
theorem join_sys {q : Nat} [NeZero q] (n : Nat) (A : Mt q) (b : Nat → Fin q) : join n A (fun i _ => b i) = Lin.sys n A b := rfl
theorem bL_flat {q : Nat} [NeZero q] (m : Nat) (b : Nat → Fin q) : bL m b = flat m 1 (fun i _ => b i) := by
  refine List.ext_getElem (by rw [bL_len, flat_len, Nat.mul_one]) fun i h1 h2 => ?_
  rw [bL_at]
  have h := flat_ij m 1 (fun i _ => b i) (i := i) (j := 0) (by rw [bL_len] at h1; exact h1) (by omega)
  simp only [Nat.mul_one, Nat.add_zero] at h
  rw [h]
/-! ### Solve of the model -/
end Go.Proofs.Ytpimnngomodnhaa
