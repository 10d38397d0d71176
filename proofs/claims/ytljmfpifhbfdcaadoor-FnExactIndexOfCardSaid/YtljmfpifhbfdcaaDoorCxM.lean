/-
  Simplices as lists of numbers, plainly: increasing lists of one to four numbers from 0 to 9.
-/
import Derived.Test.YtljmfpifhbfdcaaDoorPA
namespace Go.Proofs.YtljmfpifhbfdcaaDoor
open Go.RowKit
set_option linter.unusedVariables false

/-- Whether a list rises from n on and ends at hi or below. -/
def risB (hi : Int) : Int → List Int → Bool
  | _, [] => true
  | n, v :: r => decide (n ≤ v ∧ v ≤ hi) && risB hi (v + 1) r
theorem risB_drop {hi n : Int} {l : List Int} {k : Nat} (h : k < l.length) : risB hi n (l.drop k) = (decide (n ≤ l[k] ∧ l[k] ≤ hi) && risB hi (l[k] + 1) (l.drop (k + 1))) := by
  rw [List.drop_eq_getElem_cons h]; rfl
theorem risB_end {hi n : Int} {l : List Int} {k : Nat} (h : l.length ≤ k) : risB hi n (l.drop k) = true := by
  rw [List.drop_eq_nil_of_le h]; rfl
/-- Where a list has to go on that has come to its k-th number. -/
def nxt (lo : Int) (l : List Int) : Nat → Int
  | 0 => lo
  | k + 1 => l.getD k 0 + 1
/-- Whether a list is a simplex. -/
def simB (l : List Int) : Bool := decide (1 ≤ l.length ∧ l.length ≤ 4) && risB 9 0 l
theorem simB_no {l : List Int} (h : l.length < 1 ∨ 4 < l.length) : simB l = false := by
  unfold simB
  rw [show decide (1 ≤ l.length ∧ l.length ≤ 4) = false from decide_eq_false (by omega)]; rfl
theorem simB_in {l : List Int} (h1 : 1 ≤ l.length) (h4 : l.length ≤ 4) : simB l = risB 9 0 l := by
  unfold simB
  rw [show decide (1 ≤ l.length ∧ l.length ≤ 4) = true from decide_eq_true ⟨h1, h4⟩]; rfl
end Go.Proofs.YtljmfpifhbfdcaaDoor
