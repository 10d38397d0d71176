/-
  Contracts of the codes for a prime and a list of numbers, as the program finds them.
-/
import Derived.Test.YtpimnngomodnhaaPA
namespace Go.Proofs.Ytpimnngomodnhaa
open Go.RowKit
set_option linter.unusedVariables false

/-- None of the numbers is 0. -/
def NoZero (zs : List Int) : Prop := ∀ (j : Nat) (h : j < zs.length), zs[j] ≠ 0
/-- The code with a third one: 6 a number is 0. -/
def UnitCode (p : Int) (zs : List Int) (c : Int) : Prop := (¬ IsPr p ∧ c = 1) ∨ (IsPr p ∧ ¬ NumOk p zs ∧ c = 2) ∨ (IsPr p ∧ NumOk p zs ∧ ¬ NoZero zs ∧ c = 6) ∨ (IsPr p ∧ NumOk p zs ∧ NoZero zs ∧ c = 0)

/-! ### Lists that the call builds -/
theorem one_at (w : World) (a : Int) (t : TypeId) : IntsAt (w.alloc (.cells #[.int .i64 a] t)) (.slice (some ⟨w.heap.size, 0, none⟩) 1 1) [a] := by
  refine ⟨_, 1, rfl, by simp, .inr ⟨w.heap.size, 0, rfl, by simp, fun j hj => ?_⟩⟩
  obtain rfl : j = 0 := by simpa using hj
  rw [World.cell?_alloc_at _ _ _ _ rfl]; rfl
theorem two_at (w : World) (a b : Int) (t : TypeId) : IntsAt (w.alloc (.cells #[.int .i64 a, .int .i64 b] t)) (.slice (some ⟨w.heap.size, 0, none⟩) 2 2) [a, b] := by
  refine ⟨_, 2, rfl, by simp, .inr ⟨w.heap.size, 0, rfl, by simp, fun j hj => ?_⟩⟩
  rw [World.cell?_alloc_at _ _ _ _ rfl]
  have hj : j < 2 := by simpa using hj
  match j, hj with
  | 0, _ => rfl
  | 1, _ => rfl
theorem numOk_one (p a : Int) : NumOk p [a] ↔ 0 ≤ a ∧ a ≤ p - 1 := by
  constructor
  · intro h; exact h 0 (by simp)
  · intro h j hj; obtain rfl : j = 0 := by simpa using hj
    exact h
theorem noZero_one (a : Int) : NoZero [a] ↔ a ≠ 0 := by
  constructor
  · intro h; exact h 0 (by simp)
  · intro h j hj; obtain rfl : j = 0 := by simpa using hj
    exact h
theorem numOk_two (p a b : Int) : NumOk p [a, b] ↔ (0 ≤ a ∧ a ≤ p - 1) ∧ (0 ≤ b ∧ b ≤ p - 1) := by
  constructor
  · intro h; exact ⟨h 0 (by simp), h 1 (by simp)⟩
  · intro h j hj
    have hj : j < 2 := by simpa using hj
    match j, hj with
    | 0, _ => exact h.1
    | 1, _ => exact h.2
theorem noZero_two (a b : Int) : NoZero [a, b] ↔ a ≠ 0 ∧ b ≠ 0 := by
  constructor
  · intro h; exact ⟨h 0 (by simp), h 1 (by simp)⟩
  · intro h j hj
    have hj : j < 2 := by simpa using hj
    match j, hj with
    | 0, _ => exact h.1
    | 1, _ => exact h.2
end Go.Proofs.Ytpimnngomodnhaa
