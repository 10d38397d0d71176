/-
  Contracts of the model's arithmetic modulo a prime: rests, powers, inverses, orders, roots, and the code for a prime and a number.
-/
import Derived.Test.YtpimnngomodnhaaPB
namespace Go.Proofs.Ytpimnngomodnhaa
open Go.RowKit
set_option linter.unusedVariables false

/-! ### Powers -/
theorem toNat_half {m : Int} (h : 0 ≤ m) : (m / 2).toNat = m.toNat / 2 := by omega

/-! ### Orders -/

/-! ### Roots -/

/-! ### The code for a prime and a number -/
/-- The first fault of a prime and a number: 1 no prime, 2 no number modulo it, 0 none. -/
def Ask (a p c : Int) : Prop := (¬ IsPr p ∧ c = 1) ∨ (IsPr p ∧ (a < 0 ∨ p - 1 < a) ∧ c = 2) ∨ (IsPr p ∧ 0 ≤ a ∧ a < p ∧ c = 0)
theorem ask_has (a p : Int) : ∃ c, Ask a p c := by
  by_cases hp : IsPr p
  · by_cases ha : a < 0 ∨ p - 1 < a
    · exact ⟨2, .inr (.inl ⟨hp, ha, rfl⟩)⟩
    · exact ⟨0, .inr (.inr ⟨hp, by omega, by omega, rfl⟩)⟩
  · exact ⟨1, .inl ⟨hp, rfl⟩⟩
end Go.Proofs.Ytpimnngomodnhaa
