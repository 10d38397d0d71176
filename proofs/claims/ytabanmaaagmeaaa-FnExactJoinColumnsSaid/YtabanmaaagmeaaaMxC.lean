/-
  A slice that reads as numbers, with its capacity: what slicing it again asks.
-/
import Derived.Test.YtabanmaaagmeaaaMxP
namespace Go.Proofs.Ytabanmaaagmeaaa
open Go.RowKit
set_option linter.unusedVariables false

/-- The numbers of a slice, and that its capacity is right. -/
def IntsC (w : World) (v : Value) (zs : List Int) : Prop :=
  IntsAt w v zs ∧ ∃ a cap, v = .slice a zs.length cap ∧ zs.length ≤ cap ∧ cap ≤ maxLen ∧ ((a = none ∧ cap = 0) ∨ ∃ g off, a = some ⟨g, off, none⟩)
theorem IntsC.on {w w' : World} {v : Value} {zs : List Int} (h : IntsC w v zs) (hb : Below w.heap.size w w') : IntsC w' v zs := ⟨h.1.on hb, h.2⟩
theorem IntsC.drew {w : World} {v : Value} {zs : List Int} (h : IntsC w v zs) : IntsC w.drew v zs := ⟨IntsAt.drew h.1, h.2⟩
theorem OwnI.atC {B : Nat} {w : World} {v : Value} {zs : List Int} (h : OwnI B w v zs) (hl : zs.length ≤ 1048576) : IntsC w v zs := by
  refine ⟨h.at hl, ?_⟩
  obtain ⟨hx, ⟨rfl, hn⟩ | ⟨g, cap, cur, rfl, _, _, h1, h2, _⟩⟩ := h
  · exact ⟨none, 0, by rw [hn], by omega, Nat.zero_le _, .inl ⟨rfl, rfl⟩⟩
  · exact ⟨_, cap, rfl, h1, h2, .inr ⟨g, 0, rfl⟩⟩
theorem OwnX.atC {B E : Nat} {w : World} {v : Value} {zs : List Int} (h : OwnX B E w v zs) (hl : zs.length ≤ 1048576) : IntsC w v zs := h.1.atC hl
end Go.Proofs.Ytabanmaaagmeaaa
