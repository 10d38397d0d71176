/-
  What a call leaves that writes one block alone: cells, variables, rows.
-/
import Derived.Test.YtpimnngomodnhaaSsA
import Derived.Test.YtpimnngomodnhaaPB
namespace Go.Proofs.Ytpimnngomodnhaa
open Go.RowKit
set_option linter.unusedVariables false
set_option linter.unusedSectionVars false

theorem row_slice {w : World} {B n : Nat} {t : TypeId} {v : Value} {L : List Value} (h : w.ownsRow B t 1 v n L) : ∃ a c, v = .slice a n c := by
  obtain ⟨_, ⟨h, h'⟩ | ⟨g, cap, cur, h, _⟩⟩ := h <;> exact ⟨_, _, by rw [h] <;> (try rw [h'])⟩
theorem own_made (w : World) (B n : Nat) (t : TypeId) (hn : n = w.heap.size) (hB : B ≤ n) : (w.alloc (.cells #[] t)).ownsRow B t 1 (.slice (some ⟨n, 0, none⟩) 0 0) 0 [] := by
  subst hn; exact World.ownsRow_made w #[] 0 hB (Nat.zero_le _) rfl
theorem Fz.gbv {a w : World} {L : Nat} {g : Option Nat} (h : Fz a L) (hL : L < a.heap.size) (hg : a.grownBy w g) (hne : ∀ k, g = some k → k ≠ L) : Fz w L := by
  rcases g with _ | k
  · exact h.on hL ⟨hg.os, hg.tape, hg.output, hg.size, fun i hi => hg.block i hi (by simp)⟩
  · exact h.gb hL hg (fun e => hne k rfl e.symm)
theorem gbv_cell {a w : World} {g : Option Nat} (hg : a.grownBy w g) {b : Nat} (hb : b < a.heap.size) (hne : ∀ k, g = some k → k ≠ b) (o : Nat) : w.cell? ⟨b, o, none⟩ = a.cell? ⟨b, o, none⟩ :=
  World.cell?_of_block (hg.block b hb (fun e => hne b e.symm rfl))
end Go.Proofs.Ytpimnngomodnhaa
