/-
  Rows of numbers behind a draw and behind new memory.
-/
import Derived.Test.YtpimnngomodnhaaSpD
namespace Go.Proofs.Ytpimnngomodnhaa
open Go.RowKit
set_option linter.unusedVariables false

theorem RowsD.al {w : World} {v : Value} {zz : List (List Int)} {o : Obj} (h : RowsD w v zz) : RowsD (w.alloc o) v zz := h.on ((Below.refl _ _).alloc (Nat.le_refl _) o)
theorem RowsD.drew {w : World} {v : Value} {zz : List (List Int)} (h : RowsD w v zz) : RowsD w.drew v zz := h
end Go.Proofs.Ytpimnngomodnhaa
