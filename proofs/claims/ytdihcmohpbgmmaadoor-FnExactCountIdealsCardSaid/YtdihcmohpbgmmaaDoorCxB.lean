/-
  ValidSimplex of the model and of the program.
-/
import Derived.Test.YtdihcmohpbgmmaaDoorPJ
import Derived.Test.YtdihcmohpbgmmaaDoorPB
import Derived.Deep.QuietTactic
import Derived.BigQuiet
import Derived.StillTactics
namespace Go.Proofs.YtdihcmohpbgmmaaDoor
open Go.RowKit
set_option linter.unusedVariables false

theorem within64_is {n lo hi : Int} {b : Bool} (w : World) (h : inB n lo hi = b) :
    Calls Tryd.prog 59 #[.int .i64 n, .int .i64 lo, .int .i64 hi] w fun e w' => e = .returned (.bool b) ∧ w = w' := by
  subst h
  by_cases h : lo ≤ n ∧ n ≤ hi
  · rw [inB_yes h.1 h.2]; exact within64_yes _ _ _ _ h.1 h.2
  · rw [inB_no (by omega)]; exact within64_no _ _ _ _ (by omega)
end Go.Proofs.YtdihcmohpbgmmaaDoor
