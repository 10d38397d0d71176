/-
  ValidSimplex of the model: l00Rises, l05Simplex.
-/
import Derived.Test.YtdihcmohpbgmmaaDoorCxB
namespace Go.Proofs.YtdihcmohpbgmmaaDoor
open Go.RowKit
set_option linter.unusedVariables false

theorem l00In_q {n lo hi : Int} {b : Bool} (w : World) (h : inB n lo hi = b) :
    Calls Tryd.prog 55 #[.int .i64 n, .int .i64 lo, .int .i64 hi] w fun e w' => e = .returned (.bool b) ∧ w' = w := (l00In_is w h).mono fun _ _ ⟨a, b⟩ => ⟨a, b.symm⟩
end Go.Proofs.YtdihcmohpbgmmaaDoor
