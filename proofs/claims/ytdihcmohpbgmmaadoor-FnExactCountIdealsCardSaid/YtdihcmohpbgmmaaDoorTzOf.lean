/-
  What the rows' lists give the walks: the library's table behind TrailingZeros16.
-/
import Derived.Test.YtdihcmohpbgmmaaDoorRows
import Derived.Test.YtdihcmohpbgmmaaDoorPJ
import Derived.Stop.LaidErr
import Derived.Stop.Joined
import Derived.MakeChecks
namespace Go.Proofs.YtdihcmohpbgmmaaDoor
open Go.RowKit Go.ChangeShapes
set_option linter.unusedVariables false

theorem gTzType : (Tryd.prog.globals[0]?).map (·.type) = some 119 := by kernel_rfl
theorem cellsTz : Tryd.prog.cellsOf 119 = 32 := by kernel_rfl
theorem cellsU8 : Tryd.prog.cellsOf 5 = 1 := by kernel_rfl
theorem tz_of {r : List (String × DataW Unit)} {W : World} (h : laidMet Tryd.prog (("math/bits.deBruijn32tab", Rows.laid_math_bits_deBruijn32tab) :: r) W) : Tz W :=
  ⟨W.heap.size, Nat.le_refl _, Lib.tabBelow_of_tabIs (Lib.tabIs_of_head (zs := tzTab) gTz gTzType Tryd.underlying119 Tryd.underlying5 cellsU8 cellsTz h)⟩
end Go.Proofs.YtdihcmohpbgmmaaDoor
