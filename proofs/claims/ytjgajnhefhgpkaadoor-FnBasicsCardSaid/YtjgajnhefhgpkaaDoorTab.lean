/-
  What the rows' lists give the walks: the table of powers of ten, and the two errors of the library.
-/
import Derived.Test.YtjgajnhefhgpkaaDoorRows
import Derived.Test.YtjgajnhefhgpkaaDoorDecimal
import Derived.Stop.LaidErr
import Derived.Stop.Joined
import Derived.MakeChecks
namespace Go.Proofs.YtjgajnhefhgpkaaDoor
open Go.RowKit Go.ChangeShapes
set_option linter.unusedVariables false

theorem gPow : Tryd.prog.globalNamed "internal/strconv.uint64pow10" = some 3 := by kernel_rfl
theorem gPowType : (Tryd.prog.globals[3]?).map (·.type) = some 104 := by kernel_rfl
theorem cellsPow : Tryd.prog.cellsOf 104 = 20 := by kernel_rfl
theorem cellsU64 : Tryd.prog.cellsOf 49 = 1 := by kernel_rfl

/-- The table stands third on the list. -/
theorem tab10_of {x y : String × DataW Unit} {r : List (String × DataW Unit)} {W : World} (h : laidMet Tryd.prog (x :: y :: ("internal/strconv.uint64pow10", Rows.laid_internal_strconv_uint64pow10) :: r) W) : Tab10 W.heap.size W :=
  Lib.tabBelow_of_tabIs (Lib.tabIs_of_head (zs := Lib.pow10Tab) gPow gPowType Tryd.underlying104 Tryd.underlying49 cellsU64 cellsPow h.tail.tail)

theorem decimal_of (n : Int) (wn : (Lit.int .i64 n).wf = true) (w : World) (hL : laidMetH Tryd.prog Rows.fnExactDecimalRow.laid w) :
    Calls Tryd.prog 4 #[.int .i64 n] w fun e w' => e = .returned (.bool true) ∧ Below w.heap.size w w' := by
  rw [MakeChecks.laidMetH_plain _ _ _ (by kernel_rfl)] at hL
  simp only [Lit.wf, Bool.and_eq_true, decide_eq_true_eq] at wn
  exact decimal_walk n w wn.1 wn.2 (tab10_of hL)
end Go.Proofs.YtjgajnhefhgpkaaDoor
