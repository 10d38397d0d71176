/-
  l03Join for more rows; l03Join for more rows.
-/
import Derived.Test.YtlakkmhfaojebaaSpR
namespace Go.Proofs.Ytlakkmhfaojebaa
open Go.RowKit
open Lin
set_option linter.unusedVariables false
set_option linter.unusedSectionVars false

end Go.Proofs.Ytlakkmhfaojebaa
