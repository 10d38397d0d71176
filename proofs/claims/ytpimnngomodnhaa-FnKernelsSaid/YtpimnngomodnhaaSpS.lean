/-
  l03Join for more rows; l03Join for more rows.
-/
import Derived.Test.YtpimnngomodnhaaSpR
namespace Go.Proofs.Ytpimnngomodnhaa
open Go.RowKit
open Lin
set_option linter.unusedVariables false
set_option linter.unusedSectionVars false

end Go.Proofs.Ytpimnngomodnhaa
