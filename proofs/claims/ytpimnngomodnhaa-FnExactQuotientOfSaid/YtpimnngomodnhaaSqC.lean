/-
  OrthogonalOf of the model.
-/
import Derived.Test.YtpimnngomodnhaaSqB
import Derived.Test.YtpimnngomodnhaaSpU
namespace Go.Proofs.Ytpimnngomodnhaa
open Go.RowKit
open Lin
set_option linter.unusedVariables false
set_option linter.unusedSectionVars false

end Go.Proofs.Ytpimnngomodnhaa
