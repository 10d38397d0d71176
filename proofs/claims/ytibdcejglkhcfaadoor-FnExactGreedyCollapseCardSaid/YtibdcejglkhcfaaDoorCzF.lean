/-
  LinkOf of the program.
-/
import Derived.Test.YtibdcejglkhcfaaDoorCzE
namespace Go.Proofs.YtibdcejglkhcfaaDoor
open Go.RowKit
set_option linter.unusedVariables false
set_option linter.unusedSimpArgs false

end Go.Proofs.YtibdcejglkhcfaaDoor
