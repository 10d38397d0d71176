/-
  LinkOf of the model and of the program.
-/
import Derived.Test.YtibdcejglkhcfaaGreatDoorPQ
namespace Go.Proofs.YtibdcejglkhcfaaGreatDoor
open Go.RowKit
set_option linter.unusedVariables false
set_option linter.unusedSimpArgs false

end Go.Proofs.YtibdcejglkhcfaaGreatDoor
