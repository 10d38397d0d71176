/-
  LinkOf of the program.
-/
import Derived.Test.YtibdcejglkhcfaaGreatDoorCzE
namespace Go.Proofs.YtibdcejglkhcfaaGreatDoor
open Go.RowKit
set_option linter.unusedVariables false
set_option linter.unusedSimpArgs false

end Go.Proofs.YtibdcejglkhcfaaGreatDoor
