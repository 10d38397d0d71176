/-
  SameComplex of the model and of the program.
-/
import Derived.Test.YtibdcejglkhcfaaGreatDoorCxA
import Derived.Test.YtibdcejglkhcfaaGreatDoorSpA
namespace Go.Proofs.YtibdcejglkhcfaaGreatDoor
open Go.RowKit
set_option linter.unusedVariables false

set_option maxRecDepth 100000 in
theorem implSC_is {u v : Value} {xx yy : List (List Int)} {T : Bool} {w : World} (hu : RowsAt w u xx) (hv : RowsAt w v yy) (h : T = eqRB xx yy) :
    Calls Tryz.prog 122 #[.agg #[u], .agg #[v]] w fun e w' => e = .returned (.bool T) ∧ Below w.heap.size w w' := by
  have HU := Lib.hid hu
  have HV := Lib.hid hv
  obtain ⟨a1, c1, rfl⟩ := hu.slice
  obtain ⟨a2, c2, rfl⟩ := hv.slice
  clear hu hv
  subst h
  go_enter Tryz.func122, Tryz.ntmps122
  go_wp2_with fail
  refine (equalF_any (HU.out.al.al) (HV.out.al.al)).mono ?_
  rintro e w1 ⟨rfl, n, rfl⟩
  go_wp2_with fail
  go_ret
  exact ⟨rfl, below_drewX (al1 (al1 (Below.refl _ _) _) _) n⟩
end Go.Proofs.YtibdcejglkhcfaaGreatDoor
