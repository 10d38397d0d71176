/-
  The laws of the functions of one number modulo a prime: whatever the arguments, the program's answer is the model's.
-/
import Derived.Test.YtlikfgmhhjpggaaFldI
namespace Go.Proofs.Ytlikfgmhhjpggaa
open Go.RowKit
set_option linter.unusedVariables false

theorem inverseOf_walk (a p : Int) (w : World) :
    Calls Try.prog 7 #[.int .i64 a, .int .i64 p] w fun e w' => e = .returned (.bool true) ∧ Below w.heap.size w w' := by
  obtain ⟨r, c, hr⟩ := invRes_has p a
  have HR := Lib.hid hr
  have er : (r != r) = false := by simp
  have ec : (c != c) = false := by simp
  clear hr
  go_enter Try.func7, Try.ntmps7
  go_wp2_with fail
  refine (specInverse_any _ HR.out).mono ?_
  rintro e w1 ⟨rfl, hb1⟩
  have B1 := Lib.hid hb1
  clear hb1
  go_wp2_with fail
  refine (implInverse_any _ HR.out).mono ?_
  rintro e w2 ⟨rfl, hb2⟩
  have B2 := Lib.hid (B1.out.trans (hb2.mono B1.out.size))
  clear hb2
  go_wp2_with fail
  go_ret
  exact ⟨rfl, B2.out⟩
theorem elementOrder_walk (a p : Int) (w : World) :
    Calls Try.prog 9 #[.int .i64 a, .int .i64 p] w fun e w' => e = .returned (.bool true) ∧ Below w.heap.size w w' := by
  obtain ⟨r, c, hr⟩ := ordRes_has p a
  have HR := Lib.hid hr
  have er : (r != r) = false := by simp
  have ec : (c != c) = false := by simp
  clear hr
  go_enter Try.func9, Try.ntmps9
  go_wp2_with fail
  refine (specOrder_any _ HR.out).mono ?_
  rintro e w1 ⟨rfl, hb1⟩
  have B1 := Lib.hid hb1
  clear hb1
  go_wp2_with fail
  refine (implOrder_any _ HR.out).mono ?_
  rintro e w2 ⟨rfl, hb2⟩
  have B2 := Lib.hid (B1.out.trans (hb2.mono B1.out.size))
  clear hb2
  go_wp2_with fail
  go_ret
  exact ⟨rfl, B2.out⟩
end Go.Proofs.Ytlikfgmhhjpggaa
