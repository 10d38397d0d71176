/-
  The laws of the functions of one number modulo a prime: whatever the arguments, the program's answer is the model's.
-/
import Derived.Test.YtlikfgmhhjpggaaFldK
namespace Go.Proofs.Ytlikfgmhhjpggaa
open Go.RowKit
set_option linter.unusedVariables false

theorem leastGenerator_walk (p : Int) (w : World) :
    Calls Try.prog 10 #[.int .i64 p] w fun e w' => e = .returned (.bool true) ∧ Below w.heap.size w w' := by
  obtain ⟨r, c, hr⟩ := genRes_has p
  have HR := Lib.hid hr
  have er : (r != r) = false := by simp
  have ec : (c != c) = false := by simp
  clear hr
  go_enter Try.func10, Try.ntmps10
  go_wp2_with fail
  refine (specGen_any _ HR.out).mono ?_
  rintro e w1 ⟨rfl, hb1⟩
  have B1 := Lib.hid hb1
  clear hb1
  go_wp2_with fail
  refine (implGen_any _ HR.out).mono ?_
  rintro e w2 ⟨rfl, hb2⟩
  have B2 := Lib.hid (B1.out.trans (hb2.mono B1.out.size))
  clear hb2
  go_wp2_with fail
  go_ret
  exact ⟨rfl, B2.out⟩
theorem legendreOf_walk (a p : Int) (w : World) :
    Calls Try.prog 12 #[.int .i64 a, .int .i64 p] w fun e w' => e = .returned (.bool true) ∧ Below w.heap.size w w' := by
  obtain ⟨r, c, hr⟩ := legRes_has p a
  have HR := Lib.hid hr
  have er : (r != r) = false := by simp
  have ec : (c != c) = false := by simp
  clear hr
  go_enter Try.func12, Try.ntmps12
  go_wp2_with fail
  refine (specLeg_any _ HR.out).mono ?_
  rintro e w1 ⟨rfl, hb1⟩
  have B1 := Lib.hid hb1
  clear hb1
  go_wp2_with fail
  refine (implLeg_any _ HR.out).mono ?_
  rintro e w2 ⟨rfl, hb2⟩
  have B2 := Lib.hid (B1.out.trans (hb2.mono B1.out.size))
  clear hb2
  go_wp2_with fail
  go_ret
  exact ⟨rfl, B2.out⟩
theorem squareRootOf_walk (a p : Int) (w : World) :
    Calls Try.prog 13 #[.int .i64 a, .int .i64 p] w fun e w' => e = .returned (.bool true) ∧ Below w.heap.size w w' := by
  obtain ⟨r, c, hr⟩ := rtRes_has p a
  have HR := Lib.hid hr
  have er : (r != r) = false := by simp
  have ec : (c != c) = false := by simp
  clear hr
  go_enter Try.func13, Try.ntmps13
  go_wp2_with fail
  refine (specRoot_any _ HR.out).mono ?_
  rintro e w1 ⟨rfl, hb1⟩
  have B1 := Lib.hid hb1
  clear hb1
  go_wp2_with fail
  refine (implRoot_any2 _ HR.out).mono ?_
  rintro e w2 ⟨rfl, hb2⟩
  have B2 := Lib.hid (B1.out.trans (hb2.mono B1.out.size))
  clear hb2
  go_wp2_with fail
  go_ret
  exact ⟨rfl, B2.out⟩
end Go.Proofs.Ytlikfgmhhjpggaa
