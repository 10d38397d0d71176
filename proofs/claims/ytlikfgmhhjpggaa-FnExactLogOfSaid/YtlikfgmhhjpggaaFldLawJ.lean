/-
  The laws of the functions of one number modulo a prime: whatever the arguments, the program's answer is the model's.
-/
import Derived.Test.YtlikfgmhhjpggaaFldJ
namespace Go.Proofs.Ytlikfgmhhjpggaa
open Go.RowKit
set_option linter.unusedVariables false

theorem powerOf_walk (a n p : Int) (w : World) :
    Calls Try.prog 8 #[.int .i64 a, .int .i64 n, .int .i64 p] w fun e w' => e = .returned (.bool true) ∧ Below w.heap.size w w' := by
  obtain ⟨r, c, hr⟩ := powRes_has p a n
  have HR := Lib.hid hr
  have er : (r != r) = false := by simp
  have ec : (c != c) = false := by simp
  clear hr
  go_enter Try.func8, Try.ntmps8
  go_wp2_with fail
  refine (specPower_any _ HR.out).mono ?_
  rintro e w1 ⟨rfl, hb1⟩
  have B1 := Lib.hid hb1
  clear hb1
  go_wp2_with fail
  refine (implPower_any _ HR.out).mono ?_
  rintro e w2 ⟨rfl, hb2⟩
  have B2 := Lib.hid (B1.out.trans (hb2.mono B1.out.size))
  clear hb2
  go_wp2_with fail
  go_ret
  exact ⟨rfl, B2.out⟩
theorem logOf_walk (a b p : Int) (w : World) :
    Calls Try.prog 11 #[.int .i64 a, .int .i64 b, .int .i64 p] w fun e w' => e = .returned (.bool true) ∧ Below w.heap.size w w' := by
  obtain ⟨r, c, hr⟩ := logRes_has p a b
  have HR := Lib.hid hr
  have er : (r != r) = false := by simp
  have ec : (c != c) = false := by simp
  clear hr
  go_enter Try.func11, Try.ntmps11
  go_wp2_with fail
  refine (specLog_any _ HR.out).mono ?_
  rintro e w1 ⟨rfl, hb1⟩
  have B1 := Lib.hid hb1
  clear hb1
  go_wp2_with fail
  refine (implLog_any _ HR.out).mono ?_
  rintro e w2 ⟨rfl, hb2⟩
  have B2 := Lib.hid (B1.out.trans (hb2.mono B1.out.size))
  clear hb2
  go_wp2_with fail
  go_ret
  exact ⟨rfl, B2.out⟩
end Go.Proofs.Ytlikfgmhhjpggaa
