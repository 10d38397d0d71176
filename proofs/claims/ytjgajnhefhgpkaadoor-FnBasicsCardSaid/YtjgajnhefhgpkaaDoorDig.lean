/-
  The model's digit test.
-/
import Derived.Test.YtjgajnhefhgpkaaDoorProg
import Derived.WalkKit
import Derived.Lib.Hide
namespace Go.Proofs.YtjgajnhefhgpkaaDoor
open Go.RowKit
set_option linter.unusedVariables false

def dgB (n : Int) : Bool := decide (48 ≤ n ∧ n ≤ 57)
theorem dgB_yes {n : Int} (h : dgB n = true) : 48 ≤ n ∧ n ≤ 57 := by simpa [dgB] using h
theorem dgB_no {n : Int} (h : dgB n = false) : n < 48 ∨ 57 < n := by simp [dgB] at h; omega
theorem digit_any (n : Int) (w : World) :
    Calls Tryd.prog 66 #[.int .u8 n] w fun e w' => e = .returned (.bool (dgB n)) ∧ w = w' := by
  cases hb : dgB n
  · have h := dgB_no hb; clear hb
    by_cases h0 : 48 ≤ n
    · have e0 : decide (n ≥ 48) = true := by simpa using h0
      have e1 : decide (n ≤ 57) = false := by simp; omega
      clear h
      go_enter Tryd.func66, Tryd.ntmps66
      go_wp2
      go_ret
      exact ⟨rfl, rfl⟩
    · have e0 : decide (n ≥ 48) = false := by simpa using h0
      clear h
      go_enter Tryd.func66, Tryd.ntmps66
      go_wp2
      go_ret
      exact ⟨rfl, rfl⟩
  · obtain ⟨h0, h1⟩ := dgB_yes hb; clear hb
    go_enter Tryd.func66, Tryd.ntmps66
    go_wp2
    go_ret
    exact ⟨rfl, rfl⟩
end Go.Proofs.YtjgajnhefhgpkaaDoor
