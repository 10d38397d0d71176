/-
  The law of IsName: for every string the program's answer is the model's; no condition.
-/
import Derived.Test.YtjgajnhefhgpkaaIn
namespace Go.Proofs.Ytjgajnhefhgpkaa
open Go.RowKit
set_option linter.unusedVariables false

/-- A small letter, a digit, of the bytes. -/
def letB (n : Int) : Bool := decide (97 ≤ n ∧ n ≤ 122)
def digB (n : Int) : Bool := decide (48 ≤ n ∧ n ≤ 57)
theorem letB_yes {n : Int} (h : letB n = true) : 97 ≤ n ∧ n ≤ 122 := by simpa [letB] using h
theorem letB_no {n : Int} (h : letB n = false) : n < 97 ∨ 122 < n := by simp [letB] at h; omega
theorem digB_yes {n : Int} (h : digB n = true) : 48 ≤ n ∧ n ≤ 57 := by simpa [digB] using h
theorem digB_no {n : Int} (h : digB n = false) : n < 48 ∨ 57 < n := by simp [digB] at h; omega

theorem within8_yes (n lo hi : Int) (w : World) (h0 : lo ≤ n) (h1 : n ≤ hi) :
    Calls Try.prog 37 #[.int .u8 n, .int .u8 lo, .int .u8 hi] w fun e w' => e = .returned (.bool true) ∧ w = w' := by
  have e0 : decide (lo ≤ n) = true := by simpa using h0
  have e1 : decide (n ≤ hi) = true := by simpa using h1
  go_enter Try.func37, Try.ntmps37
  go_wp2
  go_ret
  exact ⟨rfl, rfl⟩
theorem within8_no (n lo hi : Int) (w : World) (h : n < lo ∨ hi < n) :
    Calls Try.prog 37 #[.int .u8 n, .int .u8 lo, .int .u8 hi] w fun e w' => e = .returned (.bool false) ∧ w = w' := by
  by_cases h0 : lo ≤ n
  · have h1 : ¬ n ≤ hi := by omega
    have e0 : decide (lo ≤ n) = true := by simpa using h0
    have e1 : decide (n ≤ hi) = false := by simpa using h1
    clear h
    go_enter Try.func37, Try.ntmps37
    go_wp2
    go_ret
    exact ⟨rfl, rfl⟩
  · have e0 : decide (lo ≤ n) = false := by simpa using h0
    clear h
    go_enter Try.func37, Try.ntmps37
    go_wp2
    go_ret
    exact ⟨rfl, rfl⟩
theorem implLet_any (n : Int) (w : World) :
    Calls Try.prog 25 #[.int .u8 n] w fun e w' => e = .returned (.bool (letB n)) ∧ w = w' := by
  cases hb : letB n
  · have H := Lib.hid (letB_no hb); clear hb
    go_enter Try.func25, Try.ntmps25
    go_wp2_with (go_at_call 37; refine (within8_no _ _ _ _ H.out).mono ?_; rintro e w' ⟨rfl, rfl⟩)
    go_ret
    exact ⟨rfl, rfl⟩
  · have H := letB_yes hb; clear hb
    obtain ⟨h0, h1⟩ := H
    go_enter Try.func25, Try.ntmps25
    go_wp2_with (go_at_call 37; refine (within8_yes _ _ _ _ h0 h1).mono ?_; rintro e w' ⟨rfl, rfl⟩)
    go_ret
    exact ⟨rfl, rfl⟩
theorem implDig_any (n : Int) (w : World) :
    Calls Try.prog 26 #[.int .u8 n] w fun e w' => e = .returned (.bool (digB n)) ∧ w = w' := by
  cases hb : digB n
  · have H := Lib.hid (digB_no hb); clear hb
    go_enter Try.func26, Try.ntmps26
    go_wp2_with (go_at_call 37; refine (within8_no _ _ _ _ H.out).mono ?_; rintro e w' ⟨rfl, rfl⟩)
    go_ret
    exact ⟨rfl, rfl⟩
  · have H := digB_yes hb; clear hb
    obtain ⟨h0, h1⟩ := H
    go_enter Try.func26, Try.ntmps26
    go_wp2_with (go_at_call 37; refine (within8_yes _ _ _ _ h0 h1).mono ?_; rintro e w' ⟨rfl, rfl⟩)
    go_ret
    exact ⟨rfl, rfl⟩
theorem specLet_any (n : Int) (w : World) :
    Calls Try.prog 35 #[.int .u8 n] w fun e w' => e = .returned (.bool (letB n)) ∧ w = w' := by
  cases hb : letB n
  · have h := letB_no hb; clear hb
    by_cases h0 : 97 ≤ n
    · have e0 : decide (n ≥ 97) = true := by simpa using h0
      have e1 : decide (n ≤ 122) = false := by simp; omega
      clear h
      go_enter Try.func35, Try.ntmps35
      go_wp2
      go_ret
      exact ⟨rfl, rfl⟩
    · have e0 : decide (n ≥ 97) = false := by simpa using h0
      clear h
      go_enter Try.func35, Try.ntmps35
      go_wp2
      go_ret
      exact ⟨rfl, rfl⟩
  · obtain ⟨h0, h1⟩ := letB_yes hb; clear hb
    go_enter Try.func35, Try.ntmps35
    go_wp2
    go_ret
    exact ⟨rfl, rfl⟩
theorem specDig_any (n : Int) (w : World) :
    Calls Try.prog 36 #[.int .u8 n] w fun e w' => e = .returned (.bool (digB n)) ∧ w = w' := by
  cases hb : digB n
  · have h := digB_no hb; clear hb
    by_cases h0 : 48 ≤ n
    · have e0 : decide (n ≥ 48) = true := by simpa using h0
      have e1 : decide (n ≤ 57) = false := by simp; omega
      clear h
      go_enter Try.func36, Try.ntmps36
      go_wp2
      go_ret
      exact ⟨rfl, rfl⟩
    · have e0 : decide (n ≥ 48) = false := by simpa using h0
      clear h
      go_enter Try.func36, Try.ntmps36
      go_wp2
      go_ret
      exact ⟨rfl, rfl⟩
  · obtain ⟨h0, h1⟩ := digB_yes hb; clear hb
    go_enter Try.func36, Try.ntmps36
    go_wp2
    go_ret
    exact ⟨rfl, rfl⟩
end Go.Proofs.Ytjgajnhefhgpkaa
