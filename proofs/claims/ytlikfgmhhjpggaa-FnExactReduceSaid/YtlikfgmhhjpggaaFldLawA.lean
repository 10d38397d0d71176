/-
  The laws of the functions of one number modulo a prime: whatever the arguments, the program's answer is the model's.
-/
import Derived.Test.YtlikfgmhhjpggaaFldB
import Derived.Below
namespace Go.Proofs.Ytlikfgmhhjpggaa
open Go.RowKit
set_option linter.unusedVariables false

/-- A number and a code. -/
def RetD (r c : Int) (w : World) (e : Ending) (w' : World) : Prop := e = .returned (.tuple #[.int .i64 r, .int .i64 c]) ∧ Below w.heap.size w w'
theorem specVP_yes (p : Int) (w : World) (h : IsPr p) :
    Calls Try.prog 23 #[.int .i64 p] w fun e w' => e = .returned (.bool true) ∧ w = w' := by
  have HP := Lib.hid h; clear h
  go_enter Try.func23, Try.ntmps23
  go_wp2_with fail
  refine (specPrime_yes _ _ HP.out).mono ?_
  rintro e w' ⟨rfl, rfl⟩
  go_wp2_with fail
  go_ret
  exact ⟨rfl, rfl⟩
theorem specVP_no (p : Int) (w : World) (h : ¬ IsPr p) :
    Calls Try.prog 23 #[.int .i64 p] w fun e w' => e = .returned (.bool false) ∧ w = w' := by
  have HP := Lib.hid h; clear h
  go_enter Try.func23, Try.ntmps23
  go_wp2_with fail
  refine (specPrime_no _ _ HP.out).mono ?_
  rintro e w' ⟨rfl, rfl⟩
  go_wp2_with fail
  go_ret
  exact ⟨rfl, rfl⟩
theorem validPrime_walk (p : Int) (w : World) :
    Calls Try.prog 5 #[.int .i64 p] w fun e w' => e = .returned (.bool true) ∧ Below w.heap.size w w' := by
  by_cases hp : IsPr p
  · have HP := Lib.hid hp; clear hp
    go_enter Try.func5, Try.ntmps5
    go_wp2_with fail
    refine (specVP_yes _ _ HP.out).mono ?_
    rintro e w' ⟨rfl, rfl⟩
    go_wp2_with fail
    refine (implPrime_yes _ _ HP.out).mono ?_
    rintro e w' ⟨rfl, rfl⟩
    go_wp2_with fail
    go_ret
    exact ⟨rfl, Below.refl _ _⟩
  · have HP := Lib.hid hp; clear hp
    go_enter Try.func5, Try.ntmps5
    go_wp2_with fail
    refine (specVP_no _ _ HP.out).mono ?_
    rintro e w' ⟨rfl, rfl⟩
    go_wp2_with fail
    refine (implPrime_no _ _ HP.out).mono ?_
    rintro e w' ⟨rfl, rfl⟩
    go_wp2_with fail
    go_ret
    exact ⟨rfl, Below.refl _ _⟩
/-- The result of Reduce. -/
def RedRes (p a r c : Int) : Prop := (¬ IsPr p ∧ r = 0 ∧ c = 1) ∨ (IsPr p ∧ r = a % p ∧ c = 0)
theorem redRes_has (p a : Int) : ∃ r c, RedRes p a r c := by
  by_cases hp : IsPr p
  · exact ⟨_, 0, .inr ⟨hp, rfl, rfl⟩⟩
  · exact ⟨0, 1, .inl ⟨hp, rfl, rfl⟩⟩
theorem specReduce_any {a p r c : Int} (w : World) (h : RedRes p a r c) :
    Calls Try.prog 36 #[.int .i64 a, .int .i64 p] w fun e w' => RetD r c w e w' := by
  rcases h with ⟨hp, rfl, rfl⟩ | ⟨hp, rfl, rfl⟩
  · have HP := Lib.hid hp; clear hp
    go_enter Try.func36, Try.ntmps36
    go_wp2_with fail
    refine (specPrime_no _ _ HP.out).mono ?_
    rintro e w' ⟨rfl, rfl⟩
    go_wp2_with fail
    go_ret2
    exact ⟨rfl, Below.refl _ _⟩
  · have h0 := hp.1
    have h1 := hp.2.1
    have HP := Lib.hid hp; clear hp
    go_enter Try.func36, Try.ntmps36
    go_wp2_with fail
    refine (specPrime_yes _ _ HP.out).mono ?_
    rintro e w' ⟨rfl, rfl⟩
    go_wp2_with fail
    refine (specMod_any a p _ h0 h1).mono ?_
    rintro e w' ⟨rfl, rfl⟩
    go_wp2_with fail
    go_ret2
    exact ⟨rfl, Below.refl _ _⟩
theorem implReduce_any {a p r c : Int} (w : World) (h : RedRes p a r c) :
    Calls Try.prog 37 #[.int .i64 a, .int .i64 p] w fun e w' => RetD r c w e w' := by
  rcases h with ⟨hp, rfl, rfl⟩ | ⟨hp, rfl, rfl⟩
  · have HP := Lib.hid hp; clear hp
    go_enter Try.func37, Try.ntmps37
    go_wp2_with fail
    refine (implPrime_no _ _ HP.out).mono ?_
    rintro e w' ⟨rfl, rfl⟩
    go_wp2_with fail
    go_ret2
    exact ⟨rfl, Below.refl _ _⟩
  · have h0 := hp.1
    have h1 := hp.2.1
    have HP := Lib.hid hp; clear hp
    go_enter Try.func37, Try.ntmps37
    go_wp2_with fail
    refine (implPrime_yes _ _ HP.out).mono ?_
    rintro e w' ⟨rfl, rfl⟩
    go_wp2_with fail
    refine (implMod_any a p _ h0 h1).mono ?_
    rintro e w' ⟨rfl, rfl⟩
    go_wp2_with fail
    go_ret2
    exact ⟨rfl, Below.refl _ _⟩
theorem reduce_walk (a p : Int) (w : World) :
    Calls Try.prog 6 #[.int .i64 a, .int .i64 p] w fun e w' => e = .returned (.bool true) ∧ Below w.heap.size w w' := by
  obtain ⟨r, c, hr⟩ := redRes_has p a
  have HR := Lib.hid hr
  have er : (r != r) = false := by simp
  have ec : (c != c) = false := by simp
  clear hr
  go_enter Try.func6, Try.ntmps6
  go_wp2_with fail
  refine (specReduce_any _ HR.out).mono ?_
  rintro e w1 ⟨rfl, hb1⟩
  have B1 := Lib.hid hb1
  clear hb1
  go_wp2_with fail
  refine (implReduce_any _ HR.out).mono ?_
  rintro e w2 ⟨rfl, hb2⟩
  have B2 := Lib.hid (B1.out.trans (hb2.mono B1.out.size))
  clear hb2
  go_wp2_with fail
  go_ret
  exact ⟨rfl, B2.out⟩
end Go.Proofs.Ytlikfgmhhjpggaa
