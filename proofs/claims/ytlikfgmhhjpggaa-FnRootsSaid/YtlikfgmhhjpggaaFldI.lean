/-
  Contracts of InverseOf and ElementOrder, of the model and of the program: whatever the arguments, both give the same number and code.
-/
import Derived.Test.YtlikfgmhhjpggaaFldB
import Derived.Test.YtlikfgmhhjpggaaFldG
import Derived.Test.YtlikfgmhhjpggaaFldH
namespace Go.Proofs.Ytlikfgmhhjpggaa
open Go.RowKit
set_option linter.unusedVariables false

/-- The code for a prime and a number that may not be 0. -/
def Unit1 (p a c : Int) : Prop := (¬ IsPr p ∧ c = 1) ∨ (IsPr p ∧ (a < 0 ∨ p - 1 < a) ∧ c = 2) ∨ (IsPr p ∧ a = 0 ∧ c = 6) ∨ (IsPr p ∧ 1 ≤ a ∧ a < p ∧ c = 0)
theorem unit1_has (p a : Int) : ∃ c, Unit1 p a c := by
  by_cases hp : IsPr p
  · by_cases ha : a < 0 ∨ p - 1 < a
    · exact ⟨2, .inr (.inl ⟨hp, ha, rfl⟩)⟩
    · by_cases hz : a = 0
      · exact ⟨6, .inr (.inr (.inl ⟨hp, hz, rfl⟩))⟩
      · exact ⟨0, .inr (.inr (.inr ⟨hp, by omega, by omega, rfl⟩))⟩
  · exact ⟨1, .inl ⟨hp, rfl⟩⟩
theorem Unit1.code {p a c : Int} (h : Unit1 p a c) : UnitCode p [a] c := by
  rcases h with ⟨hp, rfl⟩ | ⟨hp, h, rfl⟩ | ⟨hp, h, rfl⟩ | ⟨hp, h, h2, rfl⟩
  · exact .inl ⟨hp, rfl⟩
  · exact .inr (.inl ⟨hp, by rw [numOk_one]; omega, rfl⟩)
  · have := hp.1
    exact .inr (.inr (.inl ⟨hp, by rw [numOk_one]; omega, by rw [noZero_one]; omega, rfl⟩))
  · exact .inr (.inr (.inr ⟨hp, by rw [numOk_one]; omega, by rw [noZero_one]; omega, rfl⟩))
theorem Unit1.bad {p a c : Int} (h : Unit1 p a c) (hc : c ≠ 0) : (c = 6 ∧ a = 0 ∧ Ask a p 0) ∨ ((c = 1 ∨ c = 2) ∧ Ask a p c) := by
  rcases h with ⟨hp, rfl⟩ | ⟨hp, h, rfl⟩ | ⟨hp, h, rfl⟩ | ⟨hp, h, h2, rfl⟩
  · exact .inr ⟨.inl rfl, .inl ⟨hp, rfl⟩⟩
  · exact .inr ⟨.inr rfl, .inr (.inl ⟨hp, h, rfl⟩)⟩
  · have := hp.1
    exact .inl ⟨rfl, h, .inr (.inr ⟨hp, by omega, by omega, rfl⟩)⟩
  · exact absurd rfl hc
theorem Unit1.good {p a : Int} (h : Unit1 p a 0) : IsPr p ∧ 1 ≤ a ∧ a < p ∧ Ask a p 0 := by
  rcases h with ⟨_, h⟩ | ⟨_, _, h⟩ | ⟨_, _, h⟩ | ⟨hp, h, h2, _⟩
  · exact absurd h (by decide)
  · exact absurd h (by decide)
  · exact absurd h (by decide)
  · exact ⟨hp, h, h2, .inr (.inr ⟨hp, by omega, h2, rfl⟩)⟩

/-- A number and a code. -/
def RetC (r c : Int) (w : World) (e : Ending) (w' : World) : Prop := e = .returned (.tuple #[.int .i64 r, .int .i64 c]) ∧ Below w.heap.size w w'
theorem field_run (x p : Int) (w : World) : (Instr.field 54 (.agg #[.int .i64 x, .int .i64 p]) 0).run Try.prog w = .ok (.int .i64 x) w := by
  unfold Instr.field
  go_simp
  simp [asAgg, go_sem]
/-- The result of InverseOf. -/
def InvRes (p a r c : Int) : Prop := Unit1 p a c ∧ ((c ≠ 0 ∧ r = 0) ∨ (c = 0 ∧ IsInv p a r))
theorem invRes_has (p a : Int) : ∃ r c, InvRes p a r c := by
  obtain ⟨c, hc⟩ := unit1_has p a
  by_cases h : c = 0
  · subst h
    obtain ⟨hp, a0, a1, _⟩ := hc.good
    exact ⟨_, 0, hc, .inr ⟨rfl, inv_pw hp a0 a1⟩⟩
  · exact ⟨0, c, hc, .inl ⟨h, rfl⟩⟩
theorem specInverse_any {p a r c : Int} (w : World) (h : InvRes p a r c) :
    Calls Try.prog 38 #[.int .i64 a, .int .i64 p] w fun e w' => RetC r c w e w' := by
  obtain ⟨hu, ⟨hc, rfl⟩ | ⟨rfl, hi⟩⟩ := h
  · rcases hu.bad hc with ⟨rfl, rfl, ha⟩ | ⟨hc2, ha⟩
    · have HA := Lib.hid ha
      clear ha hc hu
      go_enter Try.func38, Try.ntmps38
      go_wp2_with fail
      refine (specAsk_any _ HA.out).mono ?_
      rintro e w' ⟨rfl, rfl⟩
      go_wp2_with fail
      go_ret2
      exact ⟨rfl, Below.refl _ _⟩
    · have HA := Lib.hid ha
      have e0 : (c == 0) = false := by rcases hc2 with rfl | rfl <;> rfl
      have e1 : (c != 0) = true := by rcases hc2 with rfl | rfl <;> rfl
      clear ha hc hu hc2
      go_enter Try.func38, Try.ntmps38
      go_wp2_with fail
      refine (specAsk_any _ HA.out).mono ?_
      rintro e w' ⟨rfl, rfl⟩
      go_wp2_with fail
      go_ret2
      exact ⟨rfl, Below.refl _ _⟩
  · obtain ⟨hp, a0, a1, ha⟩ := hu.good
    have HA := Lib.hid ha
    have HP := Lib.hid hp
    have HI := Lib.hid hi
    have e0 : (a == 0) = false := by simp; omega
    clear ha hu hp hi
    go_enter Try.func38, Try.ntmps38
    go_wp2_with fail
    refine (specAsk_any _ HA.out).mono ?_
    rintro e w' ⟨rfl, rfl⟩
    go_wp2_with fail
    refine (specInv_any a r p _ HP.out a0 a1 HI.out).mono ?_
    rintro e w' ⟨rfl, rfl⟩
    go_wp2_with fail
    go_ret2
    exact ⟨rfl, Below.refl _ _⟩
theorem implInverse_any {p a r c : Int} (w : World) (h : InvRes p a r c) :
    Calls Try.prog 20 #[.int .i64 a, .int .i64 p] w fun e w' => RetC r c w e w' := by
  obtain ⟨hu, ⟨hc, rfl⟩ | ⟨rfl, hi⟩⟩ := h
  · have HU := Lib.hid hu.code
    have e1 : (c != 0) = true := by simpa using hc
    clear hu hc
    go_enter Try.func20, Try.ntmps20
    go_wp2_with fail
    refine (unitsP_any (one_at _ _ _) (by simp) HU.out).mono ?_
    rintro e w' ⟨rfl, rfl⟩
    go_wp2_with fail
    go_ret2
    exact ⟨rfl, (Below.refl _ _).alloc (Nat.le_refl _) _⟩
  · obtain ⟨hp, a0, a1, ha⟩ := hu.good
    have HU := Lib.hid hu.code
    have HP := Lib.hid hp
    have HI := Lib.hid hi
    clear ha hu hp hi
    go_enter Try.func20, Try.ntmps20
    go_wp2_with fail
    refine (unitsP_any (one_at _ _ _) (by simp) HU.out).mono ?_
    rintro e w' ⟨rfl, rfl⟩
    go_wp2_with fail
    refine (inverse_any a p r _ HP.out a0 a1 HI.out).mono ?_
    rintro e w1 ⟨rfl, hb1⟩
    have hf := fun w => field_run r p w
    go_wp2_with fail
    go_ret2
    exact ⟨rfl, ((Below.refl _ _).alloc (Nat.le_refl _) _).trans (hb1.mono (by simp))⟩

/-- The result of ElementOrder. -/
def OrdRes (p a r c : Int) : Prop := Unit1 p a c ∧ ((c ≠ 0 ∧ r = 0) ∨ (c = 0 ∧ ∃ n : Nat, r = n ∧ IsOrd a p n ∧ (n : Int) ≤ p - 1))
theorem ordRes_has (p a : Int) : ∃ r c, OrdRes p a r c := by
  obtain ⟨c, hc⟩ := unit1_has p a
  by_cases h : c = 0
  · subst h
    obtain ⟨hp, a0, a1, _⟩ := hc.good
    obtain ⟨n, hn, hn1⟩ := ord_has hp a0 a1
    exact ⟨_, 0, hc, .inr ⟨rfl, n, rfl, hn, hn1⟩⟩
  · exact ⟨0, c, hc, .inl ⟨h, rfl⟩⟩
theorem specOrder_any {p a r c : Int} (w : World) (h : OrdRes p a r c) :
    Calls Try.prog 40 #[.int .i64 a, .int .i64 p] w fun e w' => RetC r c w e w' := by
  obtain ⟨hu, ⟨hc, rfl⟩ | ⟨rfl, n, rfl, hi, hn⟩⟩ := h
  · rcases hu.bad hc with ⟨rfl, rfl, ha⟩ | ⟨hc2, ha⟩
    · have HA := Lib.hid ha
      clear ha hc hu
      go_enter Try.func40, Try.ntmps40
      go_wp2_with fail
      refine (specAsk_any _ HA.out).mono ?_
      rintro e w' ⟨rfl, rfl⟩
      go_wp2_with fail
      go_ret2
      exact ⟨rfl, Below.refl _ _⟩
    · have HA := Lib.hid ha
      have e0 : (c == 0) = false := by rcases hc2 with rfl | rfl <;> rfl
      have e1 : (c != 0) = true := by rcases hc2 with rfl | rfl <;> rfl
      clear ha hc hu hc2
      go_enter Try.func40, Try.ntmps40
      go_wp2_with fail
      refine (specAsk_any _ HA.out).mono ?_
      rintro e w' ⟨rfl, rfl⟩
      go_wp2_with fail
      go_ret2
      exact ⟨rfl, Below.refl _ _⟩
  · obtain ⟨hp, a0, a1, ha⟩ := hu.good
    have HA := Lib.hid ha
    have h0 := hp.1
    have h1 := hp.2.1
    have HI := Lib.hid hi
    have e0 : (a == 0) = false := by simp; omega
    clear ha hu hp hi
    go_enter Try.func40, Try.ntmps40
    go_wp2_with fail
    refine (specAsk_any _ HA.out).mono ?_
    rintro e w' ⟨rfl, rfl⟩
    go_wp2_with fail
    refine (specOrd_any a p n _ h0 h1 a0 a1 HI.out hn).mono ?_
    rintro e w' ⟨rfl, rfl⟩
    go_wp2_with fail
    go_ret2
    exact ⟨rfl, Below.refl _ _⟩
theorem implOrder_any {p a r c : Int} (w : World) (h : OrdRes p a r c) :
    Calls Try.prog 21 #[.int .i64 a, .int .i64 p] w fun e w' => RetC r c w e w' := by
  obtain ⟨hu, ⟨hc, rfl⟩ | ⟨rfl, n, rfl, hi, hn⟩⟩ := h
  · have HU := Lib.hid hu.code
    have e1 : (c != 0) = true := by simpa using hc
    clear hu hc
    go_enter Try.func21, Try.ntmps21
    go_wp2_with fail
    refine (unitsP_any (one_at _ _ _) (by simp) HU.out).mono ?_
    rintro e w' ⟨rfl, rfl⟩
    go_wp2_with fail
    go_ret2
    exact ⟨rfl, (Below.refl _ _).alloc (Nat.le_refl _) _⟩
  · obtain ⟨hp, a0, a1, ha⟩ := hu.good
    have HU := Lib.hid hu.code
    have HP := Lib.hid hp
    have HI := Lib.hid hi
    clear ha hu hp hi
    go_enter Try.func21, Try.ntmps21
    go_wp2_with fail
    refine (unitsP_any (one_at _ _ _) (by simp) HU.out).mono ?_
    rintro e w' ⟨rfl, rfl⟩
    go_wp2_with fail
    refine (order_any a p n _ HP.out a0 a1 HI.out hn).mono ?_
    rintro e w1 ⟨rfl, hb1⟩
    go_wp2_with fail
    go_ret2
    exact ⟨rfl, ((Below.refl _ _).alloc (Nat.le_refl _) _).trans (hb1.mono (by simp))⟩
end Go.Proofs.Ytlikfgmhhjpggaa
