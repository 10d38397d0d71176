/-
  Contracts of PowerOf and LogOf, of the model and of the program: whatever the arguments, both give the same number and code.
-/
import Derived.Test.YtlikfgmhhjpggaaFldI
import Derived.Test.YtlikfgmhhjpggaaFldF
namespace Go.Proofs.Ytlikfgmhhjpggaa
open Go.RowKit
set_option linter.unusedVariables false

/-! ### PowerOf -/
/-- The result of PowerOf. -/
def PowRes (p a n r c : Int) : Prop :=
  (¬ IsPr p ∧ r = 0 ∧ c = 1) ∨ (IsPr p ∧ (a < 0 ∨ p - 1 < a) ∧ r = 0 ∧ c = 2) ∨ (IsPr p ∧ 0 ≤ a ∧ a < p ∧ (n < -1000000000000 ∨ 1000000000000 < n) ∧ r = 0 ∧ c = 2) ∨
  (IsPr p ∧ a = 0 ∧ -1000000000000 ≤ n ∧ n < 0 ∧ r = 0 ∧ c = 6) ∨ (IsPr p ∧ 0 ≤ a ∧ a < p ∧ 0 ≤ n ∧ n ≤ 1000000000000 ∧ r = pw a p n.toNat ∧ c = 0) ∨
  (IsPr p ∧ 1 ≤ a ∧ a < p ∧ -1000000000000 ≤ n ∧ n < 0 ∧ IsInv p (pw a p (-n).toNat) r ∧ c = 0)
theorem powRes_has (p a n : Int) : ∃ r c, PowRes p a n r c := by
  by_cases hp : IsPr p
  · by_cases ha : a < 0 ∨ p - 1 < a
    · exact ⟨0, 2, .inr (.inl ⟨hp, ha, rfl, rfl⟩)⟩
    · by_cases hn : n < -1000000000000 ∨ 1000000000000 < n
      · exact ⟨0, 2, .inr (.inr (.inl ⟨hp, by omega, by omega, hn, rfl, rfl⟩))⟩
      · by_cases h0 : 0 ≤ n
        · exact ⟨_, 0, .inr (.inr (.inr (.inr (.inl ⟨hp, by omega, by omega, h0, by omega, rfl, rfl⟩))))⟩
        · by_cases hz : a = 0
          · exact ⟨0, 6, .inr (.inr (.inr (.inl ⟨hp, hz, by omega, by omega, rfl, rfl⟩)))⟩
          · exact ⟨_, 0, .inr (.inr (.inr (.inr (.inr ⟨hp, by omega, by omega, by omega, by omega, inv_pow hp.1 (inv_pw hp (by omega) (by omega)) _, rfl⟩))))⟩
  · exact ⟨0, 1, .inl ⟨hp, rfl, rfl⟩⟩
set_option maxHeartbeats 800000 in
theorem specPower_any {p a n r c : Int} (w : World) (h : PowRes p a n r c) :
    Calls Try.prog 39 #[.int .i64 a, .int .i64 n, .int .i64 p] w fun e w' => RetC r c w e w' := by
  rcases h with ⟨hp, rfl, rfl⟩ | ⟨hp, ha, rfl, rfl⟩ | ⟨hp, a0, a1, hn, rfl, rfl⟩ | ⟨hp, rfl, n0, n1, rfl, rfl⟩ | ⟨hp, a0, a1, n0, n1, rfl, rfl⟩ | ⟨hp, a0, a1, n0, n1, hr, rfl⟩
  · have HA : Hid (Ask a p 1) := .inl ⟨hp, rfl⟩
    clear hp
    go_enter Try.func39, Try.ntmps39
    go_wp2_with fail
    refine (specAsk_any _ HA.out).mono ?_
    rintro e w' ⟨rfl, rfl⟩
    go_wp2_with fail
    go_ret2
    exact ⟨rfl, Below.refl _ _⟩
  · have HA : Hid (Ask a p 2) := .inr (.inl ⟨hp, ha, rfl⟩)
    clear hp ha
    go_enter Try.func39, Try.ntmps39
    go_wp2_with fail
    refine (specAsk_any _ HA.out).mono ?_
    rintro e w' ⟨rfl, rfl⟩
    go_wp2_with fail
    go_ret2
    exact ⟨rfl, Below.refl _ _⟩
  · have HA : Hid (Ask a p 0) := .inr (.inr ⟨hp, a0, a1, rfl⟩)
    have HN := Lib.hid hn
    clear hp hn
    go_enter Try.func39, Try.ntmps39
    go_wp2_with fail
    refine (specAsk_any _ HA.out).mono ?_
    rintro e w' ⟨rfl, rfl⟩
    go_wp2_with fail
    refine (l00In_no _ _ _ _ HN.out).mono ?_
    rintro e w' ⟨rfl, rfl⟩
    go_wp2_with fail
    go_ret2
    exact ⟨rfl, Below.refl _ _⟩
  · have HA : Hid (Ask 0 p 0) := .inr (.inr ⟨hp, by omega, by have := hp.1; omega, rfl⟩)
    clear hp
    go_enter Try.func39, Try.ntmps39
    go_wp2_with fail
    refine (specAsk_any _ HA.out).mono ?_
    rintro e w' ⟨rfl, rfl⟩
    go_wp2_with fail
    refine (l00In_yes _ _ _ _ n0 (by omega)).mono ?_
    rintro e w' ⟨rfl, rfl⟩
    go_wp2_with fail
    go_ret2
    exact ⟨rfl, Below.refl _ _⟩
  · have HA : Hid (Ask a p 0) := .inr (.inr ⟨hp, a0, a1, rfl⟩)
    have h0 := hp.1
    have h1 := hp.2.1
    have nn : decide (n < 0) = false := by simpa using n0
    clear hp
    by_cases hz : a = 0
    all_goals
      first | subst hz | have hz' : (a == 0) = false := by simpa using hz
      try clear hz
      go_enter Try.func39, Try.ntmps39
      go_wp2_with fail
      refine (specAsk_any _ HA.out).mono ?_
      rintro e w' ⟨rfl, rfl⟩
      go_wp2_with fail
      refine (l00In_yes _ _ _ _ (by omega) n1).mono ?_
      rintro e w' ⟨rfl, rfl⟩
      go_wp2_with fail
      refine (specPow_any _ n p _ h0 h1 a0 a1 n0 n1).mono ?_
      rintro e w' ⟨rfl, rfl⟩
      go_wp2_with fail
      go_ret2
      exact ⟨rfl, Below.refl _ _⟩
  · have HA : Hid (Ask a p 0) := .inr (.inr ⟨hp, by omega, a1, rfl⟩)
    have h0 := hp.1
    have h1 := hp.2.1
    have HP := Lib.hid hp
    have HI := Lib.hid (inv_pw hp a0 a1)
    obtain ⟨x, hx⟩ : ∃ x, pw a p (p - 2).toNat = x := ⟨_, rfl⟩
    rw [hx] at HI
    have HE := Lib.hid (inv_uniq (inv_pow h0 HI.out (-n).toNat) hr)
    have HB := Lib.hid HI.out
    have x0 := HI.out.1
    have x1 := HI.out.2.1
    have hz' : (a == 0) = false := by simp; omega
    clear hp hr hx
    go_enter Try.func39, Try.ntmps39
    go_wp2_with fail
    refine (specAsk_any _ HA.out).mono ?_
    rintro e w' ⟨rfl, rfl⟩
    go_wp2_with fail
    refine (l00In_yes _ _ _ _ n0 (by omega)).mono ?_
    rintro e w' ⟨rfl, rfl⟩
    go_wp2_with fail
    refine (specInv_any a x p _ HP.out a0 a1 HI.out).mono ?_
    rintro e w' ⟨rfl, rfl⟩
    go_wp2_with fail
    refine (specPow_any x (-n) p _ h0 h1 x0 x1 (by omega) (by omega)).mono ?_
    rintro e w' ⟨rfl, rfl⟩
    rw [HE.out]
    go_wp2_with fail
    go_ret2
    exact ⟨rfl, Below.refl _ _⟩
set_option maxHeartbeats 800000 in
theorem implPower_any {p a n r c : Int} (w : World) (h : PowRes p a n r c) :
    Calls Try.prog 22 #[.int .i64 a, .int .i64 n, .int .i64 p] w fun e w' => RetC r c w e w' := by
  rcases h with ⟨hp, rfl, rfl⟩ | ⟨hp, ha, rfl, rfl⟩ | ⟨hp, a0, a1, hn, rfl, rfl⟩ | ⟨hp, rfl, n0, n1, rfl, rfl⟩ | ⟨hp, a0, a1, n0, n1, rfl, rfl⟩ | ⟨hp, a0, a1, n0, n1, hr, rfl⟩
  · have HA : Hid (NumCode p [a] 1) := .inl ⟨hp, rfl⟩
    clear hp
    go_enter Try.func22, Try.ntmps22
    go_wp2_with fail
    refine (numsP_any (one_at _ _ _) HA.out).mono ?_
    rintro e w' ⟨rfl, rfl⟩
    go_wp2_with fail
    go_ret2
    exact ⟨rfl, (Below.refl _ _).alloc (Nat.le_refl _) _⟩
  · have HA : Hid (NumCode p [a] 2) := .inr (.inl ⟨hp, by rw [numOk_one]; omega, rfl⟩)
    clear hp ha
    go_enter Try.func22, Try.ntmps22
    go_wp2_with fail
    refine (numsP_any (one_at _ _ _) HA.out).mono ?_
    rintro e w' ⟨rfl, rfl⟩
    go_wp2_with fail
    go_ret2
    exact ⟨rfl, (Below.refl _ _).alloc (Nat.le_refl _) _⟩
  · have HA : Hid (NumCode p [a] 0) := .inr (.inr ⟨hp, by rw [numOk_one]; omega, rfl⟩)
    have HN := Lib.hid hn
    clear hp hn
    go_enter Try.func22, Try.ntmps22
    go_wp2_with fail
    refine (numsP_any (one_at _ _ _) HA.out).mono ?_
    rintro e w' ⟨rfl, rfl⟩
    go_wp2_with fail
    refine (within64_no _ _ _ _ HN.out).mono ?_
    rintro e w' ⟨rfl, rfl⟩
    go_wp2_with fail
    go_ret2
    exact ⟨rfl, (Below.refl _ _).alloc (Nat.le_refl _) _⟩
  · have HA : Hid (NumCode p [0] 0) := .inr (.inr ⟨hp, by rw [numOk_one]; have := hp.1; omega, rfl⟩)
    have nn : decide (n ≥ 0) = false := by simp; omega
    clear hp
    go_enter Try.func22, Try.ntmps22
    go_wp2_with fail
    refine (numsP_any (one_at _ _ _) HA.out).mono ?_
    rintro e w' ⟨rfl, rfl⟩
    go_wp2_with fail
    refine (within64_yes _ _ _ _ n0 (by omega)).mono ?_
    rintro e w' ⟨rfl, rfl⟩
    go_wp2_with fail
    go_ret2
    exact ⟨rfl, ((Below.refl _ _).alloc (Nat.le_refl _) _).alloc (by simp) _⟩
  · have HA : Hid (NumCode p [a] 0) := .inr (.inr ⟨hp, by rw [numOk_one]; omega, rfl⟩)
    have h0 := hp.1
    have h1 := hp.2.1
    have nn : decide (n ≥ 0) = true := by simpa using n0
    clear hp
    go_enter Try.func22, Try.ntmps22
    go_wp2_with fail
    refine (numsP_any (one_at _ _ _) HA.out).mono ?_
    rintro e w' ⟨rfl, rfl⟩
    go_wp2_with fail
    refine (within64_yes _ _ _ _ (by omega) n1).mono ?_
    rintro e w' ⟨rfl, rfl⟩
    go_wp2_with fail
    refine (implPow_any a n p _ h0 h1 a0 a1 n0 n1).mono ?_
    rintro e w1 ⟨rfl, hb1⟩
    have hf := fun w => field_run (pw a p n.toNat) p w
    go_wp2_with fail
    go_ret2
    exact ⟨rfl, (((Below.refl _ _).alloc (Nat.le_refl _) _).alloc (by simp) _).trans (hb1.mono (by simp; omega))⟩
  · have HA : Hid (NumCode p [a] 0) := .inr (.inr ⟨hp, by rw [numOk_one]; omega, rfl⟩)
    have h0 := hp.1
    have h1 := hp.2.1
    have HP := Lib.hid hp
    have HR := Lib.hid hr
    have nn : decide (n ≥ 0) = false := by simp; omega
    have hz' : (a == 0) = false := by simp; omega
    obtain ⟨q0, q1⟩ := pw_bd a h0 (-n).toNat
    have qn : pw a p (-n).toNat ≠ 0 := by
      intro e
      have := hr.2.2
      rw [e, Int.mul_zero] at this
      simp at this
    obtain ⟨q, hq⟩ : ∃ q, pw a p (-n).toNat = q := ⟨_, rfl⟩
    have HQ := Lib.hid hq
    rw [hq] at q0 q1 qn HR
    clear hp hr hq
    go_enter Try.func22, Try.ntmps22
    go_wp2_with fail
    refine (numsP_any (one_at _ _ _) HA.out).mono ?_
    rintro e w' ⟨rfl, rfl⟩
    go_wp2_with fail
    refine (within64_yes _ _ _ _ n0 (by omega)).mono ?_
    rintro e w' ⟨rfl, rfl⟩
    go_wp2_with fail
    refine (implPow_any a (-n) p _ h0 h1 (by omega) a1 (by omega) (by omega)).mono ?_
    rintro e w1 ⟨rfl, hb1⟩
    rw [HQ.out]
    go_wp2_with fail
    refine (inverse_any q p r _ HP.out (by omega) q1 HR.out).mono ?_
    rintro e w2 ⟨rfl, hb2⟩
    have hf := fun w => field_run r p w
    go_wp2_with fail
    go_ret2
    have hb3 := (((Below.refl w.heap.size w).alloc (Nat.le_refl _) _).alloc (by simp) _).trans (hb1.mono (by simp; omega))
    exact ⟨rfl, hb3.trans (hb2.mono hb3.size)⟩

/-! ### LogOf -/
def LogCode (p a b c : Int) : Prop :=
  (¬ IsPr p ∧ c = 1) ∨ (IsPr p ∧ (a < 0 ∨ p - 1 < a) ∧ c = 2) ∨ (IsPr p ∧ 0 ≤ a ∧ a < p ∧ (b < 0 ∨ p - 1 < b) ∧ c = 2) ∨
  (IsPr p ∧ a = 0 ∧ 0 ≤ b ∧ b < p ∧ c = 6) ∨ (IsPr p ∧ 1 ≤ a ∧ a < p ∧ b = 0 ∧ c = 6) ∨ (IsPr p ∧ 1 ≤ a ∧ a < p ∧ 1 ≤ b ∧ b < p ∧ c = 0)
theorem logCode_has (p a b : Int) : ∃ c, LogCode p a b c := by
  by_cases hp : IsPr p
  · by_cases ha : a < 0 ∨ p - 1 < a
    · exact ⟨2, .inr (.inl ⟨hp, ha, rfl⟩)⟩
    · by_cases hb : b < 0 ∨ p - 1 < b
      · exact ⟨2, .inr (.inr (.inl ⟨hp, by omega, by omega, hb, rfl⟩))⟩
      · by_cases a0 : a = 0
        · exact ⟨6, .inr (.inr (.inr (.inl ⟨hp, a0, by omega, by omega, rfl⟩)))⟩
        · by_cases b0 : b = 0
          · exact ⟨6, .inr (.inr (.inr (.inr (.inl ⟨hp, by omega, by omega, b0, rfl⟩))))⟩
          · exact ⟨0, .inr (.inr (.inr (.inr (.inr ⟨hp, by omega, by omega, by omega, by omega, rfl⟩))))⟩
  · exact ⟨1, .inl ⟨hp, rfl⟩⟩
theorem LogCode.code {p a b c : Int} (h : LogCode p a b c) : UnitCode p [a, b] c := by
  rcases h with ⟨hp, rfl⟩ | ⟨hp, h, rfl⟩ | ⟨hp, a0, a1, h, rfl⟩ | ⟨hp, h, b0, b1, rfl⟩ | ⟨hp, a0, a1, h, rfl⟩ | ⟨hp, a0, a1, b0, b1, rfl⟩
  · exact .inl ⟨hp, rfl⟩
  · exact .inr (.inl ⟨hp, by rw [numOk_two]; omega, rfl⟩)
  · exact .inr (.inl ⟨hp, by rw [numOk_two]; omega, rfl⟩)
  · have := hp.1
    exact .inr (.inr (.inl ⟨hp, by rw [numOk_two]; omega, by rw [noZero_two]; omega, rfl⟩))
  · have := hp.1
    exact .inr (.inr (.inl ⟨hp, by rw [numOk_two]; omega, by rw [noZero_two]; omega, rfl⟩))
  · exact .inr (.inr (.inr ⟨hp, by rw [numOk_two]; omega, by rw [noZero_two]; omega, rfl⟩))
theorem LogCode.good {p a b : Int} (h : LogCode p a b 0) : IsPr p ∧ 1 ≤ a ∧ a < p ∧ 1 ≤ b ∧ b < p := by
  rcases h with ⟨_, h⟩ | ⟨_, _, h⟩ | ⟨_, _, _, _, h⟩ | ⟨_, _, _, _, h⟩ | ⟨_, _, _, _, h⟩ | ⟨hp, a0, a1, b0, b1, _⟩
  all_goals first | exact absurd h (by decide) | exact ⟨hp, a0, a1, b0, b1⟩
/-- The result of LogOf. -/
def LogRes (p a b r c : Int) : Prop :=
  (c ≠ 0 ∧ LogCode p a b c ∧ r = 0) ∨ (LogCode p a b 0 ∧ ∃ n : Nat, (n : Int) < p - 1 ∧ IsLog b p a n ∧ r = n ∧ c = 0) ∨ (LogCode p a b 0 ∧ (∀ m : Nat, (m : Int) < p - 1 → pw b p m ≠ a) ∧ r = 0 ∧ c = 3)
theorem logRes_has (p a b : Int) : ∃ r c, LogRes p a b r c := by
  obtain ⟨c, hc⟩ := logCode_has p a b
  by_cases h : c = 0
  · subst h
    obtain ⟨hp, _⟩ := hc.good
    have := hp.1
    rcases log_or b p a (p - 1).toNat with ⟨n, h0, h1⟩ | hn
    · exact ⟨n, 0, .inr (.inl ⟨hc, n, by omega, h1, rfl, rfl⟩)⟩
    · exact ⟨0, 3, .inr (.inr ⟨hc, fun m hm => hn m (by omega), rfl, rfl⟩)⟩
  · exact ⟨0, c, .inl ⟨h, hc, rfl⟩⟩
theorem implLog_any {p a b r c : Int} (w : World) (h : LogRes p a b r c) :
    Calls Try.prog 25 #[.int .i64 a, .int .i64 b, .int .i64 p] w fun e w' => RetC r c w e w' := by
  rcases h with ⟨hc, hl, rfl⟩ | ⟨hl, n, hn, hi, rfl, rfl⟩ | ⟨hl, hn, rfl, rfl⟩
  · have HU := Lib.hid hl.code
    have e1 : (c != 0) = true := by simpa using hc
    clear hc hl
    go_enter Try.func25, Try.ntmps25
    go_wp2_with fail
    refine (unitsP_any (two_at _ _ _ _) (by simp) HU.out).mono ?_
    rintro e w' ⟨rfl, rfl⟩
    go_wp2_with fail
    go_ret2
    exact ⟨rfl, (Below.refl _ _).alloc (Nat.le_refl _) _⟩
  · have HU := Lib.hid hl.code
    obtain ⟨hp, a0, a1, b0, b1⟩ := hl.good
    have h0 := hp.1
    have h1 := hp.2.1
    have HI := Lib.hid hi
    clear hp hl hi
    go_enter Try.func25, Try.ntmps25
    go_wp2_with fail
    refine (unitsP_any (two_at _ _ _ _) (by simp) HU.out).mono ?_
    rintro e w' ⟨rfl, rfl⟩
    go_wp2_with fail
    refine (expo_yes b a p n _ h0 h1 (by omega) b1 HI.out hn).mono ?_
    rintro e w1 ⟨rfl, hb1⟩
    go_wp2_with fail
    go_ret2
    exact ⟨rfl, ((Below.refl _ _).alloc (Nat.le_refl _) _).trans (hb1.mono (by simp))⟩
  · have HU := Lib.hid hl.code
    obtain ⟨hp, a0, a1, b0, b1⟩ := hl.good
    have h0 := hp.1
    have h1 := hp.2.1
    have HI := Lib.hid hn
    clear hp hl hn
    go_enter Try.func25, Try.ntmps25
    go_wp2_with fail
    refine (unitsP_any (two_at _ _ _ _) (by simp) HU.out).mono ?_
    rintro e w' ⟨rfl, rfl⟩
    go_wp2_with fail
    refine (expo_no b a p _ h0 h1 (by omega) b1 HI.out).mono ?_
    rintro e w1 ⟨rfl, hb1⟩
    go_wp2_with fail
    go_ret2
    exact ⟨rfl, ((Below.refl _ _).alloc (Nat.le_refl _) _).trans (hb1.mono (by simp))⟩
set_option maxHeartbeats 800000 in
theorem specLog_bad {p a b c : Int} (w : World) (hc : c ≠ 0) (h : LogCode p a b c) :
    Calls Try.prog 42 #[.int .i64 a, .int .i64 b, .int .i64 p] w fun e w' => RetC 0 c w e w' := by
  rcases h with ⟨hp, rfl⟩ | ⟨hp, h, rfl⟩ | ⟨hp, a0, a1, h, rfl⟩ | ⟨hp, rfl, b0, b1, rfl⟩ | ⟨hp, a0, a1, rfl, rfl⟩ | ⟨hp, a0, a1, b0, b1, rfl⟩
  · have HA : Hid (Ask a p 1) := .inl ⟨hp, rfl⟩
    clear hp hc
    go_enter Try.func42, Try.ntmps42
    go_wp2_with fail
    refine (specAsk_any _ HA.out).mono ?_
    rintro e w' ⟨rfl, rfl⟩
    go_wp2_with fail
    go_ret2
    exact ⟨rfl, Below.refl _ _⟩
  · have HA : Hid (Ask a p 2) := .inr (.inl ⟨hp, h, rfl⟩)
    clear hp hc h
    go_enter Try.func42, Try.ntmps42
    go_wp2_with fail
    refine (specAsk_any _ HA.out).mono ?_
    rintro e w' ⟨rfl, rfl⟩
    go_wp2_with fail
    go_ret2
    exact ⟨rfl, Below.refl _ _⟩
  · have HA : Hid (Ask a p 0) := .inr (.inr ⟨hp, a0, a1, rfl⟩)
    have HB : Hid (Ask b p 2) := .inr (.inl ⟨hp, h, rfl⟩)
    clear hp hc h
    go_enter Try.func42, Try.ntmps42
    go_wp2_with fail
    refine (specAsk_any _ HA.out).mono ?_
    rintro e w' ⟨rfl, rfl⟩
    go_wp2_with fail
    refine (specAsk_any _ HB.out).mono ?_
    rintro e w' ⟨rfl, rfl⟩
    go_wp2_with fail
    go_ret2
    exact ⟨rfl, Below.refl _ _⟩
  · have HA : Hid (Ask 0 p 0) := .inr (.inr ⟨hp, by omega, by have := hp.1; omega, rfl⟩)
    have HB : Hid (Ask b p 0) := .inr (.inr ⟨hp, b0, b1, rfl⟩)
    clear hp hc
    go_enter Try.func42, Try.ntmps42
    go_wp2_with fail
    refine (specAsk_any _ HA.out).mono ?_
    rintro e w' ⟨rfl, rfl⟩
    go_wp2_with fail
    refine (specAsk_any _ HB.out).mono ?_
    rintro e w' ⟨rfl, rfl⟩
    go_wp2_with fail
    go_ret2
    exact ⟨rfl, Below.refl _ _⟩
  · have HA : Hid (Ask a p 0) := .inr (.inr ⟨hp, by omega, a1, rfl⟩)
    have HB : Hid (Ask 0 p 0) := .inr (.inr ⟨hp, by omega, by have := hp.1; omega, rfl⟩)
    have az : (a == 0) = false := by simp; omega
    clear hp hc
    go_enter Try.func42, Try.ntmps42
    go_wp2_with fail
    refine (specAsk_any _ HA.out).mono ?_
    rintro e w' ⟨rfl, rfl⟩
    go_wp2_with fail
    refine (specAsk_any _ HB.out).mono ?_
    rintro e w' ⟨rfl, rfl⟩
    go_wp2_with fail
    go_ret2
    exact ⟨rfl, Below.refl _ _⟩
  · exact absurd rfl hc
set_option maxHeartbeats 800000 in
theorem specLog_yes {p a b : Int} {n : Nat} (w : World) (hl : LogCode p a b 0) (hn : (n : Int) < p - 1) (hi : IsLog b p a n) :
    Calls Try.prog 42 #[.int .i64 a, .int .i64 b, .int .i64 p] w fun e w' => RetC (n : Int) 0 w e w' := by
  obtain ⟨hp, a0, a1, b0, b1⟩ := hl.good
  have h0 := hp.1
  have h1 := hp.2.1
  have kz : ¬ p = 0 := by omega
  have HA : Hid (Ask a p 0) := .inr (.inr ⟨hp, by omega, a1, rfl⟩)
  have HB : Hid (Ask b p 0) := .inr (.inr ⟨hp, by omega, b1, rfl⟩)
  have HN := Lib.hid hi
  have az : (a == 0) = false := by simp; omega
  have bz : (b == 0) = false := by simp; omega
  clear hp hl hi
  go_enter Try.func42, Try.ntmps42
  go_wp2_with fail
  refine (specAsk_any _ HA.out).mono ?_
  rintro e w' ⟨rfl, rfl⟩
  go_wp2_with fail
  refine (specAsk_any _ HB.out).mono ?_
  rintro e w' ⟨rfl, rfl⟩
  go_wp2_with fail
  go_loop [9, 10] (fun x i => ∃ (k : Nat) (y : Int), k ≤ n ∧ i = .int .i64 (k : Int) ∧ x = .int .i64 y ∧ 0 ≤ y ∧ y < p ∧ Hid (pw b p k = y)) (fun _ i => n - (intOf i).toNat)
  case atStart => exact ⟨0, 1, by omega, rfl, rfl, by omega, by omega, pw_zero b h0⟩
  case round =>
    obtain ⟨k, y, hk, rfl, rfl, y0, y1, HY⟩ := hrel
    have hkp : (k : Int) < p - 1 := by omega
    obtain ⟨q0, q1⟩ := prod_bd h1 y0 y1 (by omega : 0 ≤ b) b1
    by_cases hkn : k = n
    · subst hkn
      have hy : y = a := by rw [← HY.out]; exact HN.out.1
      subst hy
      go_wp2
      go_ret2
      exact ⟨rfl, Below.refl _ _⟩
    · have hy : y ≠ a := by rw [← HY.out]; exact HN.out.2 k (by omega)
      have hy' : (y == a) = false := by simpa using hy
      have HY2 : Hid (pw b p (k + 1) = y * b % p) := by show _ = _; rw [← pw_succ, HY.out]
      have HR := Lib.hid (rem_bd (y * b) h0)
      clear hy
      go_wp2
      go_round
      case rel => exact ⟨k + 1, y * b % p, by omega, by go_num, rfl, HR.out.1, HR.out.2, HY2⟩
      case measure => simp [intOf]; omega
set_option maxHeartbeats 800000 in
theorem specLog_no {p a b : Int} (w : World) (hl : LogCode p a b 0) (hi : ∀ m : Nat, (m : Int) < p - 1 → pw b p m ≠ a) :
    Calls Try.prog 42 #[.int .i64 a, .int .i64 b, .int .i64 p] w fun e w' => RetC 0 3 w e w' := by
  obtain ⟨hp, a0, a1, b0, b1⟩ := hl.good
  have h0 := hp.1
  have h1 := hp.2.1
  have kz : ¬ p = 0 := by omega
  have HA : Hid (Ask a p 0) := .inr (.inr ⟨hp, by omega, a1, rfl⟩)
  have HB : Hid (Ask b p 0) := .inr (.inr ⟨hp, by omega, b1, rfl⟩)
  have HN := Lib.hid hi
  have az : (a == 0) = false := by simp; omega
  have bz : (b == 0) = false := by simp; omega
  clear hp hl hi
  go_enter Try.func42, Try.ntmps42
  go_wp2_with fail
  refine (specAsk_any _ HA.out).mono ?_
  rintro e w' ⟨rfl, rfl⟩
  go_wp2_with fail
  refine (specAsk_any _ HB.out).mono ?_
  rintro e w' ⟨rfl, rfl⟩
  go_wp2_with fail
  go_loop [9, 10] (fun x i => ∃ (k : Nat) (y : Int), (k : Int) ≤ p - 1 ∧ i = .int .i64 (k : Int) ∧ x = .int .i64 y ∧ 0 ≤ y ∧ y < p ∧ Hid (pw b p k = y)) (fun _ i => (p - intOf i).toNat)
  case atStart => exact ⟨0, 1, by omega, rfl, rfl, by omega, by omega, pw_zero b h0⟩
  case round =>
    obtain ⟨k, y, hk, rfl, rfl, y0, y1, HY⟩ := hrel
    obtain ⟨q0, q1⟩ := prod_bd h1 y0 y1 (by omega : 0 ≤ b) b1
    by_cases hkn : (k : Int) = p - 1
    · go_wp2
      go_ret2
      exact ⟨rfl, Below.refl _ _⟩
    · have hkp : (k : Int) < p - 1 := by omega
      have hy : y ≠ a := by rw [← HY.out]; exact HN.out k (by omega)
      have hy' : (y == a) = false := by simpa using hy
      have HY2 : Hid (pw b p (k + 1) = y * b % p) := by show _ = _; rw [← pw_succ, HY.out]
      have HR := Lib.hid (rem_bd (y * b) h0)
      clear hy hkn
      go_wp2
      go_round
      case rel => exact ⟨k + 1, y * b % p, by omega, by go_num, rfl, HR.out.1, HR.out.2, HY2⟩
      case measure => simp [intOf]; omega
theorem specLog_any {p a b r c : Int} (w : World) (h : LogRes p a b r c) :
    Calls Try.prog 42 #[.int .i64 a, .int .i64 b, .int .i64 p] w fun e w' => RetC r c w e w' := by
  rcases h with ⟨hc, hl, rfl⟩ | ⟨hl, n, hn, hi, rfl, rfl⟩ | ⟨hl, hn, rfl, rfl⟩
  · exact specLog_bad w hc hl
  · exact specLog_yes w hl hn hi
  · exact specLog_no w hl hn
end Go.Proofs.Ytlikfgmhhjpggaa
