/-
  The program's rounding to the nearest quotient.
-/
import Derived.Test.YtjgajnhefhgpkaaDoorReadDec
import Derived.Test.YtjgajnhefhgpkaaDoorDivMath
import Derived.Deep.QuietTactic
import Derived.BigQuiet
import Derived.Laws.BitsAllLaws
import Derived.ProofKit
namespace Go.Proofs.YtjgajnhefhgpkaaDoor
open Go.RowKit
set_option linter.unusedVariables false

theorem nearP_bd (a b : Int) (hb : 0 < b) (ha : -10000000000000 ≤ a ∧ a ≤ 10000000000000) (hc : b ≤ 10000000000000) : -30000000000000 ≤ nearP a b ∧ nearP a b ≤ 30000000000000 := by
  have key : ∀ c : Int, 0 ≤ c → c ≤ 30000000000000 → 0 ≤ c / (2 * b) ∧ c / (2 * b) ≤ 30000000000000 := by
    intro c h0 h1
    exact ⟨Int.ediv_nonneg h0 (by omega), by have := Int.ediv_le_self (2 * b) h0; omega⟩
  unfold nearP
  split
  · have := key (b - 2 * a) (by omega) (by omega); omega
  · have := key (2 * a + b) (by omega) (by omega); omega
theorem magnitude_any (n : Int) (k : Nat) (w : World) (hk : n.natAbs = k) (h : k ≤ 10000000000000) :
    Calls Tryd.prog 55 #[.int .i64 n] w fun e w' => e = .returned (.int .u64 k) ∧ w = w' := by
  by_cases hn : n < 0
  · obtain rfl : n = -(k : Int) := by omega
    clear hk
    have e0 : IntKind.u64.wrap (-(IntKind.u64.wrap (-(k : Int)))) = (k : Int) := by
      simp only [IntKind.wrap_u64]; omega
    go_enter Tryd.func55, Tryd.ntmps55
    go_wp2
    go_ret
    exact ⟨rfl, rfl⟩
  · obtain rfl : n = (k : Int) := by omega
    clear hk
    go_enter Tryd.func55, Tryd.ntmps55
    go_wp2
    go_ret
    exact ⟨rfl, rfl⟩
theorem ret_int2 {k : IntKind} {a b : Int} (h : a = b) : Ending.returned (.int k a) = .returned (.int k b) := by rw [h]
set_option maxHeartbeats 400000 in
theorem nearest_any (a b : Int) (w : World) (hb : b ≠ 0) (hb1 : -10000000000000 ≤ b) (hb2 : b ≤ 10000000000000) (ha : -10000000000000 ≤ a) (ha2 : a ≤ 10000000000000) :
    Calls Tryd.prog 38 #[.int .i64 a, .int .i64 b] w fun e w' => e = .returned (.int .i64 (nearI a b)) ∧ ∃ n, w' = w.drewN n := by
  rw [← stepI_eq a b hb]
  obtain ⟨kb, hkb⟩ : ∃ k : Nat, b.natAbs = k := ⟨_, rfl⟩
  obtain ⟨km, hkm⟩ : ∃ k : Nat, (a.tmod b).natAbs = k := ⟨_, rfl⟩
  have hlt : km < kb := by rw [← hkm, ← hkb, Int.natAbs_tmod]; exact Nat.mod_lt _ (by omega)
  have hkbm : kb ≤ 10000000000000 := by omega
  have hq0 : (a.tdiv b).natAbs ≤ 10000000000000 := by
    rw [Int.natAbs_tdiv]; exact Nat.le_trans (Nat.div_le_self _ _) (by omega)
  have hm0 : (a.tmod b).natAbs ≤ 10000000000000 := by omega
  unfold stepI
  rw [hkb, hkm]
  obtain ⟨q, hq⟩ : ∃ q, a.tdiv b = q := ⟨_, rfl⟩
  obtain ⟨m, hm⟩ : ∃ m, a.tmod b = m := ⟨_, rfl⟩
  rw [hq] at hq0 ⊢
  rw [hm] at hm0 hkm
  have hq1 : -10000000000000 ≤ q := by omega
  have hq2 : q ≤ 10000000000000 := by omega
  have hm1 : -10000000000000 ≤ m := by omega
  have hm2 : m ≤ 10000000000000 := by omega
  have wq : IntKind.i64.wrap q = q := IntWalk.i64_in _ (by omega)
  have wm : IntKind.i64.wrap m = m := IntWalk.i64_in _ (by omega)
  have hb0 : ¬ b = 0 := hb
  have HKB := Lib.hid hkb; clear hkb
  have HKM := Lib.hid hkm; clear hkm hq0 hm0
  by_cases hc : km < kb - km
  · rw [if_pos hc]
    have hc2 : (km : Int) < (kb : Int) - (km : Int) := by omega
    clear hc
    go_enter Tryd.func38, Tryd.ntmps38
    go_wp2
    go_quiet (fail)
    go_wp2_with fail
    refine (magnitude_any _ _ _ HKM.out (by omega)).mono ?_
    rintro e w' ⟨rfl, rfl⟩
    go_wp2_with fail
    refine (magnitude_any _ _ _ HKB.out (by omega)).mono ?_
    rintro e w' ⟨rfl, rfl⟩
    go_wp2_with fail
    refine (magnitude_any _ _ _ HKM.out (by omega)).mono ?_
    rintro e w' ⟨rfl, rfl⟩
    go_wp2_with fail
    go_ret
    exact ⟨rfl, _, rfl⟩
  · rw [if_neg hc]
    have hc2 : ¬ (km : Int) < (kb : Int) - (km : Int) := by omega
    clear hc
    by_cases h1 : (decide (a < 0) == decide (b < 0)) = true
    · rw [if_pos h1]
      go_enter Tryd.func38, Tryd.ntmps38
      go_wp2
      go_quiet (fail)
      go_wp2_with fail
      refine (magnitude_any _ _ _ HKM.out (by omega)).mono ?_
      rintro e w' ⟨rfl, rfl⟩
      go_wp2_with fail
      refine (magnitude_any _ _ _ HKB.out (by omega)).mono ?_
      rintro e w' ⟨rfl, rfl⟩
      go_wp2_with fail
      refine (magnitude_any _ _ _ HKM.out (by omega)).mono ?_
      rintro e w' ⟨rfl, rfl⟩
      go_wp2_with fail
      go_ret
      exact ⟨rfl, _, rfl⟩
    · rw [if_neg h1]
      have h1 : (decide (a < 0) == decide (b < 0)) = false := by simpa using h1
      go_enter Tryd.func38, Tryd.ntmps38
      go_wp2
      go_quiet (fail)
      go_wp2_with fail
      refine (magnitude_any _ _ _ HKM.out (by omega)).mono ?_
      rintro e w' ⟨rfl, rfl⟩
      go_wp2_with fail
      refine (magnitude_any _ _ _ HKB.out (by omega)).mono ?_
      rintro e w' ⟨rfl, rfl⟩
      go_wp2_with fail
      refine (magnitude_any _ _ _ HKM.out (by omega)).mono ?_
      rintro e w' ⟨rfl, rfl⟩
      go_wp2_with fail
      go_ret
      exact ⟨rfl, _, rfl⟩
/-- The law's number: 0 outside its limits, otherwise the nearest quotient. -/
def divI (a b : Int) : Int := if b = 0 ∨ (a < -1000000000000 ∨ 1000000000000 < a) ∨ (b < -1000000000000 ∨ 1000000000000 < b) then 0 else nearI a b
theorem implDiv_any (a b : Int) (w : World) :
    Calls Tryd.prog 12 #[.int .i64 a, .int .i64 b] w fun e w' => e = .returned (.int .i64 (divI a b)) ∧ ∃ n, w' = w.drewN n := by
  by_cases c0 : b = 0
  · subst c0
    rw [show divI a 0 = 0 by unfold divI; rw [if_pos (.inl rfl)]]
    go_enter Tryd.func12, Tryd.ntmps12
    go_wp2_with fail
    go_ret
    exact ⟨rfl, 0, rfl⟩
  · have b0 : (b == 0) = false := by simpa using c0
    by_cases c1 : a < -1000000000000 ∨ 1000000000000 < a
    · rw [show divI a b = 0 by unfold divI; rw [if_pos (.inr (.inl c1))]]
      have C1 := Lib.hid c1; clear c1 c0
      go_enter Tryd.func12, Tryd.ntmps12
      go_wp2_with (go_at_call 37; refine (within64_no _ _ _ _ C1.out).mono ?_; rintro e w' ⟨rfl, rfl⟩)
      go_ret
      exact ⟨rfl, 0, rfl⟩
    · by_cases c2 : b < -1000000000000 ∨ 1000000000000 < b
      · rw [show divI a b = 0 by unfold divI; rw [if_pos (.inr (.inr c2))]]
        have a1 : -1000000000000 ≤ a := by omega
        have a2 : a ≤ 1000000000000 := by omega
        have C2 := Lib.hid c2; clear c1 c2 c0
        go_enter Tryd.func12, Tryd.ntmps12
        go_wp2_with fail
        refine (within64_yes _ _ _ _ a1 a2).mono ?_
        rintro e w' ⟨rfl, rfl⟩
        go_wp2_with fail
        refine (within64_no _ _ _ _ C2.out).mono ?_
        rintro e w' ⟨rfl, rfl⟩
        go_wp2_with fail
        go_ret
        exact ⟨rfl, 0, rfl⟩
      · rw [show divI a b = nearI a b by unfold divI; rw [if_neg (by omega)]]
        have a1 : -1000000000000 ≤ a := by omega
        have a2 : a ≤ 1000000000000 := by omega
        have b1 : -1000000000000 ≤ b := by omega
        have b2 : b ≤ 1000000000000 := by omega
        have C0 := Lib.hid c0; clear c1 c2 c0
        go_enter Tryd.func12, Tryd.ntmps12
        go_wp2_with fail
        refine (within64_yes _ _ _ _ a1 a2).mono ?_
        rintro e w' ⟨rfl, rfl⟩
        go_wp2_with fail
        refine (within64_yes _ _ _ _ b1 b2).mono ?_
        rintro e w' ⟨rfl, rfl⟩
        go_wp2_with fail
        refine (nearest_any _ _ _ C0.out (by omega) (by omega) (by omega) (by omega)).mono ?_
        rintro e w' ⟨rfl, nq, rfl⟩
        go_wp2_with fail
        go_ret
        exact ⟨rfl, _, rfl⟩
end Go.Proofs.YtjgajnhefhgpkaaDoor
