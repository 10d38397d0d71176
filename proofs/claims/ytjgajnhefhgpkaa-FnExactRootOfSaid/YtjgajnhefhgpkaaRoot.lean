/-
  Contracts of the two square roots: both return rootI of their argument; no condition but that it is an int64.
-/
import Derived.Test.YtjgajnhefhgpkaaIn
import Derived.Test.YtjgajnhefhgpkaaShelf
import Derived.Test.YtjgajnhefhgpkaaRootMath
namespace Go.Proofs.Ytjgajnhefhgpkaa
open Go.RowKit
set_option linter.unusedVariables false

theorem ret_int {k : IntKind} {a b : Int} (h : a = b) : Ending.returned (.int k a) = .returned (.int k b) := by rw [h]

theorem l01Root_any (n : Int) (w : World) (hn : n ≤ 9223372036854775807) :
    Calls Try.prog 28 #[.int .i64 n] w fun e w' => e = .returned (.int .i64 (rootI n)) ∧ w = w' := by
  have hR0 := rootI_nonneg n
  have hR1 := rootI_le n hn
  have HQ := Lib.hid (le_rootI n)
  clear hn
  go_enter Try.func28, Try.ntmps28
  go_wp2
  go_loop [3, 4] (fun lo hi => ∃ l h : Int, 0 ≤ l ∧ l ≤ rootI n ∧ rootI n ≤ h ∧ h ≤ 3037000499 ∧ lo = .int .i64 l ∧ hi = .int .i64 h) (fun lo hi => (intOf hi - intOf lo).toNat)
  case atStart => exact ⟨0, 3037000499, by omega, by omega, by omega, by omega, rfl, rfl⟩
  case round =>
    obtain ⟨l, h, h0, h1, h2, h3, rfl, rfl⟩ := hrel
    by_cases hlt : l < h
    · have hm1 : 1 ≤ (l + h + 1) / 2 := by omega
      obtain ⟨hs0, hs1⟩ := sq_bd ((l + h + 1) / 2) (by omega) (by omega)
      have hq := HQ.out ((l + h + 1) / 2) hm1
      by_cases hm : (l + h + 1) / 2 ≤ rootI n
      · have ht : (l + h + 1) / 2 * ((l + h + 1) / 2) ≤ n := hq.mpr hm
        clear hq
        go_wp2
        go_round
        case rel => exact ⟨(l + h + 1) / 2, h, by omega, by omega, by omega, by omega, rfl, rfl⟩
        case measure => simp [intOf]; omega
      · have ht : ¬ (l + h + 1) / 2 * ((l + h + 1) / 2) ≤ n := fun x => hm (hq.mp x)
        clear hq
        go_wp2
        go_round
        case rel => exact ⟨l, (l + h + 1) / 2 - 1, by omega, by omega, by omega, by omega, rfl, rfl⟩
        case measure => simp [intOf]; omega
    · obtain rfl : l = h := by omega
      go_wp2
      go_ret
      exact ⟨ret_int (by omega), rfl⟩

theorem specRoot_any (n : Int) (w : World) (hn : n ≤ 9223372036854775807) :
    Calls Try.prog 15 #[.int .i64 n] w fun e w' => e = .returned (.int .i64 (rootI n)) ∧ w = w' := by
  go_enter Try.func15, Try.ntmps15
  go_wp2_with (go_at_call 28; refine (l01Root_any _ _ hn).mono ?_; rintro e w' ⟨rfl, rfl⟩)
  go_ret
  exact ⟨rfl, rfl⟩

theorem implRoot_low (n : Int) (w : World) (h : n ≤ 0) :
    Calls Try.prog 16 #[.int .i64 n] w fun e w' => e = .returned (.int .i64 (rootI n)) ∧ w = w' := by
  rw [rootI_neg n h]
  go_enter Try.func16, Try.ntmps16
  go_wp2
  go_ret
  exact ⟨rfl, rfl⟩

set_option maxRecDepth 100000 in
theorem implRoot_high (n : Int) (w : World) (hp : 1 ≤ n) (hn : n ≤ 9223372036854775807) :
    Calls Try.prog 16 #[.int .i64 n] w fun e w' => e = .returned (.int .i64 (rootI n)) ∧ w = w' := by
  obtain ⟨L, hL⟩ : ∃ L : Int, L = (Lib.bitLen n.toNat : Int) := ⟨_, rfl⟩
  obtain ⟨r, hr⟩ : ∃ r : Nat, rootI n = r := ⟨_, rfl⟩
  obtain ⟨hL1, hL2, k0, hk0, he0, ht0⟩ := root_first n r L hp hn hr hL
  have hr1 : r ≤ 3037000499 := by have := rootI_le n hn; omega
  have HQ := Lib.hid (le_rootI n)
  have HL := Lib.hid hL; clear hL
  have HE := Lib.hid he0; clear he0
  have HT := Lib.hid ht0; clear ht0
  rw [hr]
  have HR := Lib.hid hr; clear hr
  go_enter Try.func16, Try.ntmps16
  go_wp2_with fail
  refine (Try.bits_Len64 n _ (by omega) (by omega)).mono ?_
  rw [← HL.out]
  rintro e w' ⟨rfl, rfl⟩
  go_wp2
  go_loop [4, 5] (fun ro pl => ∃ k t : Nat, k ≤ 32 ∧ Hid (top r k = t) ∧ pl = .int .i64 ((k : Int) - 1) ∧ ro = .int .u64 (t : Int)) (fun _ pl => (intOf pl + 1).toNat)
  case atStart => exact ⟨k0, 0, hk0, HT, by rw [HE.out], rfl⟩
  case round =>
    obtain ⟨k, t, hk, htop, rfl, rfl⟩ := hrel
    cases k with
    | zero =>
      have e := htop.out
      rw [top_zero] at e
      subst e
      clear htop
      go_wp2
      go_ret
      exact ⟨rfl, rfl⟩
    | succ j =>
      have e := htop.out
      have hb := next_bd r j hr1 (by omega)
      have ho := or_top r j hr1 (by omega)
      obtain ⟨s1, s2⟩ := top_step r j
      rw [e] at hb ho s1 s2
      obtain ⟨x, hx⟩ : ∃ x : Nat, t + 2 ^ j = x := ⟨_, rfl⟩
      rw [hx] at hb ho s1 s2
      clear e htop
      have X := Lib.hid hx; clear hx
      have hw := sq_wrap x hb
      have hx1 : 1 ≤ x := by have := X.out; have := Nat.two_pow_pos j; omega
      have hq := HQ.out (x : Int) (by omega)
      rw [HR.out] at hq
      by_cases hm : x ≤ r
      · have ht : (x : Int) * (x : Int) ≤ n := hq.mpr (by omega)
        have S := Lib.hid (s1 hm)
        clear hq s1 s2
        go_wp2
        go_round
        case rel => exact ⟨j, x, by omega, S, rfl, rfl⟩
        case measure => simp [intOf]
      · have ht : ¬ (x : Int) * (x : Int) ≤ n := fun y => hm (by have := hq.mp y; omega)
        have S := Lib.hid (s2 hm)
        clear hq s1 s2
        go_wp2
        go_round
        case rel => exact ⟨j, t, by omega, S, rfl, rfl⟩
        case measure => simp [intOf]

theorem implRoot_any (n : Int) (w : World) (hn : n ≤ 9223372036854775807) :
    Calls Try.prog 16 #[.int .i64 n] w fun e w' => e = .returned (.int .i64 (rootI n)) ∧ w = w' := by
  by_cases h : n ≤ 0
  · exact implRoot_low n w h
  · exact implRoot_high n w (by omega) hn

theorem rootOf_walk (a0 : Int) (w0 : (Lit.int .i64 a0).wf = true) (w : World) :
    Calls Try.prog 6 #[.int .i64 a0] w fun e w' => e = .returned (.bool true) ∧ Grown w w' := by
  have hn : a0 ≤ 9223372036854775807 := by
    have h := w0; simp only [Lit.wf, Bool.and_eq_true, decide_eq_true_eq] at h; exact h.2
  clear w0
  go_enter Try.func6, Try.ntmps6
  go_wp2_with (first | (go_at_call 15; refine (specRoot_any _ _ hn).mono ?_; rintro e w' ⟨rfl, rfl⟩) | (go_at_call 16; refine (implRoot_any _ _ hn).mono ?_; rintro e w' ⟨rfl, rfl⟩))
  go_ret
  exact ⟨rfl, Grown.refl _⟩
end Go.Proofs.Ytjgajnhefhgpkaa
