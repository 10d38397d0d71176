/-
  The program's square root: rootI of its argument, for every int64.
-/
import Derived.Test.YtjgajnhefhgpkaaDoorReadDec
import Derived.Test.YtjgajnhefhgpkaaDoorShLen
import Derived.Test.YtjgajnhefhgpkaaDoorRootMath
namespace Go.Proofs.YtjgajnhefhgpkaaDoor
open Go.RowKit
set_option linter.unusedVariables false

theorem implRoot_low (n : Int) (w : World) (h : n ≤ 0) :
    Calls Tryd.prog 11 #[.int .i64 n] w fun e w' => e = .returned (.int .i64 (rootI n)) ∧ w = w' := by
  rw [rootI_neg n h]
  go_enter Tryd.func11, Tryd.ntmps11
  go_wp2
  go_ret
  exact ⟨rfl, rfl⟩
set_option maxRecDepth 100000 in
theorem implRoot_high (n : Int) (w : World) (hp : 1 ≤ n) (hn : n ≤ 9223372036854775807) :
    Calls Tryd.prog 11 #[.int .i64 n] w fun e w' => e = .returned (.int .i64 (rootI n)) ∧ w = w' := by
  obtain ⟨L, hL⟩ : ∃ L : Int, L = (Lib.bitLen n.toNat : Int) := ⟨_, rfl⟩
  obtain ⟨r, hr⟩ : ∃ r : Nat, rootI n = r := ⟨_, rfl⟩
  obtain ⟨hL1, hL2, k0, hk0, he0, ht0⟩ := root_first n r L hp hn hr hL
  have hr1 : r ≤ 3037000499 := by have := rootI_le n hn; omega
  have HQ := Lib.hid (le_rootI n)
  have HL := Lib.hid hL; clear hL
  have HE := Lib.hid he0; clear he0
  have HT := Lib.hid ht0; clear ht0
  rw [hr]
  have HR := Lib.hid hr; clear hr
  go_enter Tryd.func11, Tryd.ntmps11
  go_wp2_with fail
  refine (Tryd.bits_Len64 n _ (by omega) (by omega)).mono ?_
  rw [← HL.out]
  rintro e w' ⟨rfl, rfl⟩
  go_wp2
  go_loop [4, 5] (fun ro pl => ∃ k t : Nat, k ≤ 32 ∧ Hid (top r k = t) ∧ pl = .int .i64 ((k : Int) - 1) ∧ ro = .int .u64 (t : Int)) (fun _ pl => (intOf pl + 1).toNat)
  case atStart => exact ⟨k0, 0, hk0, HT, by rw [HE.out], rfl⟩
  case round =>
    obtain ⟨k, t, hk, htop, rfl, rfl⟩ := hrel
    cases k with
    | zero =>
      have e := htop.out
      rw [top_zero] at e
      subst e
      clear htop
      go_wp2
      go_ret
      exact ⟨rfl, rfl⟩
    | succ j =>
      have e := htop.out
      have hb := next_bd r j hr1 (by omega)
      have ho := or_top r j hr1 (by omega)
      obtain ⟨s1, s2⟩ := top_step r j
      rw [e] at hb ho s1 s2
      obtain ⟨x, hx⟩ : ∃ x : Nat, t + 2 ^ j = x := ⟨_, rfl⟩
      rw [hx] at hb ho s1 s2
      clear e htop
      have X := Lib.hid hx; clear hx
      have hw := sq_wrap x hb
      have hx1 : 1 ≤ x := by have := X.out; have := Nat.two_pow_pos j; omega
      have hq := HQ.out (x : Int) (by omega)
      rw [HR.out] at hq
      by_cases hm : x ≤ r
      · have ht : (x : Int) * (x : Int) ≤ n := hq.mpr (by omega)
        have S := Lib.hid (s1 hm)
        clear hq s1 s2
        go_wp2
        go_round
        case rel => exact ⟨j, x, by omega, S, rfl, rfl⟩
        case measure => simp [intOf]
      · have ht : ¬ (x : Int) * (x : Int) ≤ n := fun y => hm (by have := hq.mp y; omega)
        have S := Lib.hid (s2 hm)
        clear hq s1 s2
        go_wp2
        go_round
        case rel => exact ⟨j, t, by omega, S, rfl, rfl⟩
        case measure => simp [intOf]
theorem implRoot_any (n : Int) (w : World) (hn : n ≤ 9223372036854775807) :
    Calls Tryd.prog 11 #[.int .i64 n] w fun e w' => e = .returned (.int .i64 (rootI n)) ∧ w = w' := by
  by_cases h : n ≤ 0
  · exact implRoot_low n w h
  · exact implRoot_high n w (by omega) hn
end Go.Proofs.YtjgajnhefhgpkaaDoor
