/-
  Contracts of orders and of the searches for the least number with a property, as the program makes them.
-/
import Derived.Test.YtlikfgmhhjpggaaFldD
import Derived.Test.YtlikfgmhhjpggaaFldE
namespace Go.Proofs.Ytlikfgmhhjpggaa
open Go.RowKit
set_option linter.unusedVariables false

set_option maxRecDepth 100000 in
set_option maxHeartbeats 1600000 in
theorem order_any (a p : Int) (n : Nat) (w : World) (hp : IsPr p) (a0 : 1 ≤ a) (a1 : a < p) (hn : IsOrd a p n) (hn1 : (n : Int) ≤ p - 1) :
    Calls Try.prog 59 #[.agg #[.int .i64 a, .int .i64 p]] w fun e w' => e = .returned (.int .i64 (n : Int)) ∧ Below w.heap.size w w' := by
  have h0 := hp.1
  have h1 := hp.2.1
  have HX := Lib.hid (inv_pw hp a0 a1)
  have HP := Lib.hid hp
  have HL := Lib.hid (ord_log h0 hn HX.out)
  have n1 := hn.1
  obtain ⟨x, hx⟩ : ∃ x, pw a p (p - 2).toNat = x := ⟨_, rfl⟩
  rw [hx] at HX HL
  obtain ⟨m, rfl⟩ : ∃ m, n = m + 1 := ⟨n - 1, by omega⟩
  clear hn hp hx
  go_enter Try.func59, Try.ntmps59
  go_wp2_with fail
  go_region_with (first
    | (go_at_call 58; refine (inverse_any a p x _ HP.out a0 a1 HX.out).mono ?_; rintro e w1 ⟨rfl, hb1⟩; obtain ⟨hc, hf⟩ := bcell hb1)
    | (go_at_call 64; refine (expo_yes a x p m _ h0 h1 (by omega) a1 HL.out (by omega)).mono ?_; rintro e w2 ⟨rfl, hb2⟩))
  all_goals
    go_wp2
    go_ret
    refine ⟨ret_i (by omega), ?_⟩
    exact (((Below.refl _ _).alloc (Nat.le_refl _) _).drew.trans (hb1.mono (by simp))).trans (hb2.mono (by have := hb1.size; simp at this; omega))
set_option maxRecDepth 100000 in
set_option maxHeartbeats 1600000 in
theorem isSq_yes (a y p : Int) (w : World) (h0 : 2 ≤ p) (h1 : p ≤ 251) (y0 : 0 ≤ y) (y1 : y < p) (h : y * y % p = a) :
    Calls Try.prog 68 #[.agg #[.int .i64 a, .int .i64 p], .agg #[.int .i64 y, .int .i64 p]] w fun e w' => e = .returned (.bool true) ∧ Below w.heap.size w w' := by
  go_enter Try.func68, Try.ntmps68
  go_wp2_with fail
  go_region_with (first
    | (go_at_call 90; refine (times_any y y p _ h0 h1 y0 y1 y0 y1).mono ?_; rintro e w1 ⟨rfl, hb1⟩; obtain ⟨hc, hf⟩ := bcell hb1))
  all_goals
    go_wp2
    go_ret
    refine ⟨rfl, ?_⟩
    exact ((((Below.refl _ _).alloc (Nat.le_refl _) _).alloc (by simp) _).drew.trans (hb1.mono (by simp; omega)))
set_option maxRecDepth 100000 in
set_option maxHeartbeats 1600000 in
theorem isSq_no (a y p : Int) (w : World) (h0 : 2 ≤ p) (h1 : p ≤ 251) (y0 : 0 ≤ y) (y1 : y < p) (h : (y * y % p == a) = false) :
    Calls Try.prog 68 #[.agg #[.int .i64 a, .int .i64 p], .agg #[.int .i64 y, .int .i64 p]] w fun e w' => e = .returned (.bool false) ∧ Below w.heap.size w w' := by
  obtain ⟨z, hz⟩ : ∃ z, y * y % p = z := ⟨_, rfl⟩
  rw [hz] at h
  have HZ := Lib.hid hz
  clear hz
  go_enter Try.func68, Try.ntmps68
  go_wp2_with fail
  go_region_with (first
    | (go_at_call 90; refine (times_any y y p _ h0 h1 y0 y1 y0 y1).mono ?_; rintro e w1 ⟨rfl, hb1⟩; rw [HZ.out]; obtain ⟨hc, hf⟩ := bcell hb1))
  all_goals
    go_wp2
    go_ret
    refine ⟨rfl, ?_⟩
    exact ((((Below.refl _ _).alloc (Nat.le_refl _) _).alloc (by simp) _).drew.trans (hb1.mono (by simp; omega)))
end Go.Proofs.Ytlikfgmhhjpggaa
