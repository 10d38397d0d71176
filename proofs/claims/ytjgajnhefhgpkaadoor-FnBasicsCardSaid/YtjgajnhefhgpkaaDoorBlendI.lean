/-
  The program's number on a line.
-/
import Derived.Test.YtjgajnhefhgpkaaDoorDivI
namespace Go.Proofs.YtjgajnhefhgpkaaDoor
open Go.RowKit
set_option linter.unusedVariables false

theorem prod_bd (u v : Int) (hu : -2000000 ≤ u ∧ u ≤ 2000000) (hv : 0 ≤ v ∧ v ≤ 2000000) : -4000000000000 ≤ u * v ∧ u * v ≤ 4000000000000 := by
  have h1 : u * v ≤ 2000000 * v := Int.mul_le_mul_of_nonneg_right hu.2 hv.1
  have h2 : -2000000 * v ≤ u * v := Int.mul_le_mul_of_nonneg_right hu.1 hv.1
  omega
theorem near_one (u d : Int) (hd : 0 < d) : nearI (u * d) d = u := by
  rw [← stepI_eq _ _ (by omega)]
  unfold stepI
  rw [Int.mul_tmod_left, Int.mul_tdiv_cancel _ (by omega), if_pos (by simp; omega)]
theorem near_zero (d : Int) (hd : 0 < d) : nearI 0 d = 0 := by
  rw [← stepI_eq _ _ (by omega)]; exact stepI_zero d (by omega)
/-- The number on the line, or that of the nearer end. -/
def lineI (x0 y0 x1 y1 x : Int) : Int :=
  if x1 ≤ x0 then y0 else if x ≤ x0 then y0 else if x1 ≤ x then y1 else y0 + nearI ((y1 - y0) * (x - x0)) (x1 - x0)
/-- x brought between x0 and x1. -/
def clampI (x0 x1 x : Int) : Int := if x ≤ x0 then x0 else if x1 ≤ x then x1 else x
theorem line_clamp (x0 y0 x1 y1 x : Int) (h : x0 < x1) : lineI x0 y0 x1 y1 x = y0 + nearI ((y1 - y0) * (clampI x0 x1 x - x0)) (x1 - x0) := by
  unfold lineI clampI
  rw [if_neg (by omega)]
  split
  · rw [Int.sub_self, Int.mul_zero, near_zero _ (by omega)]; omega
  · split
    · rw [near_one _ _ (by omega)]; omega
    · rfl
theorem nearI_bd (a b : Int) (hb : 0 < b) (ha : -4000000000000 ≤ a ∧ a ≤ 4000000000000) (hc : b ≤ 2000000) : -30000000000000 ≤ nearI a b ∧ nearI a b ≤ 30000000000000 := by
  unfold nearI
  rw [if_neg (by omega)]
  exact nearP_bd a b hb (by omega) (by omega)
theorem least_any (a b : Int) (w : World) :
    Calls Tryd.prog 40 #[.int .i64 a, .int .i64 b] w fun e w' => e = .returned (.int .i64 (if b < a then b else a)) ∧ w = w' := by
  by_cases h : b < a
  · rw [if_pos h]
    go_enter Tryd.func40, Tryd.ntmps40
    go_wp2
    go_ret
    exact ⟨rfl, rfl⟩
  · rw [if_neg h]
    go_enter Tryd.func40, Tryd.ntmps40
    go_wp2
    go_ret
    exact ⟨rfl, rfl⟩
theorem greatest_any (a b : Int) (w : World) :
    Calls Tryd.prog 41 #[.int .i64 a, .int .i64 b] w fun e w' => e = .returned (.int .i64 (if a < b then b else a)) ∧ w = w' := by
  by_cases h : a < b
  · rw [if_pos h]
    go_enter Tryd.func41, Tryd.ntmps41
    go_wp2
    go_ret
    exact ⟨rfl, rfl⟩
  · rw [if_neg h]
    go_enter Tryd.func41, Tryd.ntmps41
    go_wp2
    go_ret
    exact ⟨rfl, rfl⟩
theorem least_is (a b c : Int) (w : World) (h : (if b < a then b else a) = c) :
    Calls Tryd.prog 40 #[.int .i64 a, .int .i64 b] w fun e w' => e = .returned (.int .i64 c) ∧ w = w' := by
  rw [← h]; exact least_any a b w
theorem greatest_is (a b c : Int) (w : World) (h : (if a < b then b else a) = c) :
    Calls Tryd.prog 41 #[.int .i64 a, .int .i64 b] w fun e w' => e = .returned (.int .i64 c) ∧ w = w' := by
  rw [← h]; exact greatest_any a b w
/-- A number from -1000000 to 1000000. -/
def inM (n : Int) : Prop := -1000000 ≤ n ∧ n ≤ 1000000
theorem inM_no {n : Int} (h : ¬ inM n) : n < -1000000 ∨ 1000000 < n := by unfold inM at h; omega
/-- The law's number: 0 outside the limits, otherwise that of the line. -/
noncomputable def blendI (x0 y0 x1 y1 x : Int) : Int := by
  classical exact if inM x0 ∧ inM y0 ∧ inM x1 ∧ inM y1 then lineI x0 y0 x1 y1 x else 0
theorem blendI_in {x0 y0 x1 y1 x : Int} (h : inM x0 ∧ inM y0 ∧ inM x1 ∧ inM y1) : blendI x0 y0 x1 y1 x = lineI x0 y0 x1 y1 x := by
  unfold blendI; simp [h]
theorem blendI_out {x0 y0 x1 y1 x : Int} (h : ¬ (inM x0 ∧ inM y0 ∧ inM x1 ∧ inM y1)) : blendI x0 y0 x1 y1 x = 0 := by
  unfold blendI; rw [if_neg h]
set_option maxRecDepth 100000 in
theorem implBlend_out (x0 y0 x1 y1 x : Int) (w : World) (h : ¬ (inM x0 ∧ inM y0 ∧ inM x1 ∧ inM y1)) :
    Calls Tryd.prog 15 #[.int .i64 x0, .int .i64 y0, .int .i64 x1, .int .i64 y1, .int .i64 x] w fun e w' => e = .returned (.int .i64 0) ∧ w = w' := by
  have H := Lib.hid h; clear h
  have i0 : ∀ w : World, (Instr.index 52 (.agg #[.int .i64 x0, .int .i64 y0, .int .i64 x1, .int .i64 y1]) (.int .i64 0)).run Tryd.prog w = .ok (.int .i64 x0) w := fun _ => by kernel_rfl
  have i1 : ∀ w : World, (Instr.index 52 (.agg #[.int .i64 x0, .int .i64 y0, .int .i64 x1, .int .i64 y1]) (.int .i64 1)).run Tryd.prog w = .ok (.int .i64 y0) w := fun _ => by kernel_rfl
  have i2 : ∀ w : World, (Instr.index 52 (.agg #[.int .i64 x0, .int .i64 y0, .int .i64 x1, .int .i64 y1]) (.int .i64 2)).run Tryd.prog w = .ok (.int .i64 x1) w := fun _ => by kernel_rfl
  have i3 : ∀ w : World, (Instr.index 52 (.agg #[.int .i64 x0, .int .i64 y0, .int .i64 x1, .int .i64 y1]) (.int .i64 3)).run Tryd.prog w = .ok (.int .i64 y1) w := fun _ => by kernel_rfl
  go_enter Tryd.func15, Tryd.ntmps15
  go_wp2
  go_loop [19] (fun i => ∃ k : Nat, k ≤ 4 ∧ i = .int .i64 k ∧ Hid ((0 < k → inM x0) ∧ (1 < k → inM y0) ∧ (2 < k → inM x1) ∧ (3 < k → inM y1))) (fun i => 4 - (intOf i).toNat)
  case atStart => exact ⟨0, Nat.zero_le _, rfl, ⟨fun c => absurd c (by omega), fun c => absurd c (by omega), fun c => absurd c (by omega), fun c => absurd c (by omega)⟩⟩
  case round =>
    obtain ⟨k, hk, rfl, P⟩ := hrel
    have hk5 : k = 0 ∨ k = 1 ∨ k = 2 ∨ k = 3 ∨ k = 4 := by omega
    clear hk
    rcases hk5 with rfl | rfl | rfl | rfl | rfl
    · by_cases c : inM x0
      · have C := Lib.hid c
        have c0 := c.1
        have c1 := c.2
        clear c
        go_wp2_with (go_at_call 37; refine (within64_yes _ _ _ _ (by omega) (by omega)).mono ?_; rintro e w' ⟨rfl, rfl⟩)
        have c := C.out
        go_round
        case rel => exact ⟨1, by omega, rfl, ⟨fun _ => c, fun c => absurd c (by omega), fun c => absurd c (by omega), fun c => absurd c (by omega)⟩⟩
        case measure => simp [intOf]
      · have C := Lib.hid (inM_no c); clear c
        go_wp2_with (go_at_call 37; refine (within64_no _ _ _ _ C.out).mono ?_; rintro e w' ⟨rfl, rfl⟩)
        go_ret
        exact ⟨rfl, rfl⟩
    · by_cases c : inM y0
      · have C := Lib.hid c
        have c0 := c.1
        have c1 := c.2
        clear c
        go_wp2_with (go_at_call 37; refine (within64_yes _ _ _ _ (by omega) (by omega)).mono ?_; rintro e w' ⟨rfl, rfl⟩)
        have c := C.out
        go_round
        case rel => exact ⟨2, by omega, rfl, ⟨fun _ => P.out.1 (by omega), fun _ => c, fun c => absurd c (by omega), fun c => absurd c (by omega)⟩⟩
        case measure => simp [intOf]
      · have C := Lib.hid (inM_no c); clear c
        go_wp2_with (go_at_call 37; refine (within64_no _ _ _ _ C.out).mono ?_; rintro e w' ⟨rfl, rfl⟩)
        go_ret
        exact ⟨rfl, rfl⟩
    · by_cases c : inM x1
      · have C := Lib.hid c
        have c0 := c.1
        have c1 := c.2
        clear c
        go_wp2_with (go_at_call 37; refine (within64_yes _ _ _ _ (by omega) (by omega)).mono ?_; rintro e w' ⟨rfl, rfl⟩)
        have c := C.out
        go_round
        case rel => exact ⟨3, by omega, rfl, ⟨fun _ => P.out.1 (by omega), fun _ => P.out.2.1 (by omega), fun _ => c, fun c => absurd c (by omega)⟩⟩
        case measure => simp [intOf]
      · have C := Lib.hid (inM_no c); clear c
        go_wp2_with (go_at_call 37; refine (within64_no _ _ _ _ C.out).mono ?_; rintro e w' ⟨rfl, rfl⟩)
        go_ret
        exact ⟨rfl, rfl⟩
    · by_cases c : inM y1
      · have C := Lib.hid c
        have c0 := c.1
        have c1 := c.2
        clear c
        go_wp2_with (go_at_call 37; refine (within64_yes _ _ _ _ (by omega) (by omega)).mono ?_; rintro e w' ⟨rfl, rfl⟩)
        have c := C.out
        go_round
        case rel => exact ⟨4, by omega, rfl, ⟨fun _ => P.out.1 (by omega), fun _ => P.out.2.1 (by omega), fun _ => P.out.2.2.1 (by omega), fun _ => c⟩⟩
        case measure => simp [intOf]
      · have C := Lib.hid (inM_no c); clear c
        go_wp2_with (go_at_call 37; refine (within64_no _ _ _ _ C.out).mono ?_; rintro e w' ⟨rfl, rfl⟩)
        go_ret
        exact ⟨rfl, rfl⟩
    · exact absurd ⟨P.out.1 (by omega), P.out.2.1 (by omega), P.out.2.2.1 (by omega), P.out.2.2.2 (by omega)⟩ H.out
set_option maxRecDepth 100000 in
theorem implBlend_in (x0 y0 x1 y1 x : Int) (w : World) (hx0 : inM x0) (hy0 : inM y0) (hx1 : inM x1) (hy1 : inM y1) :
    Calls Tryd.prog 15 #[.int .i64 x0, .int .i64 y0, .int .i64 x1, .int .i64 y1, .int .i64 x] w fun e w' => e = .returned (.int .i64 (lineI x0 y0 x1 y1 x)) ∧ ∃ n, w' = w.drewN n := by
  obtain ⟨v, hv⟩ : ∃ v, lineI x0 y0 x1 y1 x = v := ⟨_, rfl⟩
  rw [hv]
  have HV := Lib.hid hv; clear hv
  obtain ⟨gx00, gx01⟩ := hx0
  obtain ⟨gy00, gy01⟩ := hy0
  obtain ⟨gx10, gx11⟩ := hx1
  obtain ⟨gy10, gy11⟩ := hy1
  have i0 : ∀ w : World, (Instr.index 52 (.agg #[.int .i64 x0, .int .i64 y0, .int .i64 x1, .int .i64 y1]) (.int .i64 0)).run Tryd.prog w = .ok (.int .i64 x0) w := fun _ => by kernel_rfl
  have i1 : ∀ w : World, (Instr.index 52 (.agg #[.int .i64 x0, .int .i64 y0, .int .i64 x1, .int .i64 y1]) (.int .i64 1)).run Tryd.prog w = .ok (.int .i64 y0) w := fun _ => by kernel_rfl
  have i2 : ∀ w : World, (Instr.index 52 (.agg #[.int .i64 x0, .int .i64 y0, .int .i64 x1, .int .i64 y1]) (.int .i64 2)).run Tryd.prog w = .ok (.int .i64 x1) w := fun _ => by kernel_rfl
  have i3 : ∀ w : World, (Instr.index 52 (.agg #[.int .i64 x0, .int .i64 y0, .int .i64 x1, .int .i64 y1]) (.int .i64 3)).run Tryd.prog w = .ok (.int .i64 y1) w := fun _ => by kernel_rfl
  go_enter Tryd.func15, Tryd.ntmps15
  go_wp2
  go_loop [19] (fun i => ∃ k : Nat, k ≤ 4 ∧ i = .int .i64 k) (fun i => 4 - (intOf i).toNat)
  case atStart => exact ⟨0, Nat.zero_le _, rfl⟩
  case round =>
    obtain ⟨k, hk, rfl⟩ := hrel
    have hk5 : k = 0 ∨ k = 1 ∨ k = 2 ∨ k = 3 ∨ k = 4 := by omega
    clear hk
    rcases hk5 with rfl | rfl | rfl | rfl | rfl
    · go_wp2_with (go_at_call 37; refine (within64_yes _ _ _ _ (by omega) (by omega)).mono ?_; rintro e w' ⟨rfl, rfl⟩)
      go_round
      case rel => exact ⟨1, by omega, rfl⟩
      case measure => simp [intOf]
    · go_wp2_with (go_at_call 37; refine (within64_yes _ _ _ _ (by omega) (by omega)).mono ?_; rintro e w' ⟨rfl, rfl⟩)
      go_round
      case rel => exact ⟨2, by omega, rfl⟩
      case measure => simp [intOf]
    · go_wp2_with (go_at_call 37; refine (within64_yes _ _ _ _ (by omega) (by omega)).mono ?_; rintro e w' ⟨rfl, rfl⟩)
      go_round
      case rel => exact ⟨3, by omega, rfl⟩
      case measure => simp [intOf]
    · go_wp2_with (go_at_call 37; refine (within64_yes _ _ _ _ (by omega) (by omega)).mono ?_; rintro e w' ⟨rfl, rfl⟩)
      go_round
      case rel => exact ⟨4, by omega, rfl⟩
      case measure => simp [intOf]
    · by_cases h : x1 ≤ x0
      · have HV2 : Hid (y0 = v) := by have e := HV.out; unfold lineI at e; rw [if_pos h] at e; exact e
        go_wp2
        go_ret
        exact ⟨ret_int2 HV2.out, 0, rfl⟩
      · have hv := HV.out
        rw [line_clamp _ _ _ _ _ (by omega)] at hv
        obtain ⟨s, hs⟩ : ∃ s, clampI x0 x1 x = s := ⟨_, rfl⟩
        have hs0 : x0 ≤ s := by rw [← hs]; unfold clampI; split <;> (try split) <;> omega
        have hs1 : s ≤ x1 := by rw [← hs]; unfold clampI; split <;> (try split) <;> omega
        have hs2 : (if x1 < (if x < x0 then x0 else x) then x1 else (if x < x0 then x0 else x)) = s := by
          rw [← hs]; unfold clampI; split <;> split <;> (try split) <;> omega
        rw [hs] at hv
        have HV2 := Lib.hid hv
        clear hv
        obtain ⟨p0, p1⟩ := prod_bd (y1 - y0) (s - x0) (by omega) (by omega)
        obtain ⟨q0, q1⟩ := nearI_bd _ (x1 - x0) (by omega) ⟨p0, p1⟩ (by omega)
        have HS := Lib.hid hs2
        clear hs hs2
        obtain ⟨g, hg⟩ : ∃ g : Int, (if x < x0 then x0 else x) = g := ⟨_, rfl⟩
        have HG := Lib.hid hg
        have HS2 : Hid ((if x1 < g then x1 else g) = s) := by rw [← hg]; exact HS.out
        clear hg
        go_wp2_with (first | (go_at_call 41; refine (greatest_is _ _ _ _ HG.out).mono ?_; rintro e w' ⟨rfl, rfl⟩) | (go_at_call 40; refine (least_is _ _ _ _ HS2.out).mono ?_; rintro e w' ⟨rfl, rfl⟩) | (go_at_call 38; refine (nearest_any _ _ _ (by omega) (by omega) (by omega) (by omega) (by omega)).mono ?_; rintro e w' ⟨rfl, nq, rfl⟩))
        go_ret
        exact ⟨ret_int2 HV2.out, _, rfl⟩
theorem implBlend_any (x0 y0 x1 y1 x : Int) (w : World) :
    Calls Tryd.prog 15 #[.int .i64 x0, .int .i64 y0, .int .i64 x1, .int .i64 y1, .int .i64 x] w fun e w' => e = .returned (.int .i64 (blendI x0 y0 x1 y1 x)) ∧ ∃ n, w' = w.drewN n := by
  by_cases h : inM x0 ∧ inM y0 ∧ inM x1 ∧ inM y1
  · rw [blendI_in h]
    exact implBlend_in x0 y0 x1 y1 x w h.1 h.2.1 h.2.2.1 h.2.2.2
  · rw [blendI_out h]
    exact (implBlend_out x0 y0 x1 y1 x w h).mono fun e w' ⟨he, hw⟩ => ⟨he, 0, hw.symm⟩
end Go.Proofs.YtjgajnhefhgpkaaDoor
