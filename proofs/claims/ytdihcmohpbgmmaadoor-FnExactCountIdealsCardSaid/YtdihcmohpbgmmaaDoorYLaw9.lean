/-
  Laws of posets: whatever the arguments, the program's answer is the model's, the arguments are as before, and the answer lies in new memory.
-/
import Derived.Test.YtdihcmohpbgmmaaDoorPtG
import Derived.Deep.RegionHeld3
import Derived.StillTactics
import Derived.Deep.DeepCutAuto
namespace Go.Proofs.YtdihcmohpbgmmaaDoor
open Go.RowKit
set_option linter.unusedVariables false

set_option maxRecDepth 100000 in
set_option maxHeartbeats 20000000 in
theorem countIdeals_at {u0 : Value} {z0 : List (List Int)} (s0 : Int) (w : World) (hu0 : RowsAt w u0 z0) (hsum : (z0.length + tot z0) ≤ 1048576) (hTz : Tz w) :
    Calls Tryd.prog 10 #[.agg #[.int .i64 s0, u0]] w fun e w' => e = .returned (.bool true) ∧ Below w.heap.size w w' := by
  have TZ := Lib.hid hTz
  clear hTz
  have Hu0 := Lib.hid hu0
  have hl0 : FitR z0 := ⟨by omega, by omega⟩
  have hc0 : z0.length ≤ 1048576 := hl0.1
  have ht0 : tot z0 ≤ 1048576 := hl0.2
  obtain ⟨a0, cap0, rfl⟩ := hu0.slice
  clear hu0
  obtain ⟨N0, N1, hr⟩ := cntIs_has s0 z0
  have HR : Hid (CntIs s0 z0 N0 N1) := hr
  clear hr
  have ec0 : (N0 != N0) = false := by simp
  have ec1 : (N1 != N1) = false := by simp
  have K0 : Hid (∀ w', Below w.heap.size w w' → RowsAt w' (.slice a0 z0.length cap0) z0) := fun w' hb => Hu0.out.on hb
  clear Hu0
  have B0 : Hid (Below w.heap.size w w) := Below.refl _ _
  go_enter Tryd.func10, Tryd.ntmps10
  go_wp2_with fail
  refine (szP_yes s0 (K0.out _ (al1 B0.out _)).raw (by omega) (by omega)).mono ?_
  rintro e w1 ⟨rfl, hb1⟩
  have bb1 : Below w.heap.size w w1 := up1 hb1
  have Pb0 : Hid (PtP w1 w.heap.size s0 (.slice a0 z0.length cap0)) := (PtP.new _ _ _ _).on hb1
  have B1 := Lib.hid (B0.out.trans (bb1.mono B0.out.size))
  have le1 : w.heap.size + 1 ≤ w1.heap.size := by have := hb1.size; (try simp at this); omega
  clear hb1 bb1
  obtain ⟨lb0, b00, b01⟩ := Pb0.out
  go_wp2_with fail
  refine (toP_any s0 (K0.out _ B1.out)).mono ?_
  rintro e w2 ⟨v2, rfl, ho2, hb2⟩
  clear lb0 b00 b01
  have bb2 : Below w1.heap.size w1 w2 := hb2
  have Pb0 := Lib.hid (Pb0.out.on bb2)
  have B2 := Lib.hid (B1.out.trans (bb2.mono B1.out.size))
  have le2 : w1.heap.size + 0 ≤ w2.heap.size := by have := hb2.size; (try simp at this); omega
  obtain ⟨v2a, v2c, rfl⟩ := ho2.slice
  have Oi0 : Hid (OwnRX (w1.heap.size + 0) w2.heap.size w2 (.slice v2a z0.length v2c) z0) := OwnRX.of ho2 (by simp)
  clear ho2 hb2 bb2
  obtain ⟨lb0, b00, b01⟩ := Pb0.out
  go_wp2_with fail
  refine (specCnt_is (Oi0.out.at hl0) HR.out).mono ?_
  rintro e w3 ⟨rfl, hb3⟩
  clear lb0 b00 b01
  have bb3 : Below w2.heap.size w2 w3 := hb3
  have Pb0 := Lib.hid (Pb0.out.on bb3)
  have Oi0 := Lib.hid (Oi0.out.on bb3)
  have B3 := Lib.hid (B2.out.trans (bb3.mono B2.out.size))
  have le3 : w2.heap.size + 0 ≤ w3.heap.size := by have := hb3.size; (try simp at this); omega
  clear hb3 bb3
  clear Oi0
  obtain ⟨lb0, b00, b01⟩ := Pb0.out
  go_wp2_with fail
  refine (toP_any s0 (K0.out _ B3.out)).mono ?_
  rintro e w4 ⟨v4, rfl, ho4, hb4⟩
  clear lb0 b00 b01
  have bb4 : Below w3.heap.size w3 w4 := hb4
  have Pb0 := Lib.hid (Pb0.out.on bb4)
  have B4 := Lib.hid (B3.out.trans (bb4.mono B3.out.size))
  have le4 : w3.heap.size + 0 ≤ w4.heap.size := by have := hb4.size; (try simp at this); omega
  obtain ⟨v4a, v4c, rfl⟩ := ho4.slice
  have Ox0 : Hid (OwnRX (w3.heap.size + 0) w4.heap.size w4 (.slice v4a z0.length v4c) z0) := OwnRX.of ho4 (by simp)
  clear ho4 hb4 bb4
  obtain ⟨lb0, b00, b01⟩ := Pb0.out
  go_wp2_with fail
  refine (implCnt_is ((Ox0.out.alloc _).at hl0) HR.out (TZ.out.on (al1 B4.out _))).mono ?_
  rintro e w5 ⟨rfl, hb5⟩
  clear lb0 b00 b01
  have bb5 : Below w4.heap.size w4 w5 := up1 hb5
  have Pb0 := Lib.hid (Pb0.out.on bb5)
  have Px0 : Hid (PtP w5 w4.heap.size s0 (.slice v4a z0.length v4c)) := (PtP.new _ _ _ _).on hb5
  have Ox0 := Lib.hid (Ox0.out.on bb5)
  have B5 := Lib.hid (B4.out.trans (bb5.mono B4.out.size))
  have le5 : w4.heap.size + 1 ≤ w5.heap.size := by have := hb5.size; (try simp at this); omega
  clear hb5 bb5
  obtain ⟨lb0, b00, b01⟩ := Pb0.out
  obtain ⟨lx0, x00, x01⟩ := Px0.out
  go_wp2_with fail
  go_region_held3 (fun w' => w'.cell? ⟨w4.heap.size, 0, none⟩ = some (.int .i64 s0) ∧ w'.cell? ⟨w4.heap.size, 1, none⟩ = some ((.slice v4a z0.length v4c)) ∧ w'.cell? ⟨w.heap.size, 0, none⟩ = some (.int .i64 s0) ∧ w'.cell? ⟨w.heap.size, 1, none⟩ = some ((.slice a0 z0.length cap0))) (go_keep)
    (first
      | (go_at_call 17; refine (toP_any s0 (K0.out _ B5.out).drew).mono ?_; rintro e wa6 ⟨va6, rfl, hoa6, hba6'⟩; have hba6 := undrew hba6'; obtain ⟨va6a, va6c, rfl⟩ := hoa6.slice; obtain ⟨_, _, _⟩ := Px0.out.on hba6; obtain ⟨_, _, _⟩ := Pb0.out.on hba6)
      | (go_at_call 19; refine (eqP_any s0 ((Ox0.out.on hba6).at hl0) (hoa6.at hl0)).mono ?_; rintro e w6 ⟨rfl, hbb6⟩; obtain ⟨_, _, _⟩ := Px0.out.on (hba6.trans (hbb6.mono hba6.size)); obtain ⟨_, _, _⟩ := Pb0.out.on (hba6.trans (hbb6.mono hba6.size))))
  have hb6 : Below w5.heap.size w5 w6 := hba6.trans (hbb6.mono hba6.size)
  have bb6 := hb6
  clear lb0 b00 b01 lx0 x00 x01
  clear hoa6 hba6 hbb6
  have Pb0 := Lib.hid (Pb0.out.on bb6)
  have Px0 := Lib.hid (Px0.out.on bb6)
  have Ox0 := Lib.hid (Ox0.out.on bb6)
  have B6 := Lib.hid (B5.out.trans (bb6.mono B5.out.size))
  have le6 : w5.heap.size + 0 ≤ w6.heap.size := by have := hb6.size; (try simp at this); omega
  clear hb6 bb6
  go_wp2_with fail
  go_ret
  exact ⟨rfl, B6.out⟩
set_option maxRecDepth 100000 in
set_option maxHeartbeats 400000 in
theorem countIdeals_long0 (u0 : Value) (z0 : List (List Int)) (s0 : Int) (w : World) (hm0 : RowsRaw w u0 z0) (hx : (1048576 : Int) < (z0.length : Int) + (tot z0 : Int)) :
    Calls Tryd.prog 10 #[.agg #[.int .i64 s0, u0]] w fun e w' => e = .returned (.bool true) ∧ Below w.heap.size w w' := by
  have HM0 := Lib.hid hm0
  obtain ⟨a0, cap0, rfl⟩ := hm0.slice
  have hq0 := hm0.len
  clear hm0
  go_enter Tryd.func10, Tryd.ntmps10
  go_wp2_with fail
  refine (szP_no s0 (HM0.out.on (al1 (Below.refl _ _) _)) (by omega) (by omega) (by omega)).mono ?_
  rintro e wl0 ⟨rfl, hbl0⟩
  go_wp2_with fail
  go_ret
  exact ⟨rfl, ((al1 (Below.refl _ _) _).trans (hbl0.mono (by (try simp) <;> omega)))⟩
theorem countIdeals_of (u0 : Value) (z0 : List (List Int)) (s0 : Int) (w : World)
    (hw0 : RowsRaw w u0 z0)
    (hTz : Tz w) :
    Calls Tryd.prog 10 #[.agg #[.int .i64 s0, u0]] w fun e w' => e = .returned (.bool true) ∧ Below w.heap.size w w' := by
  by_cases g0 : 1048576 < (z0.length + tot z0)
  · exact countIdeals_long0 u0 z0 s0 w hw0  (by omega)
  have := countIdeals_at s0 w (hw0.at (by omega) (by omega)) (by omega) hTz
  exact this
end Go.Proofs.YtdihcmohpbgmmaaDoor
