/-
  Laws of maps: whatever the arguments, the program's answer is the model's, the arguments are as before, and the answer lies in new memory.
-/
import Derived.Test.YtibdcejglkhcfaaDoorCxA
import Derived.Test.YtibdcejglkhcfaaDoorPW
import Derived.Deep.RegionHeld3
import Derived.StillTactics
import Derived.Deep.DeepCutAuto
namespace Go.Proofs.YtibdcejglkhcfaaDoor
open Go.RowKit
set_option linter.unusedVariables false

set_option maxRecDepth 100000 in
set_option maxHeartbeats 20000000 in
theorem greedyCollapse_at {u0 : Value} {z0 : List (List Int)} (w : World) (hu0 : RowsAt w u0 z0) (hsum : (z0.length + tot z0) ≤ 1048576) (hTz : Tz w) :
    Calls Tryd.prog 8 #[.agg #[u0]] w fun e w' => e = .returned (.bool true) ∧ Below w.heap.size w w' := by
  have TZ := Lib.hid hTz
  clear hTz
  have Hu0 := Lib.hid hu0
  have hl0 : FitR z0 := ⟨by omega, by omega⟩
  have hc0 : z0.length ≤ 1048576 := hl0.1
  have ht0 : tot z0 ≤ 1048576 := hl0.2
  obtain ⟨a0, cap0, rfl⟩ := hu0.slice
  clear hu0
  obtain ⟨Z0, N1, N2, hr⟩ := gr_has z0
  have hz0 : FitR Z0 := hr.fit
  have hzc0 : Z0.length ≤ 1048576 := hz0.1
  have hzt0 : tot Z0 ≤ 1048576 := hz0.2
  have HR : Hid (GrIs z0 Z0 N1 N2) := hr
  clear hr
  have ec1 : (N1 != N1) = false := by simp
  have ec2 : (N2 != N2) = false := by simp
  have K0 : Hid (∀ w', Below w.heap.size w w' → RowsAt w' (.slice a0 z0.length cap0) z0) := fun w' hb => Hu0.out.on hb
  clear Hu0
  have B0 : Hid (Below w.heap.size w w) := Below.refl _ _
  go_enter Tryd.func8, Tryd.ntmps8
  go_wp2_with fail
  refine (szC_yes (K0.out _ (al1 B0.out _)).raw (by omega) (by omega)).mono ?_
  rintro e w1 ⟨rfl, hb1⟩
  have bb1 : Below w.heap.size w w1 := up1 hb1
  have Pb0 : Hid (PtC w1 w.heap.size  (.slice a0 z0.length cap0)) := (PtC.new _ _ _).on hb1
  have B1 := Lib.hid (B0.out.trans (bb1.mono B0.out.size))
  have le1 : w.heap.size + 1 ≤ w1.heap.size := by have := hb1.size; (try simp at this); omega
  clear hb1 bb1
  obtain ⟨lb0, b00⟩ := Pb0.out
  go_wp2_with fail
  refine (toC_any (K0.out _ B1.out)).mono ?_
  rintro e w2 ⟨v2, rfl, ho2, hb2⟩
  clear lb0 b00
  have bb2 : Below w1.heap.size w1 w2 := hb2
  have Pb0 := Lib.hid (Pb0.out.on bb2)
  have B2 := Lib.hid (B1.out.trans (bb2.mono B1.out.size))
  have le2 : w1.heap.size + 0 ≤ w2.heap.size := by have := hb2.size; (try simp at this); omega
  obtain ⟨v2a, v2c, rfl⟩ := ho2.slice
  have Oi0 : Hid (OwnRX (w1.heap.size + 0) w2.heap.size w2 (.slice v2a z0.length v2c) z0) := OwnRX.of ho2 (by simp)
  clear ho2 hb2 bb2
  obtain ⟨lb0, b00⟩ := Pb0.out
  go_wp2_with fail
  refine (specGr_is (Oi0.out.atQ hl0) HR.out).mono ?_
  rintro e w3 ⟨v3x0, rfl, ho3x0, hb3⟩
  clear lb0 b00
  have bb3 : Below w2.heap.size w2 w3 := hb3
  have Pb0 := Lib.hid (Pb0.out.on bb3)
  have Oi0 := Lib.hid (Oi0.out.on bb3)
  have B3 := Lib.hid (B2.out.trans (bb3.mono B2.out.size))
  have le3 : w2.heap.size + 0 ≤ w3.heap.size := by have := hb3.size; (try simp at this); omega
  obtain ⟨v3x0a, v3x0c, rfl⟩ := ho3x0.slice
  have Os0 : Hid (OwnRX (w2.heap.size + 0) w3.heap.size w3 (.slice v3x0a Z0.length v3x0c) Z0) := OwnRX.of ho3x0 (by simp)
  clear ho3x0 hb3 bb3
  clear Oi0
  obtain ⟨lb0, b00⟩ := Pb0.out
  go_wp2_with fail
  refine (toC_any (K0.out _ (al1 B3.out _))).mono ?_
  rintro e w4 ⟨v4, rfl, ho4, hb4⟩
  clear lb0 b00
  have bb4 : Below w3.heap.size w3 w4 := up1 hb4
  have Pb0 := Lib.hid (Pb0.out.on bb4)
  have Ps0 : Hid (PtC w4 w3.heap.size  (.slice v3x0a Z0.length v3x0c)) := (PtC.new _ _ _).on hb4
  have Os0 := Lib.hid (Os0.out.on bb4)
  have B4 := Lib.hid (B3.out.trans (bb4.mono B3.out.size))
  have le4 : w3.heap.size + 1 ≤ w4.heap.size := by have := hb4.size; (try simp at this); omega
  obtain ⟨v4a, v4c, rfl⟩ := ho4.slice
  have Ox0 : Hid (OwnRX (w3.heap.size + 1) w4.heap.size w4 (.slice v4a z0.length v4c) z0) := OwnRX.of ho4 (by simp)
  clear ho4 hb4 bb4
  obtain ⟨lb0, b00⟩ := Pb0.out
  obtain ⟨ls0, s00⟩ := Ps0.out
  go_wp2_with fail
  refine (implGr_is ((Ox0.out.alloc _).at hl0) HR.out (TZ.out.on (al1 B4.out _))).mono ?_
  rintro e w5 ⟨v5x0, rfl, ho5x0, hb5⟩
  clear lb0 b00 ls0 s00
  have bb5 : Below w4.heap.size w4 w5 := up1 hb5
  have Pb0 := Lib.hid (Pb0.out.on bb5)
  have Ps0 := Lib.hid (Ps0.out.on bb5)
  have Px0 : Hid (PtC w5 w4.heap.size  (.slice v4a z0.length v4c)) := (PtC.new _ _ _).on hb5
  have Os0 := Lib.hid (Os0.out.on bb5)
  have Ox0 := Lib.hid (Ox0.out.on bb5)
  have B5 := Lib.hid (B4.out.trans (bb5.mono B4.out.size))
  have le5 : w4.heap.size + 1 ≤ w5.heap.size := by have := hb5.size; (try simp at this); omega
  obtain ⟨v5x0a, v5x0c, rfl⟩ := ho5x0.slice
  have Og0 : Hid (OwnRX (w4.heap.size + 1) w5.heap.size w5 (.slice v5x0a Z0.length v5x0c) Z0) := OwnRX.of ho5x0 (by simp)
  clear ho5x0 hb5 bb5
  obtain ⟨lb0, b00⟩ := Pb0.out
  obtain ⟨ls0, s00⟩ := Ps0.out
  obtain ⟨lx0, x00⟩ := Px0.out
  go_wp2_with fail
  refine (eqC_any ((Og0.out.alloc _).at hz0) ((Os0.out.alloc _).at hz0)).mono ?_
  rintro e w6 ⟨rfl, hb6⟩
  clear lb0 b00 ls0 s00 lx0 x00
  have bb6 : Below w5.heap.size w5 w6 := up1 hb6
  have Pb0 := Lib.hid (Pb0.out.on bb6)
  have Ps0 := Lib.hid (Ps0.out.on bb6)
  have Px0 := Lib.hid (Px0.out.on bb6)
  have Pg0 : Hid (PtC w6 w5.heap.size  (.slice v5x0a Z0.length v5x0c)) := (PtC.new _ _ _).on hb6
  have Os0 := Lib.hid (Os0.out.on bb6)
  have Ox0 := Lib.hid (Ox0.out.on bb6)
  have Og0 := Lib.hid (Og0.out.on bb6)
  have B6 := Lib.hid (B5.out.trans (bb6.mono B5.out.size))
  have le6 : w5.heap.size + 1 ≤ w6.heap.size := by have := hb6.size; (try simp at this); omega
  clear hb6 bb6
  obtain ⟨lb0, b00⟩ := Pb0.out
  obtain ⟨ls0, s00⟩ := Ps0.out
  obtain ⟨lx0, x00⟩ := Px0.out
  obtain ⟨lg0, g00⟩ := Pg0.out
  go_wp2_with fail
  go_region_held3 (fun w' => w'.cell? ⟨w4.heap.size, 0, none⟩ = some ((.slice v4a z0.length v4c)) ∧ w'.cell? ⟨w.heap.size, 0, none⟩ = some ((.slice a0 z0.length cap0))) (go_keep)
    (first
      | (go_at_call 12; refine (toC_any (K0.out _ B6.out).drew).mono ?_; rintro e wa7 ⟨va7, rfl, hoa7, hba7'⟩; have hba7 := undrew hba7'; obtain ⟨va7a, va7c, rfl⟩ := hoa7.slice; obtain ⟨_, _⟩ := Px0.out.on hba7; obtain ⟨_, _⟩ := Pb0.out.on hba7)
      | (go_at_call 15; refine (eqC_any ((Ox0.out.on hba7).at hl0) (hoa7.at hl0)).mono ?_; rintro e w7 ⟨rfl, hbb7⟩; obtain ⟨_, _⟩ := Px0.out.on (hba7.trans (hbb7.mono hba7.size)); obtain ⟨_, _⟩ := Pb0.out.on (hba7.trans (hbb7.mono hba7.size))))
  have hb7 : Below w6.heap.size w6 w7 := hba7.trans (hbb7.mono hba7.size)
  have bb7 := hb7
  clear lb0 b00 ls0 s00 lx0 x00 lg0 g00
  clear hoa7 hba7 hbb7
  have Pb0 := Lib.hid (Pb0.out.on bb7)
  have Ps0 := Lib.hid (Ps0.out.on bb7)
  have Px0 := Lib.hid (Px0.out.on bb7)
  have Pg0 := Lib.hid (Pg0.out.on bb7)
  have Os0 := Lib.hid (Os0.out.on bb7)
  have Ox0 := Lib.hid (Ox0.out.on bb7)
  have Og0 := Lib.hid (Og0.out.on bb7)
  have B7 := Lib.hid (B6.out.trans (bb7.mono B6.out.size))
  have le7 : w6.heap.size + 0 ≤ w7.heap.size := by have := hb7.size; (try simp at this); omega
  clear hb7 bb7
  obtain ⟨lb0, b00⟩ := Pb0.out
  obtain ⟨ls0, s00⟩ := Ps0.out
  obtain ⟨lx0, x00⟩ := Px0.out
  obtain ⟨lg0, g00⟩ := Pg0.out
  go_wp2_with fail
  refine (markC_any 1 Ox0.out hl0 (by omega) (by omega)).mono ?_
  rintro e w8 ⟨rfl, ho8, hf8⟩
  clear lb0 b00 ls0 s00 lx0 x00 lg0 g00
  have Pb0 := Lib.hid (Pb0.out.fr hf8 (by omega))
  have Ps0 := Lib.hid (Ps0.out.fr hf8 (by omega))
  have Px0 := Lib.hid (Px0.out.fr hf8 (by omega))
  have Pg0 := Lib.hid (Pg0.out.fr hf8 (by omega))
  have Os0 := Lib.hid (Os0.out.fr hf8 (by omega))
  have Og0 := Lib.hid (Og0.out.fr hf8 (by omega))
  have Ox0 := Lib.hid ho8
  have B8 := Lib.hid (B7.out.trans ((hf8.below (by omega)).mono (by omega)))
  have le8 : w7.heap.size ≤ w8.heap.size := hf8.2.2.2.1
  clear ho8 hf8
  clear Ox0
  clear Px0
  obtain ⟨lb0, b00⟩ := Pb0.out
  obtain ⟨ls0, s00⟩ := Ps0.out
  obtain ⟨lg0, g00⟩ := Pg0.out
  go_wp2_with fail
  refine (eqC_any (Og0.out.at hz0) (Os0.out.at hz0)).mono ?_
  rintro e w9 ⟨rfl, hb9⟩
  clear lb0 b00 ls0 s00 lg0 g00
  have bb9 : Below w8.heap.size w8 w9 := hb9
  have Pb0 := Lib.hid (Pb0.out.on bb9)
  have Ps0 := Lib.hid (Ps0.out.on bb9)
  have Pg0 := Lib.hid (Pg0.out.on bb9)
  have Os0 := Lib.hid (Os0.out.on bb9)
  have Og0 := Lib.hid (Og0.out.on bb9)
  have B9 := Lib.hid (B8.out.trans (bb9.mono B8.out.size))
  have le9 : w8.heap.size + 0 ≤ w9.heap.size := by have := hb9.size; (try simp at this); omega
  clear hb9 bb9
  obtain ⟨lb0, b00⟩ := Pb0.out
  obtain ⟨ls0, s00⟩ := Ps0.out
  obtain ⟨lg0, g00⟩ := Pg0.out
  go_wp2_with fail
  refine (markC_any 1 Og0.out hz0 (by omega) (by omega)).mono ?_
  rintro e w10 ⟨rfl, ho10, hf10⟩
  clear lb0 b00 ls0 s00 lg0 g00
  have Pb0 := Lib.hid (Pb0.out.fr hf10 (by omega))
  have Ps0 := Lib.hid (Ps0.out.fr hf10 (by omega))
  have Pg0 := Lib.hid (Pg0.out.fr hf10 (by omega))
  have Os0 := Lib.hid (Os0.out.fr hf10 (by omega))
  have Og0 := Lib.hid ho10
  have B10 := Lib.hid (B9.out.trans ((hf10.below (by omega)).mono (by omega)))
  have le10 : w9.heap.size ≤ w10.heap.size := hf10.2.2.2.1
  clear ho10 hf10
  have eq1 : ((1 + (tot Z0 : Int)) != (1 + (tot Z0 : Int))) = false := by simp
  obtain ⟨lb0, b00⟩ := Pb0.out
  obtain ⟨ls0, s00⟩ := Ps0.out
  obtain ⟨lg0, g00⟩ := Pg0.out
  go_wp2_with fail
  refine (heldC_any 1 (Og0.out.at (marksR_fit hz0 _)) hz0 (by omega) (by omega)).mono ?_
  rintro e w11 ⟨rfl, hb11⟩
  clear lb0 b00 ls0 s00 lg0 g00
  have bb11 : Below w10.heap.size w10 w11 := hb11
  have Pb0 := Lib.hid (Pb0.out.on bb11)
  have Ps0 := Lib.hid (Ps0.out.on bb11)
  have Pg0 := Lib.hid (Pg0.out.on bb11)
  have Os0 := Lib.hid (Os0.out.on bb11)
  have Og0 := Lib.hid (Og0.out.on bb11)
  have B11 := Lib.hid (B10.out.trans (bb11.mono B10.out.size))
  have le11 : w10.heap.size + 0 ≤ w11.heap.size := by have := hb11.size; (try simp at this); omega
  clear hb11 bb11
  obtain ⟨lb0, b00⟩ := Pb0.out
  obtain ⟨ls0, s00⟩ := Ps0.out
  obtain ⟨lg0, g00⟩ := Pg0.out
  go_wp2_with fail
  refine (toC_any (K0.out _ B11.out)).mono ?_
  rintro e w12 ⟨v12, rfl, ho12, hb12⟩
  clear lb0 b00 ls0 s00 lg0 g00
  have bb12 : Below w11.heap.size w11 w12 := hb12
  have Pb0 := Lib.hid (Pb0.out.on bb12)
  have Ps0 := Lib.hid (Ps0.out.on bb12)
  have Pg0 := Lib.hid (Pg0.out.on bb12)
  have Os0 := Lib.hid (Os0.out.on bb12)
  have Og0 := Lib.hid (Og0.out.on bb12)
  have B12 := Lib.hid (B11.out.trans (bb12.mono B11.out.size))
  have le12 : w11.heap.size + 0 ≤ w12.heap.size := by have := hb12.size; (try simp at this); omega
  obtain ⟨v12a, v12c, rfl⟩ := ho12.slice
  have Oj0 : Hid (OwnRX (w11.heap.size + 0) w12.heap.size w12 (.slice v12a z0.length v12c) z0) := OwnRX.of ho12 (by simp)
  clear ho12 hb12 bb12
  obtain ⟨lb0, b00⟩ := Pb0.out
  obtain ⟨ls0, s00⟩ := Ps0.out
  obtain ⟨lg0, g00⟩ := Pg0.out
  go_wp2_with fail
  refine (implGr_is (Oj0.out.at hl0) HR.out (TZ.out.on B12.out)).mono ?_
  rintro e w13 ⟨v13x0, rfl, ho13x0, hb13⟩
  clear lb0 b00 ls0 s00 lg0 g00
  have bb13 : Below w12.heap.size w12 w13 := hb13
  have Pb0 := Lib.hid (Pb0.out.on bb13)
  have Ps0 := Lib.hid (Ps0.out.on bb13)
  have Pg0 := Lib.hid (Pg0.out.on bb13)
  have Os0 := Lib.hid (Os0.out.on bb13)
  have Og0 := Lib.hid (Og0.out.on bb13)
  have Oj0 := Lib.hid (Oj0.out.on bb13)
  have B13 := Lib.hid (B12.out.trans (bb13.mono B12.out.size))
  have le13 : w12.heap.size + 0 ≤ w13.heap.size := by have := hb13.size; (try simp at this); omega
  obtain ⟨v13x0a, v13x0c, rfl⟩ := ho13x0.slice
  have Oh0 : Hid (OwnRX (w12.heap.size + 0) w13.heap.size w13 (.slice v13x0a Z0.length v13x0c) Z0) := OwnRX.of ho13x0 (by simp)
  clear ho13x0 hb13 bb13
  clear Oj0
  obtain ⟨lb0, b00⟩ := Pb0.out
  obtain ⟨ls0, s00⟩ := Ps0.out
  obtain ⟨lg0, g00⟩ := Pg0.out
  go_wp2_with fail
  refine (eqC_any ((Oh0.out.alloc _).at hz0) ((Os0.out.alloc _).at hz0)).mono ?_
  rintro e w14 ⟨rfl, hb14⟩
  clear lb0 b00 ls0 s00 lg0 g00
  have bb14 : Below w13.heap.size w13 w14 := up1 hb14
  have Pb0 := Lib.hid (Pb0.out.on bb14)
  have Ps0 := Lib.hid (Ps0.out.on bb14)
  have Pg0 := Lib.hid (Pg0.out.on bb14)
  have Ph0 : Hid (PtC w14 w13.heap.size  (.slice v13x0a Z0.length v13x0c)) := (PtC.new _ _ _).on hb14
  have Os0 := Lib.hid (Os0.out.on bb14)
  have Og0 := Lib.hid (Og0.out.on bb14)
  have Oh0 := Lib.hid (Oh0.out.on bb14)
  have B14 := Lib.hid (B13.out.trans (bb14.mono B13.out.size))
  have le14 : w13.heap.size + 1 ≤ w14.heap.size := by have := hb14.size; (try simp at this); omega
  clear hb14 bb14
  obtain ⟨lb0, b00⟩ := Pb0.out
  obtain ⟨ls0, s00⟩ := Ps0.out
  obtain ⟨lg0, g00⟩ := Pg0.out
  obtain ⟨lh0, h00⟩ := Ph0.out
  go_wp2_with fail
  refine (heldC_any 1 (Og0.out.at (marksR_fit hz0 _)) hz0 (by omega) (by omega)).mono ?_
  rintro e w15 ⟨rfl, hb15⟩
  clear lb0 b00 ls0 s00 lg0 g00 lh0 h00
  have bb15 : Below w14.heap.size w14 w15 := hb15
  have Pb0 := Lib.hid (Pb0.out.on bb15)
  have Ps0 := Lib.hid (Ps0.out.on bb15)
  have Pg0 := Lib.hid (Pg0.out.on bb15)
  have Ph0 := Lib.hid (Ph0.out.on bb15)
  have Os0 := Lib.hid (Os0.out.on bb15)
  have Og0 := Lib.hid (Og0.out.on bb15)
  have Oh0 := Lib.hid (Oh0.out.on bb15)
  have B15 := Lib.hid (B14.out.trans (bb15.mono B14.out.size))
  have le15 : w14.heap.size + 0 ≤ w15.heap.size := by have := hb15.size; (try simp at this); omega
  clear hb15 bb15
  go_wp2_with fail
  go_ret
  exact ⟨rfl, B15.out⟩
set_option maxRecDepth 100000 in
set_option maxHeartbeats 400000 in
theorem greedyCollapse_long0 (u0 : Value) (z0 : List (List Int)) (w : World) (hm0 : RowsRaw w u0 z0) (hx : (1048576 : Int) < (z0.length : Int) + (tot z0 : Int)) :
    Calls Tryd.prog 8 #[.agg #[u0]] w fun e w' => e = .returned (.bool true) ∧ Below w.heap.size w w' := by
  have HM0 := Lib.hid hm0
  obtain ⟨a0, cap0, rfl⟩ := hm0.slice
  have hq0 := hm0.len
  clear hm0
  go_enter Tryd.func8, Tryd.ntmps8
  go_wp2_with fail
  refine (szC_no (HM0.out.on (al1 (Below.refl _ _) _)) (by omega) (by omega) (by omega)).mono ?_
  rintro e wl0 ⟨rfl, hbl0⟩
  go_wp2_with fail
  go_ret
  exact ⟨rfl, ((al1 (Below.refl _ _) _).trans (hbl0.mono (by (try simp) <;> omega)))⟩
theorem greedyCollapse_of (u0 : Value) (z0 : List (List Int)) (w : World)
    (hw0 : RowsRaw w u0 z0)
    (hTz : Tz w) :
    Calls Tryd.prog 8 #[.agg #[u0]] w fun e w' => e = .returned (.bool true) ∧ Below w.heap.size w w' := by
  by_cases g0 : 1048576 < (z0.length + tot z0)
  · exact greedyCollapse_long0 u0 z0  w hw0  (by omega)
  have := greedyCollapse_at  w (hw0.at (by omega) (by omega)) (by omega) hTz
  exact this
end Go.Proofs.YtibdcejglkhcfaaDoor
