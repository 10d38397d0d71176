/-
  Laws of posets: whatever the arguments, the program's answer is the model's, the arguments are as before, and the answer lies in new memory.
-/
import Derived.Test.YtochcpaahibijaaDoorPsK
import Derived.Test.YtochcpaahibijaaDoorPsO
import Derived.Deep.RegionHeld3
import Derived.StillTactics
import Derived.Deep.DeepCutAuto
namespace Go.Proofs.YtochcpaahibijaaDoor
open Go.RowKit
set_option linter.unusedVariables false

set_option maxRecDepth 100000 in
set_option maxHeartbeats 20000000 in
theorem posetOf_at {u1 : Value} {z1 : List (List Int)} (n0 : Int) (w : World) (hu1 : RowsAt w u1 z1) (hsum : (z1.length + tot z1) ≤ 1048576) (hTz : Tz w) :
    Calls Tryd.prog 4 #[.int .i64 n0, u1] w fun e w' => e = .returned (.bool true) ∧ Below w.heap.size w w' := by
  have TZ := Lib.hid hTz
  clear hTz
  have Hu1 := Lib.hid hu1
  have hl1 : FitR z1 := ⟨by omega, by omega⟩
  have hc1 : z1.length ≤ 1048576 := hl1.1
  have ht1 : tot z1 ≤ 1048576 := hl1.2
  obtain ⟨a1, cap1, rfl⟩ := hu1.slice
  clear hu1
  obtain ⟨S0, Z0, N1, hr⟩ := pof_has n0 z1
  have hz0 : FitR Z0 := hr.fitR
  have hzc0 : Z0.length ≤ 1048576 := hz0.1
  have hzt0 : tot Z0 ≤ 1048576 := hz0.2
  have HR : Hid (PofIs n0 z1 S0 Z0 N1) := hr
  clear hr
  have ec1 : (N1 != N1) = false := by simp
  have K1 : Hid (∀ w', Below w.heap.size w w' → RowsAt w' (.slice a1 z1.length cap1) z1) := fun w' hb => Hu1.out.on hb
  clear Hu1
  have B0 : Hid (Below w.heap.size w w) := Below.refl _ _
  go_enter Tryd.func4, Tryd.ntmps4
  go_wp2_with fail
  refine (szR_yes (K1.out _ B0.out).raw (by omega) (by omega)).mono ?_
  rintro e w1 ⟨rfl, hb1⟩
  have bb1 : Below w.heap.size w w1 := hb1
  have B1 := Lib.hid (B0.out.trans (bb1.mono B0.out.size))
  have le1 : w.heap.size + 0 ≤ w1.heap.size := by have := hb1.size; (try simp at this); omega
  clear hb1 bb1
  go_wp2_with fail
  refine (toR_any (K1.out _ B1.out)).mono ?_
  rintro e w2 ⟨v2, rfl, ho2, hb2⟩
  have bb2 : Below w1.heap.size w1 w2 := hb2
  have B2 := Lib.hid (B1.out.trans (bb2.mono B1.out.size))
  have le2 : w1.heap.size + 0 ≤ w2.heap.size := by have := hb2.size; (try simp at this); omega
  obtain ⟨v2a, v2c, rfl⟩ := ho2.slice
  have Oi1 : Hid (OwnRX (w1.heap.size + 0) w2.heap.size w2 (.slice v2a z1.length v2c) z1) := OwnRX.of ho2 (by simp)
  clear ho2 hb2 bb2
  go_wp2_with fail
  refine (specPof_is (Oi1.out.at hl1) HR.out).mono ?_
  rintro e w3 ⟨v3x0, rfl, ho3x0, hb3⟩
  have bb3 : Below w2.heap.size w2 w3 := hb3
  have Oi1 := Lib.hid (Oi1.out.on bb3)
  have B3 := Lib.hid (B2.out.trans (bb3.mono B2.out.size))
  have le3 : w2.heap.size + 0 ≤ w3.heap.size := by have := hb3.size; (try simp at this); omega
  obtain ⟨v3x0a, v3x0c, rfl⟩ := ho3x0.slice
  have Os0 : Hid (OwnRX (w2.heap.size + 0) w3.heap.size w3 (.slice v3x0a Z0.length v3x0c) Z0) := OwnRX.of ho3x0 (by simp)
  clear ho3x0 hb3 bb3
  clear Oi1
  go_wp2_with fail
  refine (toR_any (K1.out _ (al1 B3.out _))).mono ?_
  rintro e w4 ⟨v4, rfl, ho4, hb4⟩
  have bb4 : Below w3.heap.size w3 w4 := up1 hb4
  have Ps0 : Hid (PtP w4 w3.heap.size S0 (.slice v3x0a Z0.length v3x0c)) := (PtP.new _ _ _ _).on hb4
  have Os0 := Lib.hid (Os0.out.on bb4)
  have B4 := Lib.hid (B3.out.trans (bb4.mono B3.out.size))
  have le4 : w3.heap.size + 1 ≤ w4.heap.size := by have := hb4.size; (try simp at this); omega
  obtain ⟨v4a, v4c, rfl⟩ := ho4.slice
  have Ox1 : Hid (OwnRX (w3.heap.size + 1) w4.heap.size w4 (.slice v4a z1.length v4c) z1) := OwnRX.of ho4 (by simp)
  clear ho4 hb4 bb4
  obtain ⟨ls0, s00, s01⟩ := Ps0.out
  go_wp2_with fail
  refine (implPof_L (Ox1.out.at hl1) HR.out (TZ.out.on B4.out)).mono ?_
  rintro e w5 ⟨v5x0, rfl, ho5x0, hb5⟩
  clear ls0 s00 s01
  have bb5 : Below w4.heap.size w4 w5 := hb5
  have Ps0 := Lib.hid (Ps0.out.on bb5)
  have Os0 := Lib.hid (Os0.out.on bb5)
  have Ox1 := Lib.hid (Ox1.out.on bb5)
  have B5 := Lib.hid (B4.out.trans (bb5.mono B4.out.size))
  have le5 : w4.heap.size + 0 ≤ w5.heap.size := by have := hb5.size; (try simp at this); omega
  obtain ⟨v5x0a, v5x0c, rfl⟩ := ho5x0.slice
  have Og0 : Hid (OwnRX (w4.heap.size + 0) w5.heap.size w5 (.slice v5x0a Z0.length v5x0c) Z0) := OwnRX.of ho5x0 (by simp)
  clear ho5x0 hb5 bb5
  obtain ⟨ls0, s00, s01⟩ := Ps0.out
  go_wp2_with fail
  refine (eqP_any S0 ((Og0.out.alloc _).at hz0) ((Os0.out.alloc _).at hz0)).mono ?_
  rintro e w6 ⟨rfl, hb6⟩
  clear ls0 s00 s01
  have bb6 : Below w5.heap.size w5 w6 := up1 hb6
  have Ps0 := Lib.hid (Ps0.out.on bb6)
  have Pg0 : Hid (PtP w6 w5.heap.size S0 (.slice v5x0a Z0.length v5x0c)) := (PtP.new _ _ _ _).on hb6
  have Os0 := Lib.hid (Os0.out.on bb6)
  have Ox1 := Lib.hid (Ox1.out.on bb6)
  have Og0 := Lib.hid (Og0.out.on bb6)
  have B6 := Lib.hid (B5.out.trans (bb6.mono B5.out.size))
  have le6 : w5.heap.size + 1 ≤ w6.heap.size := by have := hb6.size; (try simp at this); omega
  clear hb6 bb6
  obtain ⟨ls0, s00, s01⟩ := Ps0.out
  obtain ⟨lg0, g00, g01⟩ := Pg0.out
  go_wp2_with fail
  refine (toR_any (K1.out _ B6.out)).mono ?_
  rintro e w7 ⟨v7, rfl, ho7, hb7⟩
  clear ls0 s00 s01 lg0 g00 g01
  have bb7 : Below w6.heap.size w6 w7 := hb7
  have Ps0 := Lib.hid (Ps0.out.on bb7)
  have Pg0 := Lib.hid (Pg0.out.on bb7)
  have Os0 := Lib.hid (Os0.out.on bb7)
  have Ox1 := Lib.hid (Ox1.out.on bb7)
  have Og0 := Lib.hid (Og0.out.on bb7)
  have B7 := Lib.hid (B6.out.trans (bb7.mono B6.out.size))
  have le7 : w6.heap.size + 0 ≤ w7.heap.size := by have := hb7.size; (try simp at this); omega
  obtain ⟨v7a, v7c, rfl⟩ := ho7.slice
  have Oy1 : Hid (OwnRX (w6.heap.size + 0) w7.heap.size w7 (.slice v7a z1.length v7c) z1) := OwnRX.of ho7 (by simp)
  clear ho7 hb7 bb7
  obtain ⟨ls0, s00, s01⟩ := Ps0.out
  obtain ⟨lg0, g00, g01⟩ := Pg0.out
  go_wp2_with fail
  refine (eqR_any (Ox1.out.at hl1) (Oy1.out.at hl1)).mono ?_
  rintro e w8 ⟨rfl, hb8⟩
  clear ls0 s00 s01 lg0 g00 g01
  have bb8 : Below w7.heap.size w7 w8 := hb8
  have Ps0 := Lib.hid (Ps0.out.on bb8)
  have Pg0 := Lib.hid (Pg0.out.on bb8)
  have Os0 := Lib.hid (Os0.out.on bb8)
  have Ox1 := Lib.hid (Ox1.out.on bb8)
  have Og0 := Lib.hid (Og0.out.on bb8)
  have Oy1 := Lib.hid (Oy1.out.on bb8)
  have B8 := Lib.hid (B7.out.trans (bb8.mono B7.out.size))
  have le8 : w7.heap.size + 0 ≤ w8.heap.size := by have := hb8.size; (try simp at this); omega
  clear hb8 bb8
  clear Oy1
  obtain ⟨ls0, s00, s01⟩ := Ps0.out
  obtain ⟨lg0, g00, g01⟩ := Pg0.out
  go_wp2_with fail
  refine (markR_any 1 Ox1.out hl1 (by omega) (by omega)).mono ?_
  rintro e w9 ⟨rfl, ho9, hf9⟩
  clear ls0 s00 s01 lg0 g00 g01
  have Ps0 := Lib.hid (Ps0.out.fr hf9 (by omega))
  have Pg0 := Lib.hid (Pg0.out.fr hf9 (by omega))
  have Os0 := Lib.hid (Os0.out.fr hf9 (by omega))
  have Og0 := Lib.hid (Og0.out.fr hf9 (by omega))
  have Ox1 := Lib.hid ho9
  have B9 := Lib.hid (B8.out.trans ((hf9.below (by omega)).mono (by omega)))
  have le9 : w8.heap.size ≤ w9.heap.size := hf9.2.2.2.1
  clear ho9 hf9
  clear Ox1
  obtain ⟨ls0, s00, s01⟩ := Ps0.out
  obtain ⟨lg0, g00, g01⟩ := Pg0.out
  go_wp2_with fail
  refine (eqP_any S0 (Og0.out.at hz0) (Os0.out.at hz0)).mono ?_
  rintro e w10 ⟨rfl, hb10⟩
  clear ls0 s00 s01 lg0 g00 g01
  have bb10 : Below w9.heap.size w9 w10 := hb10
  have Ps0 := Lib.hid (Ps0.out.on bb10)
  have Pg0 := Lib.hid (Pg0.out.on bb10)
  have Os0 := Lib.hid (Os0.out.on bb10)
  have Og0 := Lib.hid (Og0.out.on bb10)
  have B10 := Lib.hid (B9.out.trans (bb10.mono B9.out.size))
  have le10 : w9.heap.size + 0 ≤ w10.heap.size := by have := hb10.size; (try simp at this); omega
  clear hb10 bb10
  obtain ⟨ls0, s00, s01⟩ := Ps0.out
  obtain ⟨lg0, g00, g01⟩ := Pg0.out
  go_wp2_with fail
  refine (markP_any S0 1 Og0.out hz0 (by omega) (by omega)).mono ?_
  rintro e w11 ⟨rfl, ho11, hf11⟩
  clear ls0 s00 s01 lg0 g00 g01
  have Ps0 := Lib.hid (Ps0.out.fr hf11 (by omega))
  have Pg0 := Lib.hid (Pg0.out.fr hf11 (by omega))
  have Os0 := Lib.hid (Os0.out.fr hf11 (by omega))
  have Og0 := Lib.hid ho11
  have B11 := Lib.hid (B10.out.trans ((hf11.below (by omega)).mono (by omega)))
  have le11 : w10.heap.size ≤ w11.heap.size := hf11.2.2.2.1
  clear ho11 hf11
  have eq1 : ((1 + (tot Z0 : Int)) != (1 + (tot Z0 : Int))) = false := by simp
  obtain ⟨ls0, s00, s01⟩ := Ps0.out
  obtain ⟨lg0, g00, g01⟩ := Pg0.out
  go_wp2_with fail
  refine (heldP_any S0 1 (Og0.out.at (marksR_fit hz0 _)) hz0 (by omega) (by omega)).mono ?_
  rintro e w12 ⟨rfl, hb12⟩
  clear ls0 s00 s01 lg0 g00 g01
  have bb12 : Below w11.heap.size w11 w12 := hb12
  have Ps0 := Lib.hid (Ps0.out.on bb12)
  have Pg0 := Lib.hid (Pg0.out.on bb12)
  have Os0 := Lib.hid (Os0.out.on bb12)
  have Og0 := Lib.hid (Og0.out.on bb12)
  have B12 := Lib.hid (B11.out.trans (bb12.mono B11.out.size))
  have le12 : w11.heap.size + 0 ≤ w12.heap.size := by have := hb12.size; (try simp at this); omega
  clear hb12 bb12
  obtain ⟨ls0, s00, s01⟩ := Ps0.out
  obtain ⟨lg0, g00, g01⟩ := Pg0.out
  go_wp2_with fail
  refine (toR_any (K1.out _ B12.out)).mono ?_
  rintro e w13 ⟨v13, rfl, ho13, hb13⟩
  clear ls0 s00 s01 lg0 g00 g01
  have bb13 : Below w12.heap.size w12 w13 := hb13
  have Ps0 := Lib.hid (Ps0.out.on bb13)
  have Pg0 := Lib.hid (Pg0.out.on bb13)
  have Os0 := Lib.hid (Os0.out.on bb13)
  have Og0 := Lib.hid (Og0.out.on bb13)
  have B13 := Lib.hid (B12.out.trans (bb13.mono B12.out.size))
  have le13 : w12.heap.size + 0 ≤ w13.heap.size := by have := hb13.size; (try simp at this); omega
  obtain ⟨v13a, v13c, rfl⟩ := ho13.slice
  have Oj1 : Hid (OwnRX (w12.heap.size + 0) w13.heap.size w13 (.slice v13a z1.length v13c) z1) := OwnRX.of ho13 (by simp)
  clear ho13 hb13 bb13
  obtain ⟨ls0, s00, s01⟩ := Ps0.out
  obtain ⟨lg0, g00, g01⟩ := Pg0.out
  go_wp2_with fail
  refine (implPof_L (Oj1.out.at hl1) HR.out (TZ.out.on B13.out)).mono ?_
  rintro e w14 ⟨v14x0, rfl, ho14x0, hb14⟩
  clear ls0 s00 s01 lg0 g00 g01
  have bb14 : Below w13.heap.size w13 w14 := hb14
  have Ps0 := Lib.hid (Ps0.out.on bb14)
  have Pg0 := Lib.hid (Pg0.out.on bb14)
  have Os0 := Lib.hid (Os0.out.on bb14)
  have Og0 := Lib.hid (Og0.out.on bb14)
  have Oj1 := Lib.hid (Oj1.out.on bb14)
  have B14 := Lib.hid (B13.out.trans (bb14.mono B13.out.size))
  have le14 : w13.heap.size + 0 ≤ w14.heap.size := by have := hb14.size; (try simp at this); omega
  obtain ⟨v14x0a, v14x0c, rfl⟩ := ho14x0.slice
  have Oh0 : Hid (OwnRX (w13.heap.size + 0) w14.heap.size w14 (.slice v14x0a Z0.length v14x0c) Z0) := OwnRX.of ho14x0 (by simp)
  clear ho14x0 hb14 bb14
  clear Oj1
  obtain ⟨ls0, s00, s01⟩ := Ps0.out
  obtain ⟨lg0, g00, g01⟩ := Pg0.out
  go_wp2_with fail
  refine (eqP_any S0 ((Oh0.out.alloc _).at hz0) ((Os0.out.alloc _).at hz0)).mono ?_
  rintro e w15 ⟨rfl, hb15⟩
  clear ls0 s00 s01 lg0 g00 g01
  have bb15 : Below w14.heap.size w14 w15 := up1 hb15
  have Ps0 := Lib.hid (Ps0.out.on bb15)
  have Pg0 := Lib.hid (Pg0.out.on bb15)
  have Ph0 : Hid (PtP w15 w14.heap.size S0 (.slice v14x0a Z0.length v14x0c)) := (PtP.new _ _ _ _).on hb15
  have Os0 := Lib.hid (Os0.out.on bb15)
  have Og0 := Lib.hid (Og0.out.on bb15)
  have Oh0 := Lib.hid (Oh0.out.on bb15)
  have B15 := Lib.hid (B14.out.trans (bb15.mono B14.out.size))
  have le15 : w14.heap.size + 1 ≤ w15.heap.size := by have := hb15.size; (try simp at this); omega
  clear hb15 bb15
  obtain ⟨ls0, s00, s01⟩ := Ps0.out
  obtain ⟨lg0, g00, g01⟩ := Pg0.out
  obtain ⟨lh0, h00, h01⟩ := Ph0.out
  go_wp2_with fail
  refine (heldP_any S0 1 (Og0.out.at (marksR_fit hz0 _)) hz0 (by omega) (by omega)).mono ?_
  rintro e w16 ⟨rfl, hb16⟩
  clear ls0 s00 s01 lg0 g00 g01 lh0 h00 h01
  have bb16 : Below w15.heap.size w15 w16 := hb16
  have Ps0 := Lib.hid (Ps0.out.on bb16)
  have Pg0 := Lib.hid (Pg0.out.on bb16)
  have Ph0 := Lib.hid (Ph0.out.on bb16)
  have Os0 := Lib.hid (Os0.out.on bb16)
  have Og0 := Lib.hid (Og0.out.on bb16)
  have Oh0 := Lib.hid (Oh0.out.on bb16)
  have B16 := Lib.hid (B15.out.trans (bb16.mono B15.out.size))
  have le16 : w15.heap.size + 0 ≤ w16.heap.size := by have := hb16.size; (try simp at this); omega
  clear hb16 bb16
  go_wp2_with fail
  go_ret
  exact ⟨rfl, B16.out⟩
set_option maxRecDepth 100000 in
set_option maxHeartbeats 400000 in
theorem posetOf_long0 (u1 : Value) (z1 : List (List Int)) (n0 : Int) (w : World) (hm1 : RowsRaw w u1 z1) (hx : (1048576 : Int) < (z1.length : Int) + (tot z1 : Int)) :
    Calls Tryd.prog 4 #[.int .i64 n0, u1] w fun e w' => e = .returned (.bool true) ∧ Below w.heap.size w w' := by
  have HM1 := Lib.hid hm1
  obtain ⟨a1, cap1, rfl⟩ := hm1.slice
  have hq1 := hm1.len
  clear hm1
  go_enter Tryd.func4, Tryd.ntmps4
  go_wp2_with fail
  refine (szR_no (HM1.out.on (Below.refl _ _)) (by omega) (by omega) (by omega)).mono ?_
  rintro e wl0 ⟨rfl, hbl0⟩
  go_wp2_with fail
  go_ret
  exact ⟨rfl, ((Below.refl _ _).trans (hbl0.mono (by (try simp) <;> omega)))⟩
theorem posetOf_of (u1 : Value) (z1 : List (List Int)) (n0 : Int) (w : World)
    (hw1 : RowsRaw w u1 z1)
    (hTz : Tz w) :
    Calls Tryd.prog 4 #[.int .i64 n0, u1] w fun e w' => e = .returned (.bool true) ∧ Below w.heap.size w w' := by
  by_cases g1 : 1048576 < (z1.length + tot z1)
  · exact posetOf_long0 u1 z1 n0 w hw1  (by omega)
  have := posetOf_at n0 w (hw1.at (by omega) (by omega)) (by omega) hTz
  exact this
end Go.Proofs.YtochcpaahibijaaDoor
