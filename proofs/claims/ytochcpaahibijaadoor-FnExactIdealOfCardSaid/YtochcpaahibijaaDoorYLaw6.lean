/-
  Laws of posets: whatever the arguments, the program's answer is the model's, the arguments are as before, and the answer lies in new memory.
-/
import Derived.Test.YtochcpaahibijaaDoorPsS
import Derived.Deep.RegionHeld3
import Derived.StillTactics
import Derived.Deep.DeepCutAuto
namespace Go.Proofs.YtochcpaahibijaaDoor
open Go.RowKit
set_option linter.unusedVariables false

set_option maxRecDepth 100000 in
set_option maxHeartbeats 20000000 in
theorem idealOf_at {u0 u1 : Value} {z0 : List (List Int)} {z1 : List Int} (s0 : Int) (w : World) (hu0 : RowsAt w u0 z0) (hu1 : IntsAt w u1 z1) (hsum : (z0.length + tot z0) ≤ 1048576) (hTz : Tz w) :
    Calls Tryd.prog 9 #[.agg #[.int .i64 s0, u0], u1] w fun e w' => e = .returned (.bool true) ∧ Below w.heap.size w w' := by
  have TZ := Lib.hid hTz
  clear hTz
  have Hu0 := Lib.hid hu0
  have hl0 : FitR z0 := ⟨by omega, by omega⟩
  have hc0 : z0.length ≤ 1048576 := hl0.1
  have ht0 : tot z0 ≤ 1048576 := hl0.2
  obtain ⟨a0, cap0, rfl⟩ := hu0.slice
  clear hu0
  have Hu1 := Lib.hid hu1
  obtain ⟨a1, cap1, rfl, hl1, _⟩ := hu1
  have hl1' : ¬ 1048576 < (z1.length : Int) := by omega
  obtain ⟨Z0, N1, hr⟩ := idl_has s0 z0 z1
  have hz0 : Z0.length ≤ 1048576 := hr.fit
  have HR : Hid (IdlIs s0 z0 z1 Z0 N1) := hr
  clear hr
  have ec1 : (N1 != N1) = false := by simp
  have K0 : Hid (∀ w', Below w.heap.size w w' → RowsAt w' (.slice a0 z0.length cap0) z0) := fun w' hb => Hu0.out.on hb
  have K1 : Hid (∀ w', Below w.heap.size w w' → IntsAt w' (.slice a1 z1.length cap1) z1) := fun w' hb => Hu1.out.on hb
  clear Hu0 Hu1
  have B0 : Hid (Below w.heap.size w w) := Below.refl _ _
  go_enter Tryd.func9, Tryd.ntmps9
  go_wp2_with fail
  refine (szP_yes s0 (K0.out _ (al1 B0.out _)).raw (by omega) (by omega)).mono ?_
  rintro e w1 ⟨rfl, hb1⟩
  have bb1 : Below w.heap.size w w1 := up1 hb1
  have Pb0 : Hid (PtP w1 w.heap.size s0 (.slice a0 z0.length cap0)) := (PtP.new _ _ _ _).on hb1
  have B1 := Lib.hid (B0.out.trans (bb1.mono B0.out.size))
  have le1 : w.heap.size + 1 ≤ w1.heap.size := by have := hb1.size; (try simp at this); omega
  clear hb1 bb1
  obtain ⟨lb0, b00, b01⟩ := Pb0.out
  go_wp2_with fail
  refine (toP_any s0 (K0.out _ B1.out)).mono ?_
  rintro e w2 ⟨v2, rfl, ho2, hb2⟩
  clear lb0 b00 b01
  have bb2 : Below w1.heap.size w1 w2 := hb2
  have Pb0 := Lib.hid (Pb0.out.on bb2)
  have B2 := Lib.hid (B1.out.trans (bb2.mono B1.out.size))
  have le2 : w1.heap.size + 0 ≤ w2.heap.size := by have := hb2.size; (try simp at this); omega
  obtain ⟨v2a, v2c, rfl⟩ := ho2.slice
  have Oi0 : Hid (OwnRX (w1.heap.size + 0) w2.heap.size w2 (.slice v2a z0.length v2c) z0) := OwnRX.of ho2 (by simp)
  clear ho2 hb2 bb2
  obtain ⟨lb0, b00, b01⟩ := Pb0.out
  go_wp2_with fail
  refine (toI_any (K1.out _ B2.out)).mono ?_
  rintro e w3 ⟨v3, rfl, ho3, hb3⟩
  clear lb0 b00 b01
  have bb3 : Below w2.heap.size w2 w3 := hb3
  have Pb0 := Lib.hid (Pb0.out.on bb3)
  have Oi0 := Lib.hid (Oi0.out.on bb3)
  have B3 := Lib.hid (B2.out.trans (bb3.mono B2.out.size))
  have le3 : w2.heap.size + 0 ≤ w3.heap.size := by have := hb3.size; (try simp at this); omega
  obtain ⟨v3a, v3c, rfl⟩ := ho3.slice
  have Oi1 : Hid (OwnX (w2.heap.size + 0) w3.heap.size w3 (.slice v3a z1.length v3c) z1) := OwnX.of ho3 (by simp)
  clear ho3 hb3 bb3
  obtain ⟨lb0, b00, b01⟩ := Pb0.out
  go_wp2_with fail
  refine (specIdl_is (Oi0.out.at hl0) (Oi1.out.at hl1) HR.out).mono ?_
  rintro e w4 ⟨v4x0, rfl, ho4x0, hb4⟩
  clear lb0 b00 b01
  have bb4 : Below w3.heap.size w3 w4 := hb4
  have Pb0 := Lib.hid (Pb0.out.on bb4)
  have Oi0 := Lib.hid (Oi0.out.on bb4)
  have Oi1 := Lib.hid (Oi1.out.on bb4)
  have B4 := Lib.hid (B3.out.trans (bb4.mono B3.out.size))
  have le4 : w3.heap.size + 0 ≤ w4.heap.size := by have := hb4.size; (try simp at this); omega
  obtain ⟨v4x0a, v4x0c, rfl⟩ := ho4x0.slice
  have Os0 : Hid (OwnX (w3.heap.size + 0) w4.heap.size w4 (.slice v4x0a Z0.length v4x0c) Z0) := OwnX.of ho4x0 (by simp)
  clear ho4x0 hb4 bb4
  clear Oi0 Oi1
  obtain ⟨lb0, b00, b01⟩ := Pb0.out
  go_wp2_with fail
  refine (toP_any s0 (K0.out _ B4.out)).mono ?_
  rintro e w5 ⟨v5, rfl, ho5, hb5⟩
  clear lb0 b00 b01
  have bb5 : Below w4.heap.size w4 w5 := hb5
  have Pb0 := Lib.hid (Pb0.out.on bb5)
  have Os0 := Lib.hid (Os0.out.on bb5)
  have B5 := Lib.hid (B4.out.trans (bb5.mono B4.out.size))
  have le5 : w4.heap.size + 0 ≤ w5.heap.size := by have := hb5.size; (try simp at this); omega
  obtain ⟨v5a, v5c, rfl⟩ := ho5.slice
  have Ox0 : Hid (OwnRX (w4.heap.size + 0) w5.heap.size w5 (.slice v5a z0.length v5c) z0) := OwnRX.of ho5 (by simp)
  clear ho5 hb5 bb5
  obtain ⟨lb0, b00, b01⟩ := Pb0.out
  go_wp2_with fail
  refine (toI_any (K1.out _ (al1 B5.out _))).mono ?_
  rintro e w6 ⟨v6, rfl, ho6, hb6⟩
  clear lb0 b00 b01
  have bb6 : Below w5.heap.size w5 w6 := up1 hb6
  have Pb0 := Lib.hid (Pb0.out.on bb6)
  have Px0 : Hid (PtP w6 w5.heap.size s0 (.slice v5a z0.length v5c)) := (PtP.new _ _ _ _).on hb6
  have Os0 := Lib.hid (Os0.out.on bb6)
  have Ox0 := Lib.hid (Ox0.out.on bb6)
  have B6 := Lib.hid (B5.out.trans (bb6.mono B5.out.size))
  have le6 : w5.heap.size + 1 ≤ w6.heap.size := by have := hb6.size; (try simp at this); omega
  obtain ⟨v6a, v6c, rfl⟩ := ho6.slice
  have Ox1 : Hid (OwnX (w5.heap.size + 1) w6.heap.size w6 (.slice v6a z1.length v6c) z1) := OwnX.of ho6 (by simp)
  clear ho6 hb6 bb6
  obtain ⟨lb0, b00, b01⟩ := Pb0.out
  obtain ⟨lx0, x00, x01⟩ := Px0.out
  go_wp2_with fail
  refine (implIdl_is (Ox0.out.at hl0) (Ox1.out.at hl1) HR.out (TZ.out.on B6.out)).mono ?_
  rintro e w7 ⟨v7x0, rfl, ho7x0, hb7⟩
  clear lb0 b00 b01 lx0 x00 x01
  have bb7 : Below w6.heap.size w6 w7 := hb7
  have Pb0 := Lib.hid (Pb0.out.on bb7)
  have Px0 := Lib.hid (Px0.out.on bb7)
  have Os0 := Lib.hid (Os0.out.on bb7)
  have Ox0 := Lib.hid (Ox0.out.on bb7)
  have Ox1 := Lib.hid (Ox1.out.on bb7)
  have B7 := Lib.hid (B6.out.trans (bb7.mono B6.out.size))
  have le7 : w6.heap.size + 0 ≤ w7.heap.size := by have := hb7.size; (try simp at this); omega
  obtain ⟨v7x0a, v7x0c, rfl⟩ := ho7x0.slice
  have Og0 : Hid (OwnX (w6.heap.size + 0) w7.heap.size w7 (.slice v7x0a Z0.length v7x0c) Z0) := OwnX.of ho7x0 (by simp)
  clear ho7x0 hb7 bb7
  obtain ⟨lb0, b00, b01⟩ := Pb0.out
  obtain ⟨lx0, x00, x01⟩ := Px0.out
  go_wp2_with fail
  refine (eqL_any (Og0.out.at hz0) (Os0.out.at hz0)).mono ?_
  rintro e w8 ⟨rfl, hb8⟩
  clear lb0 b00 b01 lx0 x00 x01
  have bb8 : Below w7.heap.size w7 w8 := hb8
  have Pb0 := Lib.hid (Pb0.out.on bb8)
  have Px0 := Lib.hid (Px0.out.on bb8)
  have Os0 := Lib.hid (Os0.out.on bb8)
  have Ox0 := Lib.hid (Ox0.out.on bb8)
  have Ox1 := Lib.hid (Ox1.out.on bb8)
  have Og0 := Lib.hid (Og0.out.on bb8)
  have B8 := Lib.hid (B7.out.trans (bb8.mono B7.out.size))
  have le8 : w7.heap.size + 0 ≤ w8.heap.size := by have := hb8.size; (try simp at this); omega
  clear hb8 bb8
  obtain ⟨lb0, b00, b01⟩ := Pb0.out
  obtain ⟨lx0, x00, x01⟩ := Px0.out
  go_wp2_with fail
  go_region_held3 (fun w' => w'.cell? ⟨w5.heap.size, 0, none⟩ = some (.int .i64 s0) ∧ w'.cell? ⟨w5.heap.size, 1, none⟩ = some ((.slice v5a z0.length v5c)) ∧ w'.cell? ⟨w.heap.size, 0, none⟩ = some (.int .i64 s0) ∧ w'.cell? ⟨w.heap.size, 1, none⟩ = some ((.slice a0 z0.length cap0))) (go_keep)
    (first
      | (go_at_call 17; refine (toP_any s0 (K0.out _ B8.out).drew).mono ?_; rintro e wa9 ⟨va9, rfl, hoa9, hba9'⟩; have hba9 := undrew hba9'; obtain ⟨va9a, va9c, rfl⟩ := hoa9.slice; obtain ⟨_, _, _⟩ := Px0.out.on hba9; obtain ⟨_, _, _⟩ := Pb0.out.on hba9)
      | (go_at_call 19; refine (eqP_any s0 ((Ox0.out.on hba9).at hl0) (hoa9.at hl0)).mono ?_; rintro e w9 ⟨rfl, hbb9⟩; obtain ⟨_, _, _⟩ := Px0.out.on (hba9.trans (hbb9.mono hba9.size)); obtain ⟨_, _, _⟩ := Pb0.out.on (hba9.trans (hbb9.mono hba9.size))))
  have hb9 : Below w8.heap.size w8 w9 := hba9.trans (hbb9.mono hba9.size)
  have bb9 := hb9
  clear lb0 b00 b01 lx0 x00 x01
  clear hoa9 hba9 hbb9
  have Pb0 := Lib.hid (Pb0.out.on bb9)
  have Px0 := Lib.hid (Px0.out.on bb9)
  have Os0 := Lib.hid (Os0.out.on bb9)
  have Ox0 := Lib.hid (Ox0.out.on bb9)
  have Ox1 := Lib.hid (Ox1.out.on bb9)
  have Og0 := Lib.hid (Og0.out.on bb9)
  have B9 := Lib.hid (B8.out.trans (bb9.mono B8.out.size))
  have le9 : w8.heap.size + 0 ≤ w9.heap.size := by have := hb9.size; (try simp at this); omega
  clear hb9 bb9
  obtain ⟨lb0, b00, b01⟩ := Pb0.out
  obtain ⟨lx0, x00, x01⟩ := Px0.out
  go_wp2_with fail
  refine (toI_any (K1.out _ B9.out)).mono ?_
  rintro e w10 ⟨v10, rfl, ho10, hb10⟩
  clear lb0 b00 b01 lx0 x00 x01
  have bb10 : Below w9.heap.size w9 w10 := hb10
  have Pb0 := Lib.hid (Pb0.out.on bb10)
  have Px0 := Lib.hid (Px0.out.on bb10)
  have Os0 := Lib.hid (Os0.out.on bb10)
  have Ox0 := Lib.hid (Ox0.out.on bb10)
  have Ox1 := Lib.hid (Ox1.out.on bb10)
  have Og0 := Lib.hid (Og0.out.on bb10)
  have B10 := Lib.hid (B9.out.trans (bb10.mono B9.out.size))
  have le10 : w9.heap.size + 0 ≤ w10.heap.size := by have := hb10.size; (try simp at this); omega
  obtain ⟨v10a, v10c, rfl⟩ := ho10.slice
  have Oy1 : Hid (OwnX (w9.heap.size + 0) w10.heap.size w10 (.slice v10a z1.length v10c) z1) := OwnX.of ho10 (by simp)
  clear ho10 hb10 bb10
  obtain ⟨lb0, b00, b01⟩ := Pb0.out
  obtain ⟨lx0, x00, x01⟩ := Px0.out
  go_wp2_with fail
  refine (eqL_any (Ox1.out.at hl1) (Oy1.out.at hl1)).mono ?_
  rintro e w11 ⟨rfl, hb11⟩
  clear lb0 b00 b01 lx0 x00 x01
  have bb11 : Below w10.heap.size w10 w11 := hb11
  have Pb0 := Lib.hid (Pb0.out.on bb11)
  have Px0 := Lib.hid (Px0.out.on bb11)
  have Os0 := Lib.hid (Os0.out.on bb11)
  have Ox0 := Lib.hid (Ox0.out.on bb11)
  have Ox1 := Lib.hid (Ox1.out.on bb11)
  have Og0 := Lib.hid (Og0.out.on bb11)
  have Oy1 := Lib.hid (Oy1.out.on bb11)
  have B11 := Lib.hid (B10.out.trans (bb11.mono B10.out.size))
  have le11 : w10.heap.size + 0 ≤ w11.heap.size := by have := hb11.size; (try simp at this); omega
  clear hb11 bb11
  clear Oy1
  obtain ⟨lb0, b00, b01⟩ := Pb0.out
  obtain ⟨lx0, x00, x01⟩ := Px0.out
  go_wp2_with fail
  refine (markP_any s0 1 Ox0.out hl0 (by omega) (by omega)).mono ?_
  rintro e w12 ⟨rfl, ho12, hf12⟩
  clear lb0 b00 b01 lx0 x00 x01
  have Pb0 := Lib.hid (Pb0.out.fr hf12 (by omega))
  have Px0 := Lib.hid (Px0.out.fr hf12 (by omega))
  have Os0 := Lib.hid (Os0.out.fr hf12 (by omega))
  have Ox1 := Lib.hid (Ox1.out.fr hf12 (by omega))
  have Og0 := Lib.hid (Og0.out.fr hf12 (by omega))
  have Ox0 := Lib.hid ho12
  have B12 := Lib.hid (B11.out.trans ((hf12.below (by omega)).mono (by omega)))
  have le12 : w11.heap.size ≤ w12.heap.size := hf12.2.2.2.1
  clear ho12 hf12
  obtain ⟨lb0, b00, b01⟩ := Pb0.out
  obtain ⟨lx0, x00, x01⟩ := Px0.out
  go_wp2_with fail
  refine (markX_any (1 + (tot z0 : Int)) Ox1.out hl1 (by omega) (by omega)).mono ?_
  rintro e w13 ⟨rfl, ho13, hf13⟩
  clear lb0 b00 b01 lx0 x00 x01
  have Pb0 := Lib.hid (Pb0.out.fr hf13 (by omega))
  have Px0 := Lib.hid (Px0.out.fr hf13 (by omega))
  have Os0 := Lib.hid (Os0.out.fr hf13 (by omega))
  have Ox0 := Lib.hid (Ox0.out.fr hf13 (by omega))
  have Og0 := Lib.hid (Og0.out.fr hf13 (by omega))
  have Ox1 := Lib.hid ho13
  have B13 := Lib.hid (B12.out.trans ((hf13.below (by omega)).mono (by omega)))
  have le13 : w12.heap.size ≤ w13.heap.size := hf13.2.2.2.1
  clear ho13 hf13
  clear Ox0 Ox1
  clear Px0
  obtain ⟨lb0, b00, b01⟩ := Pb0.out
  go_wp2_with fail
  refine (eqL_any (Og0.out.at hz0) (Os0.out.at hz0)).mono ?_
  rintro e w14 ⟨rfl, hb14⟩
  clear lb0 b00 b01
  have bb14 : Below w13.heap.size w13 w14 := hb14
  have Pb0 := Lib.hid (Pb0.out.on bb14)
  have Os0 := Lib.hid (Os0.out.on bb14)
  have Og0 := Lib.hid (Og0.out.on bb14)
  have B14 := Lib.hid (B13.out.trans (bb14.mono B13.out.size))
  have le14 : w13.heap.size + 0 ≤ w14.heap.size := by have := hb14.size; (try simp at this); omega
  clear hb14 bb14
  obtain ⟨lb0, b00, b01⟩ := Pb0.out
  go_wp2_with fail
  refine (markX_any 1 Og0.out hz0 (by omega) (by omega)).mono ?_
  rintro e w15 ⟨rfl, ho15, hf15⟩
  clear lb0 b00 b01
  have Pb0 := Lib.hid (Pb0.out.fr hf15 (by omega))
  have Os0 := Lib.hid (Os0.out.fr hf15 (by omega))
  have Og0 := Lib.hid ho15
  have B15 := Lib.hid (B14.out.trans ((hf15.below (by omega)).mono (by omega)))
  have le15 : w14.heap.size ≤ w15.heap.size := hf15.2.2.2.1
  clear ho15 hf15
  have eq1 : ((1 + (Z0.length : Int)) != (1 + (Z0.length : Int))) = false := by simp
  obtain ⟨lb0, b00, b01⟩ := Pb0.out
  go_wp2_with fail
  refine (heldL_any (k := 1) (Og0.out.at (by rw [marks_len]; exact hz0)) (by omega) (by omega)).mono ?_
  rintro e w16 ⟨rfl, hb16⟩
  clear lb0 b00 b01
  have bb16 : Below w15.heap.size w15 w16 := hb16
  have Pb0 := Lib.hid (Pb0.out.on bb16)
  have Os0 := Lib.hid (Os0.out.on bb16)
  have Og0 := Lib.hid (Og0.out.on bb16)
  have B16 := Lib.hid (B15.out.trans (bb16.mono B15.out.size))
  have le16 : w15.heap.size + 0 ≤ w16.heap.size := by have := hb16.size; (try simp at this); omega
  clear hb16 bb16
  obtain ⟨lb0, b00, b01⟩ := Pb0.out
  go_wp2_with fail
  refine (toP_any s0 (K0.out _ B16.out)).mono ?_
  rintro e w17 ⟨v17, rfl, ho17, hb17⟩
  clear lb0 b00 b01
  have bb17 : Below w16.heap.size w16 w17 := hb17
  have Pb0 := Lib.hid (Pb0.out.on bb17)
  have Os0 := Lib.hid (Os0.out.on bb17)
  have Og0 := Lib.hid (Og0.out.on bb17)
  have B17 := Lib.hid (B16.out.trans (bb17.mono B16.out.size))
  have le17 : w16.heap.size + 0 ≤ w17.heap.size := by have := hb17.size; (try simp at this); omega
  obtain ⟨v17a, v17c, rfl⟩ := ho17.slice
  have Oj0 : Hid (OwnRX (w16.heap.size + 0) w17.heap.size w17 (.slice v17a z0.length v17c) z0) := OwnRX.of ho17 (by simp)
  clear ho17 hb17 bb17
  obtain ⟨lb0, b00, b01⟩ := Pb0.out
  go_wp2_with fail
  refine (toI_any (K1.out _ B17.out)).mono ?_
  rintro e w18 ⟨v18, rfl, ho18, hb18⟩
  clear lb0 b00 b01
  have bb18 : Below w17.heap.size w17 w18 := hb18
  have Pb0 := Lib.hid (Pb0.out.on bb18)
  have Os0 := Lib.hid (Os0.out.on bb18)
  have Og0 := Lib.hid (Og0.out.on bb18)
  have Oj0 := Lib.hid (Oj0.out.on bb18)
  have B18 := Lib.hid (B17.out.trans (bb18.mono B17.out.size))
  have le18 : w17.heap.size + 0 ≤ w18.heap.size := by have := hb18.size; (try simp at this); omega
  obtain ⟨v18a, v18c, rfl⟩ := ho18.slice
  have Oj1 : Hid (OwnX (w17.heap.size + 0) w18.heap.size w18 (.slice v18a z1.length v18c) z1) := OwnX.of ho18 (by simp)
  clear ho18 hb18 bb18
  obtain ⟨lb0, b00, b01⟩ := Pb0.out
  go_wp2_with fail
  refine (implIdl_is (Oj0.out.at hl0) (Oj1.out.at hl1) HR.out (TZ.out.on B18.out)).mono ?_
  rintro e w19 ⟨v19x0, rfl, ho19x0, hb19⟩
  clear lb0 b00 b01
  have bb19 : Below w18.heap.size w18 w19 := hb19
  have Pb0 := Lib.hid (Pb0.out.on bb19)
  have Os0 := Lib.hid (Os0.out.on bb19)
  have Og0 := Lib.hid (Og0.out.on bb19)
  have Oj0 := Lib.hid (Oj0.out.on bb19)
  have Oj1 := Lib.hid (Oj1.out.on bb19)
  have B19 := Lib.hid (B18.out.trans (bb19.mono B18.out.size))
  have le19 : w18.heap.size + 0 ≤ w19.heap.size := by have := hb19.size; (try simp at this); omega
  obtain ⟨v19x0a, v19x0c, rfl⟩ := ho19x0.slice
  have Oh0 : Hid (OwnX (w18.heap.size + 0) w19.heap.size w19 (.slice v19x0a Z0.length v19x0c) Z0) := OwnX.of ho19x0 (by simp)
  clear ho19x0 hb19 bb19
  clear Oj0 Oj1
  obtain ⟨lb0, b00, b01⟩ := Pb0.out
  go_wp2_with fail
  refine (eqL_any (Oh0.out.at hz0) (Os0.out.at hz0)).mono ?_
  rintro e w20 ⟨rfl, hb20⟩
  clear lb0 b00 b01
  have bb20 : Below w19.heap.size w19 w20 := hb20
  have Pb0 := Lib.hid (Pb0.out.on bb20)
  have Os0 := Lib.hid (Os0.out.on bb20)
  have Og0 := Lib.hid (Og0.out.on bb20)
  have Oh0 := Lib.hid (Oh0.out.on bb20)
  have B20 := Lib.hid (B19.out.trans (bb20.mono B19.out.size))
  have le20 : w19.heap.size + 0 ≤ w20.heap.size := by have := hb20.size; (try simp at this); omega
  clear hb20 bb20
  obtain ⟨lb0, b00, b01⟩ := Pb0.out
  go_wp2_with fail
  refine (heldL_any (k := 1) (Og0.out.at (by rw [marks_len]; exact hz0)) (by omega) (by omega)).mono ?_
  rintro e w21 ⟨rfl, hb21⟩
  clear lb0 b00 b01
  have bb21 : Below w20.heap.size w20 w21 := hb21
  have Pb0 := Lib.hid (Pb0.out.on bb21)
  have Os0 := Lib.hid (Os0.out.on bb21)
  have Og0 := Lib.hid (Og0.out.on bb21)
  have Oh0 := Lib.hid (Oh0.out.on bb21)
  have B21 := Lib.hid (B20.out.trans (bb21.mono B20.out.size))
  have le21 : w20.heap.size + 0 ≤ w21.heap.size := by have := hb21.size; (try simp at this); omega
  clear hb21 bb21
  go_wp2_with fail
  go_ret
  exact ⟨rfl, B21.out⟩
set_option maxRecDepth 100000 in
set_option maxHeartbeats 400000 in
theorem idealOf_long0 (a1 : Option Addr) (len1 cap1 : Nat) (u0 : Value) (z0 : List (List Int)) (s0 : Int) (w : World) (hm1 : len1 ≤ 9223372036854775807) (hm0 : RowsRaw w u0 z0) (hx : 1048576 < (len1 : Int)) :
    Calls Tryd.prog 9 #[.agg #[.int .i64 s0, u0], .slice a1 len1 cap1] w fun e w' => e = .returned (.bool true) ∧ Below w.heap.size w w' := by
  have HM0 := Lib.hid hm0
  obtain ⟨a0, cap0, rfl⟩ := hm0.slice
  have hq0 := hm0.len
  clear hm0
  go_enter Tryd.func9, Tryd.ntmps9
  go_wp2_with fail
  go_ret
  exact ⟨rfl, al1 (Below.refl _ _) _⟩
set_option maxRecDepth 100000 in
set_option maxHeartbeats 400000 in
theorem idealOf_long1 (a1 : Option Addr) (len1 cap1 : Nat) (u0 : Value) (z0 : List (List Int)) (s0 : Int) (w : World) (hm1 : len1 ≤ 9223372036854775807) (hm0 : RowsRaw w u0 z0) (h1 : ¬ 1048576 < (len1 : Int)) (hx : (1048576 : Int) < (z0.length : Int) + (tot z0 : Int)) :
    Calls Tryd.prog 9 #[.agg #[.int .i64 s0, u0], .slice a1 len1 cap1] w fun e w' => e = .returned (.bool true) ∧ Below w.heap.size w w' := by
  have HM0 := Lib.hid hm0
  obtain ⟨a0, cap0, rfl⟩ := hm0.slice
  have hq0 := hm0.len
  clear hm0
  go_enter Tryd.func9, Tryd.ntmps9
  go_wp2_with fail
  refine (szP_no s0 (HM0.out.on (al1 (Below.refl _ _) _)) (by omega) (by omega) (by omega)).mono ?_
  rintro e wl0 ⟨rfl, hbl0⟩
  go_wp2_with fail
  go_ret
  exact ⟨rfl, ((al1 (Below.refl _ _) _).trans (hbl0.mono (by (try simp) <;> omega)))⟩
theorem idealOf_of (a1 : Option Addr) (len1 cap1 : Nat) (z1 : List Int) (u0 : Value) (z0 : List (List Int)) (s0 : Int) (w : World)
    (hw0 : RowsRaw w u0 z0)
    (hw1 : (a1 = none ∧ len1 = 0 ∧ cap1 = 0 ∧ z1 = []) ∨ ∃ x, a1 = some x ∧ len1 ≤ cap1 ∧ cap1 ≤ maxLen ∧ z1.length = cap1 ∧ (∀ i, i < z1.length → w.cell? (x.add i) = some (.int .i64 (z1.getD i 0))) ∧ ∀ n ∈ z1, (Lit.int .i64 n).wf = true)
    (hTz : Tz w) :
    Calls Tryd.prog 9 #[.agg #[.int .i64 s0, u0], .slice a1 len1 cap1] w fun e w' => e = .returned (.bool true) ∧ Below w.heap.size w w' := by
  by_cases h1 : 1048576 < (len1 : Int)
  · exact idealOf_long0 a1 len1 cap1 u0 z0 s0 w (len_max hw1) hw0  h1
  by_cases g0 : 1048576 < (z0.length + tot z0)
  · exact idealOf_long1 a1 len1 cap1 u0 z0 s0 w (len_max hw1) hw0 h1 (by omega)
  have hx : (z1.take len1).length = len1 := row_len hw1
  have := idealOf_at s0 w (hw0.at (by omega) (by omega)) (intsAt_in (by omega) hw1) (by omega) hTz
  exact this
end Go.Proofs.YtochcpaahibijaaDoor
