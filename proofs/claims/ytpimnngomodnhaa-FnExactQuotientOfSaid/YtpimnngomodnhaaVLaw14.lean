/-
  Laws of spaces: whatever the arguments, the program's answer is the model's, the arguments are as before, and the answer lies in new memory.
-/
import Derived.Test.YtpimnngomodnhaaSqO
import Derived.Test.YtpimnngomodnhaaSqN
import Derived.Test.YtpimnngomodnhaaSqP
import Derived.Deep.RegionHeld3
import Derived.StillTactics
import Derived.Deep.DeepCutAuto
namespace Go.Proofs.Ytpimnngomodnhaa
open Go.RowKit
set_option linter.unusedVariables false

set_option maxRecDepth 100000 in
set_option maxHeartbeats 20000000 in
theorem quotientOf_at {u0 u1 : Value} {z0 : List (List Int)} {z1 : List (List Int)} (p0 r0 p1 r1 : Int) (w : World) (hu0 : RowsAt w u0 z0) (hu1 : RowsAt w u1 z1) (hsum : (z0.length + tot z0) + (z1.length + tot z1) ≤ 1048576) :
    Calls Try.prog 7 #[.agg #[.int .i64 p0, .int .i64 r0, u0], .agg #[.int .i64 p1, .int .i64 r1, u1]] w fun e w' => e = .returned (.bool true) ∧ Below w.heap.size w w' := by
  have Hu0 := Lib.hid hu0
  have hl0 : FitR z0 := ⟨by omega, by omega⟩
  have hc0 : z0.length ≤ 1048576 := hl0.1
  have ht0 : tot z0 ≤ 1048576 := hl0.2
  obtain ⟨a0, cap0, rfl⟩ := hu0.slice
  clear hu0
  have Hu1 := Lib.hid hu1
  have hl1 : FitR z1 := ⟨by omega, by omega⟩
  have hc1 : z1.length ≤ 1048576 := hl1.1
  have ht1 : tot z1 ≤ 1048576 := hl1.2
  obtain ⟨a1, cap1, rfl⟩ := hu1.slice
  clear hu1
  obtain ⟨Z0, N1, hr⟩ := quoRes_has p0 r0 z0 p1 r1 z1
  have hz0 : FitR Z0 := hr.fit
  have hzc0 : Z0.length ≤ 1048576 := hz0.1
  have hzt0 : tot Z0 ≤ 1048576 := hz0.2
  have HR : Hid (QuoRes p0 r0 z0 p1 r1 z1 Z0 N1) := hr
  clear hr
  have ec1 : (N1 != N1) = false := by simp
  have K0 : Hid (∀ w', Below w.heap.size w w' → RowsAt w' (.slice a0 z0.length cap0) z0) := fun w' hb => Hu0.out.on hb
  have K1 : Hid (∀ w', Below w.heap.size w w' → RowsAt w' (.slice a1 z1.length cap1) z1) := fun w' hb => Hu1.out.on hb
  clear Hu0 Hu1
  have B0 : Hid (Below w.heap.size w w) := Below.refl _ _
  go_enter Try.func7, Try.ntmps7
  go_wp2_with fail
  refine (szV_yes p0 r0 (K0.out _ (al1 (al1 B0.out _) _)).raw (by omega) (by omega)).mono ?_
  rintro e w1 ⟨rfl, hb1⟩
  have bb1 : Below w.heap.size w w1 := up2 hb1
  have Pb0 : Hid (PtV w1 w.heap.size p0 r0 (.slice a0 z0.length cap0)) := (PtV.new1 _ _ _ _ _ _).on hb1
  have Pb1 : Hid (PtV w1 (w.heap.size + 1) p1 r1 (.slice a1 z1.length cap1)) := by
    show PtV _ _ _ _ _
    have := (PtV.new _ _ _ _ _ : PtV _ _ p1 r1 (.slice a1 z1.length cap1)).on hb1
    simpa using this
  have B1 := Lib.hid (B0.out.trans (bb1.mono B0.out.size))
  have le1 : w.heap.size + 2 ≤ w1.heap.size := by have := hb1.size; (try simp at this); omega
  clear hb1 bb1
  obtain ⟨lb0, b00, b01, b02⟩ := Pb0.out
  obtain ⟨lb1, b10, b11, b12⟩ := Pb1.out
  go_wp2_with fail
  refine (szV_yes p1 r1 (K1.out _ B1.out).raw (by omega) (by omega)).mono ?_
  rintro e w2 ⟨rfl, hb2⟩
  clear lb0 b00 b01 b02 lb1 b10 b11 b12
  have bb2 : Below w1.heap.size w1 w2 := hb2
  have Pb0 := Lib.hid (Pb0.out.on bb2)
  have Pb1 := Lib.hid (Pb1.out.on bb2)
  have B2 := Lib.hid (B1.out.trans (bb2.mono B1.out.size))
  have le2 : w1.heap.size + 0 ≤ w2.heap.size := by have := hb2.size; (try simp at this); omega
  clear hb2 bb2
  obtain ⟨lb0, b00, b01, b02⟩ := Pb0.out
  obtain ⟨lb1, b10, b11, b12⟩ := Pb1.out
  have := Pb0.out.ne
  have := Pb1.out.ne
  go_wp2_with fail
  go_region_held3 (fun w' => w'.cell? ⟨w.heap.size, 0, none⟩ = some (.int .i64 p0) ∧ w'.cell? ⟨w.heap.size, 1, none⟩ = some (.int .i64 r0) ∧ w'.cell? ⟨w.heap.size, 2, none⟩ = some ((.slice a0 z0.length cap0)) ∧ w'.cell? ⟨(w.heap.size + 1), 0, none⟩ = some (.int .i64 p1) ∧ w'.cell? ⟨(w.heap.size + 1), 1, none⟩ = some (.int .i64 r1) ∧ w'.cell? ⟨(w.heap.size + 1), 2, none⟩ = some ((.slice a1 z1.length cap1))) (go_keep)
    (first
      | (go_at_call_of 27 (.agg #[.int .i64 p0, .int .i64 r0, (.slice a0 z0.length cap0)] : Value); refine (toV_any p0 r0 (by first | exact K0.out _ B2.out | exact (K0.out _ B2.out).drew | exact (K0.out _ B2.out).al | exact (K0.out _ B2.out).al.drew | exact (K0.out _ B2.out).drew.al)).mono ?_; rintro e wx3 ⟨_, rfl, hox3, hbx3'⟩; have hbx3 : Below w2.heap.size w2 wx3 := (by first | exact hbx3' | exact undrew hbx3' | exact up1 hbx3' | exact up1 (undrew hbx3') | exact undrew (up1 hbx3')); obtain ⟨_, _⟩ := bcell hbx3'; have hsx3 := hbx3'.size; (try simp at hsx3); (try have := (by omega : w2.heap.size < wx3.heap.size)); obtain ⟨_, _, rfl⟩ := hox3.slice; obtain ⟨_, _, _, _⟩ := Pb0.out.on hbx3; obtain ⟨_, _, _, _⟩ := Pb1.out.on hbx3; have := (Pb0.out.on hbx3).ne; have := (Pb1.out.on hbx3).ne)
      | (go_at_call_of 27 (.agg #[.int .i64 p1, .int .i64 r1, (.slice a1 z1.length cap1)] : Value); refine (toV_any p1 r1 (by first | exact K1.out _ (B2.out.trans (hbx3.mono B2.out.size)) | exact (K1.out _ (B2.out.trans (hbx3.mono B2.out.size))).drew | exact (K1.out _ (B2.out.trans (hbx3.mono B2.out.size))).al | exact (K1.out _ (B2.out.trans (hbx3.mono B2.out.size))).al.drew | exact (K1.out _ (B2.out.trans (hbx3.mono B2.out.size))).drew.al)).mono ?_; rintro e wy3 ⟨_, rfl, hoy3, hby3'⟩; have hby31 : Below wx3.heap.size wx3 wy3 := (by first | exact hby3' | exact undrew hby3' | exact up1 hby3' | exact up1 (undrew hby3') | exact undrew (up1 hby3')); have hby3 : Below w2.heap.size w2 wy3 := hbx3.trans (hby31.mono hbx3.size); obtain ⟨_, _⟩ := bcell hby3'; have hsy3 := hby3'.size; (try simp at hsy3); (try have := (by omega : wx3.heap.size < wy3.heap.size)); (try have := (by omega : w2.heap.size < wy3.heap.size)); obtain ⟨_, _, rfl⟩ := hoy3.slice; obtain ⟨_, _, _, _⟩ := Pb0.out.on hby3; obtain ⟨_, _, _, _⟩ := Pb1.out.on hby3; have := (Pb0.out.on hby3).ne; have := (Pb1.out.on hby3).ne)
      | (go_at_call 35; refine (specQuo_any (by first | exact (hox3.on hby31).atD hl0 | exact ((hox3.on hby31).atD hl0).drew | exact ((hox3.on hby31).atD hl0).al | exact ((hox3.on hby31).atD hl0).al.drew | exact ((hox3.on hby31).atD hl0).drew.al) (by first | exact hoy3.atD hl1 | exact (hoy3.atD hl1).drew | exact (hoy3.atD hl1).al | exact (hoy3.atD hl1).al.drew | exact (hoy3.atD hl1).drew.al) HR.out).mono ?_; rintro e w3 ⟨v3x0, rfl, ho3x0, hbz3'⟩; have hbz3 : Below wy3.heap.size wy3 w3 := (by first | exact hbz3' | exact undrew hbz3' | exact up1 hbz3' | exact up1 (undrew hbz3') | exact undrew (up1 hbz3')); have hb3 : Below w2.heap.size w2 w3 := hby3.trans (hbz3.mono hby3.size); obtain ⟨v3x0a, v3x0c, rfl⟩ := ho3x0.slice; obtain ⟨_, _⟩ := bcell hbz3'; have hsz3 := hbz3'.size; (try simp at hsz3); (try have := (by omega : wy3.heap.size < w3.heap.size)); (try have := (by omega : wx3.heap.size < w3.heap.size)); (try have := (by omega : w2.heap.size < w3.heap.size)); obtain ⟨_, _, _, _⟩ := Pb0.out.on hb3; obtain ⟨_, _, _, _⟩ := Pb1.out.on hb3; have := (Pb0.out.on hb3).ne; have := (Pb1.out.on hb3).ne))
  have hyz3 : w2.heap.size ≤ wy3.heap.size := hby3.size
  have bb3 := hb3
  clear lb0 b00 b01 b02 lb1 b10 b11 b12
  have Pb0 := Lib.hid (Pb0.out.on bb3)
  have Pb1 := Lib.hid (Pb1.out.on bb3)
  have B3 := Lib.hid (B2.out.trans (bb3.mono B2.out.size))
  have le3 : w2.heap.size + 0 ≤ w3.heap.size := by have := hb3.size; (try simp at this); omega
  have Os0 : Hid (OwnRX w2.heap.size w3.heap.size w3 (.slice v3x0a Z0.length v3x0c) Z0) := OwnRX.of ho3x0 hyz3
  clear ho3x0 hbz3 hbz3' hox3 hoy3 hbx3 hbx3' hby3 hby31 hby3' hyz3 hb3 bb3
  obtain ⟨lb0, b00, b01, b02⟩ := Pb0.out
  obtain ⟨lb1, b10, b11, b12⟩ := Pb1.out
  go_wp2_with fail
  refine (toV_any p0 r0 (K0.out _ B3.out)).mono ?_
  rintro e w4 ⟨v4, rfl, ho4, hb4⟩
  clear lb0 b00 b01 b02 lb1 b10 b11 b12
  have bb4 : Below w3.heap.size w3 w4 := hb4
  have Pb0 := Lib.hid (Pb0.out.on bb4)
  have Pb1 := Lib.hid (Pb1.out.on bb4)
  have Os0 := Lib.hid (Os0.out.on bb4)
  have B4 := Lib.hid (B3.out.trans (bb4.mono B3.out.size))
  have le4 : w3.heap.size + 0 ≤ w4.heap.size := by have := hb4.size; (try simp at this); omega
  obtain ⟨v4a, v4c, rfl⟩ := ho4.slice
  have Ox0 : Hid (OwnRX (w3.heap.size + 0) w4.heap.size w4 (.slice v4a z0.length v4c) z0) := OwnRX.of ho4 (by simp)
  clear ho4 hb4 bb4
  obtain ⟨lb0, b00, b01, b02⟩ := Pb0.out
  obtain ⟨lb1, b10, b11, b12⟩ := Pb1.out
  go_wp2_with fail
  refine (toV_any p1 r1 (K1.out _ (al1 B4.out _))).mono ?_
  rintro e w5 ⟨v5, rfl, ho5, hb5⟩
  clear lb0 b00 b01 b02 lb1 b10 b11 b12
  have bb5 : Below w4.heap.size w4 w5 := up1 hb5
  have Pb0 := Lib.hid (Pb0.out.on bb5)
  have Pb1 := Lib.hid (Pb1.out.on bb5)
  have Px0 : Hid (PtV w5 w4.heap.size p0 r0 (.slice v4a z0.length v4c)) := (PtV.new _ _ _ _ _).on hb5
  have Os0 := Lib.hid (Os0.out.on bb5)
  have Ox0 := Lib.hid (Ox0.out.on bb5)
  have B5 := Lib.hid (B4.out.trans (bb5.mono B4.out.size))
  have le5 : w4.heap.size + 1 ≤ w5.heap.size := by have := hb5.size; (try simp at this); omega
  obtain ⟨v5a, v5c, rfl⟩ := ho5.slice
  have Ox1 : Hid (OwnRX (w4.heap.size + 1) w5.heap.size w5 (.slice v5a z1.length v5c) z1) := OwnRX.of ho5 (by simp)
  clear ho5 hb5 bb5
  obtain ⟨lb0, b00, b01, b02⟩ := Pb0.out
  obtain ⟨lb1, b10, b11, b12⟩ := Pb1.out
  obtain ⟨lx0, x00, x01, x02⟩ := Px0.out
  go_wp2_with fail
  refine (implQuo_any ((Ox0.out.alloc _).atD hl0) ((Ox1.out.alloc _).atD hl1) HR.out).mono ?_
  rintro e w6 ⟨v6x0, rfl, ho6x0, hb6⟩
  clear lb0 b00 b01 b02 lb1 b10 b11 b12 lx0 x00 x01 x02
  have bb6 : Below w5.heap.size w5 w6 := up1 hb6
  have Pb0 := Lib.hid (Pb0.out.on bb6)
  have Pb1 := Lib.hid (Pb1.out.on bb6)
  have Px0 := Lib.hid (Px0.out.on bb6)
  have Px1 : Hid (PtV w6 w5.heap.size p1 r1 (.slice v5a z1.length v5c)) := (PtV.new _ _ _ _ _).on hb6
  have Os0 := Lib.hid (Os0.out.on bb6)
  have Ox0 := Lib.hid (Ox0.out.on bb6)
  have Ox1 := Lib.hid (Ox1.out.on bb6)
  have B6 := Lib.hid (B5.out.trans (bb6.mono B5.out.size))
  have le6 : w5.heap.size + 1 ≤ w6.heap.size := by have := hb6.size; (try simp at this); omega
  obtain ⟨v6x0a, v6x0c, rfl⟩ := ho6x0.slice
  have Og0 : Hid (OwnRX (w5.heap.size + 1) w6.heap.size w6 (.slice v6x0a Z0.length v6x0c) Z0) := OwnRX.of ho6x0 (by simp)
  clear ho6x0 hb6 bb6
  obtain ⟨lb0, b00, b01, b02⟩ := Pb0.out
  obtain ⟨lb1, b10, b11, b12⟩ := Pb1.out
  obtain ⟨lx0, x00, x01, x02⟩ := Px0.out
  obtain ⟨lx1, x10, x11, x12⟩ := Px1.out
  go_wp2_with fail
  refine (eqR_any (Og0.out.at hz0) (Os0.out.at hz0)).mono ?_
  rintro e w7 ⟨rfl, hb7⟩
  clear lb0 b00 b01 b02 lb1 b10 b11 b12 lx0 x00 x01 x02 lx1 x10 x11 x12
  have bb7 : Below w6.heap.size w6 w7 := hb7
  have Pb0 := Lib.hid (Pb0.out.on bb7)
  have Pb1 := Lib.hid (Pb1.out.on bb7)
  have Px0 := Lib.hid (Px0.out.on bb7)
  have Px1 := Lib.hid (Px1.out.on bb7)
  have Os0 := Lib.hid (Os0.out.on bb7)
  have Ox0 := Lib.hid (Ox0.out.on bb7)
  have Ox1 := Lib.hid (Ox1.out.on bb7)
  have Og0 := Lib.hid (Og0.out.on bb7)
  have B7 := Lib.hid (B6.out.trans (bb7.mono B6.out.size))
  have le7 : w6.heap.size + 0 ≤ w7.heap.size := by have := hb7.size; (try simp at this); omega
  clear hb7 bb7
  obtain ⟨lb0, b00, b01, b02⟩ := Pb0.out
  obtain ⟨lb1, b10, b11, b12⟩ := Pb1.out
  obtain ⟨lx0, x00, x01, x02⟩ := Px0.out
  obtain ⟨lx1, x10, x11, x12⟩ := Px1.out
  go_wp2_with fail
  go_region_held3 (fun w' => w'.cell? ⟨w4.heap.size, 0, none⟩ = some (.int .i64 p0) ∧ w'.cell? ⟨w4.heap.size, 1, none⟩ = some (.int .i64 r0) ∧ w'.cell? ⟨w4.heap.size, 2, none⟩ = some ((.slice v4a z0.length v4c)) ∧ w'.cell? ⟨w.heap.size, 0, none⟩ = some (.int .i64 p0) ∧ w'.cell? ⟨w.heap.size, 1, none⟩ = some (.int .i64 r0) ∧ w'.cell? ⟨w.heap.size, 2, none⟩ = some ((.slice a0 z0.length cap0))) (go_keep)
    (first
      | (go_at_call 27; refine (toV_any p0 r0 (K0.out _ B7.out).drew).mono ?_; rintro e wa8 ⟨va8, rfl, hoa8, hba8'⟩; have hba8 := undrew hba8'; obtain ⟨va8a, va8c, rfl⟩ := hoa8.slice; obtain ⟨_, _, _, _⟩ := Px0.out.on hba8; obtain ⟨_, _, _, _⟩ := Pb0.out.on hba8)
      | (go_at_call 29; refine (eqV_any p0 r0 ((Ox0.out.on hba8).at hl0) (hoa8.at hl0)).mono ?_; rintro e w8 ⟨rfl, hbb8⟩; obtain ⟨_, _, _, _⟩ := Px0.out.on (hba8.trans (hbb8.mono hba8.size)); obtain ⟨_, _, _, _⟩ := Pb0.out.on (hba8.trans (hbb8.mono hba8.size))))
  have hb8 : Below w7.heap.size w7 w8 := hba8.trans (hbb8.mono hba8.size)
  have bb8 := hb8
  clear lb0 b00 b01 b02 lb1 b10 b11 b12 lx0 x00 x01 x02 lx1 x10 x11 x12
  clear hoa8 hba8 hbb8
  have Pb0 := Lib.hid (Pb0.out.on bb8)
  have Pb1 := Lib.hid (Pb1.out.on bb8)
  have Px0 := Lib.hid (Px0.out.on bb8)
  have Px1 := Lib.hid (Px1.out.on bb8)
  have Os0 := Lib.hid (Os0.out.on bb8)
  have Ox0 := Lib.hid (Ox0.out.on bb8)
  have Ox1 := Lib.hid (Ox1.out.on bb8)
  have Og0 := Lib.hid (Og0.out.on bb8)
  have B8 := Lib.hid (B7.out.trans (bb8.mono B7.out.size))
  have le8 : w7.heap.size + 0 ≤ w8.heap.size := by have := hb8.size; (try simp at this); omega
  clear hb8 bb8
  obtain ⟨lb0, b00, b01, b02⟩ := Pb0.out
  obtain ⟨lb1, b10, b11, b12⟩ := Pb1.out
  obtain ⟨lx0, x00, x01, x02⟩ := Px0.out
  obtain ⟨lx1, x10, x11, x12⟩ := Px1.out
  go_wp2_with fail
  go_region_held3 (fun w' => w'.cell? ⟨w5.heap.size, 0, none⟩ = some (.int .i64 p1) ∧ w'.cell? ⟨w5.heap.size, 1, none⟩ = some (.int .i64 r1) ∧ w'.cell? ⟨w5.heap.size, 2, none⟩ = some ((.slice v5a z1.length v5c)) ∧ w'.cell? ⟨(w.heap.size + 1), 0, none⟩ = some (.int .i64 p1) ∧ w'.cell? ⟨(w.heap.size + 1), 1, none⟩ = some (.int .i64 r1) ∧ w'.cell? ⟨(w.heap.size + 1), 2, none⟩ = some ((.slice a1 z1.length cap1))) (go_keep)
    (first
      | (go_at_call 27; refine (toV_any p1 r1 (K1.out _ B8.out).drew).mono ?_; rintro e wa9 ⟨va9, rfl, hoa9, hba9'⟩; have hba9 := undrew hba9'; obtain ⟨va9a, va9c, rfl⟩ := hoa9.slice; obtain ⟨_, _, _, _⟩ := Px1.out.on hba9; obtain ⟨_, _, _, _⟩ := Pb1.out.on hba9)
      | (go_at_call 29; refine (eqV_any p1 r1 ((Ox1.out.on hba9).at hl1) (hoa9.at hl1)).mono ?_; rintro e w9 ⟨rfl, hbb9⟩; obtain ⟨_, _, _, _⟩ := Px1.out.on (hba9.trans (hbb9.mono hba9.size)); obtain ⟨_, _, _, _⟩ := Pb1.out.on (hba9.trans (hbb9.mono hba9.size))))
  have hb9 : Below w8.heap.size w8 w9 := hba9.trans (hbb9.mono hba9.size)
  have bb9 := hb9
  clear lb0 b00 b01 b02 lb1 b10 b11 b12 lx0 x00 x01 x02 lx1 x10 x11 x12
  clear hoa9 hba9 hbb9
  have Pb0 := Lib.hid (Pb0.out.on bb9)
  have Pb1 := Lib.hid (Pb1.out.on bb9)
  have Px0 := Lib.hid (Px0.out.on bb9)
  have Px1 := Lib.hid (Px1.out.on bb9)
  have Os0 := Lib.hid (Os0.out.on bb9)
  have Ox0 := Lib.hid (Ox0.out.on bb9)
  have Ox1 := Lib.hid (Ox1.out.on bb9)
  have Og0 := Lib.hid (Og0.out.on bb9)
  have B9 := Lib.hid (B8.out.trans (bb9.mono B8.out.size))
  have le9 : w8.heap.size + 0 ≤ w9.heap.size := by have := hb9.size; (try simp at this); omega
  clear hb9 bb9
  obtain ⟨lb0, b00, b01, b02⟩ := Pb0.out
  obtain ⟨lb1, b10, b11, b12⟩ := Pb1.out
  obtain ⟨lx0, x00, x01, x02⟩ := Px0.out
  obtain ⟨lx1, x10, x11, x12⟩ := Px1.out
  go_wp2_with fail
  refine (markV_any p0 r0 1 Ox0.out hl0 (by omega) (by omega)).mono ?_
  rintro e w10 ⟨rfl, ho10, hf10⟩
  clear lb0 b00 b01 b02 lb1 b10 b11 b12 lx0 x00 x01 x02 lx1 x10 x11 x12
  have Pb0 := Lib.hid (Pb0.out.fr hf10 (by omega))
  have Pb1 := Lib.hid (Pb1.out.fr hf10 (by omega))
  have Px0 := Lib.hid (Px0.out.fr hf10 (by omega))
  have Px1 := Lib.hid (Px1.out.fr hf10 (by omega))
  have Os0 := Lib.hid (Os0.out.fr hf10 (by omega))
  have Ox1 := Lib.hid (Ox1.out.fr hf10 (by omega))
  have Og0 := Lib.hid (Og0.out.fr hf10 (by omega))
  have Ox0 := Lib.hid ho10
  have B10 := Lib.hid (B9.out.trans ((hf10.below (by omega)).mono (by omega)))
  have le10 : w9.heap.size ≤ w10.heap.size := hf10.2.2.2.1
  clear ho10 hf10
  obtain ⟨lb0, b00, b01, b02⟩ := Pb0.out
  obtain ⟨lb1, b10, b11, b12⟩ := Pb1.out
  obtain ⟨lx0, x00, x01, x02⟩ := Px0.out
  obtain ⟨lx1, x10, x11, x12⟩ := Px1.out
  go_wp2_with fail
  refine (markV_any p1 r1 (1 + (tot z0 : Int)) Ox1.out hl1 (by omega) (by omega)).mono ?_
  rintro e w11 ⟨rfl, ho11, hf11⟩
  clear lb0 b00 b01 b02 lb1 b10 b11 b12 lx0 x00 x01 x02 lx1 x10 x11 x12
  have Pb0 := Lib.hid (Pb0.out.fr hf11 (by omega))
  have Pb1 := Lib.hid (Pb1.out.fr hf11 (by omega))
  have Px0 := Lib.hid (Px0.out.fr hf11 (by omega))
  have Px1 := Lib.hid (Px1.out.fr hf11 (by omega))
  have Os0 := Lib.hid (Os0.out.fr hf11 (by omega))
  have Ox0 := Lib.hid (Ox0.out.fr hf11 (by omega))
  have Og0 := Lib.hid (Og0.out.fr hf11 (by omega))
  have Ox1 := Lib.hid ho11
  have B11 := Lib.hid (B10.out.trans ((hf11.below (by omega)).mono (by omega)))
  have le11 : w10.heap.size ≤ w11.heap.size := hf11.2.2.2.1
  clear ho11 hf11
  clear Ox0 Ox1
  clear Px0
  clear Px1
  obtain ⟨lb0, b00, b01, b02⟩ := Pb0.out
  obtain ⟨lb1, b10, b11, b12⟩ := Pb1.out
  go_wp2_with fail
  refine (eqR_any (Og0.out.at hz0) (Os0.out.at hz0)).mono ?_
  rintro e w12 ⟨rfl, hb12⟩
  clear lb0 b00 b01 b02 lb1 b10 b11 b12
  have bb12 : Below w11.heap.size w11 w12 := hb12
  have Pb0 := Lib.hid (Pb0.out.on bb12)
  have Pb1 := Lib.hid (Pb1.out.on bb12)
  have Os0 := Lib.hid (Os0.out.on bb12)
  have Og0 := Lib.hid (Og0.out.on bb12)
  have B12 := Lib.hid (B11.out.trans (bb12.mono B11.out.size))
  have le12 : w11.heap.size + 0 ≤ w12.heap.size := by have := hb12.size; (try simp at this); omega
  clear hb12 bb12
  obtain ⟨lb0, b00, b01, b02⟩ := Pb0.out
  obtain ⟨lb1, b10, b11, b12⟩ := Pb1.out
  go_wp2_with fail
  refine (markR_any 1 Og0.out hz0 (by omega) (by omega)).mono ?_
  rintro e w13 ⟨rfl, ho13, hf13⟩
  clear lb0 b00 b01 b02 lb1 b10 b11 b12
  have Pb0 := Lib.hid (Pb0.out.fr hf13 (by omega))
  have Pb1 := Lib.hid (Pb1.out.fr hf13 (by omega))
  have Os0 := Lib.hid (Os0.out.fr hf13 (by omega))
  have Og0 := Lib.hid ho13
  have B13 := Lib.hid (B12.out.trans ((hf13.below (by omega)).mono (by omega)))
  have le13 : w12.heap.size ≤ w13.heap.size := hf13.2.2.2.1
  clear ho13 hf13
  have eq1 : ((1 + (tot Z0 : Int)) != (1 + (tot Z0 : Int))) = false := by simp
  obtain ⟨lb0, b00, b01, b02⟩ := Pb0.out
  obtain ⟨lb1, b10, b11, b12⟩ := Pb1.out
  go_wp2_with fail
  refine (heldR_any (k := 1) (Og0.out.at (marksR_fit hz0 _)) hz0 (by omega) (by omega)).mono ?_
  rintro e w14 ⟨rfl, hb14⟩
  clear lb0 b00 b01 b02 lb1 b10 b11 b12
  have bb14 : Below w13.heap.size w13 w14 := hb14
  have Pb0 := Lib.hid (Pb0.out.on bb14)
  have Pb1 := Lib.hid (Pb1.out.on bb14)
  have Os0 := Lib.hid (Os0.out.on bb14)
  have Og0 := Lib.hid (Og0.out.on bb14)
  have B14 := Lib.hid (B13.out.trans (bb14.mono B13.out.size))
  have le14 : w13.heap.size + 0 ≤ w14.heap.size := by have := hb14.size; (try simp at this); omega
  clear hb14 bb14
  obtain ⟨lb0, b00, b01, b02⟩ := Pb0.out
  obtain ⟨lb1, b10, b11, b12⟩ := Pb1.out
  have := Pb0.out.ne
  have := Pb1.out.ne
  go_wp2_with fail
  go_region_held3 (fun w' => w'.cell? ⟨w.heap.size, 0, none⟩ = some (.int .i64 p0) ∧ w'.cell? ⟨w.heap.size, 1, none⟩ = some (.int .i64 r0) ∧ w'.cell? ⟨w.heap.size, 2, none⟩ = some ((.slice a0 z0.length cap0)) ∧ w'.cell? ⟨(w.heap.size + 1), 0, none⟩ = some (.int .i64 p1) ∧ w'.cell? ⟨(w.heap.size + 1), 1, none⟩ = some (.int .i64 r1) ∧ w'.cell? ⟨(w.heap.size + 1), 2, none⟩ = some ((.slice a1 z1.length cap1))) (go_keep)
    (first
      | (go_at_call_of 27 (.agg #[.int .i64 p0, .int .i64 r0, (.slice a0 z0.length cap0)] : Value); refine (toV_any p0 r0 (by first | exact K0.out _ B14.out | exact (K0.out _ B14.out).drew | exact (K0.out _ B14.out).al | exact (K0.out _ B14.out).al.drew | exact (K0.out _ B14.out).drew.al)).mono ?_; rintro e wx15 ⟨_, rfl, hox15, hbx15'⟩; have hbx15 : Below w14.heap.size w14 wx15 := (by first | exact hbx15' | exact undrew hbx15' | exact up1 hbx15' | exact up1 (undrew hbx15') | exact undrew (up1 hbx15')); obtain ⟨_, _⟩ := bcell hbx15'; have hsx15 := hbx15'.size; (try simp at hsx15); (try have := (by omega : w14.heap.size < wx15.heap.size)); obtain ⟨_, _, rfl⟩ := hox15.slice; obtain ⟨_, _, _, _⟩ := Pb0.out.on hbx15; obtain ⟨_, _, _, _⟩ := Pb1.out.on hbx15; have := (Pb0.out.on hbx15).ne; have := (Pb1.out.on hbx15).ne)
      | (go_at_call_of 27 (.agg #[.int .i64 p1, .int .i64 r1, (.slice a1 z1.length cap1)] : Value); refine (toV_any p1 r1 (by first | exact K1.out _ (B14.out.trans (hbx15.mono B14.out.size)) | exact (K1.out _ (B14.out.trans (hbx15.mono B14.out.size))).drew | exact (K1.out _ (B14.out.trans (hbx15.mono B14.out.size))).al | exact (K1.out _ (B14.out.trans (hbx15.mono B14.out.size))).al.drew | exact (K1.out _ (B14.out.trans (hbx15.mono B14.out.size))).drew.al)).mono ?_; rintro e wy15 ⟨_, rfl, hoy15, hby15'⟩; have hby151 : Below wx15.heap.size wx15 wy15 := (by first | exact hby15' | exact undrew hby15' | exact up1 hby15' | exact up1 (undrew hby15') | exact undrew (up1 hby15')); have hby15 : Below w14.heap.size w14 wy15 := hbx15.trans (hby151.mono hbx15.size); obtain ⟨_, _⟩ := bcell hby15'; have hsy15 := hby15'.size; (try simp at hsy15); (try have := (by omega : wx15.heap.size < wy15.heap.size)); (try have := (by omega : w14.heap.size < wy15.heap.size)); obtain ⟨_, _, rfl⟩ := hoy15.slice; obtain ⟨_, _, _, _⟩ := Pb0.out.on hby15; obtain ⟨_, _, _, _⟩ := Pb1.out.on hby15; have := (Pb0.out.on hby15).ne; have := (Pb1.out.on hby15).ne)
      | (go_at_call 36; refine (implQuo_any (by first | exact (hox15.on hby151).atD hl0 | exact ((hox15.on hby151).atD hl0).drew | exact ((hox15.on hby151).atD hl0).al | exact ((hox15.on hby151).atD hl0).al.drew | exact ((hox15.on hby151).atD hl0).drew.al) (by first | exact hoy15.atD hl1 | exact (hoy15.atD hl1).drew | exact (hoy15.atD hl1).al | exact (hoy15.atD hl1).al.drew | exact (hoy15.atD hl1).drew.al) HR.out).mono ?_; rintro e w15 ⟨v15x0, rfl, ho15x0, hbz15'⟩; have hbz15 : Below wy15.heap.size wy15 w15 := (by first | exact hbz15' | exact undrew hbz15' | exact up1 hbz15' | exact up1 (undrew hbz15') | exact undrew (up1 hbz15')); have hb15 : Below w14.heap.size w14 w15 := hby15.trans (hbz15.mono hby15.size); obtain ⟨v15x0a, v15x0c, rfl⟩ := ho15x0.slice; obtain ⟨_, _⟩ := bcell hbz15'; have hsz15 := hbz15'.size; (try simp at hsz15); (try have := (by omega : wy15.heap.size < w15.heap.size)); (try have := (by omega : wx15.heap.size < w15.heap.size)); (try have := (by omega : w14.heap.size < w15.heap.size)); obtain ⟨_, _, _, _⟩ := Pb0.out.on hb15; obtain ⟨_, _, _, _⟩ := Pb1.out.on hb15; have := (Pb0.out.on hb15).ne; have := (Pb1.out.on hb15).ne))
  have hyz15 : w14.heap.size ≤ wy15.heap.size := hby15.size
  have bb15 := hb15
  clear lb0 b00 b01 b02 lb1 b10 b11 b12
  have Pb0 := Lib.hid (Pb0.out.on bb15)
  have Pb1 := Lib.hid (Pb1.out.on bb15)
  have Os0 := Lib.hid (Os0.out.on bb15)
  have Og0 := Lib.hid (Og0.out.on bb15)
  have B15 := Lib.hid (B14.out.trans (bb15.mono B14.out.size))
  have le15 : w14.heap.size + 0 ≤ w15.heap.size := by have := hb15.size; (try simp at this); omega
  have Oh0 : Hid (OwnRX w14.heap.size w15.heap.size w15 (.slice v15x0a Z0.length v15x0c) Z0) := OwnRX.of ho15x0 hyz15
  clear ho15x0 hbz15 hbz15' hox15 hoy15 hbx15 hbx15' hby15 hby151 hby15' hyz15 hb15 bb15
  obtain ⟨lb0, b00, b01, b02⟩ := Pb0.out
  obtain ⟨lb1, b10, b11, b12⟩ := Pb1.out
  go_wp2_with fail
  refine (eqR_any (Oh0.out.at hz0) (Os0.out.at hz0)).mono ?_
  rintro e w16 ⟨rfl, hb16⟩
  clear lb0 b00 b01 b02 lb1 b10 b11 b12
  have bb16 : Below w15.heap.size w15 w16 := hb16
  have Pb0 := Lib.hid (Pb0.out.on bb16)
  have Pb1 := Lib.hid (Pb1.out.on bb16)
  have Os0 := Lib.hid (Os0.out.on bb16)
  have Og0 := Lib.hid (Og0.out.on bb16)
  have Oh0 := Lib.hid (Oh0.out.on bb16)
  have B16 := Lib.hid (B15.out.trans (bb16.mono B15.out.size))
  have le16 : w15.heap.size + 0 ≤ w16.heap.size := by have := hb16.size; (try simp at this); omega
  clear hb16 bb16
  obtain ⟨lb0, b00, b01, b02⟩ := Pb0.out
  obtain ⟨lb1, b10, b11, b12⟩ := Pb1.out
  go_wp2_with fail
  refine (heldR_any (k := 1) (Og0.out.at (marksR_fit hz0 _)) hz0 (by omega) (by omega)).mono ?_
  rintro e w17 ⟨rfl, hb17⟩
  clear lb0 b00 b01 b02 lb1 b10 b11 b12
  have bb17 : Below w16.heap.size w16 w17 := hb17
  have Pb0 := Lib.hid (Pb0.out.on bb17)
  have Pb1 := Lib.hid (Pb1.out.on bb17)
  have Os0 := Lib.hid (Os0.out.on bb17)
  have Og0 := Lib.hid (Og0.out.on bb17)
  have Oh0 := Lib.hid (Oh0.out.on bb17)
  have B17 := Lib.hid (B16.out.trans (bb17.mono B16.out.size))
  have le17 : w16.heap.size + 0 ≤ w17.heap.size := by have := hb17.size; (try simp at this); omega
  clear hb17 bb17
  go_wp2_with fail
  go_ret
  exact ⟨rfl, B17.out⟩
set_option maxRecDepth 100000 in
set_option maxHeartbeats 400000 in
theorem quotientOf_long0 (u0 u1 : Value) (z0 z1 : List (List Int)) (p0 r0 p1 r1 : Int) (w : World) (hm0 : RowsRaw w u0 z0) (hm1 : RowsRaw w u1 z1) (hx : (1048576 : Int) < (z0.length : Int) + (tot z0 : Int)) :
    Calls Try.prog 7 #[.agg #[.int .i64 p0, .int .i64 r0, u0], .agg #[.int .i64 p1, .int .i64 r1, u1]] w fun e w' => e = .returned (.bool true) ∧ Below w.heap.size w w' := by
  have HM0 := Lib.hid hm0
  obtain ⟨a0, cap0, rfl⟩ := hm0.slice
  have hq0 := hm0.len
  clear hm0
  have HM1 := Lib.hid hm1
  obtain ⟨a1, cap1, rfl⟩ := hm1.slice
  have hq1 := hm1.len
  clear hm1
  go_enter Try.func7, Try.ntmps7
  go_wp2_with fail
  refine (szV_no p0 r0 (HM0.out.on (al1 (al1 (Below.refl _ _) _) _)) (by omega) (by omega) (by omega)).mono ?_
  rintro e wl0 ⟨rfl, hbl0⟩
  go_wp2_with fail
  go_ret
  exact ⟨rfl, ((al1 (al1 (Below.refl _ _) _) _).trans (hbl0.mono (by (try simp) <;> omega)))⟩
set_option maxRecDepth 100000 in
set_option maxHeartbeats 400000 in
theorem quotientOf_long1 (u0 u1 : Value) (z0 z1 : List (List Int)) (p0 r0 p1 r1 : Int) (w : World) (hm0 : RowsRaw w u0 z0) (hm1 : RowsRaw w u1 z1) (h0 : 0 ≤ 1048576 - ((z0.length : Int) + (tot z0 : Int))) (hx : 1048576 - ((z0.length : Int) + (tot z0 : Int)) < (z1.length : Int) + (tot z1 : Int)) :
    Calls Try.prog 7 #[.agg #[.int .i64 p0, .int .i64 r0, u0], .agg #[.int .i64 p1, .int .i64 r1, u1]] w fun e w' => e = .returned (.bool true) ∧ Below w.heap.size w w' := by
  have HM0 := Lib.hid hm0
  obtain ⟨a0, cap0, rfl⟩ := hm0.slice
  have hq0 := hm0.len
  clear hm0
  have HM1 := Lib.hid hm1
  obtain ⟨a1, cap1, rfl⟩ := hm1.slice
  have hq1 := hm1.len
  clear hm1
  go_enter Try.func7, Try.ntmps7
  go_wp2_with fail
  refine (szV_yes p0 r0 (HM0.out.on (al1 (al1 (Below.refl _ _) _) _)) (by omega) (by omega)).mono ?_
  rintro e wl0 ⟨rfl, hbl0⟩
  obtain ⟨hc, hf⟩ := bcell hbl0
  have hs0 := hbl0.size
  simp at hs0
  go_wp2_with fail
  refine (szV_no p1 r1 (HM1.out.on ((al1 (al1 (Below.refl _ _) _) _).trans (hbl0.mono (by (try simp) <;> omega)))) (by omega) (by omega) (by omega)).mono ?_
  rintro e wl1 ⟨rfl, hbl1⟩
  go_wp2_with fail
  go_ret
  exact ⟨rfl, (((al1 (al1 (Below.refl _ _) _) _).trans (hbl0.mono (by (try simp) <;> omega))).trans (hbl1.mono (by (try simp) <;> omega)))⟩
theorem quotientOf_of (u0 u1 : Value) (z0 z1 : List (List Int)) (p0 r0 p1 r1 : Int) (w : World)
    (hw0 : RowsRaw w u0 z0)
    (hw1 : RowsRaw w u1 z1) :
    Calls Try.prog 7 #[.agg #[.int .i64 p0, .int .i64 r0, u0], .agg #[.int .i64 p1, .int .i64 r1, u1]] w fun e w' => e = .returned (.bool true) ∧ Below w.heap.size w w' := by
  by_cases g0 : 1048576 < (z0.length + tot z0)
  · exact quotientOf_long0 u0 u1 z0 z1 p0 r0 p1 r1 w hw0 hw1  (by omega)
  by_cases g1 : 1048576 < (z0.length + tot z0) + (z1.length + tot z1)
  · exact quotientOf_long1 u0 u1 z0 z1 p0 r0 p1 r1 w hw0 hw1  (by omega) (by omega)
  have := quotientOf_at p0 r0 p1 r1 w (hw0.at (by omega) (by omega)) (hw1.at (by omega) (by omega)) (by omega)
  exact this
end Go.Proofs.Ytpimnngomodnhaa
