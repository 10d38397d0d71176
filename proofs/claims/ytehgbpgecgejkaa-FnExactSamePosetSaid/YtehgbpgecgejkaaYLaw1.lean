/-
  Laws of posets: whatever the arguments, the program's answer is the model's, the arguments are as before, and the answer lies in new memory.
-/
import Derived.Test.YtehgbpgecgejkaaPsB
import Derived.Deep.RegionHeld3
import Derived.StillTactics
import Derived.Deep.DeepCutAuto
namespace Go.Proofs.Ytehgbpgecgejkaa
open Go.RowKit
set_option linter.unusedVariables false

set_option maxRecDepth 100000 in
set_option maxHeartbeats 20000000 in
theorem samePoset_at {u0 u1 : Value} {z0 : List (List Int)} {z1 : List (List Int)} (s0 s1 : Int) (w : World) (hu0 : RowsAt w u0 z0) (hu1 : RowsAt w u1 z1) (hsum : (z0.length + tot z0) + (z1.length + tot z1) ≤ 1048576) :
    Calls Try.prog 3 #[.agg #[.int .i64 s0, u0], .agg #[.int .i64 s1, u1]] w fun e w' => e = .returned (.bool true) ∧ Below w.heap.size w w' := by
  have Hu0 := Lib.hid hu0
  have hl0 : FitR z0 := ⟨by omega, by omega⟩
  have hc0 : z0.length ≤ 1048576 := hl0.1
  have ht0 : tot z0 ≤ 1048576 := hl0.2
  obtain ⟨a0, cap0, rfl⟩ := hu0.slice
  clear hu0
  have Hu1 := Lib.hid hu1
  have hl1 : FitR z1 := ⟨by omega, by omega⟩
  have hc1 : z1.length ≤ 1048576 := hl1.1
  have ht1 : tot z1 ≤ 1048576 := hl1.2
  obtain ⟨a1, cap1, rfl⟩ := hu1.slice
  clear hu1
  obtain ⟨T0, hr⟩ := (⟨_, rfl⟩ : ∃ T, T = samB s0 z0 s1 z1)
  have HR : Hid (T0 = samB s0 z0 s1 z1) := hr
  clear hr
  have ec0 : (T0 != T0) = false := by simp
  have K0 : Hid (∀ w', Below w.heap.size w w' → RowsAt w' (.slice a0 z0.length cap0) z0) := fun w' hb => Hu0.out.on hb
  have K1 : Hid (∀ w', Below w.heap.size w w' → RowsAt w' (.slice a1 z1.length cap1) z1) := fun w' hb => Hu1.out.on hb
  clear Hu0 Hu1
  have B0 : Hid (Below w.heap.size w w) := Below.refl _ _
  go_enter Try.func3, Try.ntmps3
  go_wp2_with fail
  refine (szP_yes s0 (K0.out _ (al1 (al1 B0.out _) _)).raw (by omega) (by omega)).mono ?_
  rintro e w1 ⟨rfl, hb1⟩
  have bb1 : Below w.heap.size w w1 := up2 hb1
  have Pb0 : Hid (PtP w1 w.heap.size s0 (.slice a0 z0.length cap0)) := (PtP.new1 _ _ _ _ _).on hb1
  have Pb1 : Hid (PtP w1 (w.heap.size + 1) s1 (.slice a1 z1.length cap1)) := by
    show PtP _ _ _ _
    have := (PtP.new _ _ _ _ : PtP _ _ s1 (.slice a1 z1.length cap1)).on hb1
    simpa using this
  have B1 := Lib.hid (B0.out.trans (bb1.mono B0.out.size))
  have le1 : w.heap.size + 2 ≤ w1.heap.size := by have := hb1.size; (try simp at this); omega
  clear hb1 bb1
  obtain ⟨lb0, b00, b01⟩ := Pb0.out
  obtain ⟨lb1, b10, b11⟩ := Pb1.out
  go_wp2_with fail
  refine (szP_yes s1 (K1.out _ B1.out).raw (by omega) (by omega)).mono ?_
  rintro e w2 ⟨rfl, hb2⟩
  clear lb0 b00 b01 lb1 b10 b11
  have bb2 : Below w1.heap.size w1 w2 := hb2
  have Pb0 := Lib.hid (Pb0.out.on bb2)
  have Pb1 := Lib.hid (Pb1.out.on bb2)
  have B2 := Lib.hid (B1.out.trans (bb2.mono B1.out.size))
  have le2 : w1.heap.size + 0 ≤ w2.heap.size := by have := hb2.size; (try simp at this); omega
  clear hb2 bb2
  obtain ⟨lb0, b00, b01⟩ := Pb0.out
  obtain ⟨lb1, b10, b11⟩ := Pb1.out
  have := Pb0.out.ne
  have := Pb1.out.ne
  go_wp2_with fail
  go_region_held3 (fun w' => w'.cell? ⟨w.heap.size, 0, none⟩ = some (.int .i64 s0) ∧ w'.cell? ⟨w.heap.size, 1, none⟩ = some ((.slice a0 z0.length cap0)) ∧ w'.cell? ⟨(w.heap.size + 1), 0, none⟩ = some (.int .i64 s1) ∧ w'.cell? ⟨(w.heap.size + 1), 1, none⟩ = some ((.slice a1 z1.length cap1))) (go_keep)
    (first
      | (go_at_call_of 6 (.agg #[.int .i64 s0, (.slice a0 z0.length cap0)] : Value); refine (toP_any s0 (by first | exact K0.out _ B2.out | exact (K0.out _ B2.out).drew | exact (K0.out _ B2.out).al | exact (K0.out _ B2.out).al.drew | exact (K0.out _ B2.out).drew.al)).mono ?_; rintro e wx3 ⟨_, rfl, hox3, hbx3'⟩; have hbx3 : Below w2.heap.size w2 wx3 := (by first | exact hbx3' | exact undrew hbx3' | exact up1 hbx3' | exact up1 (undrew hbx3') | exact undrew (up1 hbx3')); obtain ⟨_, _⟩ := bcell hbx3'; have hsx3 := hbx3'.size; (try simp at hsx3); (try have := (by omega : w2.heap.size < wx3.heap.size)); obtain ⟨_, _, rfl⟩ := hox3.slice; obtain ⟨_, _, _⟩ := Pb0.out.on hbx3; obtain ⟨_, _, _⟩ := Pb1.out.on hbx3; have := (Pb0.out.on hbx3).ne; have := (Pb1.out.on hbx3).ne)
      | (go_at_call_of 6 (.agg #[.int .i64 s1, (.slice a1 z1.length cap1)] : Value); refine (toP_any s1 (by first | exact K1.out _ (B2.out.trans (hbx3.mono B2.out.size)) | exact (K1.out _ (B2.out.trans (hbx3.mono B2.out.size))).drew | exact (K1.out _ (B2.out.trans (hbx3.mono B2.out.size))).al | exact (K1.out _ (B2.out.trans (hbx3.mono B2.out.size))).al.drew | exact (K1.out _ (B2.out.trans (hbx3.mono B2.out.size))).drew.al)).mono ?_; rintro e wy3 ⟨_, rfl, hoy3, hby3'⟩; have hby31 : Below wx3.heap.size wx3 wy3 := (by first | exact hby3' | exact undrew hby3' | exact up1 hby3' | exact up1 (undrew hby3') | exact undrew (up1 hby3')); have hby3 : Below w2.heap.size w2 wy3 := hbx3.trans (hby31.mono hbx3.size); obtain ⟨_, _⟩ := bcell hby3'; have hsy3 := hby3'.size; (try simp at hsy3); (try have := (by omega : wx3.heap.size < wy3.heap.size)); (try have := (by omega : w2.heap.size < wy3.heap.size)); obtain ⟨_, _, rfl⟩ := hoy3.slice; obtain ⟨_, _, _⟩ := Pb0.out.on hby3; obtain ⟨_, _, _⟩ := Pb1.out.on hby3; have := (Pb0.out.on hby3).ne; have := (Pb1.out.on hby3).ne)
      | (go_at_call 5; refine (specSP_is (by first | exact (hox3.on hby31).at hl0 | exact ((hox3.on hby31).at hl0).drew | exact ((hox3.on hby31).at hl0).al | exact ((hox3.on hby31).at hl0).al.drew | exact ((hox3.on hby31).at hl0).drew.al) (by first | exact hoy3.at hl1 | exact (hoy3.at hl1).drew | exact (hoy3.at hl1).al | exact (hoy3.at hl1).al.drew | exact (hoy3.at hl1).drew.al) HR.out).mono ?_; rintro e w3 ⟨rfl, hbz3'⟩; have hbz3 : Below wy3.heap.size wy3 w3 := (by first | exact hbz3' | exact undrew hbz3' | exact up1 hbz3' | exact up1 (undrew hbz3') | exact undrew (up1 hbz3')); have hb3 : Below w2.heap.size w2 w3 := hby3.trans (hbz3.mono hby3.size); obtain ⟨_, _⟩ := bcell hbz3'; have hsz3 := hbz3'.size; (try simp at hsz3); (try have := (by omega : wy3.heap.size < w3.heap.size)); (try have := (by omega : wx3.heap.size < w3.heap.size)); (try have := (by omega : w2.heap.size < w3.heap.size)); obtain ⟨_, _, _⟩ := Pb0.out.on hb3; obtain ⟨_, _, _⟩ := Pb1.out.on hb3; have := (Pb0.out.on hb3).ne; have := (Pb1.out.on hb3).ne))
  have hyz3 : w2.heap.size ≤ wy3.heap.size := hby3.size
  have bb3 := hb3
  clear lb0 b00 b01 lb1 b10 b11
  have Pb0 := Lib.hid (Pb0.out.on bb3)
  have Pb1 := Lib.hid (Pb1.out.on bb3)
  have B3 := Lib.hid (B2.out.trans (bb3.mono B2.out.size))
  have le3 : w2.heap.size + 0 ≤ w3.heap.size := by have := hb3.size; (try simp at this); omega
  clear hbz3 hbz3' hox3 hoy3 hbx3 hbx3' hby3 hby31 hby3' hyz3 hb3 bb3
  obtain ⟨lb0, b00, b01⟩ := Pb0.out
  obtain ⟨lb1, b10, b11⟩ := Pb1.out
  go_wp2_with fail
  refine (toP_any s0 (K0.out _ B3.out)).mono ?_
  rintro e w4 ⟨v4, rfl, ho4, hb4⟩
  clear lb0 b00 b01 lb1 b10 b11
  have bb4 : Below w3.heap.size w3 w4 := hb4
  have Pb0 := Lib.hid (Pb0.out.on bb4)
  have Pb1 := Lib.hid (Pb1.out.on bb4)
  have B4 := Lib.hid (B3.out.trans (bb4.mono B3.out.size))
  have le4 : w3.heap.size + 0 ≤ w4.heap.size := by have := hb4.size; (try simp at this); omega
  obtain ⟨v4a, v4c, rfl⟩ := ho4.slice
  have Ox0 : Hid (OwnRX (w3.heap.size + 0) w4.heap.size w4 (.slice v4a z0.length v4c) z0) := OwnRX.of ho4 (by simp)
  clear ho4 hb4 bb4
  obtain ⟨lb0, b00, b01⟩ := Pb0.out
  obtain ⟨lb1, b10, b11⟩ := Pb1.out
  go_wp2_with fail
  refine (toP_any s1 (K1.out _ (al1 B4.out _))).mono ?_
  rintro e w5 ⟨v5, rfl, ho5, hb5⟩
  clear lb0 b00 b01 lb1 b10 b11
  have bb5 : Below w4.heap.size w4 w5 := up1 hb5
  have Pb0 := Lib.hid (Pb0.out.on bb5)
  have Pb1 := Lib.hid (Pb1.out.on bb5)
  have Px0 : Hid (PtP w5 w4.heap.size s0 (.slice v4a z0.length v4c)) := (PtP.new _ _ _ _).on hb5
  have Ox0 := Lib.hid (Ox0.out.on bb5)
  have B5 := Lib.hid (B4.out.trans (bb5.mono B4.out.size))
  have le5 : w4.heap.size + 1 ≤ w5.heap.size := by have := hb5.size; (try simp at this); omega
  obtain ⟨v5a, v5c, rfl⟩ := ho5.slice
  have Ox1 : Hid (OwnRX (w4.heap.size + 1) w5.heap.size w5 (.slice v5a z1.length v5c) z1) := OwnRX.of ho5 (by simp)
  clear ho5 hb5 bb5
  obtain ⟨lb0, b00, b01⟩ := Pb0.out
  obtain ⟨lb1, b10, b11⟩ := Pb1.out
  obtain ⟨lx0, x00, x01⟩ := Px0.out
  go_wp2_with fail
  refine (implSP_is ((Ox0.out.alloc _).at hl0) ((Ox1.out.alloc _).at hl1) HR.out).mono ?_
  rintro e w6 ⟨rfl, hb6⟩
  clear lb0 b00 b01 lb1 b10 b11 lx0 x00 x01
  have bb6 : Below w5.heap.size w5 w6 := up1 hb6
  have Pb0 := Lib.hid (Pb0.out.on bb6)
  have Pb1 := Lib.hid (Pb1.out.on bb6)
  have Px0 := Lib.hid (Px0.out.on bb6)
  have Px1 : Hid (PtP w6 w5.heap.size s1 (.slice v5a z1.length v5c)) := (PtP.new _ _ _ _).on hb6
  have Ox0 := Lib.hid (Ox0.out.on bb6)
  have Ox1 := Lib.hid (Ox1.out.on bb6)
  have B6 := Lib.hid (B5.out.trans (bb6.mono B5.out.size))
  have le6 : w5.heap.size + 1 ≤ w6.heap.size := by have := hb6.size; (try simp at this); omega
  clear hb6 bb6
  obtain ⟨lb0, b00, b01⟩ := Pb0.out
  obtain ⟨lb1, b10, b11⟩ := Pb1.out
  obtain ⟨lx0, x00, x01⟩ := Px0.out
  obtain ⟨lx1, x10, x11⟩ := Px1.out
  go_wp2_with fail
  go_region_held3 (fun w' => w'.cell? ⟨w4.heap.size, 0, none⟩ = some (.int .i64 s0) ∧ w'.cell? ⟨w4.heap.size, 1, none⟩ = some ((.slice v4a z0.length v4c)) ∧ w'.cell? ⟨w.heap.size, 0, none⟩ = some (.int .i64 s0) ∧ w'.cell? ⟨w.heap.size, 1, none⟩ = some ((.slice a0 z0.length cap0))) (go_keep)
    (first
      | (go_at_call 6; refine (toP_any s0 (K0.out _ B6.out).drew).mono ?_; rintro e wa7 ⟨va7, rfl, hoa7, hba7'⟩; have hba7 := undrew hba7'; obtain ⟨va7a, va7c, rfl⟩ := hoa7.slice; obtain ⟨_, _, _⟩ := Px0.out.on hba7; obtain ⟨_, _, _⟩ := Pb0.out.on hba7)
      | (go_at_call 8; refine (eqP_any s0 ((Ox0.out.on hba7).at hl0) (hoa7.at hl0)).mono ?_; rintro e w7 ⟨rfl, hbb7⟩; obtain ⟨_, _, _⟩ := Px0.out.on (hba7.trans (hbb7.mono hba7.size)); obtain ⟨_, _, _⟩ := Pb0.out.on (hba7.trans (hbb7.mono hba7.size))))
  have hb7 : Below w6.heap.size w6 w7 := hba7.trans (hbb7.mono hba7.size)
  have bb7 := hb7
  clear lb0 b00 b01 lb1 b10 b11 lx0 x00 x01 lx1 x10 x11
  clear hoa7 hba7 hbb7
  have Pb0 := Lib.hid (Pb0.out.on bb7)
  have Pb1 := Lib.hid (Pb1.out.on bb7)
  have Px0 := Lib.hid (Px0.out.on bb7)
  have Px1 := Lib.hid (Px1.out.on bb7)
  have Ox0 := Lib.hid (Ox0.out.on bb7)
  have Ox1 := Lib.hid (Ox1.out.on bb7)
  have B7 := Lib.hid (B6.out.trans (bb7.mono B6.out.size))
  have le7 : w6.heap.size + 0 ≤ w7.heap.size := by have := hb7.size; (try simp at this); omega
  clear hb7 bb7
  obtain ⟨lb0, b00, b01⟩ := Pb0.out
  obtain ⟨lb1, b10, b11⟩ := Pb1.out
  obtain ⟨lx0, x00, x01⟩ := Px0.out
  obtain ⟨lx1, x10, x11⟩ := Px1.out
  go_wp2_with fail
  go_region_held3 (fun w' => w'.cell? ⟨w5.heap.size, 0, none⟩ = some (.int .i64 s1) ∧ w'.cell? ⟨w5.heap.size, 1, none⟩ = some ((.slice v5a z1.length v5c)) ∧ w'.cell? ⟨(w.heap.size + 1), 0, none⟩ = some (.int .i64 s1) ∧ w'.cell? ⟨(w.heap.size + 1), 1, none⟩ = some ((.slice a1 z1.length cap1))) (go_keep)
    (first
      | (go_at_call 6; refine (toP_any s1 (K1.out _ B7.out).drew).mono ?_; rintro e wa8 ⟨va8, rfl, hoa8, hba8'⟩; have hba8 := undrew hba8'; obtain ⟨va8a, va8c, rfl⟩ := hoa8.slice; obtain ⟨_, _, _⟩ := Px1.out.on hba8; obtain ⟨_, _, _⟩ := Pb1.out.on hba8)
      | (go_at_call 8; refine (eqP_any s1 ((Ox1.out.on hba8).at hl1) (hoa8.at hl1)).mono ?_; rintro e w8 ⟨rfl, hbb8⟩; obtain ⟨_, _, _⟩ := Px1.out.on (hba8.trans (hbb8.mono hba8.size)); obtain ⟨_, _, _⟩ := Pb1.out.on (hba8.trans (hbb8.mono hba8.size))))
  have hb8 : Below w7.heap.size w7 w8 := hba8.trans (hbb8.mono hba8.size)
  have bb8 := hb8
  clear lb0 b00 b01 lb1 b10 b11 lx0 x00 x01 lx1 x10 x11
  clear hoa8 hba8 hbb8
  have Pb0 := Lib.hid (Pb0.out.on bb8)
  have Pb1 := Lib.hid (Pb1.out.on bb8)
  have Px0 := Lib.hid (Px0.out.on bb8)
  have Px1 := Lib.hid (Px1.out.on bb8)
  have Ox0 := Lib.hid (Ox0.out.on bb8)
  have Ox1 := Lib.hid (Ox1.out.on bb8)
  have B8 := Lib.hid (B7.out.trans (bb8.mono B7.out.size))
  have le8 : w7.heap.size + 0 ≤ w8.heap.size := by have := hb8.size; (try simp at this); omega
  clear hb8 bb8
  go_wp2_with fail
  go_ret
  exact ⟨rfl, B8.out⟩
set_option maxRecDepth 100000 in
set_option maxHeartbeats 400000 in
theorem samePoset_long0 (u0 u1 : Value) (z0 z1 : List (List Int)) (s0 s1 : Int) (w : World) (hm0 : RowsRaw w u0 z0) (hm1 : RowsRaw w u1 z1) (hx : (1048576 : Int) < (z0.length : Int) + (tot z0 : Int)) :
    Calls Try.prog 3 #[.agg #[.int .i64 s0, u0], .agg #[.int .i64 s1, u1]] w fun e w' => e = .returned (.bool true) ∧ Below w.heap.size w w' := by
  have HM0 := Lib.hid hm0
  obtain ⟨a0, cap0, rfl⟩ := hm0.slice
  have hq0 := hm0.len
  clear hm0
  have HM1 := Lib.hid hm1
  obtain ⟨a1, cap1, rfl⟩ := hm1.slice
  have hq1 := hm1.len
  clear hm1
  go_enter Try.func3, Try.ntmps3
  go_wp2_with fail
  refine (szP_no s0 (HM0.out.on (al1 (al1 (Below.refl _ _) _) _)) (by omega) (by omega) (by omega)).mono ?_
  rintro e wl0 ⟨rfl, hbl0⟩
  go_wp2_with fail
  go_ret
  exact ⟨rfl, ((al1 (al1 (Below.refl _ _) _) _).trans (hbl0.mono (by (try simp) <;> omega)))⟩
set_option maxRecDepth 100000 in
set_option maxHeartbeats 400000 in
theorem samePoset_long1 (u0 u1 : Value) (z0 z1 : List (List Int)) (s0 s1 : Int) (w : World) (hm0 : RowsRaw w u0 z0) (hm1 : RowsRaw w u1 z1) (h0 : 0 ≤ 1048576 - ((z0.length : Int) + (tot z0 : Int))) (hx : 1048576 - ((z0.length : Int) + (tot z0 : Int)) < (z1.length : Int) + (tot z1 : Int)) :
    Calls Try.prog 3 #[.agg #[.int .i64 s0, u0], .agg #[.int .i64 s1, u1]] w fun e w' => e = .returned (.bool true) ∧ Below w.heap.size w w' := by
  have HM0 := Lib.hid hm0
  obtain ⟨a0, cap0, rfl⟩ := hm0.slice
  have hq0 := hm0.len
  clear hm0
  have HM1 := Lib.hid hm1
  obtain ⟨a1, cap1, rfl⟩ := hm1.slice
  have hq1 := hm1.len
  clear hm1
  go_enter Try.func3, Try.ntmps3
  go_wp2_with fail
  refine (szP_yes s0 (HM0.out.on (al1 (al1 (Below.refl _ _) _) _)) (by omega) (by omega)).mono ?_
  rintro e wl0 ⟨rfl, hbl0⟩
  obtain ⟨hc, hf⟩ := bcell hbl0
  have hs0 := hbl0.size
  simp at hs0
  go_wp2_with fail
  refine (szP_no s1 (HM1.out.on ((al1 (al1 (Below.refl _ _) _) _).trans (hbl0.mono (by (try simp) <;> omega)))) (by omega) (by omega) (by omega)).mono ?_
  rintro e wl1 ⟨rfl, hbl1⟩
  go_wp2_with fail
  go_ret
  exact ⟨rfl, (((al1 (al1 (Below.refl _ _) _) _).trans (hbl0.mono (by (try simp) <;> omega))).trans (hbl1.mono (by (try simp) <;> omega)))⟩
theorem samePoset_of (u0 u1 : Value) (z0 z1 : List (List Int)) (s0 s1 : Int) (w : World)
    (hw0 : RowsRaw w u0 z0)
    (hw1 : RowsRaw w u1 z1) :
    Calls Try.prog 3 #[.agg #[.int .i64 s0, u0], .agg #[.int .i64 s1, u1]] w fun e w' => e = .returned (.bool true) ∧ Below w.heap.size w w' := by
  by_cases g0 : 1048576 < (z0.length + tot z0)
  · exact samePoset_long0 u0 u1 z0 z1 s0 s1 w hw0 hw1  (by omega)
  by_cases g1 : 1048576 < (z0.length + tot z0) + (z1.length + tot z1)
  · exact samePoset_long1 u0 u1 z0 z1 s0 s1 w hw0 hw1  (by omega) (by omega)
  have := samePoset_at s0 s1 w (hw0.at (by omega) (by omega)) (hw1.at (by omega) (by omega)) (by omega)
  exact this
end Go.Proofs.Ytehgbpgecgejkaa
