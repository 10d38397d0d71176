/-
  Laws of maps: whatever the arguments, the program's answer is the model's, the arguments are as before, and the answer lies in new memory.
-/
import Derived.Test.YtibdcejglkhcfaaGreatDoorCxA
import Derived.Test.YtibdcejglkhcfaaGreatDoorMqC
import Derived.Test.YtibdcejglkhcfaaGreatDoorMqD
import Derived.Deep.RegionHeld3
import Derived.StillTactics
import Derived.Deep.DeepCutAuto
namespace Go.Proofs.YtibdcejglkhcfaaGreatDoor
open Go.RowKit
set_option linter.unusedVariables false

theorem RowsQ.al {w : World} {v : Value} {zz : List (List Int)} {o : Obj} (h : RowsQ w v zz) : RowsQ (w.alloc o) v zz := h.on ((Below.refl _ _).alloc (Nat.le_refl _) o)
set_option maxRecDepth 100000 in
set_option maxHeartbeats 20000000 in
theorem mapImage_at {u0 u1 u2 : Value} {z0 : List (List Int)} {z1 : List (List Int)} {z2 : List Int} (w : World) (hu0 : RowsAt w u0 z0) (hu1 : RowsAt w u1 z1) (hu2 : IntsAt w u2 z2) (hsum : (z0.length + tot z0) + (z1.length + tot z1) ≤ 1048576) (hTz : Tz w) :
    Calls Tryz.prog 3 #[.agg #[u0], .agg #[u1], u2] w fun e w' => e = .returned (.bool true) ∧ Below w.heap.size w w' := by
  have TZ := Lib.hid hTz
  clear hTz
  have Hu0 := Lib.hid hu0
  have hl0 : FitR z0 := ⟨by omega, by omega⟩
  have hc0 : z0.length ≤ 1048576 := hl0.1
  have ht0 : tot z0 ≤ 1048576 := hl0.2
  obtain ⟨a0, cap0, rfl⟩ := hu0.slice
  clear hu0
  have Hu1 := Lib.hid hu1
  have hl1 : FitR z1 := ⟨by omega, by omega⟩
  have hc1 : z1.length ≤ 1048576 := hl1.1
  have ht1 : tot z1 ≤ 1048576 := hl1.2
  obtain ⟨a1, cap1, rfl⟩ := hu1.slice
  clear hu1
  have Hu2 := Lib.hid hu2
  obtain ⟨a2, cap2, rfl, hl2, _⟩ := hu2
  have hl2' : ¬ 1048576 < (z2.length : Int) := by omega
  obtain ⟨Z0, N1, hr⟩ := mim_has z0 z1 z2
  have hz0 : FitR Z0 := hr.fit
  have hzc0 : Z0.length ≤ 1048576 := hz0.1
  have hzt0 : tot Z0 ≤ 1048576 := hz0.2
  have HR : Hid (MimIs z0 z1 z2 Z0 N1) := hr
  clear hr
  have ec1 : (N1 != N1) = false := by simp
  have K0 : Hid (∀ w', Below w.heap.size w w' → RowsAt w' (.slice a0 z0.length cap0) z0) := fun w' hb => Hu0.out.on hb
  have K1 : Hid (∀ w', Below w.heap.size w w' → RowsAt w' (.slice a1 z1.length cap1) z1) := fun w' hb => Hu1.out.on hb
  have K2 : Hid (∀ w', Below w.heap.size w w' → IntsAt w' (.slice a2 z2.length cap2) z2) := fun w' hb => Hu2.out.on hb
  clear Hu0 Hu1 Hu2
  have B0 : Hid (Below w.heap.size w w) := Below.refl _ _
  go_enter Tryz.func3, Tryz.ntmps3
  go_wp2_with fail
  refine (szC_yes (K0.out _ (al1 (al1 B0.out _) _)).raw (by omega) (by omega)).mono ?_
  rintro e w1 ⟨rfl, hb1⟩
  have bb1 : Below w.heap.size w w1 := up2 hb1
  have Pb0 : Hid (PtC w1 w.heap.size  (.slice a0 z0.length cap0)) := (PtC.new1 _ _ _ _).on hb1
  have Pb1 : Hid (PtC w1 (w.heap.size + 1)  (.slice a1 z1.length cap1)) := by
    show PtC _ _ _
    have := (PtC.new _ _ _ : PtC _ _  (.slice a1 z1.length cap1)).on hb1
    simpa using this
  have B1 := Lib.hid (B0.out.trans (bb1.mono B0.out.size))
  have le1 : w.heap.size + 2 ≤ w1.heap.size := by have := hb1.size; (try simp at this); omega
  clear hb1 bb1
  obtain ⟨lb0, b00⟩ := Pb0.out
  obtain ⟨lb1, b10⟩ := Pb1.out
  go_wp2_with fail
  refine (szC_yes (K1.out _ B1.out).raw (by omega) (by omega)).mono ?_
  rintro e w2 ⟨rfl, hb2⟩
  clear lb0 b00 lb1 b10
  have bb2 : Below w1.heap.size w1 w2 := hb2
  have Pb0 := Lib.hid (Pb0.out.on bb2)
  have Pb1 := Lib.hid (Pb1.out.on bb2)
  have B2 := Lib.hid (B1.out.trans (bb2.mono B1.out.size))
  have le2 : w1.heap.size + 0 ≤ w2.heap.size := by have := hb2.size; (try simp at this); omega
  clear hb2 bb2
  obtain ⟨lb0, b00⟩ := Pb0.out
  obtain ⟨lb1, b10⟩ := Pb1.out
  have := Pb0.out.ne
  have := Pb1.out.ne
  go_wp2_with fail
  go_cut [8, 9] (fun sp sk wx => sk = .int .i64 N1 ∧ Hid (∃ (L B E : Nat) (a : Option Addr) (c : Nat), sp = .pointer (some ⟨L, 0, none⟩) ∧ RegC w2 wx L B E  (.slice a Z0.length c) Z0))
  case first =>
    go_region_held3 (fun w' => w'.cell? ⟨w.heap.size, 0, none⟩ = some ((.slice a0 z0.length cap0)) ∧ w'.cell? ⟨(w.heap.size + 1), 0, none⟩ = some ((.slice a1 z1.length cap1))) (go_keep)
      (first
        | (go_at_call_of 10 (.agg #[(.slice a0 z0.length cap0)] : Value); refine (toC_any (by first | exact K0.out _ B2.out | exact (K0.out _ B2.out).drew | exact (K0.out _ B2.out).al | exact (K0.out _ B2.out).al.drew | exact (K0.out _ B2.out).drew.al)).mono ?_; rintro e wa3q0 ⟨_, rfl, hoa3q0, hr3q0⟩; have hs3q0 : Below w2.heap.size w2 wa3q0 := (by first | exact hr3q0 | exact undrew hr3q0 | exact up1 hr3q0 | exact up1 (undrew hr3q0) | exact undrew (up1 hr3q0)); have ht3q0 : Below w2.heap.size w2 wa3q0 := hs3q0; obtain ⟨_, _⟩ := bcell hr3q0; have sz3q0 := hr3q0.size; (try simp at sz3q0); (try have := (by omega : w2.heap.size < wa3q0.heap.size)); obtain ⟨_, _, rfl⟩ := hoa3q0.slice; obtain ⟨_, _⟩ := Pb0.out.on ht3q0; obtain ⟨_, _⟩ := Pb1.out.on ht3q0; have := (Pb0.out.on ht3q0).ne; have := (Pb1.out.on ht3q0).ne)
        | (go_at_call_of 10 (.agg #[(.slice a1 z1.length cap1)] : Value); refine (toC_any (by first | exact K1.out _ (B2.out.trans (ht3q0.mono B2.out.size)) | exact (K1.out _ (B2.out.trans (ht3q0.mono B2.out.size))).drew | exact (K1.out _ (B2.out.trans (ht3q0.mono B2.out.size))).al | exact (K1.out _ (B2.out.trans (ht3q0.mono B2.out.size))).al.drew | exact (K1.out _ (B2.out.trans (ht3q0.mono B2.out.size))).drew.al)).mono ?_; rintro e wa3q1 ⟨_, rfl, hoa3q1, hr3q1⟩; have hs3q1 : Below wa3q0.heap.size wa3q0 wa3q1 := (by first | exact hr3q1 | exact undrew hr3q1 | exact up1 hr3q1 | exact up1 (undrew hr3q1) | exact undrew (up1 hr3q1)); have ht3q1 : Below w2.heap.size w2 wa3q1 := ht3q0.trans (hs3q1.mono ht3q0.size); obtain ⟨_, _⟩ := bcell hr3q1; have sz3q1 := hr3q1.size; (try simp at sz3q1); (try have := (by omega : wa3q0.heap.size < wa3q1.heap.size)); (try have := (by omega : w2.heap.size < wa3q1.heap.size)); obtain ⟨_, _, rfl⟩ := hoa3q1.slice; obtain ⟨_, _⟩ := Pb0.out.on ht3q1; obtain ⟨_, _⟩ := Pb1.out.on ht3q1; have := (Pb0.out.on ht3q1).ne; have := (Pb1.out.on ht3q1).ne)
        | (go_at_call_of 11 ((.slice a2 z2.length cap2) : Value); refine (toI_any (by first | exact K2.out _ (B2.out.trans (ht3q1.mono B2.out.size)) | exact (K2.out _ (B2.out.trans (ht3q1.mono B2.out.size))).drew | exact (K2.out _ (B2.out.trans (ht3q1.mono B2.out.size))).al | exact (K2.out _ (B2.out.trans (ht3q1.mono B2.out.size))).al.drew | exact (K2.out _ (B2.out.trans (ht3q1.mono B2.out.size))).drew.al)).mono ?_; rintro e wa3q2 ⟨_, rfl, hoa3q2, hr3q2⟩; have hs3q2 : Below wa3q1.heap.size wa3q1 wa3q2 := (by first | exact hr3q2 | exact undrew hr3q2 | exact up1 hr3q2 | exact up1 (undrew hr3q2) | exact undrew (up1 hr3q2)); have ht3q2 : Below w2.heap.size w2 wa3q2 := ht3q1.trans (hs3q2.mono ht3q1.size); obtain ⟨_, _⟩ := bcell hr3q2; have sz3q2 := hr3q2.size; (try simp at sz3q2); (try have := (by omega : wa3q1.heap.size < wa3q2.heap.size)); (try have := (by omega : wa3q0.heap.size < wa3q2.heap.size)); (try have := (by omega : w2.heap.size < wa3q2.heap.size)); obtain ⟨_, _, rfl⟩ := hoa3q2.slice; obtain ⟨_, _⟩ := Pb0.out.on ht3q2; obtain ⟨_, _⟩ := Pb1.out.on ht3q2; have := (Pb0.out.on ht3q2).ne; have := (Pb1.out.on ht3q2).ne)
        | (go_at_call 9; refine (specMim_is (by first | exact (((hoa3q0.on hs3q1).on hs3q2)).atQ hl0 | exact ((((hoa3q0.on hs3q1).on hs3q2)).atQ hl0).drew | exact ((((hoa3q0.on hs3q1).on hs3q2)).atQ hl0).al | exact ((((hoa3q0.on hs3q1).on hs3q2)).atQ hl0).al.drew | exact ((((hoa3q0.on hs3q1).on hs3q2)).atQ hl0).drew.al) (by first | exact ((hoa3q1.on hs3q2)).atQ hl1 | exact (((hoa3q1.on hs3q2)).atQ hl1).drew | exact (((hoa3q1.on hs3q2)).atQ hl1).al | exact (((hoa3q1.on hs3q2)).atQ hl1).al.drew | exact (((hoa3q1.on hs3q2)).atQ hl1).drew.al) (by first | exact (hoa3q2).at hl2 | exact ((hoa3q2).at hl2).drew | exact ((hoa3q2).at hl2).al | exact ((hoa3q2).at hl2).al.drew | exact ((hoa3q2).at hl2).drew.al) HR.out).mono ?_; rintro e w3 ⟨v3x0, rfl, ho3x0, hbz3'⟩; have hbz3 : Below wa3q2.heap.size wa3q2 w3 := (by first | exact hbz3' | exact undrew hbz3' | exact up1 hbz3' | exact up1 (undrew hbz3') | exact undrew (up1 hbz3')); have hb3 : Below w2.heap.size w2 w3 := ht3q2.trans (hbz3.mono ht3q2.size); obtain ⟨v3x0a, v3x0c, rfl⟩ := ho3x0.slice; obtain ⟨_, _⟩ := bcell hbz3'; have hsz3 := hbz3'.size; (try simp at hsz3); (try have := (by omega : wa3q2.heap.size < w3.heap.size)); (try have := (by omega : wa3q1.heap.size < w3.heap.size)); (try have := (by omega : wa3q0.heap.size < w3.heap.size)); (try have := (by omega : w2.heap.size < w3.heap.size)); obtain ⟨_, _⟩ := Pb0.out.on hb3; obtain ⟨_, _⟩ := Pb1.out.on hb3; have := (Pb0.out.on hb3).ne; have := (Pb1.out.on hb3).ne))
    all_goals
      go_wp2_with fail
      go_meet
      case rel => first
        | exact ⟨rfl, _, _, _, _, _, rfl, RegC.new (OwnRX.of ho3x0 (Nat.le_refl _)) (by have h0 := hs3q0.size; have h1 := hs3q1.size; have h2 := hs3q2.size; have hz := hbz3.size; first | omega | (simp; done) | (simp; omega)) hb3⟩
        | exact ⟨rfl, _, _, _, _, _, rfl, RegC.set ((PtC.new _ _ _).on hbz3') (OwnRX.of ho3x0 (Nat.le_refl _)) (by have h0 := hs3q0.size; have h1 := hs3q1.size; have h2 := hs3q2.size; have hz := hbz3.size; first | omega | (simp; done) | (simp; omega)) (by have h0 := hs3q0.size; have h1 := hs3q1.size; have h2 := hs3q2.size; have hz := hbz3.size; first | omega | (simp; done) | (simp; omega)) (by have h0 := hs3q0.size; have h1 := hs3q1.size; have h2 := hs3q2.size; have hz := hbz3.size; first | omega | (simp; done) | (simp; omega)) hb3⟩
        | exact ⟨rfl, _, _, _, _, _, rfl, RegC.set (((PtC.new _ _ _).on hr3q2).on hbz3) (OwnRX.of ho3x0 (Nat.le_refl _)) (by have h0 := hs3q0.size; have h1 := hs3q1.size; have h2 := hs3q2.size; have hz := hbz3.size; first | omega | (simp; done) | (simp; omega)) (by have h0 := hs3q0.size; have h1 := hs3q1.size; have h2 := hs3q2.size; have hz := hbz3.size; first | omega | (simp; done) | (simp; omega)) (by have h0 := hs3q0.size; have h1 := hs3q1.size; have h2 := hs3q2.size; have hz := hbz3.size; first | omega | (simp; done) | (simp; omega)) hb3⟩
        | exact ⟨rfl, _, _, _, _, _, rfl, RegC.set ((((PtC.new _ _ _).on hr3q1).on hs3q2).on hbz3) (OwnRX.of ho3x0 (Nat.le_refl _)) (by have h0 := hs3q0.size; have h1 := hs3q1.size; have h2 := hs3q2.size; have hz := hbz3.size; first | omega | (simp; done) | (simp; omega)) (by have h0 := hs3q0.size; have h1 := hs3q1.size; have h2 := hs3q2.size; have hz := hbz3.size; first | omega | (simp; done) | (simp; omega)) (by have h0 := hs3q0.size; have h1 := hs3q1.size; have h2 := hs3q2.size; have hz := hbz3.size; first | omega | (simp; done) | (simp; omega)) hb3⟩
        | exact ⟨rfl, _, _, _, _, _, rfl, RegC.set (((((PtC.new _ _ _).on hr3q0).on hs3q1).on hs3q2).on hbz3) (OwnRX.of ho3x0 (Nat.le_refl _)) (by have h0 := hs3q0.size; have h1 := hs3q1.size; have h2 := hs3q2.size; have hz := hbz3.size; first | omega | (simp; done) | (simp; omega)) (by have h0 := hs3q0.size; have h1 := hs3q1.size; have h2 := hs3q2.size; have hz := hbz3.size; first | omega | (simp; done) | (simp; omega)) (by have h0 := hs3q0.size; have h1 := hs3q1.size; have h2 := hs3q2.size; have hz := hbz3.size; first | omega | (simp; done) | (simp; omega)) hb3⟩
        | exact ⟨rfl, _, _, _, _, _, rfl, RegC.set (((PtC.new _ _ _).drew.on hr3q2).on hbz3) (OwnRX.of ho3x0 (Nat.le_refl _)) (by have h0 := hs3q0.size; have h1 := hs3q1.size; have h2 := hs3q2.size; have hz := hbz3.size; first | omega | (simp; done) | (simp; omega)) (by have h0 := hs3q0.size; have h1 := hs3q1.size; have h2 := hs3q2.size; have hz := hbz3.size; first | omega | (simp; done) | (simp; omega)) (by have h0 := hs3q0.size; have h1 := hs3q1.size; have h2 := hs3q2.size; have hz := hbz3.size; first | omega | (simp; done) | (simp; omega)) hb3⟩
        | exact ⟨rfl, _, _, _, _, _, rfl, RegC.set ((((PtC.new _ _ _).drew.on hr3q1).on hs3q2).on hbz3) (OwnRX.of ho3x0 (Nat.le_refl _)) (by have h0 := hs3q0.size; have h1 := hs3q1.size; have h2 := hs3q2.size; have hz := hbz3.size; first | omega | (simp; done) | (simp; omega)) (by have h0 := hs3q0.size; have h1 := hs3q1.size; have h2 := hs3q2.size; have hz := hbz3.size; first | omega | (simp; done) | (simp; omega)) (by have h0 := hs3q0.size; have h1 := hs3q1.size; have h2 := hs3q2.size; have hz := hbz3.size; first | omega | (simp; done) | (simp; omega)) hb3⟩
        | exact ⟨rfl, _, _, _, _, _, rfl, RegC.set (((((PtC.new _ _ _).drew.on hr3q0).on hs3q1).on hs3q2).on hbz3) (OwnRX.of ho3x0 (Nat.le_refl _)) (by have h0 := hs3q0.size; have h1 := hs3q1.size; have h2 := hs3q2.size; have hz := hbz3.size; first | omega | (simp; done) | (simp; omega)) (by have h0 := hs3q0.size; have h1 := hs3q1.size; have h2 := hs3q2.size; have hz := hbz3.size; first | omega | (simp; done) | (simp; omega)) (by have h0 := hs3q0.size; have h1 := hs3q1.size; have h2 := hs3q2.size; have hz := hbz3.size; first | omega | (simp; done) | (simp; omega)) hb3⟩
  obtain ⟨rfl, hc3⟩ := hcut
  obtain ⟨L3, B3x, E3, v3a, v3c, rfl, hp3, ho3, hB3, hd3, hL3, hb3⟩ := hc3.out
  clear hc3
  rename World => w3
  have bb3 := hb3
  have lE3 := own_le ho3
  have lL3 := hp3.1
  clear lb0 b00 lb1 b10
  have Pb0 := Lib.hid (Pb0.out.on bb3)
  have Pb1 := Lib.hid (Pb1.out.on bb3)
  have B3 := Lib.hid (B2.out.trans (bb3.mono B2.out.size))
  have le3 : w2.heap.size + 0 ≤ w3.heap.size := by have := hb3.size; (try simp at this); omega
  have Ps0 : Hid (PtC w3 L3  (.slice v3a Z0.length v3c)) := hp3
  have Os0 : Hid (OwnRX B3x E3 w3 (.slice v3a Z0.length v3c) Z0) := ho3
  clear hp3 ho3 hb3 bb3
  obtain ⟨lb0, b00⟩ := Pb0.out
  obtain ⟨lb1, b10⟩ := Pb1.out
  obtain ⟨ls0, s00⟩ := Ps0.out
  go_wp2_with fail
  refine (toC_any (K0.out _ B3.out)).mono ?_
  rintro e w4 ⟨v4, rfl, ho4, hb4⟩
  clear lb0 b00 lb1 b10 ls0 s00
  have bb4 : Below w3.heap.size w3 w4 := hb4
  have Pb0 := Lib.hid (Pb0.out.on bb4)
  have Pb1 := Lib.hid (Pb1.out.on bb4)
  have Ps0 := Lib.hid (Ps0.out.on bb4)
  have Os0 := Lib.hid (Os0.out.on bb4)
  have B4 := Lib.hid (B3.out.trans (bb4.mono B3.out.size))
  have le4 : w3.heap.size + 0 ≤ w4.heap.size := by have := hb4.size; (try simp at this); omega
  obtain ⟨v4a, v4c, rfl⟩ := ho4.slice
  have Ox0 : Hid (OwnRX (w3.heap.size + 0) w4.heap.size w4 (.slice v4a z0.length v4c) z0) := OwnRX.of ho4 (by simp)
  clear ho4 hb4 bb4
  obtain ⟨lb0, b00⟩ := Pb0.out
  obtain ⟨lb1, b10⟩ := Pb1.out
  obtain ⟨ls0, s00⟩ := Ps0.out
  go_wp2_with fail
  refine (toC_any (K1.out _ (al1 B4.out _))).mono ?_
  rintro e w5 ⟨v5, rfl, ho5, hb5⟩
  clear lb0 b00 lb1 b10 ls0 s00
  have bb5 : Below w4.heap.size w4 w5 := up1 hb5
  have Pb0 := Lib.hid (Pb0.out.on bb5)
  have Pb1 := Lib.hid (Pb1.out.on bb5)
  have Ps0 := Lib.hid (Ps0.out.on bb5)
  have Px0 : Hid (PtC w5 w4.heap.size  (.slice v4a z0.length v4c)) := (PtC.new _ _ _).on hb5
  have Os0 := Lib.hid (Os0.out.on bb5)
  have Ox0 := Lib.hid (Ox0.out.on bb5)
  have B5 := Lib.hid (B4.out.trans (bb5.mono B4.out.size))
  have le5 : w4.heap.size + 1 ≤ w5.heap.size := by have := hb5.size; (try simp at this); omega
  obtain ⟨v5a, v5c, rfl⟩ := ho5.slice
  have Ox1 : Hid (OwnRX (w4.heap.size + 1) w5.heap.size w5 (.slice v5a z1.length v5c) z1) := OwnRX.of ho5 (by simp)
  clear ho5 hb5 bb5
  obtain ⟨lb0, b00⟩ := Pb0.out
  obtain ⟨lb1, b10⟩ := Pb1.out
  obtain ⟨ls0, s00⟩ := Ps0.out
  obtain ⟨lx0, x00⟩ := Px0.out
  go_wp2_with fail
  refine (toI_any (K2.out _ (al1 B5.out _))).mono ?_
  rintro e w6 ⟨v6, rfl, ho6, hb6⟩
  clear lb0 b00 lb1 b10 ls0 s00 lx0 x00
  have bb6 : Below w5.heap.size w5 w6 := up1 hb6
  have Pb0 := Lib.hid (Pb0.out.on bb6)
  have Pb1 := Lib.hid (Pb1.out.on bb6)
  have Ps0 := Lib.hid (Ps0.out.on bb6)
  have Px0 := Lib.hid (Px0.out.on bb6)
  have Px1 : Hid (PtC w6 w5.heap.size  (.slice v5a z1.length v5c)) := (PtC.new _ _ _).on hb6
  have Os0 := Lib.hid (Os0.out.on bb6)
  have Ox0 := Lib.hid (Ox0.out.on bb6)
  have Ox1 := Lib.hid (Ox1.out.on bb6)
  have B6 := Lib.hid (B5.out.trans (bb6.mono B5.out.size))
  have le6 : w5.heap.size + 1 ≤ w6.heap.size := by have := hb6.size; (try simp at this); omega
  obtain ⟨v6a, v6c, rfl⟩ := ho6.slice
  have Ox2 : Hid (OwnX (w5.heap.size + 1) w6.heap.size w6 (.slice v6a z2.length v6c) z2) := OwnX.of ho6 (by simp)
  clear ho6 hb6 bb6
  obtain ⟨lb0, b00⟩ := Pb0.out
  obtain ⟨lb1, b10⟩ := Pb1.out
  obtain ⟨ls0, s00⟩ := Ps0.out
  obtain ⟨lx0, x00⟩ := Px0.out
  obtain ⟨lx1, x10⟩ := Px1.out
  go_wp2_with fail
  refine (implMim_is (Ox0.out.at hl0) (Ox1.out.at hl1) (Ox2.out.at hl2) HR.out (TZ.out.on B6.out)).mono ?_
  rintro e w7 ⟨v7x0, rfl, ho7x0, hb7⟩
  clear lb0 b00 lb1 b10 ls0 s00 lx0 x00 lx1 x10
  have bb7 : Below w6.heap.size w6 w7 := hb7
  have Pb0 := Lib.hid (Pb0.out.on bb7)
  have Pb1 := Lib.hid (Pb1.out.on bb7)
  have Ps0 := Lib.hid (Ps0.out.on bb7)
  have Px0 := Lib.hid (Px0.out.on bb7)
  have Px1 := Lib.hid (Px1.out.on bb7)
  have Os0 := Lib.hid (Os0.out.on bb7)
  have Ox0 := Lib.hid (Ox0.out.on bb7)
  have Ox1 := Lib.hid (Ox1.out.on bb7)
  have Ox2 := Lib.hid (Ox2.out.on bb7)
  have B7 := Lib.hid (B6.out.trans (bb7.mono B6.out.size))
  have le7 : w6.heap.size + 0 ≤ w7.heap.size := by have := hb7.size; (try simp at this); omega
  obtain ⟨v7x0a, v7x0c, rfl⟩ := ho7x0.slice
  have Og0 : Hid (OwnRX (w6.heap.size + 0) w7.heap.size w7 (.slice v7x0a Z0.length v7x0c) Z0) := OwnRX.of ho7x0 (by simp)
  clear ho7x0 hb7 bb7
  obtain ⟨lb0, b00⟩ := Pb0.out
  obtain ⟨lb1, b10⟩ := Pb1.out
  obtain ⟨ls0, s00⟩ := Ps0.out
  obtain ⟨lx0, x00⟩ := Px0.out
  obtain ⟨lx1, x10⟩ := Px1.out
  go_wp2_with fail
  refine (eqC_any ((Og0.out.alloc _).at hz0) ((Os0.out.alloc _).at hz0)).mono ?_
  rintro e w8 ⟨rfl, hb8⟩
  clear lb0 b00 lb1 b10 ls0 s00 lx0 x00 lx1 x10
  have bb8 : Below w7.heap.size w7 w8 := up1 hb8
  have Pb0 := Lib.hid (Pb0.out.on bb8)
  have Pb1 := Lib.hid (Pb1.out.on bb8)
  have Ps0 := Lib.hid (Ps0.out.on bb8)
  have Px0 := Lib.hid (Px0.out.on bb8)
  have Px1 := Lib.hid (Px1.out.on bb8)
  have Pg0 : Hid (PtC w8 w7.heap.size  (.slice v7x0a Z0.length v7x0c)) := (PtC.new _ _ _).on hb8
  have Os0 := Lib.hid (Os0.out.on bb8)
  have Ox0 := Lib.hid (Ox0.out.on bb8)
  have Ox1 := Lib.hid (Ox1.out.on bb8)
  have Ox2 := Lib.hid (Ox2.out.on bb8)
  have Og0 := Lib.hid (Og0.out.on bb8)
  have B8 := Lib.hid (B7.out.trans (bb8.mono B7.out.size))
  have le8 : w7.heap.size + 1 ≤ w8.heap.size := by have := hb8.size; (try simp at this); omega
  clear hb8 bb8
  obtain ⟨lb0, b00⟩ := Pb0.out
  obtain ⟨lb1, b10⟩ := Pb1.out
  obtain ⟨ls0, s00⟩ := Ps0.out
  obtain ⟨lx0, x00⟩ := Px0.out
  obtain ⟨lx1, x10⟩ := Px1.out
  obtain ⟨lg0, g00⟩ := Pg0.out
  go_wp2_with fail
  go_region_held3 (fun w' => w'.cell? ⟨w4.heap.size, 0, none⟩ = some ((.slice v4a z0.length v4c)) ∧ w'.cell? ⟨w.heap.size, 0, none⟩ = some ((.slice a0 z0.length cap0))) (go_keep)
    (first
      | (go_at_call 10; refine (toC_any (K0.out _ B8.out).drew).mono ?_; rintro e wa9 ⟨va9, rfl, hoa9, hba9'⟩; have hba9 := undrew hba9'; obtain ⟨va9a, va9c, rfl⟩ := hoa9.slice; obtain ⟨_, _⟩ := Px0.out.on hba9; obtain ⟨_, _⟩ := Pb0.out.on hba9)
      | (go_at_call 13; refine (eqC_any ((Ox0.out.on hba9).at hl0) (hoa9.at hl0)).mono ?_; rintro e w9 ⟨rfl, hbb9⟩; obtain ⟨_, _⟩ := Px0.out.on (hba9.trans (hbb9.mono hba9.size)); obtain ⟨_, _⟩ := Pb0.out.on (hba9.trans (hbb9.mono hba9.size))))
  have hb9 : Below w8.heap.size w8 w9 := hba9.trans (hbb9.mono hba9.size)
  have bb9 := hb9
  clear lb0 b00 lb1 b10 ls0 s00 lx0 x00 lx1 x10 lg0 g00
  clear hoa9 hba9 hbb9
  have Pb0 := Lib.hid (Pb0.out.on bb9)
  have Pb1 := Lib.hid (Pb1.out.on bb9)
  have Ps0 := Lib.hid (Ps0.out.on bb9)
  have Px0 := Lib.hid (Px0.out.on bb9)
  have Px1 := Lib.hid (Px1.out.on bb9)
  have Pg0 := Lib.hid (Pg0.out.on bb9)
  have Os0 := Lib.hid (Os0.out.on bb9)
  have Ox0 := Lib.hid (Ox0.out.on bb9)
  have Ox1 := Lib.hid (Ox1.out.on bb9)
  have Ox2 := Lib.hid (Ox2.out.on bb9)
  have Og0 := Lib.hid (Og0.out.on bb9)
  have B9 := Lib.hid (B8.out.trans (bb9.mono B8.out.size))
  have le9 : w8.heap.size + 0 ≤ w9.heap.size := by have := hb9.size; (try simp at this); omega
  clear hb9 bb9
  obtain ⟨lb0, b00⟩ := Pb0.out
  obtain ⟨lb1, b10⟩ := Pb1.out
  obtain ⟨ls0, s00⟩ := Ps0.out
  obtain ⟨lx0, x00⟩ := Px0.out
  obtain ⟨lx1, x10⟩ := Px1.out
  obtain ⟨lg0, g00⟩ := Pg0.out
  go_wp2_with fail
  go_region_held3 (fun w' => w'.cell? ⟨w5.heap.size, 0, none⟩ = some ((.slice v5a z1.length v5c)) ∧ w'.cell? ⟨(w.heap.size + 1), 0, none⟩ = some ((.slice a1 z1.length cap1))) (go_keep)
    (first
      | (go_at_call 10; refine (toC_any (K1.out _ B9.out).drew).mono ?_; rintro e wa10 ⟨va10, rfl, hoa10, hba10'⟩; have hba10 := undrew hba10'; obtain ⟨va10a, va10c, rfl⟩ := hoa10.slice; obtain ⟨_, _⟩ := Px1.out.on hba10; obtain ⟨_, _⟩ := Pb1.out.on hba10)
      | (go_at_call 13; refine (eqC_any ((Ox1.out.on hba10).at hl1) (hoa10.at hl1)).mono ?_; rintro e w10 ⟨rfl, hbb10⟩; obtain ⟨_, _⟩ := Px1.out.on (hba10.trans (hbb10.mono hba10.size)); obtain ⟨_, _⟩ := Pb1.out.on (hba10.trans (hbb10.mono hba10.size))))
  have hb10 : Below w9.heap.size w9 w10 := hba10.trans (hbb10.mono hba10.size)
  have bb10 := hb10
  clear lb0 b00 lb1 b10 ls0 s00 lx0 x00 lx1 x10 lg0 g00
  clear hoa10 hba10 hbb10
  have Pb0 := Lib.hid (Pb0.out.on bb10)
  have Pb1 := Lib.hid (Pb1.out.on bb10)
  have Ps0 := Lib.hid (Ps0.out.on bb10)
  have Px0 := Lib.hid (Px0.out.on bb10)
  have Px1 := Lib.hid (Px1.out.on bb10)
  have Pg0 := Lib.hid (Pg0.out.on bb10)
  have Os0 := Lib.hid (Os0.out.on bb10)
  have Ox0 := Lib.hid (Ox0.out.on bb10)
  have Ox1 := Lib.hid (Ox1.out.on bb10)
  have Ox2 := Lib.hid (Ox2.out.on bb10)
  have Og0 := Lib.hid (Og0.out.on bb10)
  have B10 := Lib.hid (B9.out.trans (bb10.mono B9.out.size))
  have le10 : w9.heap.size + 0 ≤ w10.heap.size := by have := hb10.size; (try simp at this); omega
  clear hb10 bb10
  obtain ⟨lb0, b00⟩ := Pb0.out
  obtain ⟨lb1, b10⟩ := Pb1.out
  obtain ⟨ls0, s00⟩ := Ps0.out
  obtain ⟨lx0, x00⟩ := Px0.out
  obtain ⟨lx1, x10⟩ := Px1.out
  obtain ⟨lg0, g00⟩ := Pg0.out
  go_wp2_with fail
  refine (toI_any (K2.out _ B10.out)).mono ?_
  rintro e w11 ⟨v11, rfl, ho11, hb11⟩
  clear lb0 b00 lb1 b10 ls0 s00 lx0 x00 lx1 x10 lg0 g00
  have bb11 : Below w10.heap.size w10 w11 := hb11
  have Pb0 := Lib.hid (Pb0.out.on bb11)
  have Pb1 := Lib.hid (Pb1.out.on bb11)
  have Ps0 := Lib.hid (Ps0.out.on bb11)
  have Px0 := Lib.hid (Px0.out.on bb11)
  have Px1 := Lib.hid (Px1.out.on bb11)
  have Pg0 := Lib.hid (Pg0.out.on bb11)
  have Os0 := Lib.hid (Os0.out.on bb11)
  have Ox0 := Lib.hid (Ox0.out.on bb11)
  have Ox1 := Lib.hid (Ox1.out.on bb11)
  have Ox2 := Lib.hid (Ox2.out.on bb11)
  have Og0 := Lib.hid (Og0.out.on bb11)
  have B11 := Lib.hid (B10.out.trans (bb11.mono B10.out.size))
  have le11 : w10.heap.size + 0 ≤ w11.heap.size := by have := hb11.size; (try simp at this); omega
  obtain ⟨v11a, v11c, rfl⟩ := ho11.slice
  have Oy2 : Hid (OwnX (w10.heap.size + 0) w11.heap.size w11 (.slice v11a z2.length v11c) z2) := OwnX.of ho11 (by simp)
  clear ho11 hb11 bb11
  obtain ⟨lb0, b00⟩ := Pb0.out
  obtain ⟨lb1, b10⟩ := Pb1.out
  obtain ⟨ls0, s00⟩ := Ps0.out
  obtain ⟨lx0, x00⟩ := Px0.out
  obtain ⟨lx1, x10⟩ := Px1.out
  obtain ⟨lg0, g00⟩ := Pg0.out
  go_wp2_with fail
  refine (eqL_any (Ox2.out.at hl2) (Oy2.out.at hl2)).mono ?_
  rintro e w12 ⟨rfl, hb12⟩
  clear lb0 b00 lb1 b10 ls0 s00 lx0 x00 lx1 x10 lg0 g00
  have bb12 : Below w11.heap.size w11 w12 := hb12
  have Pb0 := Lib.hid (Pb0.out.on bb12)
  have Pb1 := Lib.hid (Pb1.out.on bb12)
  have Ps0 := Lib.hid (Ps0.out.on bb12)
  have Px0 := Lib.hid (Px0.out.on bb12)
  have Px1 := Lib.hid (Px1.out.on bb12)
  have Pg0 := Lib.hid (Pg0.out.on bb12)
  have Os0 := Lib.hid (Os0.out.on bb12)
  have Ox0 := Lib.hid (Ox0.out.on bb12)
  have Ox1 := Lib.hid (Ox1.out.on bb12)
  have Ox2 := Lib.hid (Ox2.out.on bb12)
  have Og0 := Lib.hid (Og0.out.on bb12)
  have Oy2 := Lib.hid (Oy2.out.on bb12)
  have B12 := Lib.hid (B11.out.trans (bb12.mono B11.out.size))
  have le12 : w11.heap.size + 0 ≤ w12.heap.size := by have := hb12.size; (try simp at this); omega
  clear hb12 bb12
  clear Oy2
  obtain ⟨lb0, b00⟩ := Pb0.out
  obtain ⟨lb1, b10⟩ := Pb1.out
  obtain ⟨ls0, s00⟩ := Ps0.out
  obtain ⟨lx0, x00⟩ := Px0.out
  obtain ⟨lx1, x10⟩ := Px1.out
  obtain ⟨lg0, g00⟩ := Pg0.out
  go_wp2_with fail
  refine (markC_any 1 Ox0.out hl0 (by omega) (by omega)).mono ?_
  rintro e w13 ⟨rfl, ho13, hf13⟩
  clear lb0 b00 lb1 b10 ls0 s00 lx0 x00 lx1 x10 lg0 g00
  have Pb0 := Lib.hid (Pb0.out.fr hf13 (by omega))
  have Pb1 := Lib.hid (Pb1.out.fr hf13 (by omega))
  have Ps0 := Lib.hid (Ps0.out.fr hf13 (by omega))
  have Px0 := Lib.hid (Px0.out.fr hf13 (by omega))
  have Px1 := Lib.hid (Px1.out.fr hf13 (by omega))
  have Pg0 := Lib.hid (Pg0.out.fr hf13 (by omega))
  have Os0 := Lib.hid (Os0.out.fr hf13 (by omega))
  have Ox1 := Lib.hid (Ox1.out.fr hf13 (by omega))
  have Ox2 := Lib.hid (Ox2.out.fr hf13 (by omega))
  have Og0 := Lib.hid (Og0.out.fr hf13 (by omega))
  have Ox0 := Lib.hid ho13
  have B13 := Lib.hid (B12.out.trans ((hf13.below (by omega)).mono (by omega)))
  have le13 : w12.heap.size ≤ w13.heap.size := hf13.2.2.2.1
  clear ho13 hf13
  obtain ⟨lb0, b00⟩ := Pb0.out
  obtain ⟨lb1, b10⟩ := Pb1.out
  obtain ⟨ls0, s00⟩ := Ps0.out
  obtain ⟨lx0, x00⟩ := Px0.out
  obtain ⟨lx1, x10⟩ := Px1.out
  obtain ⟨lg0, g00⟩ := Pg0.out
  go_wp2_with fail
  refine (markC_any (1 + (tot z0 : Int)) Ox1.out hl1 (by omega) (by omega)).mono ?_
  rintro e w14 ⟨rfl, ho14, hf14⟩
  clear lb0 b00 lb1 b10 ls0 s00 lx0 x00 lx1 x10 lg0 g00
  have Pb0 := Lib.hid (Pb0.out.fr hf14 (by omega))
  have Pb1 := Lib.hid (Pb1.out.fr hf14 (by omega))
  have Ps0 := Lib.hid (Ps0.out.fr hf14 (by omega))
  have Px0 := Lib.hid (Px0.out.fr hf14 (by omega))
  have Px1 := Lib.hid (Px1.out.fr hf14 (by omega))
  have Pg0 := Lib.hid (Pg0.out.fr hf14 (by omega))
  have Os0 := Lib.hid (Os0.out.fr hf14 (by omega))
  have Ox0 := Lib.hid (Ox0.out.fr hf14 (by omega))
  have Ox2 := Lib.hid (Ox2.out.fr hf14 (by omega))
  have Og0 := Lib.hid (Og0.out.fr hf14 (by omega))
  have Ox1 := Lib.hid ho14
  have B14 := Lib.hid (B13.out.trans ((hf14.below (by omega)).mono (by omega)))
  have le14 : w13.heap.size ≤ w14.heap.size := hf14.2.2.2.1
  clear ho14 hf14
  obtain ⟨lb0, b00⟩ := Pb0.out
  obtain ⟨lb1, b10⟩ := Pb1.out
  obtain ⟨ls0, s00⟩ := Ps0.out
  obtain ⟨lx0, x00⟩ := Px0.out
  obtain ⟨lx1, x10⟩ := Px1.out
  obtain ⟨lg0, g00⟩ := Pg0.out
  go_wp2_with fail
  refine (markX_any ((1 + (tot z0 : Int)) + (tot z1 : Int)) Ox2.out hl2 (by omega) (by omega)).mono ?_
  rintro e w15 ⟨rfl, ho15, hf15⟩
  clear lb0 b00 lb1 b10 ls0 s00 lx0 x00 lx1 x10 lg0 g00
  have Pb0 := Lib.hid (Pb0.out.fr hf15 (by omega))
  have Pb1 := Lib.hid (Pb1.out.fr hf15 (by omega))
  have Ps0 := Lib.hid (Ps0.out.fr hf15 (by omega))
  have Px0 := Lib.hid (Px0.out.fr hf15 (by omega))
  have Px1 := Lib.hid (Px1.out.fr hf15 (by omega))
  have Pg0 := Lib.hid (Pg0.out.fr hf15 (by omega))
  have Os0 := Lib.hid (Os0.out.fr hf15 (by omega))
  have Ox0 := Lib.hid (Ox0.out.fr hf15 (by omega))
  have Ox1 := Lib.hid (Ox1.out.fr hf15 (by omega))
  have Og0 := Lib.hid (Og0.out.fr hf15 (by omega))
  have Ox2 := Lib.hid ho15
  have B15 := Lib.hid (B14.out.trans ((hf15.below (by omega)).mono (by omega)))
  have le15 : w14.heap.size ≤ w15.heap.size := hf15.2.2.2.1
  clear ho15 hf15
  clear Ox0 Ox1 Ox2
  clear Px0
  clear Px1
  obtain ⟨lb0, b00⟩ := Pb0.out
  obtain ⟨lb1, b10⟩ := Pb1.out
  obtain ⟨ls0, s00⟩ := Ps0.out
  obtain ⟨lg0, g00⟩ := Pg0.out
  go_wp2_with fail
  refine (eqC_any (Og0.out.at hz0) (Os0.out.at hz0)).mono ?_
  rintro e w16 ⟨rfl, hb16⟩
  clear lb0 b00 lb1 b10 ls0 s00 lg0 g00
  have bb16 : Below w15.heap.size w15 w16 := hb16
  have Pb0 := Lib.hid (Pb0.out.on bb16)
  have Pb1 := Lib.hid (Pb1.out.on bb16)
  have Ps0 := Lib.hid (Ps0.out.on bb16)
  have Pg0 := Lib.hid (Pg0.out.on bb16)
  have Os0 := Lib.hid (Os0.out.on bb16)
  have Og0 := Lib.hid (Og0.out.on bb16)
  have B16 := Lib.hid (B15.out.trans (bb16.mono B15.out.size))
  have le16 : w15.heap.size + 0 ≤ w16.heap.size := by have := hb16.size; (try simp at this); omega
  clear hb16 bb16
  obtain ⟨lb0, b00⟩ := Pb0.out
  obtain ⟨lb1, b10⟩ := Pb1.out
  obtain ⟨ls0, s00⟩ := Ps0.out
  obtain ⟨lg0, g00⟩ := Pg0.out
  go_wp2_with fail
  refine (markC_any 1 Og0.out hz0 (by omega) (by omega)).mono ?_
  rintro e w17 ⟨rfl, ho17, hf17⟩
  clear lb0 b00 lb1 b10 ls0 s00 lg0 g00
  have Pb0 := Lib.hid (Pb0.out.fr hf17 (by omega))
  have Pb1 := Lib.hid (Pb1.out.fr hf17 (by omega))
  have Ps0 := Lib.hid (Ps0.out.fr hf17 (by omega))
  have Pg0 := Lib.hid (Pg0.out.fr hf17 (by omega))
  have Os0 := Lib.hid (Os0.out.fr hf17 (by omega))
  have Og0 := Lib.hid ho17
  have B17 := Lib.hid (B16.out.trans ((hf17.below (by omega)).mono (by omega)))
  have le17 : w16.heap.size ≤ w17.heap.size := hf17.2.2.2.1
  clear ho17 hf17
  have eq1 : ((1 + (tot Z0 : Int)) != (1 + (tot Z0 : Int))) = false := by simp
  obtain ⟨lb0, b00⟩ := Pb0.out
  obtain ⟨lb1, b10⟩ := Pb1.out
  obtain ⟨ls0, s00⟩ := Ps0.out
  obtain ⟨lg0, g00⟩ := Pg0.out
  go_wp2_with fail
  refine (heldC_any 1 (Og0.out.at (marksR_fit hz0 _)) hz0 (by omega) (by omega)).mono ?_
  rintro e w18 ⟨rfl, hb18⟩
  clear lb0 b00 lb1 b10 ls0 s00 lg0 g00
  have bb18 : Below w17.heap.size w17 w18 := hb18
  have Pb0 := Lib.hid (Pb0.out.on bb18)
  have Pb1 := Lib.hid (Pb1.out.on bb18)
  have Ps0 := Lib.hid (Ps0.out.on bb18)
  have Pg0 := Lib.hid (Pg0.out.on bb18)
  have Os0 := Lib.hid (Os0.out.on bb18)
  have Og0 := Lib.hid (Og0.out.on bb18)
  have B18 := Lib.hid (B17.out.trans (bb18.mono B17.out.size))
  have le18 : w17.heap.size + 0 ≤ w18.heap.size := by have := hb18.size; (try simp at this); omega
  clear hb18 bb18
  obtain ⟨lb0, b00⟩ := Pb0.out
  obtain ⟨lb1, b10⟩ := Pb1.out
  have := Pb0.out.ne
  have := Pb1.out.ne
  go_wp2_with fail
  go_cut [18, 19] (fun sp sk wx => sk = .int .i64 N1 ∧ Hid (∃ (L B E : Nat) (a : Option Addr) (c : Nat), sp = .pointer (some ⟨L, 0, none⟩) ∧ RegC w18 wx L B E  (.slice a Z0.length c) Z0))
  case first =>
    go_region_held3 (fun w' => w'.cell? ⟨w.heap.size, 0, none⟩ = some ((.slice a0 z0.length cap0)) ∧ w'.cell? ⟨(w.heap.size + 1), 0, none⟩ = some ((.slice a1 z1.length cap1))) (go_keep)
      (first
        | (go_at_call_of 10 (.agg #[(.slice a0 z0.length cap0)] : Value); refine (toC_any (by first | exact K0.out _ B18.out | exact (K0.out _ B18.out).drew | exact (K0.out _ B18.out).al | exact (K0.out _ B18.out).al.drew | exact (K0.out _ B18.out).drew.al)).mono ?_; rintro e wa19q0 ⟨_, rfl, hoa19q0, hr19q0⟩; have hs19q0 : Below w18.heap.size w18 wa19q0 := (by first | exact hr19q0 | exact undrew hr19q0 | exact up1 hr19q0 | exact up1 (undrew hr19q0) | exact undrew (up1 hr19q0)); have ht19q0 : Below w18.heap.size w18 wa19q0 := hs19q0; obtain ⟨_, _⟩ := bcell hr19q0; have sz19q0 := hr19q0.size; (try simp at sz19q0); (try have := (by omega : w18.heap.size < wa19q0.heap.size)); obtain ⟨_, _, rfl⟩ := hoa19q0.slice; obtain ⟨_, _⟩ := Pb0.out.on ht19q0; obtain ⟨_, _⟩ := Pb1.out.on ht19q0; have := (Pb0.out.on ht19q0).ne; have := (Pb1.out.on ht19q0).ne)
        | (go_at_call_of 10 (.agg #[(.slice a1 z1.length cap1)] : Value); refine (toC_any (by first | exact K1.out _ (B18.out.trans (ht19q0.mono B18.out.size)) | exact (K1.out _ (B18.out.trans (ht19q0.mono B18.out.size))).drew | exact (K1.out _ (B18.out.trans (ht19q0.mono B18.out.size))).al | exact (K1.out _ (B18.out.trans (ht19q0.mono B18.out.size))).al.drew | exact (K1.out _ (B18.out.trans (ht19q0.mono B18.out.size))).drew.al)).mono ?_; rintro e wa19q1 ⟨_, rfl, hoa19q1, hr19q1⟩; have hs19q1 : Below wa19q0.heap.size wa19q0 wa19q1 := (by first | exact hr19q1 | exact undrew hr19q1 | exact up1 hr19q1 | exact up1 (undrew hr19q1) | exact undrew (up1 hr19q1)); have ht19q1 : Below w18.heap.size w18 wa19q1 := ht19q0.trans (hs19q1.mono ht19q0.size); obtain ⟨_, _⟩ := bcell hr19q1; have sz19q1 := hr19q1.size; (try simp at sz19q1); (try have := (by omega : wa19q0.heap.size < wa19q1.heap.size)); (try have := (by omega : w18.heap.size < wa19q1.heap.size)); obtain ⟨_, _, rfl⟩ := hoa19q1.slice; obtain ⟨_, _⟩ := Pb0.out.on ht19q1; obtain ⟨_, _⟩ := Pb1.out.on ht19q1; have := (Pb0.out.on ht19q1).ne; have := (Pb1.out.on ht19q1).ne)
        | (go_at_call_of 11 ((.slice a2 z2.length cap2) : Value); refine (toI_any (by first | exact K2.out _ (B18.out.trans (ht19q1.mono B18.out.size)) | exact (K2.out _ (B18.out.trans (ht19q1.mono B18.out.size))).drew | exact (K2.out _ (B18.out.trans (ht19q1.mono B18.out.size))).al | exact (K2.out _ (B18.out.trans (ht19q1.mono B18.out.size))).al.drew | exact (K2.out _ (B18.out.trans (ht19q1.mono B18.out.size))).drew.al)).mono ?_; rintro e wa19q2 ⟨_, rfl, hoa19q2, hr19q2⟩; have hs19q2 : Below wa19q1.heap.size wa19q1 wa19q2 := (by first | exact hr19q2 | exact undrew hr19q2 | exact up1 hr19q2 | exact up1 (undrew hr19q2) | exact undrew (up1 hr19q2)); have ht19q2 : Below w18.heap.size w18 wa19q2 := ht19q1.trans (hs19q2.mono ht19q1.size); obtain ⟨_, _⟩ := bcell hr19q2; have sz19q2 := hr19q2.size; (try simp at sz19q2); (try have := (by omega : wa19q1.heap.size < wa19q2.heap.size)); (try have := (by omega : wa19q0.heap.size < wa19q2.heap.size)); (try have := (by omega : w18.heap.size < wa19q2.heap.size)); obtain ⟨_, _, rfl⟩ := hoa19q2.slice; obtain ⟨_, _⟩ := Pb0.out.on ht19q2; obtain ⟨_, _⟩ := Pb1.out.on ht19q2; have := (Pb0.out.on ht19q2).ne; have := (Pb1.out.on ht19q2).ne)
        | (go_at_call 12; refine (implMim_is (by first | exact (((hoa19q0.on hs19q1).on hs19q2)).at hl0 | exact ((((hoa19q0.on hs19q1).on hs19q2)).at hl0).drew | exact ((((hoa19q0.on hs19q1).on hs19q2)).at hl0).al | exact ((((hoa19q0.on hs19q1).on hs19q2)).at hl0).al.drew | exact ((((hoa19q0.on hs19q1).on hs19q2)).at hl0).drew.al) (by first | exact ((hoa19q1.on hs19q2)).at hl1 | exact (((hoa19q1.on hs19q2)).at hl1).drew | exact (((hoa19q1.on hs19q2)).at hl1).al | exact (((hoa19q1.on hs19q2)).at hl1).al.drew | exact (((hoa19q1.on hs19q2)).at hl1).drew.al) (by first | exact (hoa19q2).at hl2 | exact ((hoa19q2).at hl2).drew | exact ((hoa19q2).at hl2).al | exact ((hoa19q2).at hl2).al.drew | exact ((hoa19q2).at hl2).drew.al) HR.out (by first | exact TZ.out.on (B18.out.trans (ht19q2.mono B18.out.size)) | exact (TZ.out.on (B18.out.trans (ht19q2.mono B18.out.size))).al _ | exact ((TZ.out.on (B18.out.trans (ht19q2.mono B18.out.size))).drew 1) | exact (((TZ.out.on (B18.out.trans (ht19q2.mono B18.out.size))).al _).drew 1) | exact (((TZ.out.on (B18.out.trans (ht19q2.mono B18.out.size))).drew 1).al _))).mono ?_; rintro e w19 ⟨v19x0, rfl, ho19x0, hbz19'⟩; have hbz19 : Below wa19q2.heap.size wa19q2 w19 := (by first | exact hbz19' | exact undrew hbz19' | exact up1 hbz19' | exact up1 (undrew hbz19') | exact undrew (up1 hbz19')); have hb19 : Below w18.heap.size w18 w19 := ht19q2.trans (hbz19.mono ht19q2.size); obtain ⟨v19x0a, v19x0c, rfl⟩ := ho19x0.slice; obtain ⟨_, _⟩ := bcell hbz19'; have hsz19 := hbz19'.size; (try simp at hsz19); (try have := (by omega : wa19q2.heap.size < w19.heap.size)); (try have := (by omega : wa19q1.heap.size < w19.heap.size)); (try have := (by omega : wa19q0.heap.size < w19.heap.size)); (try have := (by omega : w18.heap.size < w19.heap.size)); obtain ⟨_, _⟩ := Pb0.out.on hb19; obtain ⟨_, _⟩ := Pb1.out.on hb19; have := (Pb0.out.on hb19).ne; have := (Pb1.out.on hb19).ne))
    all_goals
      go_wp2_with fail
      go_meet
      case rel => first
        | exact ⟨rfl, _, _, _, _, _, rfl, RegC.new (OwnRX.of ho19x0 (Nat.le_refl _)) (by have h0 := hs19q0.size; have h1 := hs19q1.size; have h2 := hs19q2.size; have hz := hbz19.size; first | omega | (simp; done) | (simp; omega)) hb19⟩
        | exact ⟨rfl, _, _, _, _, _, rfl, RegC.set ((PtC.new _ _ _).on hbz19') (OwnRX.of ho19x0 (Nat.le_refl _)) (by have h0 := hs19q0.size; have h1 := hs19q1.size; have h2 := hs19q2.size; have hz := hbz19.size; first | omega | (simp; done) | (simp; omega)) (by have h0 := hs19q0.size; have h1 := hs19q1.size; have h2 := hs19q2.size; have hz := hbz19.size; first | omega | (simp; done) | (simp; omega)) (by have h0 := hs19q0.size; have h1 := hs19q1.size; have h2 := hs19q2.size; have hz := hbz19.size; first | omega | (simp; done) | (simp; omega)) hb19⟩
        | exact ⟨rfl, _, _, _, _, _, rfl, RegC.set (((PtC.new _ _ _).on hr19q2).on hbz19) (OwnRX.of ho19x0 (Nat.le_refl _)) (by have h0 := hs19q0.size; have h1 := hs19q1.size; have h2 := hs19q2.size; have hz := hbz19.size; first | omega | (simp; done) | (simp; omega)) (by have h0 := hs19q0.size; have h1 := hs19q1.size; have h2 := hs19q2.size; have hz := hbz19.size; first | omega | (simp; done) | (simp; omega)) (by have h0 := hs19q0.size; have h1 := hs19q1.size; have h2 := hs19q2.size; have hz := hbz19.size; first | omega | (simp; done) | (simp; omega)) hb19⟩
        | exact ⟨rfl, _, _, _, _, _, rfl, RegC.set ((((PtC.new _ _ _).on hr19q1).on hs19q2).on hbz19) (OwnRX.of ho19x0 (Nat.le_refl _)) (by have h0 := hs19q0.size; have h1 := hs19q1.size; have h2 := hs19q2.size; have hz := hbz19.size; first | omega | (simp; done) | (simp; omega)) (by have h0 := hs19q0.size; have h1 := hs19q1.size; have h2 := hs19q2.size; have hz := hbz19.size; first | omega | (simp; done) | (simp; omega)) (by have h0 := hs19q0.size; have h1 := hs19q1.size; have h2 := hs19q2.size; have hz := hbz19.size; first | omega | (simp; done) | (simp; omega)) hb19⟩
        | exact ⟨rfl, _, _, _, _, _, rfl, RegC.set (((((PtC.new _ _ _).on hr19q0).on hs19q1).on hs19q2).on hbz19) (OwnRX.of ho19x0 (Nat.le_refl _)) (by have h0 := hs19q0.size; have h1 := hs19q1.size; have h2 := hs19q2.size; have hz := hbz19.size; first | omega | (simp; done) | (simp; omega)) (by have h0 := hs19q0.size; have h1 := hs19q1.size; have h2 := hs19q2.size; have hz := hbz19.size; first | omega | (simp; done) | (simp; omega)) (by have h0 := hs19q0.size; have h1 := hs19q1.size; have h2 := hs19q2.size; have hz := hbz19.size; first | omega | (simp; done) | (simp; omega)) hb19⟩
        | exact ⟨rfl, _, _, _, _, _, rfl, RegC.set (((PtC.new _ _ _).drew.on hr19q2).on hbz19) (OwnRX.of ho19x0 (Nat.le_refl _)) (by have h0 := hs19q0.size; have h1 := hs19q1.size; have h2 := hs19q2.size; have hz := hbz19.size; first | omega | (simp; done) | (simp; omega)) (by have h0 := hs19q0.size; have h1 := hs19q1.size; have h2 := hs19q2.size; have hz := hbz19.size; first | omega | (simp; done) | (simp; omega)) (by have h0 := hs19q0.size; have h1 := hs19q1.size; have h2 := hs19q2.size; have hz := hbz19.size; first | omega | (simp; done) | (simp; omega)) hb19⟩
        | exact ⟨rfl, _, _, _, _, _, rfl, RegC.set ((((PtC.new _ _ _).drew.on hr19q1).on hs19q2).on hbz19) (OwnRX.of ho19x0 (Nat.le_refl _)) (by have h0 := hs19q0.size; have h1 := hs19q1.size; have h2 := hs19q2.size; have hz := hbz19.size; first | omega | (simp; done) | (simp; omega)) (by have h0 := hs19q0.size; have h1 := hs19q1.size; have h2 := hs19q2.size; have hz := hbz19.size; first | omega | (simp; done) | (simp; omega)) (by have h0 := hs19q0.size; have h1 := hs19q1.size; have h2 := hs19q2.size; have hz := hbz19.size; first | omega | (simp; done) | (simp; omega)) hb19⟩
        | exact ⟨rfl, _, _, _, _, _, rfl, RegC.set (((((PtC.new _ _ _).drew.on hr19q0).on hs19q1).on hs19q2).on hbz19) (OwnRX.of ho19x0 (Nat.le_refl _)) (by have h0 := hs19q0.size; have h1 := hs19q1.size; have h2 := hs19q2.size; have hz := hbz19.size; first | omega | (simp; done) | (simp; omega)) (by have h0 := hs19q0.size; have h1 := hs19q1.size; have h2 := hs19q2.size; have hz := hbz19.size; first | omega | (simp; done) | (simp; omega)) (by have h0 := hs19q0.size; have h1 := hs19q1.size; have h2 := hs19q2.size; have hz := hbz19.size; first | omega | (simp; done) | (simp; omega)) hb19⟩
  obtain ⟨rfl, hc19⟩ := hcut
  obtain ⟨L19, B19x, E19, v19a, v19c, rfl, hp19, ho19, hB19, hd19, hL19, hb19⟩ := hc19.out
  clear hc19
  rename World => w19
  have bb19 := hb19
  have lE19 := own_le ho19
  have lL19 := hp19.1
  clear lb0 b00 lb1 b10
  have Pb0 := Lib.hid (Pb0.out.on bb19)
  have Pb1 := Lib.hid (Pb1.out.on bb19)
  have Ps0 := Lib.hid (Ps0.out.on bb19)
  have Pg0 := Lib.hid (Pg0.out.on bb19)
  have Os0 := Lib.hid (Os0.out.on bb19)
  have Og0 := Lib.hid (Og0.out.on bb19)
  have B19 := Lib.hid (B18.out.trans (bb19.mono B18.out.size))
  have le19 : w18.heap.size + 0 ≤ w19.heap.size := by have := hb19.size; (try simp at this); omega
  have Ph0 : Hid (PtC w19 L19  (.slice v19a Z0.length v19c)) := hp19
  have Oh0 : Hid (OwnRX B19x E19 w19 (.slice v19a Z0.length v19c) Z0) := ho19
  clear hp19 ho19 hb19 bb19
  obtain ⟨lb0, b00⟩ := Pb0.out
  obtain ⟨lb1, b10⟩ := Pb1.out
  obtain ⟨ls0, s00⟩ := Ps0.out
  obtain ⟨lg0, g00⟩ := Pg0.out
  obtain ⟨lh0, h00⟩ := Ph0.out
  go_wp2_with fail
  refine (eqC_any (Oh0.out.at hz0) (Os0.out.at hz0)).mono ?_
  rintro e w20 ⟨rfl, hb20⟩
  clear lb0 b00 lb1 b10 ls0 s00 lg0 g00 lh0 h00
  have bb20 : Below w19.heap.size w19 w20 := hb20
  have Pb0 := Lib.hid (Pb0.out.on bb20)
  have Pb1 := Lib.hid (Pb1.out.on bb20)
  have Ps0 := Lib.hid (Ps0.out.on bb20)
  have Pg0 := Lib.hid (Pg0.out.on bb20)
  have Ph0 := Lib.hid (Ph0.out.on bb20)
  have Os0 := Lib.hid (Os0.out.on bb20)
  have Og0 := Lib.hid (Og0.out.on bb20)
  have Oh0 := Lib.hid (Oh0.out.on bb20)
  have B20 := Lib.hid (B19.out.trans (bb20.mono B19.out.size))
  have le20 : w19.heap.size + 0 ≤ w20.heap.size := by have := hb20.size; (try simp at this); omega
  clear hb20 bb20
  obtain ⟨lb0, b00⟩ := Pb0.out
  obtain ⟨lb1, b10⟩ := Pb1.out
  obtain ⟨ls0, s00⟩ := Ps0.out
  obtain ⟨lg0, g00⟩ := Pg0.out
  obtain ⟨lh0, h00⟩ := Ph0.out
  go_wp2_with fail
  refine (heldC_any 1 (Og0.out.at (marksR_fit hz0 _)) hz0 (by omega) (by omega)).mono ?_
  rintro e w21 ⟨rfl, hb21⟩
  clear lb0 b00 lb1 b10 ls0 s00 lg0 g00 lh0 h00
  have bb21 : Below w20.heap.size w20 w21 := hb21
  have Pb0 := Lib.hid (Pb0.out.on bb21)
  have Pb1 := Lib.hid (Pb1.out.on bb21)
  have Ps0 := Lib.hid (Ps0.out.on bb21)
  have Pg0 := Lib.hid (Pg0.out.on bb21)
  have Ph0 := Lib.hid (Ph0.out.on bb21)
  have Os0 := Lib.hid (Os0.out.on bb21)
  have Og0 := Lib.hid (Og0.out.on bb21)
  have Oh0 := Lib.hid (Oh0.out.on bb21)
  have B21 := Lib.hid (B20.out.trans (bb21.mono B20.out.size))
  have le21 : w20.heap.size + 0 ≤ w21.heap.size := by have := hb21.size; (try simp at this); omega
  clear hb21 bb21
  go_wp2_with fail
  go_ret
  exact ⟨rfl, B21.out⟩
set_option maxRecDepth 100000 in
set_option maxHeartbeats 400000 in
theorem mapImage_long0 (a2 : Option Addr) (len2 cap2 : Nat) (u0 u1 : Value) (z0 z1 : List (List Int)) (w : World) (hm2 : len2 ≤ 9223372036854775807) (hm0 : RowsRaw w u0 z0) (hm1 : RowsRaw w u1 z1) (hx : 1048576 < (len2 : Int)) :
    Calls Tryz.prog 3 #[.agg #[u0], .agg #[u1], .slice a2 len2 cap2] w fun e w' => e = .returned (.bool true) ∧ Below w.heap.size w w' := by
  have HM0 := Lib.hid hm0
  obtain ⟨a0, cap0, rfl⟩ := hm0.slice
  have hq0 := hm0.len
  clear hm0
  have HM1 := Lib.hid hm1
  obtain ⟨a1, cap1, rfl⟩ := hm1.slice
  have hq1 := hm1.len
  clear hm1
  go_enter Tryz.func3, Tryz.ntmps3
  go_wp2_with fail
  go_ret
  exact ⟨rfl, al1 (al1 (Below.refl _ _) _) _⟩
set_option maxRecDepth 100000 in
set_option maxHeartbeats 400000 in
theorem mapImage_long1 (a2 : Option Addr) (len2 cap2 : Nat) (u0 u1 : Value) (z0 z1 : List (List Int)) (w : World) (hm2 : len2 ≤ 9223372036854775807) (hm0 : RowsRaw w u0 z0) (hm1 : RowsRaw w u1 z1) (h2 : ¬ 1048576 < (len2 : Int)) (hx : (1048576 : Int) < (z0.length : Int) + (tot z0 : Int)) :
    Calls Tryz.prog 3 #[.agg #[u0], .agg #[u1], .slice a2 len2 cap2] w fun e w' => e = .returned (.bool true) ∧ Below w.heap.size w w' := by
  have HM0 := Lib.hid hm0
  obtain ⟨a0, cap0, rfl⟩ := hm0.slice
  have hq0 := hm0.len
  clear hm0
  have HM1 := Lib.hid hm1
  obtain ⟨a1, cap1, rfl⟩ := hm1.slice
  have hq1 := hm1.len
  clear hm1
  go_enter Tryz.func3, Tryz.ntmps3
  go_wp2_with fail
  refine (szC_no (HM0.out.on (al1 (al1 (Below.refl _ _) _) _)) (by omega) (by omega) (by omega)).mono ?_
  rintro e wl0 ⟨rfl, hbl0⟩
  go_wp2_with fail
  go_ret
  exact ⟨rfl, ((al1 (al1 (Below.refl _ _) _) _).trans (hbl0.mono (by (try simp) <;> omega)))⟩
set_option maxRecDepth 100000 in
set_option maxHeartbeats 400000 in
theorem mapImage_long2 (a2 : Option Addr) (len2 cap2 : Nat) (u0 u1 : Value) (z0 z1 : List (List Int)) (w : World) (hm2 : len2 ≤ 9223372036854775807) (hm0 : RowsRaw w u0 z0) (hm1 : RowsRaw w u1 z1) (h2 : ¬ 1048576 < (len2 : Int)) (h0 : 0 ≤ 1048576 - ((z0.length : Int) + (tot z0 : Int))) (hx : 1048576 - ((z0.length : Int) + (tot z0 : Int)) < (z1.length : Int) + (tot z1 : Int)) :
    Calls Tryz.prog 3 #[.agg #[u0], .agg #[u1], .slice a2 len2 cap2] w fun e w' => e = .returned (.bool true) ∧ Below w.heap.size w w' := by
  have HM0 := Lib.hid hm0
  obtain ⟨a0, cap0, rfl⟩ := hm0.slice
  have hq0 := hm0.len
  clear hm0
  have HM1 := Lib.hid hm1
  obtain ⟨a1, cap1, rfl⟩ := hm1.slice
  have hq1 := hm1.len
  clear hm1
  go_enter Tryz.func3, Tryz.ntmps3
  go_wp2_with fail
  refine (szC_yes (HM0.out.on (al1 (al1 (Below.refl _ _) _) _)) (by omega) (by omega)).mono ?_
  rintro e wl0 ⟨rfl, hbl0⟩
  obtain ⟨hc, hf⟩ := bcell hbl0
  have hs0 := hbl0.size
  try simp at hs0
  have hBl0 : Below w.heap.size w wl0 := (al1 (al1 (Below.refl _ _) _) _).trans (hbl0.mono (by (try simp) <;> omega))
  go_wp2_with fail
  refine (szC_no (HM1.out.on hBl0) (by omega) (by omega) (by omega)).mono ?_
  rintro e wl1 ⟨rfl, hbl1⟩
  go_wp2_with fail
  go_ret
  exact ⟨rfl, (hBl0.trans (hbl1.mono (by (try simp) <;> omega)))⟩
theorem mapImage_of (a2 : Option Addr) (len2 cap2 : Nat) (z2 : List Int) (u0 u1 : Value) (z0 z1 : List (List Int)) (w : World)
    (hw0 : RowsRaw w u0 z0)
    (hw1 : RowsRaw w u1 z1)
    (hw2 : (a2 = none ∧ len2 = 0 ∧ cap2 = 0 ∧ z2 = []) ∨ ∃ x, a2 = some x ∧ len2 ≤ cap2 ∧ cap2 ≤ maxLen ∧ z2.length = cap2 ∧ (∀ i, i < z2.length → w.cell? (x.add i) = some (.int .i64 (z2.getD i 0))) ∧ ∀ n ∈ z2, (Lit.int .i64 n).wf = true)
    (hTz : Tz w) :
    Calls Tryz.prog 3 #[.agg #[u0], .agg #[u1], .slice a2 len2 cap2] w fun e w' => e = .returned (.bool true) ∧ Below w.heap.size w w' := by
  by_cases h2 : 1048576 < (len2 : Int)
  · exact mapImage_long0 a2 len2 cap2 u0 u1 z0 z1  w (len_max hw2) hw0 hw1  h2
  by_cases g0 : 1048576 < (z0.length + tot z0)
  · exact mapImage_long1 a2 len2 cap2 u0 u1 z0 z1  w (len_max hw2) hw0 hw1 h2 (by omega)
  by_cases g1 : 1048576 < (z0.length + tot z0) + (z1.length + tot z1)
  · exact mapImage_long2 a2 len2 cap2 u0 u1 z0 z1  w (len_max hw2) hw0 hw1 h2 (by omega) (by omega)
  have hx : (z2.take len2).length = len2 := row_len hw2
  have := mapImage_at  w (hw0.at (by omega) (by omega)) (hw1.at (by omega) (by omega)) (intsAt_in (by omega) hw2) (by omega) hTz
  exact this
end Go.Proofs.YtibdcejglkhcfaaGreatDoor
