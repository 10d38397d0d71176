/-
  Laws of maps: whatever the arguments, the program's answer is the model's, the arguments are as before, and the answer lies in new memory.
-/
import Derived.Test.YtibdcejglkhcfaaDoorCxA
import Derived.Test.YtibdcejglkhcfaaDoorMpK
import Derived.Deep.RegionHeld3
import Derived.StillTactics
import Derived.Deep.DeepCutAuto
namespace Go.Proofs.YtibdcejglkhcfaaDoor
open Go.RowKit
set_option linter.unusedVariables false

set_option maxRecDepth 100000 in
set_option maxHeartbeats 20000000 in
theorem composeMaps_at {u0 u1 u2 u3 u4 : Value} {z0 : List (List Int)} {z1 : List (List Int)} {z2 : List (List Int)} {z3 : List Int} {z4 : List Int} (w : World) (hu0 : RowsAt w u0 z0) (hu1 : RowsAt w u1 z1) (hu2 : RowsAt w u2 z2) (hu3 : IntsAt w u3 z3) (hu4 : IntsAt w u4 z4) (hsum : (z0.length + tot z0) + (z1.length + tot z1) + (z2.length + tot z2) ≤ 1048576) (hTz : Tz w) :
    Calls Tryd.prog 5 #[.agg #[u0], .agg #[u1], .agg #[u2], u3, u4] w fun e w' => e = .returned (.bool true) ∧ Below w.heap.size w w' := by
  have TZ := Lib.hid hTz
  clear hTz
  have Hu0 := Lib.hid hu0
  have hl0 : FitR z0 := ⟨by omega, by omega⟩
  have hc0 : z0.length ≤ 1048576 := hl0.1
  have ht0 : tot z0 ≤ 1048576 := hl0.2
  obtain ⟨a0, cap0, rfl⟩ := hu0.slice
  clear hu0
  have Hu1 := Lib.hid hu1
  have hl1 : FitR z1 := ⟨by omega, by omega⟩
  have hc1 : z1.length ≤ 1048576 := hl1.1
  have ht1 : tot z1 ≤ 1048576 := hl1.2
  obtain ⟨a1, cap1, rfl⟩ := hu1.slice
  clear hu1
  have Hu2 := Lib.hid hu2
  have hl2 : FitR z2 := ⟨by omega, by omega⟩
  have hc2 : z2.length ≤ 1048576 := hl2.1
  have ht2 : tot z2 ≤ 1048576 := hl2.2
  obtain ⟨a2, cap2, rfl⟩ := hu2.slice
  clear hu2
  have Hu3 := Lib.hid hu3
  obtain ⟨a3, cap3, rfl, hl3, _⟩ := hu3
  have Hu4 := Lib.hid hu4
  obtain ⟨a4, cap4, rfl, hl4, _⟩ := hu4
  have hl3' : ¬ 1048576 < (z3.length : Int) := by omega
  have hl4' : ¬ 1048576 < (z4.length : Int) := by omega
  obtain ⟨Z0, N1, hr⟩ := cm_has z0 z1 z2 z3 z4
  have hz0 : Z0.length ≤ 1048576 := hr.fit
  have HR : Hid (CmIs z0 z1 z2 z3 z4 Z0 N1) := hr
  clear hr
  have ec1 : (N1 != N1) = false := by simp
  have K0 : Hid (∀ w', Below w.heap.size w w' → RowsAt w' (.slice a0 z0.length cap0) z0) := fun w' hb => Hu0.out.on hb
  have K1 : Hid (∀ w', Below w.heap.size w w' → RowsAt w' (.slice a1 z1.length cap1) z1) := fun w' hb => Hu1.out.on hb
  have K2 : Hid (∀ w', Below w.heap.size w w' → RowsAt w' (.slice a2 z2.length cap2) z2) := fun w' hb => Hu2.out.on hb
  have K3 : Hid (∀ w', Below w.heap.size w w' → IntsAt w' (.slice a3 z3.length cap3) z3) := fun w' hb => Hu3.out.on hb
  have K4 : Hid (∀ w', Below w.heap.size w w' → IntsAt w' (.slice a4 z4.length cap4) z4) := fun w' hb => Hu4.out.on hb
  clear Hu0 Hu1 Hu2 Hu3 Hu4
  have B0 : Hid (Below w.heap.size w w) := Below.refl _ _
  go_enter Tryd.func5, Tryd.ntmps5
  go_wp2_with fail
  refine (szC_yes (K0.out _ (al1 (al1 (al1 B0.out _) _) _)).raw (by omega) (by omega)).mono ?_
  rintro e w1 ⟨rfl, hb1⟩
  have bb1 : Below w.heap.size w w1 := up3 hb1
  have Pb0 : Hid (PtC w1 w.heap.size  (.slice a0 z0.length cap0)) := ((PtC.new1 _ _ _ _).on ((Below.refl _ _).alloc (Nat.le_refl _) _)).on hb1
  have Pb1 : Hid (PtC w1 (w.heap.size + 1)  (.slice a1 z1.length cap1)) := by
    show PtC _ _ _
    have := (PtC.new1 _ _ _ _ : PtC _ _  (.slice a1 z1.length cap1)).on hb1
    simpa using this
  have Pb2 : Hid (PtC w1 (w.heap.size + 2)  (.slice a2 z2.length cap2)) := by
    show PtC _ _ _
    have := (PtC.new _ _ _ : PtC _ _  (.slice a2 z2.length cap2)).on hb1
    simpa using this
  have B1 := Lib.hid (B0.out.trans (bb1.mono B0.out.size))
  have le1 : w.heap.size + 3 ≤ w1.heap.size := by have := hb1.size; (try simp at this); omega
  clear hb1 bb1
  obtain ⟨lb0, b00⟩ := Pb0.out
  obtain ⟨lb1, b10⟩ := Pb1.out
  obtain ⟨lb2, b20⟩ := Pb2.out
  go_wp2_with fail
  refine (szC_yes (K1.out _ B1.out).raw (by omega) (by omega)).mono ?_
  rintro e w2 ⟨rfl, hb2⟩
  clear lb0 b00 lb1 b10 lb2 b20
  have bb2 : Below w1.heap.size w1 w2 := hb2
  have Pb0 := Lib.hid (Pb0.out.on bb2)
  have Pb1 := Lib.hid (Pb1.out.on bb2)
  have Pb2 := Lib.hid (Pb2.out.on bb2)
  have B2 := Lib.hid (B1.out.trans (bb2.mono B1.out.size))
  have le2 : w1.heap.size + 0 ≤ w2.heap.size := by have := hb2.size; (try simp at this); omega
  clear hb2 bb2
  obtain ⟨lb0, b00⟩ := Pb0.out
  obtain ⟨lb1, b10⟩ := Pb1.out
  obtain ⟨lb2, b20⟩ := Pb2.out
  go_wp2_with fail
  refine (szC_yes (K2.out _ B2.out).raw (by omega) (by omega)).mono ?_
  rintro e w3 ⟨rfl, hb3⟩
  clear lb0 b00 lb1 b10 lb2 b20
  have bb3 : Below w2.heap.size w2 w3 := hb3
  have Pb0 := Lib.hid (Pb0.out.on bb3)
  have Pb1 := Lib.hid (Pb1.out.on bb3)
  have Pb2 := Lib.hid (Pb2.out.on bb3)
  have B3 := Lib.hid (B2.out.trans (bb3.mono B2.out.size))
  have le3 : w2.heap.size + 0 ≤ w3.heap.size := by have := hb3.size; (try simp at this); omega
  clear hb3 bb3
  obtain ⟨lb0, b00⟩ := Pb0.out
  obtain ⟨lb1, b10⟩ := Pb1.out
  obtain ⟨lb2, b20⟩ := Pb2.out
  have := Pb0.out.ne
  have := Pb1.out.ne
  have := Pb2.out.ne
  go_wp2_with fail
  go_region_held3 (fun w' => w'.cell? ⟨w.heap.size, 0, none⟩ = some ((.slice a0 z0.length cap0)) ∧ w'.cell? ⟨(w.heap.size + 1), 0, none⟩ = some ((.slice a1 z1.length cap1)) ∧ w'.cell? ⟨(w.heap.size + 2), 0, none⟩ = some ((.slice a2 z2.length cap2))) (go_keep)
    (first
      | (go_at_call_of 12 (.agg #[(.slice a0 z0.length cap0)] : Value); refine (toC_any (by first | exact K0.out _ B3.out | exact (K0.out _ B3.out).drew | exact (K0.out _ B3.out).al | exact (K0.out _ B3.out).al.drew | exact (K0.out _ B3.out).drew.al)).mono ?_; rintro e wa4q0 ⟨_, rfl, hoa4q0, hr4q0⟩; have hs4q0 : Below w3.heap.size w3 wa4q0 := (by first | exact hr4q0 | exact undrew hr4q0 | exact up1 hr4q0 | exact up1 (undrew hr4q0) | exact undrew (up1 hr4q0)); have ht4q0 : Below w3.heap.size w3 wa4q0 := hs4q0; obtain ⟨_, _⟩ := bcell hr4q0; have sz4q0 := hr4q0.size; (try simp at sz4q0); (try have := (by omega : w3.heap.size < wa4q0.heap.size)); obtain ⟨_, _, rfl⟩ := hoa4q0.slice; obtain ⟨_, _⟩ := Pb0.out.on ht4q0; obtain ⟨_, _⟩ := Pb1.out.on ht4q0; obtain ⟨_, _⟩ := Pb2.out.on ht4q0; have := (Pb0.out.on ht4q0).ne; have := (Pb1.out.on ht4q0).ne; have := (Pb2.out.on ht4q0).ne)
      | (go_at_call_of 12 (.agg #[(.slice a1 z1.length cap1)] : Value); refine (toC_any (by first | exact K1.out _ (B3.out.trans (ht4q0.mono B3.out.size)) | exact (K1.out _ (B3.out.trans (ht4q0.mono B3.out.size))).drew | exact (K1.out _ (B3.out.trans (ht4q0.mono B3.out.size))).al | exact (K1.out _ (B3.out.trans (ht4q0.mono B3.out.size))).al.drew | exact (K1.out _ (B3.out.trans (ht4q0.mono B3.out.size))).drew.al)).mono ?_; rintro e wa4q1 ⟨_, rfl, hoa4q1, hr4q1⟩; have hs4q1 : Below wa4q0.heap.size wa4q0 wa4q1 := (by first | exact hr4q1 | exact undrew hr4q1 | exact up1 hr4q1 | exact up1 (undrew hr4q1) | exact undrew (up1 hr4q1)); have ht4q1 : Below w3.heap.size w3 wa4q1 := ht4q0.trans (hs4q1.mono ht4q0.size); obtain ⟨_, _⟩ := bcell hr4q1; have sz4q1 := hr4q1.size; (try simp at sz4q1); (try have := (by omega : wa4q0.heap.size < wa4q1.heap.size)); (try have := (by omega : w3.heap.size < wa4q1.heap.size)); obtain ⟨_, _, rfl⟩ := hoa4q1.slice; obtain ⟨_, _⟩ := Pb0.out.on ht4q1; obtain ⟨_, _⟩ := Pb1.out.on ht4q1; obtain ⟨_, _⟩ := Pb2.out.on ht4q1; have := (Pb0.out.on ht4q1).ne; have := (Pb1.out.on ht4q1).ne; have := (Pb2.out.on ht4q1).ne)
      | (go_at_call_of 12 (.agg #[(.slice a2 z2.length cap2)] : Value); refine (toC_any (by first | exact K2.out _ (B3.out.trans (ht4q1.mono B3.out.size)) | exact (K2.out _ (B3.out.trans (ht4q1.mono B3.out.size))).drew | exact (K2.out _ (B3.out.trans (ht4q1.mono B3.out.size))).al | exact (K2.out _ (B3.out.trans (ht4q1.mono B3.out.size))).al.drew | exact (K2.out _ (B3.out.trans (ht4q1.mono B3.out.size))).drew.al)).mono ?_; rintro e wa4q2 ⟨_, rfl, hoa4q2, hr4q2⟩; have hs4q2 : Below wa4q1.heap.size wa4q1 wa4q2 := (by first | exact hr4q2 | exact undrew hr4q2 | exact up1 hr4q2 | exact up1 (undrew hr4q2) | exact undrew (up1 hr4q2)); have ht4q2 : Below w3.heap.size w3 wa4q2 := ht4q1.trans (hs4q2.mono ht4q1.size); obtain ⟨_, _⟩ := bcell hr4q2; have sz4q2 := hr4q2.size; (try simp at sz4q2); (try have := (by omega : wa4q1.heap.size < wa4q2.heap.size)); (try have := (by omega : wa4q0.heap.size < wa4q2.heap.size)); (try have := (by omega : w3.heap.size < wa4q2.heap.size)); obtain ⟨_, _, rfl⟩ := hoa4q2.slice; obtain ⟨_, _⟩ := Pb0.out.on ht4q2; obtain ⟨_, _⟩ := Pb1.out.on ht4q2; obtain ⟨_, _⟩ := Pb2.out.on ht4q2; have := (Pb0.out.on ht4q2).ne; have := (Pb1.out.on ht4q2).ne; have := (Pb2.out.on ht4q2).ne)
      | (go_at_call_of 13 ((.slice a3 z3.length cap3) : Value); refine (toI_any (by first | exact K3.out _ (B3.out.trans (ht4q2.mono B3.out.size)) | exact (K3.out _ (B3.out.trans (ht4q2.mono B3.out.size))).drew | exact (K3.out _ (B3.out.trans (ht4q2.mono B3.out.size))).al | exact (K3.out _ (B3.out.trans (ht4q2.mono B3.out.size))).al.drew | exact (K3.out _ (B3.out.trans (ht4q2.mono B3.out.size))).drew.al)).mono ?_; rintro e wa4q3 ⟨_, rfl, hoa4q3, hr4q3⟩; have hs4q3 : Below wa4q2.heap.size wa4q2 wa4q3 := (by first | exact hr4q3 | exact undrew hr4q3 | exact up1 hr4q3 | exact up1 (undrew hr4q3) | exact undrew (up1 hr4q3)); have ht4q3 : Below w3.heap.size w3 wa4q3 := ht4q2.trans (hs4q3.mono ht4q2.size); obtain ⟨_, _⟩ := bcell hr4q3; have sz4q3 := hr4q3.size; (try simp at sz4q3); (try have := (by omega : wa4q2.heap.size < wa4q3.heap.size)); (try have := (by omega : wa4q1.heap.size < wa4q3.heap.size)); (try have := (by omega : wa4q0.heap.size < wa4q3.heap.size)); (try have := (by omega : w3.heap.size < wa4q3.heap.size)); obtain ⟨_, _, rfl⟩ := hoa4q3.slice; obtain ⟨_, _⟩ := Pb0.out.on ht4q3; obtain ⟨_, _⟩ := Pb1.out.on ht4q3; obtain ⟨_, _⟩ := Pb2.out.on ht4q3; have := (Pb0.out.on ht4q3).ne; have := (Pb1.out.on ht4q3).ne; have := (Pb2.out.on ht4q3).ne)
      | (go_at_call_of 13 ((.slice a4 z4.length cap4) : Value); refine (toI_any (by first | exact K4.out _ (B3.out.trans (ht4q3.mono B3.out.size)) | exact (K4.out _ (B3.out.trans (ht4q3.mono B3.out.size))).drew | exact (K4.out _ (B3.out.trans (ht4q3.mono B3.out.size))).al | exact (K4.out _ (B3.out.trans (ht4q3.mono B3.out.size))).al.drew | exact (K4.out _ (B3.out.trans (ht4q3.mono B3.out.size))).drew.al)).mono ?_; rintro e wa4q4 ⟨_, rfl, hoa4q4, hr4q4⟩; have hs4q4 : Below wa4q3.heap.size wa4q3 wa4q4 := (by first | exact hr4q4 | exact undrew hr4q4 | exact up1 hr4q4 | exact up1 (undrew hr4q4) | exact undrew (up1 hr4q4)); have ht4q4 : Below w3.heap.size w3 wa4q4 := ht4q3.trans (hs4q4.mono ht4q3.size); obtain ⟨_, _⟩ := bcell hr4q4; have sz4q4 := hr4q4.size; (try simp at sz4q4); (try have := (by omega : wa4q3.heap.size < wa4q4.heap.size)); (try have := (by omega : wa4q2.heap.size < wa4q4.heap.size)); (try have := (by omega : wa4q1.heap.size < wa4q4.heap.size)); (try have := (by omega : wa4q0.heap.size < wa4q4.heap.size)); (try have := (by omega : w3.heap.size < wa4q4.heap.size)); obtain ⟨_, _, rfl⟩ := hoa4q4.slice; obtain ⟨_, _⟩ := Pb0.out.on ht4q4; obtain ⟨_, _⟩ := Pb1.out.on ht4q4; obtain ⟨_, _⟩ := Pb2.out.on ht4q4; have := (Pb0.out.on ht4q4).ne; have := (Pb1.out.on ht4q4).ne; have := (Pb2.out.on ht4q4).ne)
      | (go_at_call 19; refine (specCM_is (by first | exact (((((hoa4q0.on hs4q1).on hs4q2).on hs4q3).on hs4q4)).atQ hl0 | exact ((((((hoa4q0.on hs4q1).on hs4q2).on hs4q3).on hs4q4)).atQ hl0).drew | exact ((((((hoa4q0.on hs4q1).on hs4q2).on hs4q3).on hs4q4)).atQ hl0).al | exact ((((((hoa4q0.on hs4q1).on hs4q2).on hs4q3).on hs4q4)).atQ hl0).al.drew | exact ((((((hoa4q0.on hs4q1).on hs4q2).on hs4q3).on hs4q4)).atQ hl0).drew.al) (by first | exact ((((hoa4q1.on hs4q2).on hs4q3).on hs4q4)).atQ hl1 | exact (((((hoa4q1.on hs4q2).on hs4q3).on hs4q4)).atQ hl1).drew | exact (((((hoa4q1.on hs4q2).on hs4q3).on hs4q4)).atQ hl1).al | exact (((((hoa4q1.on hs4q2).on hs4q3).on hs4q4)).atQ hl1).al.drew | exact (((((hoa4q1.on hs4q2).on hs4q3).on hs4q4)).atQ hl1).drew.al) (by first | exact (((hoa4q2.on hs4q3).on hs4q4)).atQ hl2 | exact ((((hoa4q2.on hs4q3).on hs4q4)).atQ hl2).drew | exact ((((hoa4q2.on hs4q3).on hs4q4)).atQ hl2).al | exact ((((hoa4q2.on hs4q3).on hs4q4)).atQ hl2).al.drew | exact ((((hoa4q2.on hs4q3).on hs4q4)).atQ hl2).drew.al) (by first | exact ((hoa4q3.on hs4q4)).at hl3 | exact (((hoa4q3.on hs4q4)).at hl3).drew | exact (((hoa4q3.on hs4q4)).at hl3).al | exact (((hoa4q3.on hs4q4)).at hl3).al.drew | exact (((hoa4q3.on hs4q4)).at hl3).drew.al) (by first | exact (hoa4q4).at hl4 | exact ((hoa4q4).at hl4).drew | exact ((hoa4q4).at hl4).al | exact ((hoa4q4).at hl4).al.drew | exact ((hoa4q4).at hl4).drew.al) HR.out).mono ?_; rintro e w4 ⟨v4x0, rfl, ho4x0, hbz4'⟩; have hbz4 : Below wa4q4.heap.size wa4q4 w4 := (by first | exact hbz4' | exact undrew hbz4' | exact up1 hbz4' | exact up1 (undrew hbz4') | exact undrew (up1 hbz4')); have hb4 : Below w3.heap.size w3 w4 := ht4q4.trans (hbz4.mono ht4q4.size); obtain ⟨v4x0a, v4x0c, rfl⟩ := ho4x0.slice; obtain ⟨_, _⟩ := bcell hbz4'; have hsz4 := hbz4'.size; (try simp at hsz4); (try have := (by omega : wa4q4.heap.size < w4.heap.size)); (try have := (by omega : wa4q3.heap.size < w4.heap.size)); (try have := (by omega : wa4q2.heap.size < w4.heap.size)); (try have := (by omega : wa4q1.heap.size < w4.heap.size)); (try have := (by omega : wa4q0.heap.size < w4.heap.size)); (try have := (by omega : w3.heap.size < w4.heap.size)); obtain ⟨_, _⟩ := Pb0.out.on hb4; obtain ⟨_, _⟩ := Pb1.out.on hb4; obtain ⟨_, _⟩ := Pb2.out.on hb4; have := (Pb0.out.on hb4).ne; have := (Pb1.out.on hb4).ne; have := (Pb2.out.on hb4).ne))
  have hyz4 : w3.heap.size ≤ wa4q4.heap.size := ht4q4.size
  have bb4 := hb4
  clear lb0 b00 lb1 b10 lb2 b20
  have Pb0 := Lib.hid (Pb0.out.on bb4)
  have Pb1 := Lib.hid (Pb1.out.on bb4)
  have Pb2 := Lib.hid (Pb2.out.on bb4)
  have B4 := Lib.hid (B3.out.trans (bb4.mono B3.out.size))
  have le4 : w3.heap.size + 0 ≤ w4.heap.size := by have := hb4.size; (try simp at this); omega
  have Os0 : Hid (OwnX w3.heap.size w4.heap.size w4 (.slice v4x0a Z0.length v4x0c) Z0) := OwnX.of ho4x0 hyz4
  clear ho4x0 hbz4 hbz4' hyz4 hb4 bb4 hoa4q0 hr4q0 hs4q0 ht4q0 hoa4q1 hr4q1 hs4q1 ht4q1 hoa4q2 hr4q2 hs4q2 ht4q2 hoa4q3 hr4q3 hs4q3 ht4q3 hoa4q4 hr4q4 hs4q4 ht4q4
  obtain ⟨lb0, b00⟩ := Pb0.out
  obtain ⟨lb1, b10⟩ := Pb1.out
  obtain ⟨lb2, b20⟩ := Pb2.out
  go_wp2_with fail
  refine (toC_any (K0.out _ B4.out)).mono ?_
  rintro e w5 ⟨v5, rfl, ho5, hb5⟩
  clear lb0 b00 lb1 b10 lb2 b20
  have bb5 : Below w4.heap.size w4 w5 := hb5
  have Pb0 := Lib.hid (Pb0.out.on bb5)
  have Pb1 := Lib.hid (Pb1.out.on bb5)
  have Pb2 := Lib.hid (Pb2.out.on bb5)
  have Os0 := Lib.hid (Os0.out.on bb5)
  have B5 := Lib.hid (B4.out.trans (bb5.mono B4.out.size))
  have le5 : w4.heap.size + 0 ≤ w5.heap.size := by have := hb5.size; (try simp at this); omega
  obtain ⟨v5a, v5c, rfl⟩ := ho5.slice
  have Ox0 : Hid (OwnRX (w4.heap.size + 0) w5.heap.size w5 (.slice v5a z0.length v5c) z0) := OwnRX.of ho5 (by simp)
  clear ho5 hb5 bb5
  obtain ⟨lb0, b00⟩ := Pb0.out
  obtain ⟨lb1, b10⟩ := Pb1.out
  obtain ⟨lb2, b20⟩ := Pb2.out
  go_wp2_with fail
  refine (toC_any (K1.out _ (al1 B5.out _))).mono ?_
  rintro e w6 ⟨v6, rfl, ho6, hb6⟩
  clear lb0 b00 lb1 b10 lb2 b20
  have bb6 : Below w5.heap.size w5 w6 := up1 hb6
  have Pb0 := Lib.hid (Pb0.out.on bb6)
  have Pb1 := Lib.hid (Pb1.out.on bb6)
  have Pb2 := Lib.hid (Pb2.out.on bb6)
  have Px0 : Hid (PtC w6 w5.heap.size  (.slice v5a z0.length v5c)) := (PtC.new _ _ _).on hb6
  have Os0 := Lib.hid (Os0.out.on bb6)
  have Ox0 := Lib.hid (Ox0.out.on bb6)
  have B6 := Lib.hid (B5.out.trans (bb6.mono B5.out.size))
  have le6 : w5.heap.size + 1 ≤ w6.heap.size := by have := hb6.size; (try simp at this); omega
  obtain ⟨v6a, v6c, rfl⟩ := ho6.slice
  have Ox1 : Hid (OwnRX (w5.heap.size + 1) w6.heap.size w6 (.slice v6a z1.length v6c) z1) := OwnRX.of ho6 (by simp)
  clear ho6 hb6 bb6
  obtain ⟨lb0, b00⟩ := Pb0.out
  obtain ⟨lb1, b10⟩ := Pb1.out
  obtain ⟨lb2, b20⟩ := Pb2.out
  obtain ⟨lx0, x00⟩ := Px0.out
  go_wp2_with fail
  refine (toC_any (K2.out _ (al1 B6.out _))).mono ?_
  rintro e w7 ⟨v7, rfl, ho7, hb7⟩
  clear lb0 b00 lb1 b10 lb2 b20 lx0 x00
  have bb7 : Below w6.heap.size w6 w7 := up1 hb7
  have Pb0 := Lib.hid (Pb0.out.on bb7)
  have Pb1 := Lib.hid (Pb1.out.on bb7)
  have Pb2 := Lib.hid (Pb2.out.on bb7)
  have Px0 := Lib.hid (Px0.out.on bb7)
  have Px1 : Hid (PtC w7 w6.heap.size  (.slice v6a z1.length v6c)) := (PtC.new _ _ _).on hb7
  have Os0 := Lib.hid (Os0.out.on bb7)
  have Ox0 := Lib.hid (Ox0.out.on bb7)
  have Ox1 := Lib.hid (Ox1.out.on bb7)
  have B7 := Lib.hid (B6.out.trans (bb7.mono B6.out.size))
  have le7 : w6.heap.size + 1 ≤ w7.heap.size := by have := hb7.size; (try simp at this); omega
  obtain ⟨v7a, v7c, rfl⟩ := ho7.slice
  have Ox2 : Hid (OwnRX (w6.heap.size + 1) w7.heap.size w7 (.slice v7a z2.length v7c) z2) := OwnRX.of ho7 (by simp)
  clear ho7 hb7 bb7
  obtain ⟨lb0, b00⟩ := Pb0.out
  obtain ⟨lb1, b10⟩ := Pb1.out
  obtain ⟨lb2, b20⟩ := Pb2.out
  obtain ⟨lx0, x00⟩ := Px0.out
  obtain ⟨lx1, x10⟩ := Px1.out
  go_wp2_with fail
  refine (toI_any (K3.out _ (al1 B7.out _))).mono ?_
  rintro e w8 ⟨v8, rfl, ho8, hb8⟩
  clear lb0 b00 lb1 b10 lb2 b20 lx0 x00 lx1 x10
  have bb8 : Below w7.heap.size w7 w8 := up1 hb8
  have Pb0 := Lib.hid (Pb0.out.on bb8)
  have Pb1 := Lib.hid (Pb1.out.on bb8)
  have Pb2 := Lib.hid (Pb2.out.on bb8)
  have Px0 := Lib.hid (Px0.out.on bb8)
  have Px1 := Lib.hid (Px1.out.on bb8)
  have Px2 : Hid (PtC w8 w7.heap.size  (.slice v7a z2.length v7c)) := (PtC.new _ _ _).on hb8
  have Os0 := Lib.hid (Os0.out.on bb8)
  have Ox0 := Lib.hid (Ox0.out.on bb8)
  have Ox1 := Lib.hid (Ox1.out.on bb8)
  have Ox2 := Lib.hid (Ox2.out.on bb8)
  have B8 := Lib.hid (B7.out.trans (bb8.mono B7.out.size))
  have le8 : w7.heap.size + 1 ≤ w8.heap.size := by have := hb8.size; (try simp at this); omega
  obtain ⟨v8a, v8c, rfl⟩ := ho8.slice
  have Ox3 : Hid (OwnX (w7.heap.size + 1) w8.heap.size w8 (.slice v8a z3.length v8c) z3) := OwnX.of ho8 (by simp)
  clear ho8 hb8 bb8
  obtain ⟨lb0, b00⟩ := Pb0.out
  obtain ⟨lb1, b10⟩ := Pb1.out
  obtain ⟨lb2, b20⟩ := Pb2.out
  obtain ⟨lx0, x00⟩ := Px0.out
  obtain ⟨lx1, x10⟩ := Px1.out
  obtain ⟨lx2, x20⟩ := Px2.out
  go_wp2_with fail
  refine (toI_any (K4.out _ B8.out)).mono ?_
  rintro e w9 ⟨v9, rfl, ho9, hb9⟩
  clear lb0 b00 lb1 b10 lb2 b20 lx0 x00 lx1 x10 lx2 x20
  have bb9 : Below w8.heap.size w8 w9 := hb9
  have Pb0 := Lib.hid (Pb0.out.on bb9)
  have Pb1 := Lib.hid (Pb1.out.on bb9)
  have Pb2 := Lib.hid (Pb2.out.on bb9)
  have Px0 := Lib.hid (Px0.out.on bb9)
  have Px1 := Lib.hid (Px1.out.on bb9)
  have Px2 := Lib.hid (Px2.out.on bb9)
  have Os0 := Lib.hid (Os0.out.on bb9)
  have Ox0 := Lib.hid (Ox0.out.on bb9)
  have Ox1 := Lib.hid (Ox1.out.on bb9)
  have Ox2 := Lib.hid (Ox2.out.on bb9)
  have Ox3 := Lib.hid (Ox3.out.on bb9)
  have B9 := Lib.hid (B8.out.trans (bb9.mono B8.out.size))
  have le9 : w8.heap.size + 0 ≤ w9.heap.size := by have := hb9.size; (try simp at this); omega
  obtain ⟨v9a, v9c, rfl⟩ := ho9.slice
  have Ox4 : Hid (OwnX (w8.heap.size + 0) w9.heap.size w9 (.slice v9a z4.length v9c) z4) := OwnX.of ho9 (by simp)
  clear ho9 hb9 bb9
  obtain ⟨lb0, b00⟩ := Pb0.out
  obtain ⟨lb1, b10⟩ := Pb1.out
  obtain ⟨lb2, b20⟩ := Pb2.out
  obtain ⟨lx0, x00⟩ := Px0.out
  obtain ⟨lx1, x10⟩ := Px1.out
  obtain ⟨lx2, x20⟩ := Px2.out
  go_wp2_with fail
  refine (implCM_is (Ox0.out.at hl0) (Ox1.out.at hl1) (Ox2.out.at hl2) (Ox3.out.at hl3) (Ox4.out.at hl4) HR.out (TZ.out.on B9.out)).mono ?_
  rintro e w10 ⟨v10x0, rfl, ho10x0, hb10⟩
  clear lb0 b00 lb1 b10 lb2 b20 lx0 x00 lx1 x10 lx2 x20
  have bb10 : Below w9.heap.size w9 w10 := hb10
  have Pb0 := Lib.hid (Pb0.out.on bb10)
  have Pb1 := Lib.hid (Pb1.out.on bb10)
  have Pb2 := Lib.hid (Pb2.out.on bb10)
  have Px0 := Lib.hid (Px0.out.on bb10)
  have Px1 := Lib.hid (Px1.out.on bb10)
  have Px2 := Lib.hid (Px2.out.on bb10)
  have Os0 := Lib.hid (Os0.out.on bb10)
  have Ox0 := Lib.hid (Ox0.out.on bb10)
  have Ox1 := Lib.hid (Ox1.out.on bb10)
  have Ox2 := Lib.hid (Ox2.out.on bb10)
  have Ox3 := Lib.hid (Ox3.out.on bb10)
  have Ox4 := Lib.hid (Ox4.out.on bb10)
  have B10 := Lib.hid (B9.out.trans (bb10.mono B9.out.size))
  have le10 : w9.heap.size + 0 ≤ w10.heap.size := by have := hb10.size; (try simp at this); omega
  obtain ⟨v10x0a, v10x0c, rfl⟩ := ho10x0.slice
  have Og0 : Hid (OwnX (w9.heap.size + 0) w10.heap.size w10 (.slice v10x0a Z0.length v10x0c) Z0) := OwnX.of ho10x0 (by simp)
  clear ho10x0 hb10 bb10
  obtain ⟨lb0, b00⟩ := Pb0.out
  obtain ⟨lb1, b10⟩ := Pb1.out
  obtain ⟨lb2, b20⟩ := Pb2.out
  obtain ⟨lx0, x00⟩ := Px0.out
  obtain ⟨lx1, x10⟩ := Px1.out
  obtain ⟨lx2, x20⟩ := Px2.out
  go_wp2_with fail
  refine (eqL_any (Og0.out.at hz0) (Os0.out.at hz0)).mono ?_
  rintro e w11 ⟨rfl, hb11⟩
  clear lb0 b00 lb1 b10 lb2 b20 lx0 x00 lx1 x10 lx2 x20
  have bb11 : Below w10.heap.size w10 w11 := hb11
  have Pb0 := Lib.hid (Pb0.out.on bb11)
  have Pb1 := Lib.hid (Pb1.out.on bb11)
  have Pb2 := Lib.hid (Pb2.out.on bb11)
  have Px0 := Lib.hid (Px0.out.on bb11)
  have Px1 := Lib.hid (Px1.out.on bb11)
  have Px2 := Lib.hid (Px2.out.on bb11)
  have Os0 := Lib.hid (Os0.out.on bb11)
  have Ox0 := Lib.hid (Ox0.out.on bb11)
  have Ox1 := Lib.hid (Ox1.out.on bb11)
  have Ox2 := Lib.hid (Ox2.out.on bb11)
  have Ox3 := Lib.hid (Ox3.out.on bb11)
  have Ox4 := Lib.hid (Ox4.out.on bb11)
  have Og0 := Lib.hid (Og0.out.on bb11)
  have B11 := Lib.hid (B10.out.trans (bb11.mono B10.out.size))
  have le11 : w10.heap.size + 0 ≤ w11.heap.size := by have := hb11.size; (try simp at this); omega
  clear hb11 bb11
  obtain ⟨lb0, b00⟩ := Pb0.out
  obtain ⟨lb1, b10⟩ := Pb1.out
  obtain ⟨lb2, b20⟩ := Pb2.out
  obtain ⟨lx0, x00⟩ := Px0.out
  obtain ⟨lx1, x10⟩ := Px1.out
  obtain ⟨lx2, x20⟩ := Px2.out
  go_wp2_with fail
  go_region_held3 (fun w' => w'.cell? ⟨w5.heap.size, 0, none⟩ = some ((.slice v5a z0.length v5c)) ∧ w'.cell? ⟨w.heap.size, 0, none⟩ = some ((.slice a0 z0.length cap0))) (go_keep)
    (first
      | (go_at_call 12; refine (toC_any (K0.out _ B11.out).drew).mono ?_; rintro e wa12 ⟨va12, rfl, hoa12, hba12'⟩; have hba12 := undrew hba12'; obtain ⟨va12a, va12c, rfl⟩ := hoa12.slice; obtain ⟨_, _⟩ := Px0.out.on hba12; obtain ⟨_, _⟩ := Pb0.out.on hba12)
      | (go_at_call 15; refine (eqC_any ((Ox0.out.on hba12).at hl0) (hoa12.at hl0)).mono ?_; rintro e w12 ⟨rfl, hbb12⟩; obtain ⟨_, _⟩ := Px0.out.on (hba12.trans (hbb12.mono hba12.size)); obtain ⟨_, _⟩ := Pb0.out.on (hba12.trans (hbb12.mono hba12.size))))
  have hb12 : Below w11.heap.size w11 w12 := hba12.trans (hbb12.mono hba12.size)
  have bb12 := hb12
  clear lb0 b00 lb1 b10 lb2 b20 lx0 x00 lx1 x10 lx2 x20
  clear hoa12 hba12 hbb12
  have Pb0 := Lib.hid (Pb0.out.on bb12)
  have Pb1 := Lib.hid (Pb1.out.on bb12)
  have Pb2 := Lib.hid (Pb2.out.on bb12)
  have Px0 := Lib.hid (Px0.out.on bb12)
  have Px1 := Lib.hid (Px1.out.on bb12)
  have Px2 := Lib.hid (Px2.out.on bb12)
  have Os0 := Lib.hid (Os0.out.on bb12)
  have Ox0 := Lib.hid (Ox0.out.on bb12)
  have Ox1 := Lib.hid (Ox1.out.on bb12)
  have Ox2 := Lib.hid (Ox2.out.on bb12)
  have Ox3 := Lib.hid (Ox3.out.on bb12)
  have Ox4 := Lib.hid (Ox4.out.on bb12)
  have Og0 := Lib.hid (Og0.out.on bb12)
  have B12 := Lib.hid (B11.out.trans (bb12.mono B11.out.size))
  have le12 : w11.heap.size + 0 ≤ w12.heap.size := by have := hb12.size; (try simp at this); omega
  clear hb12 bb12
  obtain ⟨lb0, b00⟩ := Pb0.out
  obtain ⟨lb1, b10⟩ := Pb1.out
  obtain ⟨lb2, b20⟩ := Pb2.out
  obtain ⟨lx0, x00⟩ := Px0.out
  obtain ⟨lx1, x10⟩ := Px1.out
  obtain ⟨lx2, x20⟩ := Px2.out
  go_wp2_with fail
  go_region_held3 (fun w' => w'.cell? ⟨w6.heap.size, 0, none⟩ = some ((.slice v6a z1.length v6c)) ∧ w'.cell? ⟨(w.heap.size + 1), 0, none⟩ = some ((.slice a1 z1.length cap1))) (go_keep)
    (first
      | (go_at_call 12; refine (toC_any (K1.out _ B12.out).drew).mono ?_; rintro e wa13 ⟨va13, rfl, hoa13, hba13'⟩; have hba13 := undrew hba13'; obtain ⟨va13a, va13c, rfl⟩ := hoa13.slice; obtain ⟨_, _⟩ := Px1.out.on hba13; obtain ⟨_, _⟩ := Pb1.out.on hba13)
      | (go_at_call 15; refine (eqC_any ((Ox1.out.on hba13).at hl1) (hoa13.at hl1)).mono ?_; rintro e w13 ⟨rfl, hbb13⟩; obtain ⟨_, _⟩ := Px1.out.on (hba13.trans (hbb13.mono hba13.size)); obtain ⟨_, _⟩ := Pb1.out.on (hba13.trans (hbb13.mono hba13.size))))
  have hb13 : Below w12.heap.size w12 w13 := hba13.trans (hbb13.mono hba13.size)
  have bb13 := hb13
  clear lb0 b00 lb1 b10 lb2 b20 lx0 x00 lx1 x10 lx2 x20
  clear hoa13 hba13 hbb13
  have Pb0 := Lib.hid (Pb0.out.on bb13)
  have Pb1 := Lib.hid (Pb1.out.on bb13)
  have Pb2 := Lib.hid (Pb2.out.on bb13)
  have Px0 := Lib.hid (Px0.out.on bb13)
  have Px1 := Lib.hid (Px1.out.on bb13)
  have Px2 := Lib.hid (Px2.out.on bb13)
  have Os0 := Lib.hid (Os0.out.on bb13)
  have Ox0 := Lib.hid (Ox0.out.on bb13)
  have Ox1 := Lib.hid (Ox1.out.on bb13)
  have Ox2 := Lib.hid (Ox2.out.on bb13)
  have Ox3 := Lib.hid (Ox3.out.on bb13)
  have Ox4 := Lib.hid (Ox4.out.on bb13)
  have Og0 := Lib.hid (Og0.out.on bb13)
  have B13 := Lib.hid (B12.out.trans (bb13.mono B12.out.size))
  have le13 : w12.heap.size + 0 ≤ w13.heap.size := by have := hb13.size; (try simp at this); omega
  clear hb13 bb13
  obtain ⟨lb0, b00⟩ := Pb0.out
  obtain ⟨lb1, b10⟩ := Pb1.out
  obtain ⟨lb2, b20⟩ := Pb2.out
  obtain ⟨lx0, x00⟩ := Px0.out
  obtain ⟨lx1, x10⟩ := Px1.out
  obtain ⟨lx2, x20⟩ := Px2.out
  go_wp2_with fail
  go_region_held3 (fun w' => w'.cell? ⟨w7.heap.size, 0, none⟩ = some ((.slice v7a z2.length v7c)) ∧ w'.cell? ⟨(w.heap.size + 2), 0, none⟩ = some ((.slice a2 z2.length cap2))) (go_keep)
    (first
      | (go_at_call 12; refine (toC_any (K2.out _ B13.out).drew).mono ?_; rintro e wa14 ⟨va14, rfl, hoa14, hba14'⟩; have hba14 := undrew hba14'; obtain ⟨va14a, va14c, rfl⟩ := hoa14.slice; obtain ⟨_, _⟩ := Px2.out.on hba14; obtain ⟨_, _⟩ := Pb2.out.on hba14)
      | (go_at_call 15; refine (eqC_any ((Ox2.out.on hba14).at hl2) (hoa14.at hl2)).mono ?_; rintro e w14 ⟨rfl, hbb14⟩; obtain ⟨_, _⟩ := Px2.out.on (hba14.trans (hbb14.mono hba14.size)); obtain ⟨_, _⟩ := Pb2.out.on (hba14.trans (hbb14.mono hba14.size))))
  have hb14 : Below w13.heap.size w13 w14 := hba14.trans (hbb14.mono hba14.size)
  have bb14 := hb14
  clear lb0 b00 lb1 b10 lb2 b20 lx0 x00 lx1 x10 lx2 x20
  clear hoa14 hba14 hbb14
  have Pb0 := Lib.hid (Pb0.out.on bb14)
  have Pb1 := Lib.hid (Pb1.out.on bb14)
  have Pb2 := Lib.hid (Pb2.out.on bb14)
  have Px0 := Lib.hid (Px0.out.on bb14)
  have Px1 := Lib.hid (Px1.out.on bb14)
  have Px2 := Lib.hid (Px2.out.on bb14)
  have Os0 := Lib.hid (Os0.out.on bb14)
  have Ox0 := Lib.hid (Ox0.out.on bb14)
  have Ox1 := Lib.hid (Ox1.out.on bb14)
  have Ox2 := Lib.hid (Ox2.out.on bb14)
  have Ox3 := Lib.hid (Ox3.out.on bb14)
  have Ox4 := Lib.hid (Ox4.out.on bb14)
  have Og0 := Lib.hid (Og0.out.on bb14)
  have B14 := Lib.hid (B13.out.trans (bb14.mono B13.out.size))
  have le14 : w13.heap.size + 0 ≤ w14.heap.size := by have := hb14.size; (try simp at this); omega
  clear hb14 bb14
  obtain ⟨lb0, b00⟩ := Pb0.out
  obtain ⟨lb1, b10⟩ := Pb1.out
  obtain ⟨lb2, b20⟩ := Pb2.out
  obtain ⟨lx0, x00⟩ := Px0.out
  obtain ⟨lx1, x10⟩ := Px1.out
  obtain ⟨lx2, x20⟩ := Px2.out
  go_wp2_with fail
  refine (toI_any (K3.out _ B14.out)).mono ?_
  rintro e w15 ⟨v15, rfl, ho15, hb15⟩
  clear lb0 b00 lb1 b10 lb2 b20 lx0 x00 lx1 x10 lx2 x20
  have bb15 : Below w14.heap.size w14 w15 := hb15
  have Pb0 := Lib.hid (Pb0.out.on bb15)
  have Pb1 := Lib.hid (Pb1.out.on bb15)
  have Pb2 := Lib.hid (Pb2.out.on bb15)
  have Px0 := Lib.hid (Px0.out.on bb15)
  have Px1 := Lib.hid (Px1.out.on bb15)
  have Px2 := Lib.hid (Px2.out.on bb15)
  have Os0 := Lib.hid (Os0.out.on bb15)
  have Ox0 := Lib.hid (Ox0.out.on bb15)
  have Ox1 := Lib.hid (Ox1.out.on bb15)
  have Ox2 := Lib.hid (Ox2.out.on bb15)
  have Ox3 := Lib.hid (Ox3.out.on bb15)
  have Ox4 := Lib.hid (Ox4.out.on bb15)
  have Og0 := Lib.hid (Og0.out.on bb15)
  have B15 := Lib.hid (B14.out.trans (bb15.mono B14.out.size))
  have le15 : w14.heap.size + 0 ≤ w15.heap.size := by have := hb15.size; (try simp at this); omega
  obtain ⟨v15a, v15c, rfl⟩ := ho15.slice
  have Oy3 : Hid (OwnX (w14.heap.size + 0) w15.heap.size w15 (.slice v15a z3.length v15c) z3) := OwnX.of ho15 (by simp)
  clear ho15 hb15 bb15
  obtain ⟨lb0, b00⟩ := Pb0.out
  obtain ⟨lb1, b10⟩ := Pb1.out
  obtain ⟨lb2, b20⟩ := Pb2.out
  obtain ⟨lx0, x00⟩ := Px0.out
  obtain ⟨lx1, x10⟩ := Px1.out
  obtain ⟨lx2, x20⟩ := Px2.out
  go_wp2_with fail
  refine (eqL_any (Ox3.out.at hl3) (Oy3.out.at hl3)).mono ?_
  rintro e w16 ⟨rfl, hb16⟩
  clear lb0 b00 lb1 b10 lb2 b20 lx0 x00 lx1 x10 lx2 x20
  have bb16 : Below w15.heap.size w15 w16 := hb16
  have Pb0 := Lib.hid (Pb0.out.on bb16)
  have Pb1 := Lib.hid (Pb1.out.on bb16)
  have Pb2 := Lib.hid (Pb2.out.on bb16)
  have Px0 := Lib.hid (Px0.out.on bb16)
  have Px1 := Lib.hid (Px1.out.on bb16)
  have Px2 := Lib.hid (Px2.out.on bb16)
  have Os0 := Lib.hid (Os0.out.on bb16)
  have Ox0 := Lib.hid (Ox0.out.on bb16)
  have Ox1 := Lib.hid (Ox1.out.on bb16)
  have Ox2 := Lib.hid (Ox2.out.on bb16)
  have Ox3 := Lib.hid (Ox3.out.on bb16)
  have Ox4 := Lib.hid (Ox4.out.on bb16)
  have Og0 := Lib.hid (Og0.out.on bb16)
  have Oy3 := Lib.hid (Oy3.out.on bb16)
  have B16 := Lib.hid (B15.out.trans (bb16.mono B15.out.size))
  have le16 : w15.heap.size + 0 ≤ w16.heap.size := by have := hb16.size; (try simp at this); omega
  clear hb16 bb16
  clear Oy3
  obtain ⟨lb0, b00⟩ := Pb0.out
  obtain ⟨lb1, b10⟩ := Pb1.out
  obtain ⟨lb2, b20⟩ := Pb2.out
  obtain ⟨lx0, x00⟩ := Px0.out
  obtain ⟨lx1, x10⟩ := Px1.out
  obtain ⟨lx2, x20⟩ := Px2.out
  go_wp2_with fail
  refine (toI_any (K4.out _ B16.out)).mono ?_
  rintro e w17 ⟨v17, rfl, ho17, hb17⟩
  clear lb0 b00 lb1 b10 lb2 b20 lx0 x00 lx1 x10 lx2 x20
  have bb17 : Below w16.heap.size w16 w17 := hb17
  have Pb0 := Lib.hid (Pb0.out.on bb17)
  have Pb1 := Lib.hid (Pb1.out.on bb17)
  have Pb2 := Lib.hid (Pb2.out.on bb17)
  have Px0 := Lib.hid (Px0.out.on bb17)
  have Px1 := Lib.hid (Px1.out.on bb17)
  have Px2 := Lib.hid (Px2.out.on bb17)
  have Os0 := Lib.hid (Os0.out.on bb17)
  have Ox0 := Lib.hid (Ox0.out.on bb17)
  have Ox1 := Lib.hid (Ox1.out.on bb17)
  have Ox2 := Lib.hid (Ox2.out.on bb17)
  have Ox3 := Lib.hid (Ox3.out.on bb17)
  have Ox4 := Lib.hid (Ox4.out.on bb17)
  have Og0 := Lib.hid (Og0.out.on bb17)
  have B17 := Lib.hid (B16.out.trans (bb17.mono B16.out.size))
  have le17 : w16.heap.size + 0 ≤ w17.heap.size := by have := hb17.size; (try simp at this); omega
  obtain ⟨v17a, v17c, rfl⟩ := ho17.slice
  have Oy4 : Hid (OwnX (w16.heap.size + 0) w17.heap.size w17 (.slice v17a z4.length v17c) z4) := OwnX.of ho17 (by simp)
  clear ho17 hb17 bb17
  obtain ⟨lb0, b00⟩ := Pb0.out
  obtain ⟨lb1, b10⟩ := Pb1.out
  obtain ⟨lb2, b20⟩ := Pb2.out
  obtain ⟨lx0, x00⟩ := Px0.out
  obtain ⟨lx1, x10⟩ := Px1.out
  obtain ⟨lx2, x20⟩ := Px2.out
  go_wp2_with fail
  refine (eqL_any (Ox4.out.at hl4) (Oy4.out.at hl4)).mono ?_
  rintro e w18 ⟨rfl, hb18⟩
  clear lb0 b00 lb1 b10 lb2 b20 lx0 x00 lx1 x10 lx2 x20
  have bb18 : Below w17.heap.size w17 w18 := hb18
  have Pb0 := Lib.hid (Pb0.out.on bb18)
  have Pb1 := Lib.hid (Pb1.out.on bb18)
  have Pb2 := Lib.hid (Pb2.out.on bb18)
  have Px0 := Lib.hid (Px0.out.on bb18)
  have Px1 := Lib.hid (Px1.out.on bb18)
  have Px2 := Lib.hid (Px2.out.on bb18)
  have Os0 := Lib.hid (Os0.out.on bb18)
  have Ox0 := Lib.hid (Ox0.out.on bb18)
  have Ox1 := Lib.hid (Ox1.out.on bb18)
  have Ox2 := Lib.hid (Ox2.out.on bb18)
  have Ox3 := Lib.hid (Ox3.out.on bb18)
  have Ox4 := Lib.hid (Ox4.out.on bb18)
  have Og0 := Lib.hid (Og0.out.on bb18)
  have Oy4 := Lib.hid (Oy4.out.on bb18)
  have B18 := Lib.hid (B17.out.trans (bb18.mono B17.out.size))
  have le18 : w17.heap.size + 0 ≤ w18.heap.size := by have := hb18.size; (try simp at this); omega
  clear hb18 bb18
  clear Oy4
  obtain ⟨lb0, b00⟩ := Pb0.out
  obtain ⟨lb1, b10⟩ := Pb1.out
  obtain ⟨lb2, b20⟩ := Pb2.out
  obtain ⟨lx0, x00⟩ := Px0.out
  obtain ⟨lx1, x10⟩ := Px1.out
  obtain ⟨lx2, x20⟩ := Px2.out
  go_wp2_with fail
  refine (markC_any 1 Ox0.out hl0 (by omega) (by omega)).mono ?_
  rintro e w19 ⟨rfl, ho19, hf19⟩
  clear lb0 b00 lb1 b10 lb2 b20 lx0 x00 lx1 x10 lx2 x20
  have Pb0 := Lib.hid (Pb0.out.fr hf19 (by omega))
  have Pb1 := Lib.hid (Pb1.out.fr hf19 (by omega))
  have Pb2 := Lib.hid (Pb2.out.fr hf19 (by omega))
  have Px0 := Lib.hid (Px0.out.fr hf19 (by omega))
  have Px1 := Lib.hid (Px1.out.fr hf19 (by omega))
  have Px2 := Lib.hid (Px2.out.fr hf19 (by omega))
  have Os0 := Lib.hid (Os0.out.fr hf19 (by omega))
  have Ox1 := Lib.hid (Ox1.out.fr hf19 (by omega))
  have Ox2 := Lib.hid (Ox2.out.fr hf19 (by omega))
  have Ox3 := Lib.hid (Ox3.out.fr hf19 (by omega))
  have Ox4 := Lib.hid (Ox4.out.fr hf19 (by omega))
  have Og0 := Lib.hid (Og0.out.fr hf19 (by omega))
  have Ox0 := Lib.hid ho19
  have B19 := Lib.hid (B18.out.trans ((hf19.below (by omega)).mono (by omega)))
  have le19 : w18.heap.size ≤ w19.heap.size := hf19.2.2.2.1
  clear ho19 hf19
  obtain ⟨lb0, b00⟩ := Pb0.out
  obtain ⟨lb1, b10⟩ := Pb1.out
  obtain ⟨lb2, b20⟩ := Pb2.out
  obtain ⟨lx0, x00⟩ := Px0.out
  obtain ⟨lx1, x10⟩ := Px1.out
  obtain ⟨lx2, x20⟩ := Px2.out
  go_wp2_with fail
  refine (markC_any (1 + (tot z0 : Int)) Ox1.out hl1 (by omega) (by omega)).mono ?_
  rintro e w20 ⟨rfl, ho20, hf20⟩
  clear lb0 b00 lb1 b10 lb2 b20 lx0 x00 lx1 x10 lx2 x20
  have Pb0 := Lib.hid (Pb0.out.fr hf20 (by omega))
  have Pb1 := Lib.hid (Pb1.out.fr hf20 (by omega))
  have Pb2 := Lib.hid (Pb2.out.fr hf20 (by omega))
  have Px0 := Lib.hid (Px0.out.fr hf20 (by omega))
  have Px1 := Lib.hid (Px1.out.fr hf20 (by omega))
  have Px2 := Lib.hid (Px2.out.fr hf20 (by omega))
  have Os0 := Lib.hid (Os0.out.fr hf20 (by omega))
  have Ox0 := Lib.hid (Ox0.out.fr hf20 (by omega))
  have Ox2 := Lib.hid (Ox2.out.fr hf20 (by omega))
  have Ox3 := Lib.hid (Ox3.out.fr hf20 (by omega))
  have Ox4 := Lib.hid (Ox4.out.fr hf20 (by omega))
  have Og0 := Lib.hid (Og0.out.fr hf20 (by omega))
  have Ox1 := Lib.hid ho20
  have B20 := Lib.hid (B19.out.trans ((hf20.below (by omega)).mono (by omega)))
  have le20 : w19.heap.size ≤ w20.heap.size := hf20.2.2.2.1
  clear ho20 hf20
  obtain ⟨lb0, b00⟩ := Pb0.out
  obtain ⟨lb1, b10⟩ := Pb1.out
  obtain ⟨lb2, b20⟩ := Pb2.out
  obtain ⟨lx0, x00⟩ := Px0.out
  obtain ⟨lx1, x10⟩ := Px1.out
  obtain ⟨lx2, x20⟩ := Px2.out
  go_wp2_with fail
  refine (markC_any ((1 + (tot z0 : Int)) + (tot z1 : Int)) Ox2.out hl2 (by omega) (by omega)).mono ?_
  rintro e w21 ⟨rfl, ho21, hf21⟩
  clear lb0 b00 lb1 b10 lb2 b20 lx0 x00 lx1 x10 lx2 x20
  have Pb0 := Lib.hid (Pb0.out.fr hf21 (by omega))
  have Pb1 := Lib.hid (Pb1.out.fr hf21 (by omega))
  have Pb2 := Lib.hid (Pb2.out.fr hf21 (by omega))
  have Px0 := Lib.hid (Px0.out.fr hf21 (by omega))
  have Px1 := Lib.hid (Px1.out.fr hf21 (by omega))
  have Px2 := Lib.hid (Px2.out.fr hf21 (by omega))
  have Os0 := Lib.hid (Os0.out.fr hf21 (by omega))
  have Ox0 := Lib.hid (Ox0.out.fr hf21 (by omega))
  have Ox1 := Lib.hid (Ox1.out.fr hf21 (by omega))
  have Ox3 := Lib.hid (Ox3.out.fr hf21 (by omega))
  have Ox4 := Lib.hid (Ox4.out.fr hf21 (by omega))
  have Og0 := Lib.hid (Og0.out.fr hf21 (by omega))
  have Ox2 := Lib.hid ho21
  have B21 := Lib.hid (B20.out.trans ((hf21.below (by omega)).mono (by omega)))
  have le21 : w20.heap.size ≤ w21.heap.size := hf21.2.2.2.1
  clear ho21 hf21
  obtain ⟨lb0, b00⟩ := Pb0.out
  obtain ⟨lb1, b10⟩ := Pb1.out
  obtain ⟨lb2, b20⟩ := Pb2.out
  obtain ⟨lx0, x00⟩ := Px0.out
  obtain ⟨lx1, x10⟩ := Px1.out
  obtain ⟨lx2, x20⟩ := Px2.out
  go_wp2_with fail
  refine (markX_any (((1 + (tot z0 : Int)) + (tot z1 : Int)) + (tot z2 : Int)) Ox3.out hl3 (by omega) (by omega)).mono ?_
  rintro e w22 ⟨rfl, ho22, hf22⟩
  clear lb0 b00 lb1 b10 lb2 b20 lx0 x00 lx1 x10 lx2 x20
  have Pb0 := Lib.hid (Pb0.out.fr hf22 (by omega))
  have Pb1 := Lib.hid (Pb1.out.fr hf22 (by omega))
  have Pb2 := Lib.hid (Pb2.out.fr hf22 (by omega))
  have Px0 := Lib.hid (Px0.out.fr hf22 (by omega))
  have Px1 := Lib.hid (Px1.out.fr hf22 (by omega))
  have Px2 := Lib.hid (Px2.out.fr hf22 (by omega))
  have Os0 := Lib.hid (Os0.out.fr hf22 (by omega))
  have Ox0 := Lib.hid (Ox0.out.fr hf22 (by omega))
  have Ox1 := Lib.hid (Ox1.out.fr hf22 (by omega))
  have Ox2 := Lib.hid (Ox2.out.fr hf22 (by omega))
  have Ox4 := Lib.hid (Ox4.out.fr hf22 (by omega))
  have Og0 := Lib.hid (Og0.out.fr hf22 (by omega))
  have Ox3 := Lib.hid ho22
  have B22 := Lib.hid (B21.out.trans ((hf22.below (by omega)).mono (by omega)))
  have le22 : w21.heap.size ≤ w22.heap.size := hf22.2.2.2.1
  clear ho22 hf22
  obtain ⟨lb0, b00⟩ := Pb0.out
  obtain ⟨lb1, b10⟩ := Pb1.out
  obtain ⟨lb2, b20⟩ := Pb2.out
  obtain ⟨lx0, x00⟩ := Px0.out
  obtain ⟨lx1, x10⟩ := Px1.out
  obtain ⟨lx2, x20⟩ := Px2.out
  go_wp2_with fail
  refine (markX_any ((((1 + (tot z0 : Int)) + (tot z1 : Int)) + (tot z2 : Int)) + (z3.length : Int)) Ox4.out hl4 (by omega) (by omega)).mono ?_
  rintro e w23 ⟨rfl, ho23, hf23⟩
  clear lb0 b00 lb1 b10 lb2 b20 lx0 x00 lx1 x10 lx2 x20
  have Pb0 := Lib.hid (Pb0.out.fr hf23 (by omega))
  have Pb1 := Lib.hid (Pb1.out.fr hf23 (by omega))
  have Pb2 := Lib.hid (Pb2.out.fr hf23 (by omega))
  have Px0 := Lib.hid (Px0.out.fr hf23 (by omega))
  have Px1 := Lib.hid (Px1.out.fr hf23 (by omega))
  have Px2 := Lib.hid (Px2.out.fr hf23 (by omega))
  have Os0 := Lib.hid (Os0.out.fr hf23 (by omega))
  have Ox0 := Lib.hid (Ox0.out.fr hf23 (by omega))
  have Ox1 := Lib.hid (Ox1.out.fr hf23 (by omega))
  have Ox2 := Lib.hid (Ox2.out.fr hf23 (by omega))
  have Ox3 := Lib.hid (Ox3.out.fr hf23 (by omega))
  have Og0 := Lib.hid (Og0.out.fr hf23 (by omega))
  have Ox4 := Lib.hid ho23
  have B23 := Lib.hid (B22.out.trans ((hf23.below (by omega)).mono (by omega)))
  have le23 : w22.heap.size ≤ w23.heap.size := hf23.2.2.2.1
  clear ho23 hf23
  clear Ox0 Ox1 Ox2 Ox3 Ox4
  clear Px0
  clear Px1
  clear Px2
  obtain ⟨lb0, b00⟩ := Pb0.out
  obtain ⟨lb1, b10⟩ := Pb1.out
  obtain ⟨lb2, b20⟩ := Pb2.out
  go_wp2_with fail
  refine (eqL_any (Og0.out.at hz0) (Os0.out.at hz0)).mono ?_
  rintro e w24 ⟨rfl, hb24⟩
  clear lb0 b00 lb1 b10 lb2 b20
  have bb24 : Below w23.heap.size w23 w24 := hb24
  have Pb0 := Lib.hid (Pb0.out.on bb24)
  have Pb1 := Lib.hid (Pb1.out.on bb24)
  have Pb2 := Lib.hid (Pb2.out.on bb24)
  have Os0 := Lib.hid (Os0.out.on bb24)
  have Og0 := Lib.hid (Og0.out.on bb24)
  have B24 := Lib.hid (B23.out.trans (bb24.mono B23.out.size))
  have le24 : w23.heap.size + 0 ≤ w24.heap.size := by have := hb24.size; (try simp at this); omega
  clear hb24 bb24
  obtain ⟨lb0, b00⟩ := Pb0.out
  obtain ⟨lb1, b10⟩ := Pb1.out
  obtain ⟨lb2, b20⟩ := Pb2.out
  go_wp2_with fail
  refine (markX_any 1 Og0.out hz0 (by omega) (by omega)).mono ?_
  rintro e w25 ⟨rfl, ho25, hf25⟩
  clear lb0 b00 lb1 b10 lb2 b20
  have Pb0 := Lib.hid (Pb0.out.fr hf25 (by omega))
  have Pb1 := Lib.hid (Pb1.out.fr hf25 (by omega))
  have Pb2 := Lib.hid (Pb2.out.fr hf25 (by omega))
  have Os0 := Lib.hid (Os0.out.fr hf25 (by omega))
  have Og0 := Lib.hid ho25
  have B25 := Lib.hid (B24.out.trans ((hf25.below (by omega)).mono (by omega)))
  have le25 : w24.heap.size ≤ w25.heap.size := hf25.2.2.2.1
  clear ho25 hf25
  have eq1 : ((1 + (Z0.length : Int)) != (1 + (Z0.length : Int))) = false := by simp
  obtain ⟨lb0, b00⟩ := Pb0.out
  obtain ⟨lb1, b10⟩ := Pb1.out
  obtain ⟨lb2, b20⟩ := Pb2.out
  go_wp2_with fail
  refine (heldL_any (k := 1) (Og0.out.at (by rw [marks_len]; exact hz0)) (by omega) (by omega)).mono ?_
  rintro e w26 ⟨rfl, hb26⟩
  clear lb0 b00 lb1 b10 lb2 b20
  have bb26 : Below w25.heap.size w25 w26 := hb26
  have Pb0 := Lib.hid (Pb0.out.on bb26)
  have Pb1 := Lib.hid (Pb1.out.on bb26)
  have Pb2 := Lib.hid (Pb2.out.on bb26)
  have Os0 := Lib.hid (Os0.out.on bb26)
  have Og0 := Lib.hid (Og0.out.on bb26)
  have B26 := Lib.hid (B25.out.trans (bb26.mono B25.out.size))
  have le26 : w25.heap.size + 0 ≤ w26.heap.size := by have := hb26.size; (try simp at this); omega
  clear hb26 bb26
  obtain ⟨lb0, b00⟩ := Pb0.out
  obtain ⟨lb1, b10⟩ := Pb1.out
  obtain ⟨lb2, b20⟩ := Pb2.out
  have := Pb0.out.ne
  have := Pb1.out.ne
  have := Pb2.out.ne
  go_wp2_with fail
  go_region_held3 (fun w' => w'.cell? ⟨w.heap.size, 0, none⟩ = some ((.slice a0 z0.length cap0)) ∧ w'.cell? ⟨(w.heap.size + 1), 0, none⟩ = some ((.slice a1 z1.length cap1)) ∧ w'.cell? ⟨(w.heap.size + 2), 0, none⟩ = some ((.slice a2 z2.length cap2))) (go_keep)
    (first
      | (go_at_call_of 12 (.agg #[(.slice a0 z0.length cap0)] : Value); refine (toC_any (by first | exact K0.out _ B26.out | exact (K0.out _ B26.out).drew | exact (K0.out _ B26.out).al | exact (K0.out _ B26.out).al.drew | exact (K0.out _ B26.out).drew.al)).mono ?_; rintro e wa27q0 ⟨_, rfl, hoa27q0, hr27q0⟩; have hs27q0 : Below w26.heap.size w26 wa27q0 := (by first | exact hr27q0 | exact undrew hr27q0 | exact up1 hr27q0 | exact up1 (undrew hr27q0) | exact undrew (up1 hr27q0)); have ht27q0 : Below w26.heap.size w26 wa27q0 := hs27q0; obtain ⟨_, _⟩ := bcell hr27q0; have sz27q0 := hr27q0.size; (try simp at sz27q0); (try have := (by omega : w26.heap.size < wa27q0.heap.size)); obtain ⟨_, _, rfl⟩ := hoa27q0.slice; obtain ⟨_, _⟩ := Pb0.out.on ht27q0; obtain ⟨_, _⟩ := Pb1.out.on ht27q0; obtain ⟨_, _⟩ := Pb2.out.on ht27q0; have := (Pb0.out.on ht27q0).ne; have := (Pb1.out.on ht27q0).ne; have := (Pb2.out.on ht27q0).ne)
      | (go_at_call_of 12 (.agg #[(.slice a1 z1.length cap1)] : Value); refine (toC_any (by first | exact K1.out _ (B26.out.trans (ht27q0.mono B26.out.size)) | exact (K1.out _ (B26.out.trans (ht27q0.mono B26.out.size))).drew | exact (K1.out _ (B26.out.trans (ht27q0.mono B26.out.size))).al | exact (K1.out _ (B26.out.trans (ht27q0.mono B26.out.size))).al.drew | exact (K1.out _ (B26.out.trans (ht27q0.mono B26.out.size))).drew.al)).mono ?_; rintro e wa27q1 ⟨_, rfl, hoa27q1, hr27q1⟩; have hs27q1 : Below wa27q0.heap.size wa27q0 wa27q1 := (by first | exact hr27q1 | exact undrew hr27q1 | exact up1 hr27q1 | exact up1 (undrew hr27q1) | exact undrew (up1 hr27q1)); have ht27q1 : Below w26.heap.size w26 wa27q1 := ht27q0.trans (hs27q1.mono ht27q0.size); obtain ⟨_, _⟩ := bcell hr27q1; have sz27q1 := hr27q1.size; (try simp at sz27q1); (try have := (by omega : wa27q0.heap.size < wa27q1.heap.size)); (try have := (by omega : w26.heap.size < wa27q1.heap.size)); obtain ⟨_, _, rfl⟩ := hoa27q1.slice; obtain ⟨_, _⟩ := Pb0.out.on ht27q1; obtain ⟨_, _⟩ := Pb1.out.on ht27q1; obtain ⟨_, _⟩ := Pb2.out.on ht27q1; have := (Pb0.out.on ht27q1).ne; have := (Pb1.out.on ht27q1).ne; have := (Pb2.out.on ht27q1).ne)
      | (go_at_call_of 12 (.agg #[(.slice a2 z2.length cap2)] : Value); refine (toC_any (by first | exact K2.out _ (B26.out.trans (ht27q1.mono B26.out.size)) | exact (K2.out _ (B26.out.trans (ht27q1.mono B26.out.size))).drew | exact (K2.out _ (B26.out.trans (ht27q1.mono B26.out.size))).al | exact (K2.out _ (B26.out.trans (ht27q1.mono B26.out.size))).al.drew | exact (K2.out _ (B26.out.trans (ht27q1.mono B26.out.size))).drew.al)).mono ?_; rintro e wa27q2 ⟨_, rfl, hoa27q2, hr27q2⟩; have hs27q2 : Below wa27q1.heap.size wa27q1 wa27q2 := (by first | exact hr27q2 | exact undrew hr27q2 | exact up1 hr27q2 | exact up1 (undrew hr27q2) | exact undrew (up1 hr27q2)); have ht27q2 : Below w26.heap.size w26 wa27q2 := ht27q1.trans (hs27q2.mono ht27q1.size); obtain ⟨_, _⟩ := bcell hr27q2; have sz27q2 := hr27q2.size; (try simp at sz27q2); (try have := (by omega : wa27q1.heap.size < wa27q2.heap.size)); (try have := (by omega : wa27q0.heap.size < wa27q2.heap.size)); (try have := (by omega : w26.heap.size < wa27q2.heap.size)); obtain ⟨_, _, rfl⟩ := hoa27q2.slice; obtain ⟨_, _⟩ := Pb0.out.on ht27q2; obtain ⟨_, _⟩ := Pb1.out.on ht27q2; obtain ⟨_, _⟩ := Pb2.out.on ht27q2; have := (Pb0.out.on ht27q2).ne; have := (Pb1.out.on ht27q2).ne; have := (Pb2.out.on ht27q2).ne)
      | (go_at_call_of 13 ((.slice a3 z3.length cap3) : Value); refine (toI_any (by first | exact K3.out _ (B26.out.trans (ht27q2.mono B26.out.size)) | exact (K3.out _ (B26.out.trans (ht27q2.mono B26.out.size))).drew | exact (K3.out _ (B26.out.trans (ht27q2.mono B26.out.size))).al | exact (K3.out _ (B26.out.trans (ht27q2.mono B26.out.size))).al.drew | exact (K3.out _ (B26.out.trans (ht27q2.mono B26.out.size))).drew.al)).mono ?_; rintro e wa27q3 ⟨_, rfl, hoa27q3, hr27q3⟩; have hs27q3 : Below wa27q2.heap.size wa27q2 wa27q3 := (by first | exact hr27q3 | exact undrew hr27q3 | exact up1 hr27q3 | exact up1 (undrew hr27q3) | exact undrew (up1 hr27q3)); have ht27q3 : Below w26.heap.size w26 wa27q3 := ht27q2.trans (hs27q3.mono ht27q2.size); obtain ⟨_, _⟩ := bcell hr27q3; have sz27q3 := hr27q3.size; (try simp at sz27q3); (try have := (by omega : wa27q2.heap.size < wa27q3.heap.size)); (try have := (by omega : wa27q1.heap.size < wa27q3.heap.size)); (try have := (by omega : wa27q0.heap.size < wa27q3.heap.size)); (try have := (by omega : w26.heap.size < wa27q3.heap.size)); obtain ⟨_, _, rfl⟩ := hoa27q3.slice; obtain ⟨_, _⟩ := Pb0.out.on ht27q3; obtain ⟨_, _⟩ := Pb1.out.on ht27q3; obtain ⟨_, _⟩ := Pb2.out.on ht27q3; have := (Pb0.out.on ht27q3).ne; have := (Pb1.out.on ht27q3).ne; have := (Pb2.out.on ht27q3).ne)
      | (go_at_call_of 13 ((.slice a4 z4.length cap4) : Value); refine (toI_any (by first | exact K4.out _ (B26.out.trans (ht27q3.mono B26.out.size)) | exact (K4.out _ (B26.out.trans (ht27q3.mono B26.out.size))).drew | exact (K4.out _ (B26.out.trans (ht27q3.mono B26.out.size))).al | exact (K4.out _ (B26.out.trans (ht27q3.mono B26.out.size))).al.drew | exact (K4.out _ (B26.out.trans (ht27q3.mono B26.out.size))).drew.al)).mono ?_; rintro e wa27q4 ⟨_, rfl, hoa27q4, hr27q4⟩; have hs27q4 : Below wa27q3.heap.size wa27q3 wa27q4 := (by first | exact hr27q4 | exact undrew hr27q4 | exact up1 hr27q4 | exact up1 (undrew hr27q4) | exact undrew (up1 hr27q4)); have ht27q4 : Below w26.heap.size w26 wa27q4 := ht27q3.trans (hs27q4.mono ht27q3.size); obtain ⟨_, _⟩ := bcell hr27q4; have sz27q4 := hr27q4.size; (try simp at sz27q4); (try have := (by omega : wa27q3.heap.size < wa27q4.heap.size)); (try have := (by omega : wa27q2.heap.size < wa27q4.heap.size)); (try have := (by omega : wa27q1.heap.size < wa27q4.heap.size)); (try have := (by omega : wa27q0.heap.size < wa27q4.heap.size)); (try have := (by omega : w26.heap.size < wa27q4.heap.size)); obtain ⟨_, _, rfl⟩ := hoa27q4.slice; obtain ⟨_, _⟩ := Pb0.out.on ht27q4; obtain ⟨_, _⟩ := Pb1.out.on ht27q4; obtain ⟨_, _⟩ := Pb2.out.on ht27q4; have := (Pb0.out.on ht27q4).ne; have := (Pb1.out.on ht27q4).ne; have := (Pb2.out.on ht27q4).ne)
      | (go_at_call 20; refine (implCM_is (by first | exact (((((hoa27q0.on hs27q1).on hs27q2).on hs27q3).on hs27q4)).at hl0 | exact ((((((hoa27q0.on hs27q1).on hs27q2).on hs27q3).on hs27q4)).at hl0).drew | exact ((((((hoa27q0.on hs27q1).on hs27q2).on hs27q3).on hs27q4)).at hl0).al | exact ((((((hoa27q0.on hs27q1).on hs27q2).on hs27q3).on hs27q4)).at hl0).al.drew | exact ((((((hoa27q0.on hs27q1).on hs27q2).on hs27q3).on hs27q4)).at hl0).drew.al) (by first | exact ((((hoa27q1.on hs27q2).on hs27q3).on hs27q4)).at hl1 | exact (((((hoa27q1.on hs27q2).on hs27q3).on hs27q4)).at hl1).drew | exact (((((hoa27q1.on hs27q2).on hs27q3).on hs27q4)).at hl1).al | exact (((((hoa27q1.on hs27q2).on hs27q3).on hs27q4)).at hl1).al.drew | exact (((((hoa27q1.on hs27q2).on hs27q3).on hs27q4)).at hl1).drew.al) (by first | exact (((hoa27q2.on hs27q3).on hs27q4)).at hl2 | exact ((((hoa27q2.on hs27q3).on hs27q4)).at hl2).drew | exact ((((hoa27q2.on hs27q3).on hs27q4)).at hl2).al | exact ((((hoa27q2.on hs27q3).on hs27q4)).at hl2).al.drew | exact ((((hoa27q2.on hs27q3).on hs27q4)).at hl2).drew.al) (by first | exact ((hoa27q3.on hs27q4)).at hl3 | exact (((hoa27q3.on hs27q4)).at hl3).drew | exact (((hoa27q3.on hs27q4)).at hl3).al | exact (((hoa27q3.on hs27q4)).at hl3).al.drew | exact (((hoa27q3.on hs27q4)).at hl3).drew.al) (by first | exact (hoa27q4).at hl4 | exact ((hoa27q4).at hl4).drew | exact ((hoa27q4).at hl4).al | exact ((hoa27q4).at hl4).al.drew | exact ((hoa27q4).at hl4).drew.al) HR.out (by first | exact TZ.out.on (B26.out.trans (ht27q4.mono B26.out.size)) | exact (TZ.out.on (B26.out.trans (ht27q4.mono B26.out.size))).al _ | exact ((TZ.out.on (B26.out.trans (ht27q4.mono B26.out.size))).drew 1) | exact (((TZ.out.on (B26.out.trans (ht27q4.mono B26.out.size))).al _).drew 1) | exact (((TZ.out.on (B26.out.trans (ht27q4.mono B26.out.size))).drew 1).al _))).mono ?_; rintro e w27 ⟨v27x0, rfl, ho27x0, hbz27'⟩; have hbz27 : Below wa27q4.heap.size wa27q4 w27 := (by first | exact hbz27' | exact undrew hbz27' | exact up1 hbz27' | exact up1 (undrew hbz27') | exact undrew (up1 hbz27')); have hb27 : Below w26.heap.size w26 w27 := ht27q4.trans (hbz27.mono ht27q4.size); obtain ⟨v27x0a, v27x0c, rfl⟩ := ho27x0.slice; obtain ⟨_, _⟩ := bcell hbz27'; have hsz27 := hbz27'.size; (try simp at hsz27); (try have := (by omega : wa27q4.heap.size < w27.heap.size)); (try have := (by omega : wa27q3.heap.size < w27.heap.size)); (try have := (by omega : wa27q2.heap.size < w27.heap.size)); (try have := (by omega : wa27q1.heap.size < w27.heap.size)); (try have := (by omega : wa27q0.heap.size < w27.heap.size)); (try have := (by omega : w26.heap.size < w27.heap.size)); obtain ⟨_, _⟩ := Pb0.out.on hb27; obtain ⟨_, _⟩ := Pb1.out.on hb27; obtain ⟨_, _⟩ := Pb2.out.on hb27; have := (Pb0.out.on hb27).ne; have := (Pb1.out.on hb27).ne; have := (Pb2.out.on hb27).ne))
  have hyz27 : w26.heap.size ≤ wa27q4.heap.size := ht27q4.size
  have bb27 := hb27
  clear lb0 b00 lb1 b10 lb2 b20
  have Pb0 := Lib.hid (Pb0.out.on bb27)
  have Pb1 := Lib.hid (Pb1.out.on bb27)
  have Pb2 := Lib.hid (Pb2.out.on bb27)
  have Os0 := Lib.hid (Os0.out.on bb27)
  have Og0 := Lib.hid (Og0.out.on bb27)
  have B27 := Lib.hid (B26.out.trans (bb27.mono B26.out.size))
  have le27 : w26.heap.size + 0 ≤ w27.heap.size := by have := hb27.size; (try simp at this); omega
  have Oh0 : Hid (OwnX w26.heap.size w27.heap.size w27 (.slice v27x0a Z0.length v27x0c) Z0) := OwnX.of ho27x0 hyz27
  clear ho27x0 hbz27 hbz27' hyz27 hb27 bb27 hoa27q0 hr27q0 hs27q0 ht27q0 hoa27q1 hr27q1 hs27q1 ht27q1 hoa27q2 hr27q2 hs27q2 ht27q2 hoa27q3 hr27q3 hs27q3 ht27q3 hoa27q4 hr27q4 hs27q4 ht27q4
  obtain ⟨lb0, b00⟩ := Pb0.out
  obtain ⟨lb1, b10⟩ := Pb1.out
  obtain ⟨lb2, b20⟩ := Pb2.out
  go_wp2_with fail
  refine (eqL_any (Oh0.out.at hz0) (Os0.out.at hz0)).mono ?_
  rintro e w28 ⟨rfl, hb28⟩
  clear lb0 b00 lb1 b10 lb2 b20
  have bb28 : Below w27.heap.size w27 w28 := hb28
  have Pb0 := Lib.hid (Pb0.out.on bb28)
  have Pb1 := Lib.hid (Pb1.out.on bb28)
  have Pb2 := Lib.hid (Pb2.out.on bb28)
  have Os0 := Lib.hid (Os0.out.on bb28)
  have Og0 := Lib.hid (Og0.out.on bb28)
  have Oh0 := Lib.hid (Oh0.out.on bb28)
  have B28 := Lib.hid (B27.out.trans (bb28.mono B27.out.size))
  have le28 : w27.heap.size + 0 ≤ w28.heap.size := by have := hb28.size; (try simp at this); omega
  clear hb28 bb28
  obtain ⟨lb0, b00⟩ := Pb0.out
  obtain ⟨lb1, b10⟩ := Pb1.out
  obtain ⟨lb2, b20⟩ := Pb2.out
  go_wp2_with fail
  refine (heldL_any (k := 1) (Og0.out.at (by rw [marks_len]; exact hz0)) (by omega) (by omega)).mono ?_
  rintro e w29 ⟨rfl, hb29⟩
  clear lb0 b00 lb1 b10 lb2 b20
  have bb29 : Below w28.heap.size w28 w29 := hb29
  have Pb0 := Lib.hid (Pb0.out.on bb29)
  have Pb1 := Lib.hid (Pb1.out.on bb29)
  have Pb2 := Lib.hid (Pb2.out.on bb29)
  have Os0 := Lib.hid (Os0.out.on bb29)
  have Og0 := Lib.hid (Og0.out.on bb29)
  have Oh0 := Lib.hid (Oh0.out.on bb29)
  have B29 := Lib.hid (B28.out.trans (bb29.mono B28.out.size))
  have le29 : w28.heap.size + 0 ≤ w29.heap.size := by have := hb29.size; (try simp at this); omega
  clear hb29 bb29
  go_wp2_with fail
  go_ret
  exact ⟨rfl, B29.out⟩
set_option maxRecDepth 100000 in
set_option maxHeartbeats 400000 in
theorem composeMaps_long0 (a3 a4 : Option Addr) (len3 cap3 len4 cap4 : Nat) (u0 u1 u2 : Value) (z0 z1 z2 : List (List Int)) (w : World) (hm3 : len3 ≤ 9223372036854775807) (hm4 : len4 ≤ 9223372036854775807) (hm0 : RowsRaw w u0 z0) (hm1 : RowsRaw w u1 z1) (hm2 : RowsRaw w u2 z2) (hx : 1048576 < (len3 : Int)) :
    Calls Tryd.prog 5 #[.agg #[u0], .agg #[u1], .agg #[u2], .slice a3 len3 cap3, .slice a4 len4 cap4] w fun e w' => e = .returned (.bool true) ∧ Below w.heap.size w w' := by
  have HM0 := Lib.hid hm0
  obtain ⟨a0, cap0, rfl⟩ := hm0.slice
  have hq0 := hm0.len
  clear hm0
  have HM1 := Lib.hid hm1
  obtain ⟨a1, cap1, rfl⟩ := hm1.slice
  have hq1 := hm1.len
  clear hm1
  have HM2 := Lib.hid hm2
  obtain ⟨a2, cap2, rfl⟩ := hm2.slice
  have hq2 := hm2.len
  clear hm2
  go_enter Tryd.func5, Tryd.ntmps5
  go_wp2_with fail
  go_ret
  exact ⟨rfl, al1 (al1 (al1 (Below.refl _ _) _) _) _⟩
set_option maxRecDepth 100000 in
set_option maxHeartbeats 400000 in
theorem composeMaps_long1 (a3 a4 : Option Addr) (len3 cap3 len4 cap4 : Nat) (u0 u1 u2 : Value) (z0 z1 z2 : List (List Int)) (w : World) (hm3 : len3 ≤ 9223372036854775807) (hm4 : len4 ≤ 9223372036854775807) (hm0 : RowsRaw w u0 z0) (hm1 : RowsRaw w u1 z1) (hm2 : RowsRaw w u2 z2) (h3 : ¬ 1048576 < (len3 : Int)) (hx : 1048576 < (len4 : Int)) :
    Calls Tryd.prog 5 #[.agg #[u0], .agg #[u1], .agg #[u2], .slice a3 len3 cap3, .slice a4 len4 cap4] w fun e w' => e = .returned (.bool true) ∧ Below w.heap.size w w' := by
  have HM0 := Lib.hid hm0
  obtain ⟨a0, cap0, rfl⟩ := hm0.slice
  have hq0 := hm0.len
  clear hm0
  have HM1 := Lib.hid hm1
  obtain ⟨a1, cap1, rfl⟩ := hm1.slice
  have hq1 := hm1.len
  clear hm1
  have HM2 := Lib.hid hm2
  obtain ⟨a2, cap2, rfl⟩ := hm2.slice
  have hq2 := hm2.len
  clear hm2
  go_enter Tryd.func5, Tryd.ntmps5
  go_wp2_with fail
  go_ret
  exact ⟨rfl, al1 (al1 (al1 (Below.refl _ _) _) _) _⟩
set_option maxRecDepth 100000 in
set_option maxHeartbeats 400000 in
theorem composeMaps_long2 (a3 a4 : Option Addr) (len3 cap3 len4 cap4 : Nat) (u0 u1 u2 : Value) (z0 z1 z2 : List (List Int)) (w : World) (hm3 : len3 ≤ 9223372036854775807) (hm4 : len4 ≤ 9223372036854775807) (hm0 : RowsRaw w u0 z0) (hm1 : RowsRaw w u1 z1) (hm2 : RowsRaw w u2 z2) (h3 : ¬ 1048576 < (len3 : Int)) (h4 : ¬ 1048576 < (len4 : Int)) (hx : (1048576 : Int) < (z0.length : Int) + (tot z0 : Int)) :
    Calls Tryd.prog 5 #[.agg #[u0], .agg #[u1], .agg #[u2], .slice a3 len3 cap3, .slice a4 len4 cap4] w fun e w' => e = .returned (.bool true) ∧ Below w.heap.size w w' := by
  have HM0 := Lib.hid hm0
  obtain ⟨a0, cap0, rfl⟩ := hm0.slice
  have hq0 := hm0.len
  clear hm0
  have HM1 := Lib.hid hm1
  obtain ⟨a1, cap1, rfl⟩ := hm1.slice
  have hq1 := hm1.len
  clear hm1
  have HM2 := Lib.hid hm2
  obtain ⟨a2, cap2, rfl⟩ := hm2.slice
  have hq2 := hm2.len
  clear hm2
  go_enter Tryd.func5, Tryd.ntmps5
  go_wp2_with fail
  refine (szC_no (HM0.out.on (al1 (al1 (al1 (Below.refl _ _) _) _) _)) (by omega) (by omega) (by omega)).mono ?_
  rintro e wl0 ⟨rfl, hbl0⟩
  go_wp2_with fail
  go_ret
  exact ⟨rfl, ((al1 (al1 (al1 (Below.refl _ _) _) _) _).trans (hbl0.mono (by (try simp) <;> omega)))⟩
set_option maxRecDepth 100000 in
set_option maxHeartbeats 400000 in
theorem composeMaps_long3 (a3 a4 : Option Addr) (len3 cap3 len4 cap4 : Nat) (u0 u1 u2 : Value) (z0 z1 z2 : List (List Int)) (w : World) (hm3 : len3 ≤ 9223372036854775807) (hm4 : len4 ≤ 9223372036854775807) (hm0 : RowsRaw w u0 z0) (hm1 : RowsRaw w u1 z1) (hm2 : RowsRaw w u2 z2) (h3 : ¬ 1048576 < (len3 : Int)) (h4 : ¬ 1048576 < (len4 : Int)) (h0 : 0 ≤ 1048576 - ((z0.length : Int) + (tot z0 : Int))) (hx : 1048576 - ((z0.length : Int) + (tot z0 : Int)) < (z1.length : Int) + (tot z1 : Int)) :
    Calls Tryd.prog 5 #[.agg #[u0], .agg #[u1], .agg #[u2], .slice a3 len3 cap3, .slice a4 len4 cap4] w fun e w' => e = .returned (.bool true) ∧ Below w.heap.size w w' := by
  have HM0 := Lib.hid hm0
  obtain ⟨a0, cap0, rfl⟩ := hm0.slice
  have hq0 := hm0.len
  clear hm0
  have HM1 := Lib.hid hm1
  obtain ⟨a1, cap1, rfl⟩ := hm1.slice
  have hq1 := hm1.len
  clear hm1
  have HM2 := Lib.hid hm2
  obtain ⟨a2, cap2, rfl⟩ := hm2.slice
  have hq2 := hm2.len
  clear hm2
  go_enter Tryd.func5, Tryd.ntmps5
  go_wp2_with fail
  refine (szC_yes (HM0.out.on (al1 (al1 (al1 (Below.refl _ _) _) _) _)) (by omega) (by omega)).mono ?_
  rintro e wl0 ⟨rfl, hbl0⟩
  have Pm1 : PtC (((w.alloc (.cells #[.slice a0 z0.length cap0] 24)).alloc (.cells #[.slice a1 z1.length cap1] 24)).alloc (.cells #[.slice a2 z2.length cap2] 24)) (w.heap.size + 1) (.slice a1 z1.length cap1) := by
    have h := PtC.new1 (w.alloc (.cells #[.slice a0 z0.length cap0] 24)) (.slice a1 z1.length cap1) 24 (.cells #[.slice a2 z2.length cap2] 24)
    rw [World.size_alloc] at h
    exact h
  have Pm2 : PtC (((w.alloc (.cells #[.slice a0 z0.length cap0] 24)).alloc (.cells #[.slice a1 z1.length cap1] 24)).alloc (.cells #[.slice a2 z2.length cap2] 24)) (w.heap.size + 2) (.slice a2 z2.length cap2) := by
    have h := PtC.new ((w.alloc (.cells #[.slice a0 z0.length cap0] 24)).alloc (.cells #[.slice a1 z1.length cap1] 24)) (.slice a2 z2.length cap2) 24
    rw [World.size_alloc, World.size_alloc] at h
    exact h
  have Pm1 := Lib.hid (Pm1.on hbl0)
  have Pm2 := Lib.hid (Pm2.on hbl0)
  have hcm0 := Pm1.out.2
  have hs0 := hbl0.size
  try simp at hs0
  have hBl0 : Below w.heap.size w wl0 := (al1 (al1 (al1 (Below.refl _ _) _) _) _).trans (hbl0.mono (by (try simp) <;> omega))
  go_wp2_with fail
  refine (szC_no (HM1.out.on hBl0) (by omega) (by omega) (by omega)).mono ?_
  rintro e wl1 ⟨rfl, hbl1⟩
  go_wp2_with fail
  go_ret
  exact ⟨rfl, (hBl0.trans (hbl1.mono (by (try simp) <;> omega)))⟩
set_option maxRecDepth 100000 in
set_option maxHeartbeats 400000 in
theorem composeMaps_long4 (a3 a4 : Option Addr) (len3 cap3 len4 cap4 : Nat) (u0 u1 u2 : Value) (z0 z1 z2 : List (List Int)) (w : World) (hm3 : len3 ≤ 9223372036854775807) (hm4 : len4 ≤ 9223372036854775807) (hm0 : RowsRaw w u0 z0) (hm1 : RowsRaw w u1 z1) (hm2 : RowsRaw w u2 z2) (h3 : ¬ 1048576 < (len3 : Int)) (h4 : ¬ 1048576 < (len4 : Int)) (h0 : 0 ≤ 1048576 - ((z0.length : Int) + (tot z0 : Int)) - ((z1.length : Int) + (tot z1 : Int))) (hx : 1048576 - ((z0.length : Int) + (tot z0 : Int)) - ((z1.length : Int) + (tot z1 : Int)) < (z2.length : Int) + (tot z2 : Int)) :
    Calls Tryd.prog 5 #[.agg #[u0], .agg #[u1], .agg #[u2], .slice a3 len3 cap3, .slice a4 len4 cap4] w fun e w' => e = .returned (.bool true) ∧ Below w.heap.size w w' := by
  have HM0 := Lib.hid hm0
  obtain ⟨a0, cap0, rfl⟩ := hm0.slice
  have hq0 := hm0.len
  clear hm0
  have HM1 := Lib.hid hm1
  obtain ⟨a1, cap1, rfl⟩ := hm1.slice
  have hq1 := hm1.len
  clear hm1
  have HM2 := Lib.hid hm2
  obtain ⟨a2, cap2, rfl⟩ := hm2.slice
  have hq2 := hm2.len
  clear hm2
  go_enter Tryd.func5, Tryd.ntmps5
  go_wp2_with fail
  refine (szC_yes (HM0.out.on (al1 (al1 (al1 (Below.refl _ _) _) _) _)) (by omega) (by omega)).mono ?_
  rintro e wl0 ⟨rfl, hbl0⟩
  have Pm1 : PtC (((w.alloc (.cells #[.slice a0 z0.length cap0] 24)).alloc (.cells #[.slice a1 z1.length cap1] 24)).alloc (.cells #[.slice a2 z2.length cap2] 24)) (w.heap.size + 1) (.slice a1 z1.length cap1) := by
    have h := PtC.new1 (w.alloc (.cells #[.slice a0 z0.length cap0] 24)) (.slice a1 z1.length cap1) 24 (.cells #[.slice a2 z2.length cap2] 24)
    rw [World.size_alloc] at h
    exact h
  have Pm2 : PtC (((w.alloc (.cells #[.slice a0 z0.length cap0] 24)).alloc (.cells #[.slice a1 z1.length cap1] 24)).alloc (.cells #[.slice a2 z2.length cap2] 24)) (w.heap.size + 2) (.slice a2 z2.length cap2) := by
    have h := PtC.new ((w.alloc (.cells #[.slice a0 z0.length cap0] 24)).alloc (.cells #[.slice a1 z1.length cap1] 24)) (.slice a2 z2.length cap2) 24
    rw [World.size_alloc, World.size_alloc] at h
    exact h
  have Pm1 := Lib.hid (Pm1.on hbl0)
  have Pm2 := Lib.hid (Pm2.on hbl0)
  have hcm0 := Pm1.out.2
  have hs0 := hbl0.size
  try simp at hs0
  have hBl0 : Below w.heap.size w wl0 := (al1 (al1 (al1 (Below.refl _ _) _) _) _).trans (hbl0.mono (by (try simp) <;> omega))
  go_wp2_with fail
  refine (szC_yes (HM1.out.on hBl0) (by omega) (by omega)).mono ?_
  rintro e wl1 ⟨rfl, hbl1⟩
  have Pm1 := Lib.hid (Pm1.out.on hbl1)
  have Pm2 := Lib.hid (Pm2.out.on hbl1)
  have hcm1 := Pm2.out.2
  have hs1 := hbl1.size
  try simp at hs1
  have hBl1 : Below w.heap.size w wl1 := hBl0.trans (hbl1.mono (by (try simp) <;> omega))
  go_wp2_with fail
  refine (szC_no (HM2.out.on hBl1) (by omega) (by omega) (by omega)).mono ?_
  rintro e wl2 ⟨rfl, hbl2⟩
  go_wp2_with fail
  go_ret
  exact ⟨rfl, (hBl1.trans (hbl2.mono (by (try simp) <;> omega)))⟩
theorem composeMaps_of (a3 a4 : Option Addr) (len3 cap3 len4 cap4 : Nat) (z3 z4 : List Int) (u0 u1 u2 : Value) (z0 z1 z2 : List (List Int)) (w : World)
    (hw0 : RowsRaw w u0 z0)
    (hw1 : RowsRaw w u1 z1)
    (hw2 : RowsRaw w u2 z2)
    (hw3 : (a3 = none ∧ len3 = 0 ∧ cap3 = 0 ∧ z3 = []) ∨ ∃ x, a3 = some x ∧ len3 ≤ cap3 ∧ cap3 ≤ maxLen ∧ z3.length = cap3 ∧ (∀ i, i < z3.length → w.cell? (x.add i) = some (.int .i64 (z3.getD i 0))) ∧ ∀ n ∈ z3, (Lit.int .i64 n).wf = true)
    (hw4 : (a4 = none ∧ len4 = 0 ∧ cap4 = 0 ∧ z4 = []) ∨ ∃ x, a4 = some x ∧ len4 ≤ cap4 ∧ cap4 ≤ maxLen ∧ z4.length = cap4 ∧ (∀ i, i < z4.length → w.cell? (x.add i) = some (.int .i64 (z4.getD i 0))) ∧ ∀ n ∈ z4, (Lit.int .i64 n).wf = true)
    (hTz : Tz w) :
    Calls Tryd.prog 5 #[.agg #[u0], .agg #[u1], .agg #[u2], .slice a3 len3 cap3, .slice a4 len4 cap4] w fun e w' => e = .returned (.bool true) ∧ Below w.heap.size w w' := by
  by_cases h3 : 1048576 < (len3 : Int)
  · exact composeMaps_long0 a3 a4 len3 cap3 len4 cap4 u0 u1 u2 z0 z1 z2  w (len_max hw3) (len_max hw4) hw0 hw1 hw2  h3
  by_cases h4 : 1048576 < (len4 : Int)
  · exact composeMaps_long1 a3 a4 len3 cap3 len4 cap4 u0 u1 u2 z0 z1 z2  w (len_max hw3) (len_max hw4) hw0 hw1 hw2 h3 h4
  by_cases g0 : 1048576 < (z0.length + tot z0)
  · exact composeMaps_long2 a3 a4 len3 cap3 len4 cap4 u0 u1 u2 z0 z1 z2  w (len_max hw3) (len_max hw4) hw0 hw1 hw2 h3 h4 (by omega)
  by_cases g1 : 1048576 < (z0.length + tot z0) + (z1.length + tot z1)
  · exact composeMaps_long3 a3 a4 len3 cap3 len4 cap4 u0 u1 u2 z0 z1 z2  w (len_max hw3) (len_max hw4) hw0 hw1 hw2 h3 h4 (by omega) (by omega)
  by_cases g2 : 1048576 < (z0.length + tot z0) + (z1.length + tot z1) + (z2.length + tot z2)
  · exact composeMaps_long4 a3 a4 len3 cap3 len4 cap4 u0 u1 u2 z0 z1 z2  w (len_max hw3) (len_max hw4) hw0 hw1 hw2 h3 h4 (by omega) (by omega)
  have hx : (z3.take len3).length = len3 ∧ (z4.take len4).length = len4 := ⟨row_len hw3, row_len hw4⟩
  have := composeMaps_at  w (hw0.at (by omega) (by omega)) (hw1.at (by omega) (by omega)) (hw2.at (by omega) (by omega)) (intsAt_in (by omega) hw3) (intsAt_in (by omega) hw4) (by omega) hTz
  exact this
end Go.Proofs.YtibdcejglkhcfaaDoor
