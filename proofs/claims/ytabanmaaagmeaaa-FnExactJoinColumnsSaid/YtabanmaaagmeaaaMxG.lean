/-
  Contracts of AddMatrices of the model.
-/
import Derived.Test.YtabanmaaagmeaaaMxE
import Derived.Test.YtabanmaaagmeaaaMxP
namespace Go.Proofs.Ytabanmaaagmeaaa
open Go.RowKit
open Lin
set_option linter.unusedVariables false
set_option linter.unusedSectionVars false

set_option maxRecDepth 100000 in
set_option maxHeartbeats 1600000 in
theorem specAdd_b0 {p r c q s d : Int} {u v : Value} {xs ys : List Int} {w : World} (hu : IntsAt w u xs) (hv : IntsAt w v ys) (hk : bothB p r c xs q s d ys = false) :
    Calls Try.prog 46 #[.agg #[.int .i64 p, .int .i64 r, .int .i64 c, u], .agg #[.int .i64 q, .int .i64 s, .int .i64 d, v]] w fun e w' => RetMC 0 0 0 [] 1 w e w' := by
  have HU := Lib.hid hu
  have HV := Lib.hid hv
  obtain ⟨a1, c1, rfl, hl1, _⟩ := hu
  obtain ⟨a2, c2, rfl, hl2, _⟩ := hv
  have HK := Lib.hid hk
  clear hk
  have Pa0 := PtM.new2 w p r c (.slice a1 xs.length c1) 27 (.cells #[.int .i64 q, .int .i64 s, .int .i64 d, .slice a2 ys.length c2] 27) (.cells #[.int .i64 0, .int .i64 0, .int .i64 0, .slice none 0 0] 27)
  have Pb0 := PtM.new1 (w.alloc (.cells #[.int .i64 p, .int .i64 r, .int .i64 c, .slice a1 xs.length c1] 27)) q s d (.slice a2 ys.length c2) 27 (.cells #[.int .i64 0, .int .i64 0, .int .i64 0, .slice none 0 0] 27)
  have Pr0 := PtM.new ((w.alloc (.cells #[.int .i64 p, .int .i64 r, .int .i64 c, .slice a1 xs.length c1] 27)).alloc (.cells #[.int .i64 q, .int .i64 s, .int .i64 d, .slice a2 ys.length c2] 27)) 0 0 0 (.slice none 0 0) 27
  have Fr0 := Fz.new ((w.alloc (.cells #[.int .i64 p, .int .i64 r, .int .i64 c, .slice a1 xs.length c1] 27)).alloc (.cells #[.int .i64 q, .int .i64 s, .int .i64 d, .slice a2 ys.length c2] 27)) #[.int .i64 0, .int .i64 0, .int .i64 0, .slice none 0 0] 27
  rw [World.size_alloc] at Pb0
  rw [World.size_alloc, World.size_alloc] at Pr0 Fr0
  go_enter Try.func46, Try.ntmps46
  go_wp2_with fail
  with_reducible refine Calls.mono (both_is (T := false) Pa0 Pb0 (HU.out.on (al1 (al1 (al1 (Below.refl _ _) _) _) _)) (HV.out.on (al1 (al1 (al1 (Below.refl _ _) _) _) _)) HK.out) ?_
  rintro e w1 ⟨rfl, hb⟩
  have Pa := Lib.hid (Pa0.on hb)
  have Pb := Lib.hid (Pb0.on hb)
  have Pr := Lib.hid (Pr0.on hb)
  have Fr : Hid (Fz w1 (w.heap.size + 1 + 1)) := Fr0.on (by simp) hb
  have HB := Lib.hid (up3 hb)
  have hz : w.heap.size + 3 ≤ w1.heap.size := by have := hb.size; simp at this; omega
  clear hb Pa0 Pb0 Pr0 Fr0
  obtain ⟨lA, x0, x1, x2, x3⟩ := Pa.out
  obtain ⟨lB, y0, y1, y2, y3⟩ := Pb.out
  obtain ⟨lR, r0, r1, r2, r3⟩ := Pr.out
  obtain ⟨f0, f1, f2, f3⟩ := Fr.out.all
  go_wp2_with fail
  refine bodyPost_ret (v := .tuple #[.agg #[.int .i64 0, .int .i64 0, .int .i64 0, .slice none 0 0], .int .i64 1]) (by simp [results, Try.results46, go_sem, r0, r1, r2, r3]) rfl ⟨_, rfl, OwnI.nul _ _, ?_⟩
  repeat (refine Below.setC ?_ (by omega) _)
  exact HB.out
set_option maxRecDepth 100000 in
set_option maxHeartbeats 1600000 in
theorem specAdd_b1 {p r c q s d : Int} {u v : Value} {xs ys : List Int} {w : World} (hu : IntsAt w u xs) (hv : IntsAt w v ys) (hk : bothB p r c xs q s d ys = true) (e0 : (p != q) = true) :
    Calls Try.prog 46 #[.agg #[.int .i64 p, .int .i64 r, .int .i64 c, u], .agg #[.int .i64 q, .int .i64 s, .int .i64 d, v]] w fun e w' => RetMC 0 0 0 [] 6 w e w' := by
  have HU := Lib.hid hu
  have HV := Lib.hid hv
  obtain ⟨a1, c1, rfl, hl1, _⟩ := hu
  obtain ⟨a2, c2, rfl, hl2, _⟩ := hv
  have HK := Lib.hid hk
  clear hk
  have Pa0 := PtM.new2 w p r c (.slice a1 xs.length c1) 27 (.cells #[.int .i64 q, .int .i64 s, .int .i64 d, .slice a2 ys.length c2] 27) (.cells #[.int .i64 0, .int .i64 0, .int .i64 0, .slice none 0 0] 27)
  have Pb0 := PtM.new1 (w.alloc (.cells #[.int .i64 p, .int .i64 r, .int .i64 c, .slice a1 xs.length c1] 27)) q s d (.slice a2 ys.length c2) 27 (.cells #[.int .i64 0, .int .i64 0, .int .i64 0, .slice none 0 0] 27)
  have Pr0 := PtM.new ((w.alloc (.cells #[.int .i64 p, .int .i64 r, .int .i64 c, .slice a1 xs.length c1] 27)).alloc (.cells #[.int .i64 q, .int .i64 s, .int .i64 d, .slice a2 ys.length c2] 27)) 0 0 0 (.slice none 0 0) 27
  have Fr0 := Fz.new ((w.alloc (.cells #[.int .i64 p, .int .i64 r, .int .i64 c, .slice a1 xs.length c1] 27)).alloc (.cells #[.int .i64 q, .int .i64 s, .int .i64 d, .slice a2 ys.length c2] 27)) #[.int .i64 0, .int .i64 0, .int .i64 0, .slice none 0 0] 27
  rw [World.size_alloc] at Pb0
  rw [World.size_alloc, World.size_alloc] at Pr0 Fr0
  go_enter Try.func46, Try.ntmps46
  go_wp2_with fail
  with_reducible refine Calls.mono (both_is (T := true) Pa0 Pb0 (HU.out.on (al1 (al1 (al1 (Below.refl _ _) _) _) _)) (HV.out.on (al1 (al1 (al1 (Below.refl _ _) _) _) _)) HK.out) ?_
  rintro e w1 ⟨rfl, hb⟩
  have Pa := Lib.hid (Pa0.on hb)
  have Pb := Lib.hid (Pb0.on hb)
  have Pr := Lib.hid (Pr0.on hb)
  have Fr : Hid (Fz w1 (w.heap.size + 1 + 1)) := Fr0.on (by simp) hb
  have HB := Lib.hid (up3 hb)
  have hz : w.heap.size + 3 ≤ w1.heap.size := by have := hb.size; simp at this; omega
  clear hb Pa0 Pb0 Pr0 Fr0
  obtain ⟨lA, x0, x1, x2, x3⟩ := Pa.out
  obtain ⟨lB, y0, y1, y2, y3⟩ := Pb.out
  obtain ⟨lR, r0, r1, r2, r3⟩ := Pr.out
  obtain ⟨f0, f1, f2, f3⟩ := Fr.out.all
  go_wp2_with fail
  refine bodyPost_ret (v := .tuple #[.agg #[.int .i64 0, .int .i64 0, .int .i64 0, .slice none 0 0], .int .i64 6]) (by simp [results, Try.results46, go_sem, r0, r1, r2, r3]) rfl ⟨_, rfl, OwnI.nul _ _, ?_⟩
  repeat (refine Below.setC ?_ (by omega) _)
  exact HB.out
set_option maxRecDepth 100000 in
set_option maxHeartbeats 1600000 in
theorem specAdd_b2 {p r c q s d : Int} {u v : Value} {xs ys : List Int} {w : World} (hu : IntsAt w u xs) (hv : IntsAt w v ys) (hk : bothB p r c xs q s d ys = true) (e0 : (p != q) = false) (e1 : (r != s) = true) :
    Calls Try.prog 46 #[.agg #[.int .i64 p, .int .i64 r, .int .i64 c, u], .agg #[.int .i64 q, .int .i64 s, .int .i64 d, v]] w fun e w' => RetMC 0 0 0 [] 6 w e w' := by
  have HU := Lib.hid hu
  have HV := Lib.hid hv
  obtain ⟨a1, c1, rfl, hl1, _⟩ := hu
  obtain ⟨a2, c2, rfl, hl2, _⟩ := hv
  have HK := Lib.hid hk
  clear hk
  have Pa0 := PtM.new2 w p r c (.slice a1 xs.length c1) 27 (.cells #[.int .i64 q, .int .i64 s, .int .i64 d, .slice a2 ys.length c2] 27) (.cells #[.int .i64 0, .int .i64 0, .int .i64 0, .slice none 0 0] 27)
  have Pb0 := PtM.new1 (w.alloc (.cells #[.int .i64 p, .int .i64 r, .int .i64 c, .slice a1 xs.length c1] 27)) q s d (.slice a2 ys.length c2) 27 (.cells #[.int .i64 0, .int .i64 0, .int .i64 0, .slice none 0 0] 27)
  have Pr0 := PtM.new ((w.alloc (.cells #[.int .i64 p, .int .i64 r, .int .i64 c, .slice a1 xs.length c1] 27)).alloc (.cells #[.int .i64 q, .int .i64 s, .int .i64 d, .slice a2 ys.length c2] 27)) 0 0 0 (.slice none 0 0) 27
  have Fr0 := Fz.new ((w.alloc (.cells #[.int .i64 p, .int .i64 r, .int .i64 c, .slice a1 xs.length c1] 27)).alloc (.cells #[.int .i64 q, .int .i64 s, .int .i64 d, .slice a2 ys.length c2] 27)) #[.int .i64 0, .int .i64 0, .int .i64 0, .slice none 0 0] 27
  rw [World.size_alloc] at Pb0
  rw [World.size_alloc, World.size_alloc] at Pr0 Fr0
  go_enter Try.func46, Try.ntmps46
  go_wp2_with fail
  with_reducible refine Calls.mono (both_is (T := true) Pa0 Pb0 (HU.out.on (al1 (al1 (al1 (Below.refl _ _) _) _) _)) (HV.out.on (al1 (al1 (al1 (Below.refl _ _) _) _) _)) HK.out) ?_
  rintro e w1 ⟨rfl, hb⟩
  have Pa := Lib.hid (Pa0.on hb)
  have Pb := Lib.hid (Pb0.on hb)
  have Pr := Lib.hid (Pr0.on hb)
  have Fr : Hid (Fz w1 (w.heap.size + 1 + 1)) := Fr0.on (by simp) hb
  have HB := Lib.hid (up3 hb)
  have hz : w.heap.size + 3 ≤ w1.heap.size := by have := hb.size; simp at this; omega
  clear hb Pa0 Pb0 Pr0 Fr0
  obtain ⟨lA, x0, x1, x2, x3⟩ := Pa.out
  obtain ⟨lB, y0, y1, y2, y3⟩ := Pb.out
  obtain ⟨lR, r0, r1, r2, r3⟩ := Pr.out
  obtain ⟨f0, f1, f2, f3⟩ := Fr.out.all
  go_wp2_with fail
  refine bodyPost_ret (v := .tuple #[.agg #[.int .i64 0, .int .i64 0, .int .i64 0, .slice none 0 0], .int .i64 6]) (by simp [results, Try.results46, go_sem, r0, r1, r2, r3]) rfl ⟨_, rfl, OwnI.nul _ _, ?_⟩
  repeat (refine Below.setC ?_ (by omega) _)
  exact HB.out
set_option maxRecDepth 100000 in
set_option maxHeartbeats 1600000 in
theorem specAdd_b3 {p r c q s d : Int} {u v : Value} {xs ys : List Int} {w : World} (hu : IntsAt w u xs) (hv : IntsAt w v ys) (hk : bothB p r c xs q s d ys = true) (e0 : (p != q) = false) (e1 : (r != s) = false) (e2 : (c != d) = true) :
    Calls Try.prog 46 #[.agg #[.int .i64 p, .int .i64 r, .int .i64 c, u], .agg #[.int .i64 q, .int .i64 s, .int .i64 d, v]] w fun e w' => RetMC 0 0 0 [] 6 w e w' := by
  have HU := Lib.hid hu
  have HV := Lib.hid hv
  obtain ⟨a1, c1, rfl, hl1, _⟩ := hu
  obtain ⟨a2, c2, rfl, hl2, _⟩ := hv
  have HK := Lib.hid hk
  clear hk
  have Pa0 := PtM.new2 w p r c (.slice a1 xs.length c1) 27 (.cells #[.int .i64 q, .int .i64 s, .int .i64 d, .slice a2 ys.length c2] 27) (.cells #[.int .i64 0, .int .i64 0, .int .i64 0, .slice none 0 0] 27)
  have Pb0 := PtM.new1 (w.alloc (.cells #[.int .i64 p, .int .i64 r, .int .i64 c, .slice a1 xs.length c1] 27)) q s d (.slice a2 ys.length c2) 27 (.cells #[.int .i64 0, .int .i64 0, .int .i64 0, .slice none 0 0] 27)
  have Pr0 := PtM.new ((w.alloc (.cells #[.int .i64 p, .int .i64 r, .int .i64 c, .slice a1 xs.length c1] 27)).alloc (.cells #[.int .i64 q, .int .i64 s, .int .i64 d, .slice a2 ys.length c2] 27)) 0 0 0 (.slice none 0 0) 27
  have Fr0 := Fz.new ((w.alloc (.cells #[.int .i64 p, .int .i64 r, .int .i64 c, .slice a1 xs.length c1] 27)).alloc (.cells #[.int .i64 q, .int .i64 s, .int .i64 d, .slice a2 ys.length c2] 27)) #[.int .i64 0, .int .i64 0, .int .i64 0, .slice none 0 0] 27
  rw [World.size_alloc] at Pb0
  rw [World.size_alloc, World.size_alloc] at Pr0 Fr0
  go_enter Try.func46, Try.ntmps46
  go_wp2_with fail
  with_reducible refine Calls.mono (both_is (T := true) Pa0 Pb0 (HU.out.on (al1 (al1 (al1 (Below.refl _ _) _) _) _)) (HV.out.on (al1 (al1 (al1 (Below.refl _ _) _) _) _)) HK.out) ?_
  rintro e w1 ⟨rfl, hb⟩
  have Pa := Lib.hid (Pa0.on hb)
  have Pb := Lib.hid (Pb0.on hb)
  have Pr := Lib.hid (Pr0.on hb)
  have Fr : Hid (Fz w1 (w.heap.size + 1 + 1)) := Fr0.on (by simp) hb
  have HB := Lib.hid (up3 hb)
  have hz : w.heap.size + 3 ≤ w1.heap.size := by have := hb.size; simp at this; omega
  clear hb Pa0 Pb0 Pr0 Fr0
  obtain ⟨lA, x0, x1, x2, x3⟩ := Pa.out
  obtain ⟨lB, y0, y1, y2, y3⟩ := Pb.out
  obtain ⟨lR, r0, r1, r2, r3⟩ := Pr.out
  obtain ⟨f0, f1, f2, f3⟩ := Fr.out.all
  go_wp2_with fail
  refine bodyPost_ret (v := .tuple #[.agg #[.int .i64 0, .int .i64 0, .int .i64 0, .slice none 0 0], .int .i64 6]) (by simp [results, Try.results46, go_sem, r0, r1, r2, r3]) rfl ⟨_, rfl, OwnI.nul _ _, ?_⟩
  repeat (refine Below.setC ?_ (by omega) _)
  exact HB.out
/-- The sums of the first k cells. -/
def SumF {q : Nat} [NeZero q] (n : Nat) (A B : Mt q) (k t : Nat) : Value := if t < k then .int .i64 (fv (cellF n A t + cellF n B t)) else .int .i64 0
set_option maxRecDepth 100000 in
set_option maxHeartbeats 3200000 in
theorem specAdd_ok {q m n : Nat} [NeZero q] {A B : Mt q} {u v : Value} {w : World} (hu : IntsAt w u (flat m n A)) (hv : IntsAt w v (flat m n B)) (hA : MIs q m n (flat m n A) q m n A) (hB : MIs q m n (flat m n B) q m n B) (h0 : 0 < m * n) :
    Calls Try.prog 46 #[.agg #[.int .i64 (q : Int), .int .i64 (m : Int), .int .i64 (n : Int), u], .agg #[.int .i64 (q : Int), .int .i64 (m : Int), .int .i64 (n : Int), v]] w fun e w' => RetMC q m n (flat m n (fun i j => A i j + B i j)) 0 w e w' := by
  have hk : bothB (q : Int) m n (flat m n A) q m n (flat m n B) = true := bothB_yes hA.ok hB.ok
  have hN := side_mul hA.m32 hA.n32
  obtain ⟨hq2, hq⟩ := hA.q2
  have e0 : ((q : Int) != (q : Int)) = false := by simp
  have e1 : ((m : Int) != (m : Int)) = false := by simp
  have e2 : ((n : Int) != (n : Int)) = false := by simp
  have kz : ¬ (q : Int) = 0 := by omega
  have HU := Lib.hid hu
  have HV := Lib.hid hv
  obtain ⟨a1, c1, rfl, _, h1 | ⟨b1, o1, rfl, hb1, k1⟩⟩ := hu
  · have := congrArg List.length h1; rw [flat_len] at this; simp at this; omega
  obtain ⟨a2, c2, rfl, _, h2 | ⟨b2, o2, rfl, hb2, k2⟩⟩ := hv
  · have := congrArg List.length h2; rw [flat_len] at this; simp at this; omega
  have HK := Lib.hid hk
  have K1 := Lib.hid (flat_cells k1)
  have K2 := Lib.hid (flat_cells k2)
  simp only [flat_len] at HU HV ⊢
  clear hk hA hB k1 k2
  have Pa0 := PtM.new2 w q m n (.slice (some ⟨b1, o1, none⟩) (m * n) c1) 27 (.cells #[.int .i64 q, .int .i64 m, .int .i64 n, .slice (some ⟨b2, o2, none⟩) (m * n) c2] 27) (.cells #[.int .i64 0, .int .i64 0, .int .i64 0, .slice none 0 0] 27)
  have Pb0 := PtM.new1 (w.alloc (.cells #[.int .i64 q, .int .i64 m, .int .i64 n, .slice (some ⟨b1, o1, none⟩) (m * n) c1] 27)) q m n (.slice (some ⟨b2, o2, none⟩) (m * n) c2) 27 (.cells #[.int .i64 0, .int .i64 0, .int .i64 0, .slice none 0 0] 27)
  have Pr0 := PtM.new ((w.alloc (.cells #[.int .i64 q, .int .i64 m, .int .i64 n, .slice (some ⟨b1, o1, none⟩) (m * n) c1] 27)).alloc (.cells #[.int .i64 q, .int .i64 m, .int .i64 n, .slice (some ⟨b2, o2, none⟩) (m * n) c2] 27)) 0 0 0 (.slice none 0 0) 27
  have Fr0 := Fz.new ((w.alloc (.cells #[.int .i64 q, .int .i64 m, .int .i64 n, .slice (some ⟨b1, o1, none⟩) (m * n) c1] 27)).alloc (.cells #[.int .i64 q, .int .i64 m, .int .i64 n, .slice (some ⟨b2, o2, none⟩) (m * n) c2] 27)) #[.int .i64 0, .int .i64 0, .int .i64 0, .slice none 0 0] 27
  rw [World.size_alloc] at Pb0
  rw [World.size_alloc, World.size_alloc] at Pr0 Fr0
  go_enter Try.func46, Try.ntmps46
  go_wp2_with fail
  with_reducible refine Calls.mono (both_is (T := true) Pa0 Pb0 (HU.out.on (al1 (al1 (al1 (Below.refl _ _) _) _) _)) (HV.out.on (al1 (al1 (al1 (Below.refl _ _) _) _) _)) HK.out) ?_
  rintro e w1 ⟨rfl, hb⟩
  have Pa := Lib.hid (Pa0.on hb)
  have Pb := Lib.hid (Pb0.on hb)
  have Pr := Lib.hid (Pr0.on hb)
  have Fr : Hid (Fz w1 (w.heap.size + 1 + 1)) := Fr0.on (by simp) hb
  have HB := Lib.hid (up3 hb)
  have hz : w.heap.size + 3 ≤ w1.heap.size := by have := hb.size; simp at this; omega
  clear hb Pa0 Pb0 Pr0 Fr0
  obtain ⟨lA, x0, x1, x2, x3⟩ := Pa.out
  obtain ⟨lB, y0, y1, y2, y3⟩ := Pb.out
  obtain ⟨lR, r0, r1, r2, r3⟩ := Pr.out
  obtain ⟨f0, f1, f2, f3⟩ := Fr.out.all
  go_wp2_with fail
  refine (specZeros_any q m n (m * n) _ (Int.natCast_mul m n).symm (by omega)).mono ?_
  rintro e w2 ⟨g, rfl, hg, hrow, hb⟩
  clear lA x0 x1 x2 x3 lB y0 y1 y2 y3 lR r0 r1 r2 r3 f0 f1 f2 f3
  have Pa := Lib.hid (Pa.out.on hb)
  have Pb := Lib.hid (Pb.out.on hb)
  have Pr := Lib.hid (Pr.out.on hb)
  have Fr : Hid (Fz w2 (w.heap.size + 1 + 1)) := Fr.out.on (by omega) hb
  have HB := Lib.hid (HB.out.trans (hb.mono (by omega)))
  have hz2 : w.heap.size + 3 ≤ w2.heap.size := by have := hb.size; omega
  have hg3 := hrow.lt
  have HR := Lib.hid hrow
  have hg2 : w.heap.size + 3 ≤ g := by omega
  clear hb hrow hg
  obtain ⟨lA, x0, x1, x2, x3⟩ := Pa.out
  obtain ⟨lB, y0, y1, y2, y3⟩ := Pb.out
  obtain ⟨lR, r0, r1, r2, r3⟩ := Pr.out
  obtain ⟨f0, f1, f2, f3⟩ := Fr.out.all
  go_wp2_with fail
  clear lA x0 x1 x2 x3 lB y0 y1 y2 y3 lR r0 r1 r2 r3 f0 f1 f2 f3
  have bb := (Below.refl w2.heap.size w2).alloc (Nat.le_refl _) (.cells #[.int .i64 q, .int .i64 m, .int .i64 n, .slice (some ⟨g, 0, none⟩) (m * n) (m * n)] 27)
  have PM := PtM.new w2 q m n (.slice (some ⟨g, 0, none⟩) (m * n) (m * n)) 27
  generalize hW : World.alloc w2 (.cells #[.int .i64 q, .int .i64 m, .int .i64 n, .slice (some ⟨g, 0, none⟩) (m * n) (m * n)] 27) = W1 at PM bb ⊢
  obtain ⟨L, hL⟩ : ∃ L, w2.heap.size = L := ⟨_, rfl⟩
  rw [hL] at PM ⊢
  have Pa := Lib.hid (Pa.out.on bb)
  have Pb := Lib.hid (Pb.out.on bb)
  have Pr := Lib.hid (Pr.out.on bb)
  have Fr : Hid (Fz W1 (w.heap.size + 1 + 1)) := Fr.out.on (by omega) bb
  have HB := Lib.hid (HB.out.trans (bb.mono (by omega)))
  have HR := Lib.hid (rowIs_on HR.out bb)
  have PM := Lib.hid PM
  have sL : L < W1.heap.size := PM.out.1
  rw [hL] at hg3 hz2
  clear bb hW hL
  go_loopw [7] (fun i wr => ∃ k : Nat, k ≤ m * n ∧ i = .int .i64 (k : Int) ∧ Hid (wr.rowIs g 2 (m * n) (SumF n A B k)) ∧ Hid (W1.grownBy wr (some g))) (fun i _ => m * n - (intOf i).toNat)
  case atStart => exact ⟨0, Nat.zero_le _, rfl, HR.out.congr fun t _ => by unfold SumF; rw [if_neg (by omega)], grown_refl _ _⟩
  case round =>
    obtain ⟨k, hk, rfl, HX, HG⟩ := hrel
    obtain ⟨lA, x0, x1, x2, x3⟩ := Pa.out.gb HG.out (by omega)
    obtain ⟨lB, y0, y1, y2, y3⟩ := Pb.out.gb HG.out (by omega)
    obtain ⟨lM, m0, m1, m2, m3⟩ := PM.out.gb HG.out (by omega)
    obtain ⟨N, hNN⟩ : ∃ N, m * n = N := ⟨_, rfl⟩
    rw [hNN] at hk hN HX x3 y3 m3 ⊢
    by_cases hlt : k < N
    · have HBW := Lib.hid (below_gb HB.out HG.out (by omega) (by omega))
      have c1 : wr.cell? ⟨b1, o1 + k, none⟩ = some (.int .i64 (fv (cellF n A k))) := (HBW.out.cell (p := ⟨b1, o1 + k, none⟩) hb1).trans (K1.out k (by omega))
      have c2 : wr.cell? ⟨b2, o2 + k, none⟩ = some (.int .i64 (fv (cellF n B k))) := (HBW.out.cell (p := ⟨b2, o2 + k, none⟩) hb2).trans (K2.out k (by omega))
      have c3 := HX.out.cell (i := k) hlt
      have f3 := HX.out.frozen k
      unfold SumF at c3
      rw [if_neg (by omega)] at c3
      have hv := fv_add (cellF n A k) (cellF n B k)
      have bx := fv_nn (cellF n A k)
      have by' := fv_nn (cellF n B k)
      have bx2 := fv_lt (cellF n A k)
      have by2 := fv_lt (cellF n B k)
      obtain ⟨x, hx⟩ : ∃ x, fv (cellF n A k) = x := ⟨_, rfl⟩
      obtain ⟨y, hy⟩ : ∃ y, fv (cellF n B k) = y := ⟨_, rfl⟩
      rw [hx] at c1 hv bx bx2
      rw [hy] at c2 hv by' by2
      have w1 : IntKind.i64.wrap (x + y) = x + y := IntWalk.i64_in _ (by omega)
      have w2 : (x + y).tmod q = (x + y) % q := Int.tmod_eq_emod_of_nonneg (by omega)
      have i0 : (0 : Int) ≤ (k : Int) := by omega
      have i1 : (k : Int) < (N : Int) := by omega
      have HY : Hid ((wr.setCell ⟨g, k, none⟩ (.int .i64 ((x + y) % q))).drew.rowIs g 2 N (SumF n A B (k + 1))) :=
        ((HX.out.set k _).congr fun t _ => by unfold SumF; exact row_next (F := fun t => .int .i64 (fv (cellF n A t + cellF n B t))) (by rw [hv]) t).drew
      have HG2 : Hid (W1.grownBy (wr.setCell ⟨g, k, none⟩ (.int .i64 ((x + y) % q))).drew (some g)) := gb_drew (gb_set HG.out _)
      have HNN := Lib.hid hNN
      clear hv hx hy hNN
      go_wp2
      go_region
      go_wp2
      go_roundw
      case rel => exact ⟨k + 1, by omega, by go_num, HY.out, HG2.out⟩
      case measure => simp [intOf]; omega
    · obtain rfl : k = N := by omega
      have HNN := Lib.hid hNN
      obtain ⟨lR, r0, r1, r2, r3⟩ := Pr.out.gb HG.out (by omega)
      obtain ⟨f0, f1, f2, f3⟩ := (Fr.out.gb (by omega) HG.out (by omega)).all
      clear hNN
      go_wp2
      refine bodyPost_ret (v := .tuple #[.agg #[.int .i64 q, .int .i64 m, .int .i64 n, .slice (some ⟨g, 0, none⟩) k k], .int .i64 0]) (by simp [results, Try.results46, go_sem, r0, r1, r2, r3]) rfl ⟨_, rfl, ?_, ?_⟩
      · refine OwnI.mono (B := w.heap.size + 3) ?_ (by omega)
        repeat (refine OwnI.setOut ?_ (by omega) _)
        have := HNN.out
        subst this
        refine OwnI.of_flat HX.out hg2 (by omega) fun i j hi hj => ?_
        have := idx_lt hi hj
        unfold SumF cellF
        rw [if_pos this, idx_div hj, idx_mod hj]
      · repeat (refine Below.setC ?_ (by omega) _)
        exact below_gb HB.out HG.out (by omega) (by omega)
set_option maxRecDepth 100000 in
set_option maxHeartbeats 3200000 in
theorem specAdd_nil {q m n : Nat} [NeZero q] {A B : Mt q} {u v : Value} {w : World} (hu : IntsAt w u (flat m n A)) (hv : IntsAt w v (flat m n B)) (hA : MIs q m n (flat m n A) q m n A) (hB : MIs q m n (flat m n B) q m n B) (h0 : m * n = 0) :
    Calls Try.prog 46 #[.agg #[.int .i64 (q : Int), .int .i64 (m : Int), .int .i64 (n : Int), u], .agg #[.int .i64 (q : Int), .int .i64 (m : Int), .int .i64 (n : Int), v]] w fun e w' => RetMC q m n (flat m n (fun i j => A i j + B i j)) 0 w e w' := by
  have hk : bothB (q : Int) m n (flat m n A) q m n (flat m n B) = true := bothB_yes hA.ok hB.ok
  have hN := side_mul hA.m32 hA.n32
  obtain ⟨hq2, hq⟩ := hA.q2
  have e0 : ((q : Int) != (q : Int)) = false := by simp
  have e1 : ((m : Int) != (m : Int)) = false := by simp
  have e2 : ((n : Int) != (n : Int)) = false := by simp
  have kz : ¬ (q : Int) = 0 := by omega
  have HU := Lib.hid hu
  have HV := Lib.hid hv
  have fA : flat m n A = [] := List.eq_nil_of_length_eq_zero (by rw [flat_len]; exact h0)
  have fB : flat m n B = [] := List.eq_nil_of_length_eq_zero (by rw [flat_len]; exact h0)
  have fC : flat m n (fun i j => A i j + B i j) = [] := List.eq_nil_of_length_eq_zero (by rw [flat_len]; exact h0)
  have HZ : Hid ((m : Int) * n = ((0 : Nat) : Int)) := by show _ = _; rw [← h0, Int.natCast_mul]
  rw [fA] at hu HU hk
  rw [fB] at hv HV hk
  rw [fC]
  obtain ⟨a1, c1, rfl, _, _⟩ := hu
  obtain ⟨a2, c2, rfl, _, _⟩ := hv
  simp only [List.length_nil] at HU HV ⊢
  have HK := Lib.hid hk
  clear hk hA hB fA fB fC h0
  have Pa0 := PtM.new2 w q m n (.slice a1 0 c1) 27 (.cells #[.int .i64 q, .int .i64 m, .int .i64 n, .slice a2 0 c2] 27) (.cells #[.int .i64 0, .int .i64 0, .int .i64 0, .slice none 0 0] 27)
  have Pb0 := PtM.new1 (w.alloc (.cells #[.int .i64 q, .int .i64 m, .int .i64 n, .slice a1 0 c1] 27)) q m n (.slice a2 0 c2) 27 (.cells #[.int .i64 0, .int .i64 0, .int .i64 0, .slice none 0 0] 27)
  have Pr0 := PtM.new ((w.alloc (.cells #[.int .i64 q, .int .i64 m, .int .i64 n, .slice a1 0 c1] 27)).alloc (.cells #[.int .i64 q, .int .i64 m, .int .i64 n, .slice a2 0 c2] 27)) 0 0 0 (.slice none 0 0) 27
  have Fr0 := Fz.new ((w.alloc (.cells #[.int .i64 q, .int .i64 m, .int .i64 n, .slice a1 0 c1] 27)).alloc (.cells #[.int .i64 q, .int .i64 m, .int .i64 n, .slice a2 0 c2] 27)) #[.int .i64 0, .int .i64 0, .int .i64 0, .slice none 0 0] 27
  rw [World.size_alloc] at Pb0
  rw [World.size_alloc, World.size_alloc] at Pr0 Fr0
  go_enter Try.func46, Try.ntmps46
  go_wp2_with fail
  with_reducible refine Calls.mono (both_is (T := true) Pa0 Pb0 (HU.out.on (al1 (al1 (al1 (Below.refl _ _) _) _) _)) (HV.out.on (al1 (al1 (al1 (Below.refl _ _) _) _) _)) HK.out) ?_
  rintro e w1 ⟨rfl, hb⟩
  have Pa := Lib.hid (Pa0.on hb)
  have Pb := Lib.hid (Pb0.on hb)
  have Pr := Lib.hid (Pr0.on hb)
  have Fr : Hid (Fz w1 (w.heap.size + 1 + 1)) := Fr0.on (by simp) hb
  have HB := Lib.hid (up3 hb)
  have hz : w.heap.size + 3 ≤ w1.heap.size := by have := hb.size; simp at this; omega
  clear hb Pa0 Pb0 Pr0 Fr0
  obtain ⟨lA, x0, x1, x2, x3⟩ := Pa.out
  obtain ⟨lB, y0, y1, y2, y3⟩ := Pb.out
  obtain ⟨lR, r0, r1, r2, r3⟩ := Pr.out
  obtain ⟨f0, f1, f2, f3⟩ := Fr.out.all
  go_wp2_with fail
  refine (specZeros_any q m n 0 _ HZ.out (by omega)).mono ?_
  rintro e w2 ⟨g, rfl, hg, hrow, hb⟩
  clear lA x0 x1 x2 x3 lB y0 y1 y2 y3 lR r0 r1 r2 r3 f0 f1 f2 f3
  have Pa := Lib.hid (Pa.out.on hb)
  have Pb := Lib.hid (Pb.out.on hb)
  have Pr := Lib.hid (Pr.out.on hb)
  have Fr : Hid (Fz w2 (w.heap.size + 1 + 1)) := Fr.out.on (by omega) hb
  have HB := Lib.hid (HB.out.trans (hb.mono (by omega)))
  have hz2 : w.heap.size + 3 ≤ w2.heap.size := by have := hb.size; omega
  have hg3 := hrow.lt
  have HR := Lib.hid hrow
  have hg2 : w.heap.size + 3 ≤ g := by omega
  clear hb hrow hg
  obtain ⟨lA, x0, x1, x2, x3⟩ := Pa.out
  obtain ⟨lB, y0, y1, y2, y3⟩ := Pb.out
  obtain ⟨lR, r0, r1, r2, r3⟩ := Pr.out
  obtain ⟨f0, f1, f2, f3⟩ := Fr.out.all
  go_wp2_with fail
  clear lA x0 x1 x2 x3 lB y0 y1 y2 y3 lR r0 r1 r2 r3 f0 f1 f2 f3
  have bb := (Below.refl w2.heap.size w2).alloc (Nat.le_refl _) (.cells #[.int .i64 q, .int .i64 m, .int .i64 n, .slice (some ⟨g, 0, none⟩) 0 0] 27)
  have PM := PtM.new w2 q m n (.slice (some ⟨g, 0, none⟩) 0 0) 27
  generalize hW : World.alloc w2 (.cells #[.int .i64 q, .int .i64 m, .int .i64 n, .slice (some ⟨g, 0, none⟩) 0 0] 27) = W1 at PM bb ⊢
  obtain ⟨L, hL⟩ : ∃ L, w2.heap.size = L := ⟨_, rfl⟩
  rw [hL] at PM ⊢
  have Pa := Lib.hid (Pa.out.on bb)
  have Pb := Lib.hid (Pb.out.on bb)
  have Pr := Lib.hid (Pr.out.on bb)
  have Fr : Hid (Fz W1 (w.heap.size + 1 + 1)) := Fr.out.on (by omega) bb
  have HB := Lib.hid (HB.out.trans (bb.mono (by omega)))
  have HR := Lib.hid (rowIs_on HR.out bb)
  have PM := Lib.hid PM
  have sL : L < W1.heap.size := PM.out.1
  rw [hL] at hg3 hz2
  clear bb hW hL
  refine wp_loop_rounds 1 ?_
  rw [rounds_succ]
  obtain ⟨lA, x0, x1, x2, x3⟩ := Pa.out
  obtain ⟨lB, y0, y1, y2, y3⟩ := Pb.out
  obtain ⟨lR, r0, r1, r2, r3⟩ := Pr.out
  obtain ⟨f0, f1, f2, f3⟩ := Fr.out.all
  obtain ⟨lM, m0, m1, m2, m3⟩ := PM.out
  go_wp2
  refine bodyPost_ret (v := .tuple #[.agg #[.int .i64 q, .int .i64 m, .int .i64 n, .slice (some ⟨g, 0, none⟩) 0 0], .int .i64 0]) (by simp [results, Try.results46, go_sem, r0, r1, r2, r3]) rfl ⟨_, rfl, ?_, ?_⟩
  · refine OwnI.mono (B := w.heap.size + 3) ?_ (by omega)
    repeat (refine OwnI.setOut ?_ (by omega) _)
    exact OwnI.zeros (n := 0) HR.out hg2 (by omega)
  · repeat (refine Below.setC ?_ (by omega) _)
    exact HB.out
theorem specAdd_any {p r c q s d P R C k : Int} {u v : Value} {xs ys zs : List Int} {w : World} (hu : IntsAt w u xs) (hv : IntsAt w v ys) (h : AddMRes p r c xs q s d ys P R C zs k) :
    Calls Try.prog 46 #[.agg #[.int .i64 p, .int .i64 r, .int .i64 c, u], .agg #[.int .i64 q, .int .i64 s, .int .i64 d, v]] w fun e w' => RetMC P R C zs k w e w' := by
  obtain ⟨hk, ⟨h0, rfl, rfl, rfl, rfl⟩ | ⟨rfl, rfl, rfl, rfl, u', _, m, n, A, B, hA, hB, rfl⟩⟩ := h
  · rcases hk.bad h0 with ⟨hb, rfl⟩ | ⟨h1, h2, hf, rfl⟩
    · exact specAdd_b0 hu hv (bothB_no hb)
    · have hb := bothB_yes h1 h2
      by_cases e0 : p = q
      · by_cases e1 : r = s
        · by_cases e2 : c = d
          · exact absurd ⟨e0, by simp [e1, e2]⟩ hf
          · exact specAdd_b3 hu hv hb (by simpa using e0) (by simpa using e1) (by simpa using e2)
        · exact specAdd_b2 hu hv hb (by simpa using e0) (by simpa using e1)
      · exact specAdd_b1 hu hv hb (by simpa using e0)
  · obtain ⟨_, _, e, hf⟩ := hk.good
    obtain ⟨e1, e2⟩ : R = s ∧ C = d := by simpa using hf
    subst e e1 e2
    obtain ⟨rfl, rfl, rfl, rfl, h5, h6, h7⟩ := hA
    obtain ⟨_, _, _, rfl, g5, g6, g7⟩ := hB
    rcases Nat.eq_zero_or_pos (m * n) with h0 | h0
    · exact specAdd_nil hu hv ⟨rfl, rfl, rfl, rfl, h5, h6, h7⟩ ⟨rfl, rfl, rfl, rfl, g5, g6, g7⟩ h0
    · exact specAdd_ok hu hv ⟨rfl, rfl, rfl, rfl, h5, h6, h7⟩ ⟨rfl, rfl, rfl, rfl, g5, g6, g7⟩ h0
end Go.Proofs.Ytabanmaaagmeaaa
