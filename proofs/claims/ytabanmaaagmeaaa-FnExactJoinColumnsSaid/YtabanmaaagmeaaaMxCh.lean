/-
  Contracts of JoinColumns of the model.
-/
import Derived.Test.YtabanmaaagmeaaaMxCg
namespace Go.Proofs.Ytabanmaaagmeaaa
open Go.RowKit
open Lin
set_option linter.unusedVariables false
set_option linter.unusedSectionVars false

set_option maxRecDepth 100000 in
set_option maxHeartbeats 1600000 in
theorem specJo_b0 {p r c q s d : Int} {u v : Value} {xs ys : List Int} {w : World} (hu : IntsAt w u xs) (hv : IntsAt w v ys) (hk : bothB p r c xs q s d ys = false) :
    Calls Try.prog 59 #[.agg #[.int .i64 p, .int .i64 r, .int .i64 c, u], .agg #[.int .i64 q, .int .i64 s, .int .i64 d, v]] w fun e w' => RetMC 0 0 0 [] 1 w e w' := by
  have HU := Lib.hid hu
  have HV := Lib.hid hv
  obtain ⟨a1, c1, rfl, hl1, _⟩ := hu
  obtain ⟨a2, c2, rfl, hl2, _⟩ := hv
  have HK := Lib.hid hk
  clear hk
  have Pa0 := PtM.new2 w p r c (.slice a1 xs.length c1) 27 (.cells #[.int .i64 q, .int .i64 s, .int .i64 d, .slice a2 ys.length c2] 27) (.cells #[.int .i64 0, .int .i64 0, .int .i64 0, .slice none 0 0] 27)
  have Pb0 := PtM.new1 (w.alloc (.cells #[.int .i64 p, .int .i64 r, .int .i64 c, .slice a1 xs.length c1] 27)) q s d (.slice a2 ys.length c2) 27 (.cells #[.int .i64 0, .int .i64 0, .int .i64 0, .slice none 0 0] 27)
  have Pr0 := PtM.new ((w.alloc (.cells #[.int .i64 p, .int .i64 r, .int .i64 c, .slice a1 xs.length c1] 27)).alloc (.cells #[.int .i64 q, .int .i64 s, .int .i64 d, .slice a2 ys.length c2] 27)) 0 0 0 (.slice none 0 0) 27
  have Fr0 := Fz.new ((w.alloc (.cells #[.int .i64 p, .int .i64 r, .int .i64 c, .slice a1 xs.length c1] 27)).alloc (.cells #[.int .i64 q, .int .i64 s, .int .i64 d, .slice a2 ys.length c2] 27)) #[.int .i64 0, .int .i64 0, .int .i64 0, .slice none 0 0] 27
  rw [World.size_alloc] at Pb0
  rw [World.size_alloc, World.size_alloc] at Pr0 Fr0
  go_enter Try.func59, Try.ntmps59
  go_wp2_with fail
  with_reducible refine Calls.mono (both_is (T := false) Pa0 Pb0 (HU.out.on (al1 (al1 (al1 (Below.refl _ _) _) _) _)) (HV.out.on (al1 (al1 (al1 (Below.refl _ _) _) _) _)) HK.out) ?_
  rintro e w1 ⟨rfl, hb⟩
  have Pa := Lib.hid (Pa0.on hb)
  have Pb := Lib.hid (Pb0.on hb)
  have Pr := Lib.hid (Pr0.on hb)
  have Fr : Hid (Fz w1 (w.heap.size + 1 + 1)) := Fr0.on (by simp) hb
  have HB := Lib.hid (up3 hb)
  have hz : w.heap.size + 3 ≤ w1.heap.size := by have := hb.size; simp at this; omega
  clear hb Pa0 Pb0 Pr0 Fr0
  obtain ⟨lA, x0, x1, x2, x3⟩ := Pa.out
  obtain ⟨lB, y0, y1, y2, y3⟩ := Pb.out
  obtain ⟨lR, r0, r1, r2, r3⟩ := Pr.out
  obtain ⟨f0, f1, f2, f3⟩ := Fr.out.all
  go_wp2_with fail
  refine bodyPost_ret (v := .tuple #[.agg #[.int .i64 0, .int .i64 0, .int .i64 0, .slice none 0 0], .int .i64 1]) (by simp [results, Try.results59, go_sem, r0, r1, r2, r3]) rfl ⟨_, rfl, OwnI.nul _ _, ?_⟩
  repeat (refine Below.setC ?_ (by omega) _)
  exact HB.out
set_option maxRecDepth 100000 in
set_option maxHeartbeats 1600000 in
theorem specJo_b1 {p r c q s d : Int} {u v : Value} {xs ys : List Int} {w : World} (hu : IntsAt w u xs) (hv : IntsAt w v ys) (hk : bothB p r c xs q s d ys = true) (e0 : (p != q) = true) :
    Calls Try.prog 59 #[.agg #[.int .i64 p, .int .i64 r, .int .i64 c, u], .agg #[.int .i64 q, .int .i64 s, .int .i64 d, v]] w fun e w' => RetMC 0 0 0 [] 6 w e w' := by
  have HU := Lib.hid hu
  have HV := Lib.hid hv
  obtain ⟨a1, c1, rfl, hl1, _⟩ := hu
  obtain ⟨a2, c2, rfl, hl2, _⟩ := hv
  have HK := Lib.hid hk
  clear hk
  have Pa0 := PtM.new2 w p r c (.slice a1 xs.length c1) 27 (.cells #[.int .i64 q, .int .i64 s, .int .i64 d, .slice a2 ys.length c2] 27) (.cells #[.int .i64 0, .int .i64 0, .int .i64 0, .slice none 0 0] 27)
  have Pb0 := PtM.new1 (w.alloc (.cells #[.int .i64 p, .int .i64 r, .int .i64 c, .slice a1 xs.length c1] 27)) q s d (.slice a2 ys.length c2) 27 (.cells #[.int .i64 0, .int .i64 0, .int .i64 0, .slice none 0 0] 27)
  have Pr0 := PtM.new ((w.alloc (.cells #[.int .i64 p, .int .i64 r, .int .i64 c, .slice a1 xs.length c1] 27)).alloc (.cells #[.int .i64 q, .int .i64 s, .int .i64 d, .slice a2 ys.length c2] 27)) 0 0 0 (.slice none 0 0) 27
  have Fr0 := Fz.new ((w.alloc (.cells #[.int .i64 p, .int .i64 r, .int .i64 c, .slice a1 xs.length c1] 27)).alloc (.cells #[.int .i64 q, .int .i64 s, .int .i64 d, .slice a2 ys.length c2] 27)) #[.int .i64 0, .int .i64 0, .int .i64 0, .slice none 0 0] 27
  rw [World.size_alloc] at Pb0
  rw [World.size_alloc, World.size_alloc] at Pr0 Fr0
  go_enter Try.func59, Try.ntmps59
  go_wp2_with fail
  with_reducible refine Calls.mono (both_is (T := true) Pa0 Pb0 (HU.out.on (al1 (al1 (al1 (Below.refl _ _) _) _) _)) (HV.out.on (al1 (al1 (al1 (Below.refl _ _) _) _) _)) HK.out) ?_
  rintro e w1 ⟨rfl, hb⟩
  have Pa := Lib.hid (Pa0.on hb)
  have Pb := Lib.hid (Pb0.on hb)
  have Pr := Lib.hid (Pr0.on hb)
  have Fr : Hid (Fz w1 (w.heap.size + 1 + 1)) := Fr0.on (by simp) hb
  have HB := Lib.hid (up3 hb)
  have hz : w.heap.size + 3 ≤ w1.heap.size := by have := hb.size; simp at this; omega
  clear hb Pa0 Pb0 Pr0 Fr0
  obtain ⟨lA, x0, x1, x2, x3⟩ := Pa.out
  obtain ⟨lB, y0, y1, y2, y3⟩ := Pb.out
  obtain ⟨lR, r0, r1, r2, r3⟩ := Pr.out
  obtain ⟨f0, f1, f2, f3⟩ := Fr.out.all
  go_wp2_with fail
  refine bodyPost_ret (v := .tuple #[.agg #[.int .i64 0, .int .i64 0, .int .i64 0, .slice none 0 0], .int .i64 6]) (by simp [results, Try.results59, go_sem, r0, r1, r2, r3]) rfl ⟨_, rfl, OwnI.nul _ _, ?_⟩
  repeat (refine Below.setC ?_ (by omega) _)
  exact HB.out
set_option maxRecDepth 100000 in
set_option maxHeartbeats 1600000 in
theorem specJo_b2 {p r c q s d : Int} {u v : Value} {xs ys : List Int} {w : World} (hu : IntsAt w u xs) (hv : IntsAt w v ys) (hk : bothB p r c xs q s d ys = true) (e0 : (p != q) = false) (e1 : (r != s) = true) :
    Calls Try.prog 59 #[.agg #[.int .i64 p, .int .i64 r, .int .i64 c, u], .agg #[.int .i64 q, .int .i64 s, .int .i64 d, v]] w fun e w' => RetMC 0 0 0 [] 6 w e w' := by
  have HU := Lib.hid hu
  have HV := Lib.hid hv
  obtain ⟨a1, c1, rfl, hl1, _⟩ := hu
  obtain ⟨a2, c2, rfl, hl2, _⟩ := hv
  have HK := Lib.hid hk
  clear hk
  have Pa0 := PtM.new2 w p r c (.slice a1 xs.length c1) 27 (.cells #[.int .i64 q, .int .i64 s, .int .i64 d, .slice a2 ys.length c2] 27) (.cells #[.int .i64 0, .int .i64 0, .int .i64 0, .slice none 0 0] 27)
  have Pb0 := PtM.new1 (w.alloc (.cells #[.int .i64 p, .int .i64 r, .int .i64 c, .slice a1 xs.length c1] 27)) q s d (.slice a2 ys.length c2) 27 (.cells #[.int .i64 0, .int .i64 0, .int .i64 0, .slice none 0 0] 27)
  have Pr0 := PtM.new ((w.alloc (.cells #[.int .i64 p, .int .i64 r, .int .i64 c, .slice a1 xs.length c1] 27)).alloc (.cells #[.int .i64 q, .int .i64 s, .int .i64 d, .slice a2 ys.length c2] 27)) 0 0 0 (.slice none 0 0) 27
  have Fr0 := Fz.new ((w.alloc (.cells #[.int .i64 p, .int .i64 r, .int .i64 c, .slice a1 xs.length c1] 27)).alloc (.cells #[.int .i64 q, .int .i64 s, .int .i64 d, .slice a2 ys.length c2] 27)) #[.int .i64 0, .int .i64 0, .int .i64 0, .slice none 0 0] 27
  rw [World.size_alloc] at Pb0
  rw [World.size_alloc, World.size_alloc] at Pr0 Fr0
  go_enter Try.func59, Try.ntmps59
  go_wp2_with fail
  with_reducible refine Calls.mono (both_is (T := true) Pa0 Pb0 (HU.out.on (al1 (al1 (al1 (Below.refl _ _) _) _) _)) (HV.out.on (al1 (al1 (al1 (Below.refl _ _) _) _) _)) HK.out) ?_
  rintro e w1 ⟨rfl, hb⟩
  have Pa := Lib.hid (Pa0.on hb)
  have Pb := Lib.hid (Pb0.on hb)
  have Pr := Lib.hid (Pr0.on hb)
  have Fr : Hid (Fz w1 (w.heap.size + 1 + 1)) := Fr0.on (by simp) hb
  have HB := Lib.hid (up3 hb)
  have hz : w.heap.size + 3 ≤ w1.heap.size := by have := hb.size; simp at this; omega
  clear hb Pa0 Pb0 Pr0 Fr0
  obtain ⟨lA, x0, x1, x2, x3⟩ := Pa.out
  obtain ⟨lB, y0, y1, y2, y3⟩ := Pb.out
  obtain ⟨lR, r0, r1, r2, r3⟩ := Pr.out
  obtain ⟨f0, f1, f2, f3⟩ := Fr.out.all
  go_wp2_with fail
  refine bodyPost_ret (v := .tuple #[.agg #[.int .i64 0, .int .i64 0, .int .i64 0, .slice none 0 0], .int .i64 6]) (by simp [results, Try.results59, go_sem, r0, r1, r2, r3]) rfl ⟨_, rfl, OwnI.nul _ _, ?_⟩
  repeat (refine Below.setC ?_ (by omega) _)
  exact HB.out
set_option maxRecDepth 100000 in
set_option maxHeartbeats 1600000 in
theorem specJo_b3 {p r c q s d : Int} {u v : Value} {xs ys : List Int} {w : World} (hu : IntsAt w u xs) (hv : IntsAt w v ys) (hk : bothB p r c xs q s d ys = true) (e0 : (p != q) = false) (e1 : (r != s) = false) (hr : 0 ≤ c ∧ c ≤ 32 ∧ 0 ≤ d ∧ d ≤ 32) (h : c + d > 32) :
    Calls Try.prog 59 #[.agg #[.int .i64 p, .int .i64 r, .int .i64 c, u], .agg #[.int .i64 q, .int .i64 s, .int .i64 d, v]] w fun e w' => RetMC 0 0 0 [] 5 w e w' := by
  have w0 : IntKind.i64.wrap (c + d) = c + d := IntWalk.i64_in _ (by omega)
  have HU := Lib.hid hu
  have HV := Lib.hid hv
  obtain ⟨a1, c1, rfl, hl1, _⟩ := hu
  obtain ⟨a2, c2, rfl, hl2, _⟩ := hv
  have HK := Lib.hid hk
  clear hk
  have Pa0 := PtM.new2 w p r c (.slice a1 xs.length c1) 27 (.cells #[.int .i64 q, .int .i64 s, .int .i64 d, .slice a2 ys.length c2] 27) (.cells #[.int .i64 0, .int .i64 0, .int .i64 0, .slice none 0 0] 27)
  have Pb0 := PtM.new1 (w.alloc (.cells #[.int .i64 p, .int .i64 r, .int .i64 c, .slice a1 xs.length c1] 27)) q s d (.slice a2 ys.length c2) 27 (.cells #[.int .i64 0, .int .i64 0, .int .i64 0, .slice none 0 0] 27)
  have Pr0 := PtM.new ((w.alloc (.cells #[.int .i64 p, .int .i64 r, .int .i64 c, .slice a1 xs.length c1] 27)).alloc (.cells #[.int .i64 q, .int .i64 s, .int .i64 d, .slice a2 ys.length c2] 27)) 0 0 0 (.slice none 0 0) 27
  have Fr0 := Fz.new ((w.alloc (.cells #[.int .i64 p, .int .i64 r, .int .i64 c, .slice a1 xs.length c1] 27)).alloc (.cells #[.int .i64 q, .int .i64 s, .int .i64 d, .slice a2 ys.length c2] 27)) #[.int .i64 0, .int .i64 0, .int .i64 0, .slice none 0 0] 27
  rw [World.size_alloc] at Pb0
  rw [World.size_alloc, World.size_alloc] at Pr0 Fr0
  go_enter Try.func59, Try.ntmps59
  go_wp2_with fail
  with_reducible refine Calls.mono (both_is (T := true) Pa0 Pb0 (HU.out.on (al1 (al1 (al1 (Below.refl _ _) _) _) _)) (HV.out.on (al1 (al1 (al1 (Below.refl _ _) _) _) _)) HK.out) ?_
  rintro e w1 ⟨rfl, hb⟩
  have Pa := Lib.hid (Pa0.on hb)
  have Pb := Lib.hid (Pb0.on hb)
  have Pr := Lib.hid (Pr0.on hb)
  have Fr : Hid (Fz w1 (w.heap.size + 1 + 1)) := Fr0.on (by simp) hb
  have HB := Lib.hid (up3 hb)
  have hz : w.heap.size + 3 ≤ w1.heap.size := by have := hb.size; simp at this; omega
  clear hb Pa0 Pb0 Pr0 Fr0
  obtain ⟨lA, x0, x1, x2, x3⟩ := Pa.out
  obtain ⟨lB, y0, y1, y2, y3⟩ := Pb.out
  obtain ⟨lR, r0, r1, r2, r3⟩ := Pr.out
  obtain ⟨f0, f1, f2, f3⟩ := Fr.out.all
  go_wp2_with fail
  refine bodyPost_ret (v := .tuple #[.agg #[.int .i64 0, .int .i64 0, .int .i64 0, .slice none 0 0], .int .i64 5]) (by simp [results, Try.results59, go_sem, r0, r1, r2, r3]) rfl ⟨_, rfl, OwnI.nul _ _, ?_⟩
  repeat (refine Below.setC ?_ (by omega) _)
  exact HB.out
set_option maxRecDepth 100000 in
set_option maxHeartbeats 3200000 in
theorem specJo_ok {q m n1 n2 : Nat} [NeZero q] {A B : Mt q} {u v : Value} {w : World} (hu : IntsC w u (flat m n1 A)) (hv : IntsC w v (flat m n2 B)) (hA : MIs q m n1 (flat m n1 A) q m n1 A) (hB : MIs q m n2 (flat m n2 B) q m n2 B) (h : ¬ ((n1 : Int) + n2 > 32)) :
    Calls Try.prog 59 #[.agg #[.int .i64 (q : Int), .int .i64 (m : Int), .int .i64 (n1 : Int), u], .agg #[.int .i64 (q : Int), .int .i64 (m : Int), .int .i64 (n2 : Int), v]] w fun e w' => RetMC q m ((n1 : Int) + n2) (flat m (n1 + n2) (join n1 A B)) 0 w e w' := by
  have hk : bothB (q : Int) m n1 (flat m n1 A) q m n2 (flat m n2 B) = true := bothB_yes hA.ok hB.ok
  obtain ⟨hq2, hq⟩ := hA.q2
  have e0 : ((q : Int) != (q : Int)) = false := by simp
  have e1 : ((m : Int) != (m : Int)) = false := by simp
  have w0 : IntKind.i64.wrap ((n1 : Int) + n2) = (n1 : Int) + n2 := by
    have := hA.n32
    have := hB.n32
    exact IntWalk.i64_in _ (by omega)
  have HA := Lib.hid hA
  have HB1 := Lib.hid hB
  have HCU := Lib.hid hu
  have HCV := Lib.hid hv
  have HU := Lib.hid hu.1
  have HV := Lib.hid hv.1
  obtain ⟨a1, c1, rfl, -, -⟩ := hu.1
  obtain ⟨a2, c2, rfl, -, -⟩ := hv.1
  clear hu hv
  have HK := Lib.hid hk
  clear hk hA hB
  have Pa0 := PtM.new2 w q m n1 (.slice a1 (flat m n1 A).length c1) 27 (.cells #[.int .i64 q, .int .i64 m, .int .i64 n2, .slice a2 (flat m n2 B).length c2] 27) (.cells #[.int .i64 0, .int .i64 0, .int .i64 0, .slice none 0 0] 27)
  have Pb0 := PtM.new1 (w.alloc (.cells #[.int .i64 q, .int .i64 m, .int .i64 n1, .slice a1 (flat m n1 A).length c1] 27)) q m n2 (.slice a2 (flat m n2 B).length c2) 27 (.cells #[.int .i64 0, .int .i64 0, .int .i64 0, .slice none 0 0] 27)
  have Pr0 := PtM.new ((w.alloc (.cells #[.int .i64 q, .int .i64 m, .int .i64 n1, .slice a1 (flat m n1 A).length c1] 27)).alloc (.cells #[.int .i64 q, .int .i64 m, .int .i64 n2, .slice a2 (flat m n2 B).length c2] 27)) 0 0 0 (.slice none 0 0) 27
  have Fr0 := Fz.new ((w.alloc (.cells #[.int .i64 q, .int .i64 m, .int .i64 n1, .slice a1 (flat m n1 A).length c1] 27)).alloc (.cells #[.int .i64 q, .int .i64 m, .int .i64 n2, .slice a2 (flat m n2 B).length c2] 27)) #[.int .i64 0, .int .i64 0, .int .i64 0, .slice none 0 0] 27
  rw [World.size_alloc] at Pb0
  rw [World.size_alloc, World.size_alloc] at Pr0 Fr0
  go_enter Try.func59, Try.ntmps59
  go_wp2_with fail
  with_reducible refine Calls.mono (both_is (T := true) Pa0 Pb0 (HU.out.on (al1 (al1 (al1 (Below.refl _ _) _) _) _)) (HV.out.on (al1 (al1 (al1 (Below.refl _ _) _) _) _)) HK.out) ?_
  rintro e w1 ⟨rfl, hb⟩
  have Pa := Lib.hid (Pa0.on hb)
  have Pb := Lib.hid (Pb0.on hb)
  have Pr := Lib.hid (Pr0.on hb)
  have Fr : Hid (Fz w1 (w.heap.size + 1 + 1)) := Fr0.on (by simp) hb
  have HB := Lib.hid (up3 hb)
  have hz : w.heap.size + 3 ≤ w1.heap.size := by have := hb.size; simp at this; omega
  clear hb Pa0 Pb0 Pr0 Fr0
  obtain ⟨lA, x0, x1, x2, x3⟩ := Pa.out
  obtain ⟨lB, y0, y1, y2, y3⟩ := Pb.out
  obtain ⟨lR, r0, r1, r2, r3⟩ := Pr.out
  obtain ⟨f0, f1, f2, f3⟩ := Fr.out.all
  go_wp2_with fail
  with_reducible refine Calls.mono (l03Join_any Pa.out Pb.out (HCU.out.on HB.out) (HCV.out.on HB.out) HA.out.m32 HA.out.n32 HB1.out.n32) ?_
  rintro e w2 ⟨v, rfl, ho, hb⟩
  obtain ⟨va, vc, hvv⟩ := ho.slice
  obtain ⟨N, hN⟩ : ∃ N, (flat m (n1 + n2) (join n1 A B)).length = N := ⟨_, rfl⟩
  rw [hN] at hvv
  subst hvv
  clear lA x0 x1 x2 x3 lB y0 y1 y2 y3 lR r0 r1 r2 r3 f0 f1 f2 f3
  have Pr := Lib.hid (Pr.out.on hb)
  have Fr : Hid (Fz w2 (w.heap.size + 1 + 1)) := Fr.out.on (by omega) hb
  have HB := Lib.hid (HB.out.trans (hb.mono (by omega)))
  have HO := Lib.hid ho
  clear hb ho
  obtain ⟨lR, r0, r1, r2, r3⟩ := Pr.out
  obtain ⟨f0, f1, f2, f3⟩ := Fr.out.all
  go_wp2_with fail
  refine bodyPost_ret (v := .tuple #[.agg #[.int .i64 q, .int .i64 m, .int .i64 ((n1 : Int) + n2), .slice va N vc], .int .i64 0]) (by simp [results, Try.results59, go_sem, r0, r1, r2, r3]) rfl ⟨_, rfl, ?_, ?_⟩
  · refine OwnI.mono (B := w1.heap.size) ?_ (by omega)
    repeat (refine OwnI.setOut ?_ (by omega) _)
    exact HO.out
  · repeat (refine Below.setC ?_ (by omega) _)
    exact HB.out
theorem specJo_any {p r c q s d P R C k : Int} {u v : Value} {xs ys zs : List Int} {w : World} (hu : IntsC w u xs) (hv : IntsC w v ys) (h : JoRes p r c xs q s d ys P R C zs k) :
    Calls Try.prog 59 #[.agg #[.int .i64 p, .int .i64 r, .int .i64 c, u], .agg #[.int .i64 q, .int .i64 s, .int .i64 d, v]] w fun e w' => RetMC P R C zs k w e w' := by
  obtain ⟨k0, hk, ⟨h0, rfl, rfl, rfl, rfl, rfl⟩ | ⟨rfl, h1, rfl, rfl, rfl, rfl, rfl⟩ | ⟨rfl, h1, rfl, rfl, rfl, rfl, u', _, m, n1, n2, A, B, hA, hB, rfl⟩⟩ := h
  · rcases hk.bad h0 with ⟨hb, rfl⟩ | ⟨h1, h2, hf, rfl⟩
    · exact specJo_b0 hu.1 hv.1 (bothB_no hb)
    · have hb := bothB_yes h1 h2
      by_cases e0 : p = q
      · by_cases e1 : r = s
        · exact absurd ⟨e0, by simp [e1]⟩ hf
        · exact specJo_b2 hu.1 hv.1 hb (by simpa using e0) (by simpa using e1)
      · exact specJo_b1 hu.1 hv.1 hb (by simpa using e0)
  · obtain ⟨g1, g2, e, hf⟩ := hk.good
    have e1 : r = s := by simpa using hf
    exact specJo_b3 hu.1 hv.1 (bothB_yes g1 g2) (by simpa using e) (by simpa using e1) ⟨g1.2.2.2.1, g1.2.2.2.2.1, g2.2.2.2.1, g2.2.2.2.2.1⟩ h1
  · obtain ⟨g1, g2, e, hf⟩ := hk.good
    have e1 : R = s := by simpa using hf
    subst e e1
    obtain ⟨rfl, rfl, rfl, rfl, h5, h6, h7⟩ := hA
    obtain ⟨_, _, rfl, rfl, g5, g6, g7⟩ := hB
    exact specJo_ok hu hv ⟨rfl, rfl, rfl, rfl, h5, h6, h7⟩ ⟨rfl, rfl, rfl, rfl, g5, g6, g7⟩ (by omega)
end Go.Proofs.Ytabanmaaagmeaaa
