/-
  Contracts of Multiply of the program.
-/
import Derived.RangeFuncNested
import Derived.RangeFuncBound
import Derived.RangeFuncCalls
import Derived.RangeFuncLeaves
import Derived.Shelf.Abstract
import Derived.Shelf.RegionOpen
import Derived.WalkKit
import Derived.OwnWalkIn
import Derived.TacticsInMore
import Derived.LoopNIn
import Derived.LoopIn
import Derived.Test.YtabanmaaagmeaaaMxB
import Derived.Test.YtabanmaaagmeaaaRnd
import Derived.Test.YtabanmaaagmeaaaMxN
import Derived.Test.YtabanmaaagmeaaaMxI
import Derived.Test.YtabanmaaagmeaaaMxT
namespace Go.Proofs.Ytabanmaaagmeaaa
open Go.RowKit Go.Shelf
open Lin
set_option linter.unusedVariables false
set_option linter.unusedSectionVars false
attribute [local go_sem] Oper.semAt_some

set_option maxRecDepth 100000 in
set_option maxHeartbeats 1600000 in
theorem implMu_b {p r c q s d k : Int} {u v : Value} {xs ys : List Int} {w : World} (hu : IntsAt w u xs) (hv : IntsAt w v ys) {T : Bool} (e1 : (c == s) = T) (hk : FitK p r c xs q s d ys T k) (e0 : (k != 0) = true) :
    Calls Try.prog 34 #[.agg #[.int .i64 p, .int .i64 r, .int .i64 c, u], .agg #[.int .i64 q, .int .i64 s, .int .i64 d, v]] w fun e w' => RetMC 0 0 0 [] k w e w' := by
  have HU := Lib.hid hu
  have HV := Lib.hid hv
  obtain ⟨a1, c1, rfl, hl1, _⟩ := hu
  obtain ⟨a2, c2, rfl, hl2, _⟩ := hv
  have HK := Lib.hid hk
  clear hk
  have Pa0 := PtM.new2 w p r c (.slice a1 xs.length c1) 27 (.cells #[.int .i64 q, .int .i64 s, .int .i64 d, .slice a2 ys.length c2] 27) (.cells #[.int .i64 0, .int .i64 0, .int .i64 0, .slice none 0 0] 27)
  have Pb0 := PtM.new1 (w.alloc (.cells #[.int .i64 p, .int .i64 r, .int .i64 c, .slice a1 xs.length c1] 27)) q s d (.slice a2 ys.length c2) 27 (.cells #[.int .i64 0, .int .i64 0, .int .i64 0, .slice none 0 0] 27)
  have Pr0 := PtM.new ((w.alloc (.cells #[.int .i64 p, .int .i64 r, .int .i64 c, .slice a1 xs.length c1] 27)).alloc (.cells #[.int .i64 q, .int .i64 s, .int .i64 d, .slice a2 ys.length c2] 27)) 0 0 0 (.slice none 0 0) 27
  have Fr0 := Fz.new ((w.alloc (.cells #[.int .i64 p, .int .i64 r, .int .i64 c, .slice a1 xs.length c1] 27)).alloc (.cells #[.int .i64 q, .int .i64 s, .int .i64 d, .slice a2 ys.length c2] 27)) #[.int .i64 0, .int .i64 0, .int .i64 0, .slice none 0 0] 27
  rw [World.size_alloc] at Pb0
  rw [World.size_alloc, World.size_alloc] at Pr0 Fr0
  go_enter Try.func34, Try.ntmps34
  go_wp2_with fail
  refine (fit_any (HU.out.on (al1 (al1 (al1 (Below.refl _ _) _) _) _)) (HV.out.on (al1 (al1 (al1 (Below.refl _ _) _) _) _)) HK.out).mono ?_
  rintro e w1 ⟨rfl, hb⟩
  have Pa := Lib.hid (Pa0.on hb)
  have Pb := Lib.hid (Pb0.on hb)
  have Pr := Lib.hid (Pr0.on hb)
  have Fr : Hid (Fz w1 (w.heap.size + 1 + 1)) := Fr0.on (by simp) hb
  have HB := Lib.hid (up3 hb)
  have hz : w.heap.size + 3 ≤ w1.heap.size := by have := hb.size; simp at this; omega
  clear hb Pa0 Pb0 Pr0 Fr0
  obtain ⟨lA, x0, x1, x2, x3⟩ := Pa.out
  obtain ⟨lB, y0, y1, y2, y3⟩ := Pb.out
  obtain ⟨lR, r0, r1, r2, r3⟩ := Pr.out
  obtain ⟨f0, f1, f2, f3⟩ := Fr.out.all
  go_wp2_with fail
  refine bodyPost_ret (v := .tuple #[.agg #[.int .i64 0, .int .i64 0, .int .i64 0, .slice none 0 0], .int .i64 k]) (by simp [results, Try.results34, go_sem, r0, r1, r2, r3]) rfl ⟨_, rfl, OwnI.nul _ _, ?_⟩
  repeat (refine Below.setC ?_ (by omega) _)
  exact HB.out
set_option maxRecDepth 100000 in
set_option maxHeartbeats 3200000 in
theorem implMu_ok {q m l n : Nat} [NeZero q] {A B : Mt q} {u v : Value} {w : World} (hu : IntsC w u (flat m l A)) (hv : IntsC w v (flat l n B)) (hA : MIs q m l (flat m l A) q m l A) (hB : MIs q l n (flat l n B) q l n B) :
    Calls Try.prog 34 #[.agg #[.int .i64 (q : Int), .int .i64 (m : Int), .int .i64 (l : Int), u], .agg #[.int .i64 (q : Int), .int .i64 (l : Int), .int .i64 (n : Int), v]] w fun e w' => RetMC q m n (flat m n (muC l A B)) 0 w e w' := by
  have hk : FitK (q : Int) m l (flat m l A) q l n (flat l n B) true 0 := .inr (.inr ⟨hA.ok, hB.ok, rfl, rfl, rfl⟩)
  have hN := side_mul hA.m32 hB.n32
  obtain ⟨hq2, hq⟩ := hA.q2
  have e1 : ((l : Int) == (l : Int)) = true := by simp
  have HCU := Lib.hid hu
  have HCV := Lib.hid hv
  have HU := Lib.hid hu.1
  have HV := Lib.hid hv.1
  obtain ⟨a1, k1, rfl, hl1, -⟩ := hu.1
  obtain ⟨a2, k2, rfl, hl2, -⟩ := hv.1
  have HK := Lib.hid hk
  simp only [flat_len] at HU HV HCU HCV hl1 hl2 ⊢
  have hm32 := hA.m32
  have hl32 := hA.n32
  have hn32 := hB.n32
  clear hk hA hB hu hv
  have Pa0 := PtM.new2 w q m l (.slice a1 (m * l) k1) 27 (.cells #[.int .i64 q, .int .i64 l, .int .i64 n, .slice a2 (l * n) k2] 27) (.cells #[.int .i64 0, .int .i64 0, .int .i64 0, .slice none 0 0] 27)
  have Pb0 := PtM.new1 (w.alloc (.cells #[.int .i64 q, .int .i64 m, .int .i64 l, .slice a1 (m * l) k1] 27)) q l n (.slice a2 (l * n) k2) 27 (.cells #[.int .i64 0, .int .i64 0, .int .i64 0, .slice none 0 0] 27)
  have Pr0 := PtM.new ((w.alloc (.cells #[.int .i64 q, .int .i64 m, .int .i64 l, .slice a1 (m * l) k1] 27)).alloc (.cells #[.int .i64 q, .int .i64 l, .int .i64 n, .slice a2 (l * n) k2] 27)) 0 0 0 (.slice none 0 0) 27
  have Fr0 := Fz.new ((w.alloc (.cells #[.int .i64 q, .int .i64 m, .int .i64 l, .slice a1 (m * l) k1] 27)).alloc (.cells #[.int .i64 q, .int .i64 l, .int .i64 n, .slice a2 (l * n) k2] 27)) #[.int .i64 0, .int .i64 0, .int .i64 0, .slice none 0 0] 27
  rw [World.size_alloc] at Pb0
  rw [World.size_alloc, World.size_alloc] at Pr0 Fr0
  refine (callsIn_wide (n := 9)).1 ?_
  refine callsIn_of_wp_marks Try.func34 rfl trivial ?_ rfl
  simp only [Try.ntmps34, List.size_toArray, List.length_cons, List.length_nil, Nat.reduceAdd, Nat.reduceSub, Array.replicate_succ, Array.replicate_zero, List.push_toArray, List.append_toArray, List.nil_append, List.cons_append]
  gi_wp2_with fail
  refine ⟨trivial, (callsIn_wide.2 (fit_any (HU.out.on (al1 (al1 (al1 (Below.refl _ _) _) _) _)) (HV.out.on (al1 (al1 (al1 (Below.refl _ _) _) _) _)) HK.out)).mono ?_⟩
  rintro e w1 ⟨rfl, hb⟩
  have Pa := Lib.hid (Pa0.on hb)
  have Pb := Lib.hid (Pb0.on hb)
  have Pr := Lib.hid (Pr0.on hb)
  have Fr : Hid (Fz w1 (w.heap.size + 1 + 1)) := Fr0.on (by simp) hb
  have HB := Lib.hid (up3 hb)
  have hz : w.heap.size + 3 ≤ w1.heap.size := by have := hb.size; simp at this; omega
  clear hb Pa0 Pb0 Pr0 Fr0
  obtain ⟨lA, x0, x1, x2, x3⟩ := Pa.out
  obtain ⟨lB, y0, y1, y2, y3⟩ := Pb.out
  obtain ⟨lR, r0, r1, r2, r3⟩ := Pr.out
  obtain ⟨f0, f1, f2, f3⟩ := Fr.out.all
  gi_wp2_with fail
  refine ⟨trivial, (callsIn_wide.2 (implZeros_any q m n (m * n) _ (Int.natCast_mul m n).symm (by omega))).mono ?_⟩
  rintro e w2 ⟨h, rfl, hg, hrow, hb⟩
  clear lA x0 x1 x2 x3 lB y0 y1 y2 y3 lR r0 r1 r2 r3 f0 f1 f2 f3
  have Pa := Lib.hid (Pa.out.on hb)
  have Pb := Lib.hid (Pb.out.on hb)
  have Pr := Lib.hid (Pr.out.on hb)
  have Fr : Hid (Fz w2 (w.heap.size + 1 + 1)) := Fr.out.on (by omega) hb
  have HB := Lib.hid (HB.out.trans (hb.mono (by omega)))
  have hz2 : w.heap.size + 3 ≤ w2.heap.size := by have := hb.size; omega
  have hg3 := hrow.lt
  have HR := Lib.hid hrow
  have hg2 : w.heap.size + 3 ≤ h := by omega
  clear hb hrow hg
  obtain ⟨lA, x0, x1, x2, x3⟩ := Pa.out
  obtain ⟨lB, y0, y1, y2, y3⟩ := Pb.out
  obtain ⟨lR, r0, r1, r2, r3⟩ := Pr.out
  obtain ⟨f0, f1, f2, f3⟩ := Fr.out.all
  gi_wp2_with fail
  have Pt0 := PtM.new w2 q m n (.slice (some ⟨h, 0, none⟩) (m * n) (m * n)) 27
  refine ⟨trivial, (callsIn_wide.2 (rows_any Pt0 hm32 (Nat.le_trans hn32 (by omega)) (Nat.le_refl _) (by unfold maxLen; omega) (.inr ⟨h, 0, rfl⟩))).mono ?_⟩
  rintro e w3 ⟨H1, rfl, hH1, hrow1, hb⟩
  have hsz3 : w2.heap.size + 1 ≤ w3.heap.size := by have := hb.size; simp at this; omega
  have hH1' : w2.heap.size + 1 ≤ H1 := by simpa using hH1
  have hH1l := hrow1.lt
  have hb3 : Below w2.heap.size w2 w3 := up1 hb
  clear lA x0 x1 x2 x3 lB y0 y1 y2 y3 lR r0 r1 r2 r3 f0 f1 f2 f3
  have Pa := Lib.hid (Pa.out.on hb3)
  have Pb := Lib.hid (Pb.out.on hb3)
  have Pr := Lib.hid (Pr.out.on hb3)
  have Fr : Hid (Fz w3 (w.heap.size + 1 + 1)) := Fr.out.on (by omega) hb3
  have HB := Lib.hid (HB.out.trans (hb3.mono (by omega)))
  have Pt := Lib.hid (Pt0.on hb)
  have HR := Lib.hid (rowIs_on HR.out hb3)
  have H1R := Lib.hid hrow1
  clear hb hb3 Pt0 hrow1 hH1
  obtain ⟨lA, x0, x1, x2, x3⟩ := Pa.out
  obtain ⟨lB, y0, y1, y2, y3⟩ := Pb.out
  obtain ⟨lR, r0, r1, r2, r3⟩ := Pr.out
  obtain ⟨f0, f1, f2, f3⟩ := Fr.out.all
  gi_wp2_with fail
  refine ⟨trivial, (callsIn_wide.2 (implRows_any Pb.out HCV.out HB.out hl32 (Nat.le_trans hn32 (by omega)))).mono ?_⟩
  rintro e w4 ⟨H2, ar2, cc2, rfl, hH2, hH2l, hin2, hb⟩
  have hsz4 : w3.heap.size ≤ w4.heap.size := hb.size
  clear lA x0 x1 x2 x3 lB y0 y1 y2 y3 lR r0 r1 r2 r3 f0 f1 f2 f3
  have Pa := Lib.hid (Pa.out.on hb)
  have Pb := Lib.hid (Pb.out.on hb)
  have Pr := Lib.hid (Pr.out.on hb)
  have Fr : Hid (Fz w4 (w.heap.size + 1 + 1)) := Fr.out.on (by omega) hb
  have HB := Lib.hid (HB.out.trans (hb.mono (by omega)))
  have Pt := Lib.hid (Pt.out.on hb)
  have HR := Lib.hid (rowIs_on HR.out hb)
  have H1R := Lib.hid (rowIs_on H1R.out hb)
  have HI2 := Lib.hid hin2
  clear hb hin2
  obtain ⟨lA, x0, x1, x2, x3⟩ := Pa.out
  obtain ⟨lB, y0, y1, y2, y3⟩ := Pb.out
  obtain ⟨lR, r0, r1, r2, r3⟩ := Pr.out
  obtain ⟨f0, f1, f2, f3⟩ := Fr.out.all
  gi_wp2_with fail
  refine ⟨trivial, (callsIn_wide.2 (implRows_any (Pa.out.on (al1 (al1 (Below.refl _ _) _) _)) HCU.out (al1 (al1 HB.out _) _) hm32 (Nat.le_trans hl32 (by omega)))).mono ?_⟩
  rintro e w5 ⟨H3, ar, cc, rfl, hH3, hH3l, hin, hb⟩
  have hb50 := (Below.refl w5.heap.size w5).alloc (Nat.le_refl _) (.cells #[.slice (some ⟨H3, 0, none⟩) m m] 64)
  have hbW := hb.trans (hb50.mono hb.size)
  have z1 : (w4.alloc (.cells #[.slice (some ⟨H1, 0, none⟩) m m] 64)).heap.size = w4.heap.size + 1 := by simp
  have z2 : ((w4.alloc (.cells #[.slice (some ⟨H1, 0, none⟩) m m] 64)).alloc (.cells #[.slice (some ⟨H2, 0, none⟩) l l] 64)).heap.size = w4.heap.size + 2 := by simp
  have hbx1 := (Boxed.new (w4.alloc (.cells #[.slice (some ⟨H1, 0, none⟩) m m] 64)) 64 (.slice (some ⟨H2, 0, none⟩) l l)).cell
  rw [World.size_alloc] at hbx1
  have hs5 : w4.heap.size + 2 ≤ w5.heap.size := by have := hb.size; omega
  have c1 : (w5.alloc (.cells #[.slice (some ⟨H3, 0, none⟩) m m] 64)).cell? ⟨w4.heap.size, 0, none⟩ = some (.slice (some ⟨H1, 0, none⟩) m m) :=
    (hbW.cell (p := ⟨w4.heap.size, 0, none⟩) (by simp; omega)).trans ((((Below.refl _ (w4.alloc (.cells #[.slice (some ⟨H1, 0, none⟩) m m] 64))).alloc (Nat.le_refl _) _).cell (p := ⟨w4.heap.size, 0, none⟩) (by simp)).trans (by rw [World.cell?_alloc_at _ _ _ _ rfl]; rfl))
  have c2 : (w5.alloc (.cells #[.slice (some ⟨H3, 0, none⟩) m m] 64)).cell? ⟨w4.heap.size + 1, 0, none⟩ = some (.slice (some ⟨H2, 0, none⟩) l l) :=
    (hbW.cell (p := ⟨w4.heap.size + 1, 0, none⟩) (by simp)).trans hbx1
  have c3 : (w5.alloc (.cells #[.slice (some ⟨H3, 0, none⟩) m m] 64)).cell? ⟨w5.heap.size, 0, none⟩ = some (.slice (some ⟨H3, 0, none⟩) m m) := by rw [World.cell?_alloc_at _ _ _ _ rfl]; rfl
  have hH3' : w4.heap.size + 2 ≤ H3 := by simpa using hH3
  have hin0 := hin.on hH3l (by omega) hb50
  have hb0 := up2 hbW
  have lRR := Pr.out.1
  clear lA x0 x1 x2 x3 lB y0 y1 y2 y3 lR r0 r1 r2 r3 f0 f1 f2 f3
  have Pa := Lib.hid (Pa.out.on hb0)
  have Pb := Lib.hid (Pb.out.on hb0)
  have Pr := Lib.hid (Pr.out.on hb0)
  have Fr : Hid (Fz _ (w.heap.size + 1 + 1)) := Fr.out.on (by omega) hb0
  have HB := Lib.hid (HB.out.trans (hb0.mono (by omega)))
  have Pt := Lib.hid (Pt.out.on hb0)
  have HR := Lib.hid (rowIs_on HR.out hb0)
  have H1R := Lib.hid (rowIs_on H1R.out hb0)
  have hin2 := HI2.out.on hH2l (by omega) hb0
  clear hb hb0 hb50 hbW hin hH3
  gi_wp2_with fail
  refine ⟨trivial, (cells_in _ _ trivial rfl _ _ _ _).mono ?_⟩
  rintro e w6 ⟨rfl, rfl⟩
  gi_wp2_with fail
  obtain ⟨W0, hW0⟩ : ∃ W0, w5.alloc (.cells #[.slice (some ⟨H3, 0, none⟩) m m] 64) = W0 := ⟨_, rfl⟩
  have hsz0 : W0.heap.size = w5.heap.size + 1 := by rw [← hW0]; simp
  rw [hW0] at c1 c2 c3 hin0 hin2 Pa Pr Pt Fr HB HR H1R ⊢
  clear hW0
  have q0 := Pa.out.2.1
  have lAA := Pa.out.1
  refine wpIn_rangeFunc_ownH rfl (by decide) (gf := 105) (lb := #[.pointer (some ⟨w5.heap.size, 0, none⟩)]) rfl trivial (enters_of Try.func105 (by kernel_rfl) rfl)
    (cells_stops _ _ trivial rfl (by decide) w5.heap.size W0.heap.size h H3 m m l ar cc (fun i k => fv (A i k)) (Nat.le_trans hm32 (by omega)) (Nat.le_trans hl32 (by omega)) (by omega) (by omega) W0 (by omega) (Nat.le_refl _) c3 hin0.1 (fun i k hi hk => by
      obtain ⟨b, o, e1, e2, e3⟩ := hin0.2 i k hi hk
      exact ⟨b, o, e1, by omega, by omega, e3⟩)) KeepC.trans (keepC_b (Nat.le_refl _)) (Below.refl _ _) (fun _ => rfl)
    (fun pre W => W.rowIs h 2 (m * n) (MuF n A B pre) ∧ W0.grownBy W (some h)) (fun _ _ _ => False)
    (OwnFrom.and (ownFrom_rowIs _ (by omega)) (ownFrom_grown (Nat.le_refl _))) (fun _ _ _ _ _ hs _ _ => hs)
    ⟨HR.out.congr fun t _ => (muF_nil m l n A B t).symm, grown_refl _ _⟩
    (fun x a' W => ∃ Bx, W0.heap.size ≤ Bx ∧ W.cell? ⟨Bx, 0, none⟩ = some (.int .i64 (x.val / l : Nat)) ∧ W.cell? ⟨Bx, 1, none⟩ = some (.int .i64 (x.val % l : Nat)) ∧ a' = { tmps := #[.agg #[.int .i64 q, .int .i64 m, .int .i64 l, .slice a1 (m * l) k1], .agg #[.int .i64 q, .int .i64 l, .int .i64 n, .slice a2 (l * n) k2], .pointer (some ⟨w.heap.size, 0, none⟩), .pointer (some ⟨w.heap.size + 1, 0, none⟩), .pointer (some ⟨w.heap.size + 1 + 1, 0, none⟩), .int .i64 0, .int .i64 0, .pointer (some ⟨w2.heap.size, 0, none⟩), .pointer (some ⟨w4.heap.size, 0, none⟩), .pointer (some ⟨w4.heap.size + 1, 0, none⟩), .pointer (some ⟨Bx, 0, none⟩), .int .i64 (fv (A (x.val / l) (x.val % l))), .agg #[.int .i64 q, .int .i64 m, .int .i64 l, .slice a1 (m * l) k1], .agg #[.int .i64 q, .int .i64 l, .int .i64 n, .slice a2 (l * n) k2], .pointer (some ⟨w.heap.size, 2, none⟩), .int .i64 l, .pointer (some ⟨w.heap.size + 1, 1, none⟩), .int .i64 l, .bool true, .int .i64 0, .int .i64 0, .bool false, undef, undef, .pointer (some ⟨w.heap.size, 0, none⟩), .int .i64 q, .pointer (some ⟨w.heap.size, 1, none⟩), .int .i64 m, .pointer (some ⟨w.heap.size + 1, 2, none⟩), .int .i64 n, .agg #[.int .i64 q, .int .i64 m, .int .i64 n, .slice (some ⟨h, 0, none⟩) (m * n) (m * n)], .slice (some ⟨H1, 0, none⟩) m m, .slice (some ⟨H2, 0, none⟩) l l, .slice (some ⟨H3, 0, none⟩) m m, .func (.func 105) #[] #[.pointer (some ⟨w5.heap.size, 0, none⟩)], .agg #[.int .i64 (x.val / l : Nat), .int .i64 (x.val % l : Nat)], .int .i64 (fv (A (x.val / l) (x.val % l))), undef, undef, undef, undef, undef, undef, undef, undef, undef, undef, undef, undef, undef, undef, undef], defers := [] })
    (fun x a' _ X Y row hs hg hr => by obtain ⟨Bx, h1, h2, h3, h4⟩ := hs; exact ⟨Bx, h1, ownCell h2 hg fun r e => (hr r e).2, ownCell h3 hg fun r e => (hr r e).2, h4⟩)
    ?assign ?body ?done ?stop
  case assign =>
    rintro l' pre x W K ⟨hR, hG⟩ hK
    have hGs := hG.size
    unfold cellEnc CellArgs
    obtain ⟨i, hie⟩ : ∃ i, x.val / l = i := ⟨_, rfl⟩
    obtain ⟨k, hke⟩ : ∃ k, x.val % l = k := ⟨_, rfl⟩
    rw [hie, hke] at hK ⊢
    gi_wp2
    exact hK _ _ ((KeepsOthers.alloc _ _).from _) (keepC_alloc hGs) ⟨rowIs_on hR ((Below.refl _ W).alloc (Nat.le_refl _) _), gb_alloc hG _⟩ ⟨W.heap.size, hGs, by rw [World.cell?_alloc_at _ _ _ _ rfl]; rfl, by rw [World.cell?_alloc_at _ _ _ _ rfl]; rfl, rfl⟩
  case body =>
    rintro l' pre x a' W hl ⟨r, hr⟩ ⟨hR, hG⟩ ⟨Bx, hBx, b0, b1, rfl⟩ hlt
    dsimp only
    obtain ⟨hi, hk⟩ := cell_row x
    have hGs := hG.size
    have hsn := fun t ht => muF_snoc (n := n) (A := A) (B := B) (pre := pre) x t ht
    obtain ⟨i, hie⟩ : ∃ i, x.val / l = i := ⟨_, rfl⟩
    obtain ⟨k, hke⟩ : ∃ k, x.val % l = k := ⟨_, rfl⟩
    rw [hie] at hi b0 hsn ⊢
    rw [hke] at hk b1 hsn ⊢
    have d1 := (gb_cell hG (b := w4.heap.size) (o := 0) (by omega) (by omega)).trans c1
    have d2 := (gb_cell hG (b := H1) (o := i) (by omega) (by omega)).trans (H1R.out.cell hi)
    have d3 := (gb_cell hG (b := w4.heap.size + 1) (o := 0) (by omega) (by omega)).trans c2
    have d4 := (gb_cell hG (b := H2) (o := k) (by omega) (by omega)).trans (hin2.1 k hk)
    have d5 := (gb_cell hG (b := w.heap.size) (o := 0) (by omega) (by omega)).trans q0
    unfold rowW adr at d2
    simp only [Nat.zero_add] at d2
    have hfit : i * n + n ≤ m * n := by rw [← Nat.succ_mul]; exact Nat.mul_le_mul_right n hi
    have hYY : Hid (∀ j, j < n → ∃ b o, ar2 k = some ⟨b, o, none⟩ ∧ b ≠ h ∧ b < W.heap.size ∧ W.drew.cell? ⟨b, o + j, none⟩ = some (.int .i64 (fv (B k j)))) := by
      show ∀ j, _
      intro j hj
      obtain ⟨b, o, e1, e2, e3⟩ := hin2.2 k j hk hj
      exact ⟨b, o, e1, by omega, by omega, (gb_cell hG (b := b) (o := o + j) (by omega) (by omega)).trans e3⟩
    obtain ⟨s, hse⟩ : ∃ s, i * n = s := ⟨_, rfl⟩
    have hXX : Hid (∀ j, j < n → MuF n A B pre (s + j) = .int .i64 (fv (muP A B pre i j))) := by
      show ∀ j, _
      intro j hj
      rw [← hse]; exact muF_at hj
    rw [hse] at d2 hfit hsn
    obtain ⟨ak, hak⟩ : ∃ ak, ar2 k = ak := ⟨_, rfl⟩
    obtain ⟨ck, hck⟩ : ∃ ck, cc2 k = ck := ⟨_, rfl⟩
    rw [hak] at d4 hYY
    rw [hck] at d4
    have i0 : (0 : Int) ≤ (i : Int) := by omega
    have i1 : (i : Int) < (m : Int) := by omega
    have i2 : (0 : Int) ≤ (k : Int) := by omega
    have i3 : (k : Int) < (l : Int) := by omega
    have HRR := Lib.hid hR
    have HGG := Lib.hid hG
    have HS := Lib.hid hsn
    clear hR hG hr hl hin0 hin2 hsn HK HU HV HCU HCV HB HR H1R Fr Pt Pr Pa c1 c2 c3 q0 hak hck hie hke e1
    gi_wp2
    refine region_round 13 (by kernel_rfl) (by kernel_rfl) (by kernel_rfl) (fun ⟨_, _, h⟩ => h) ?_
    simp only [List.take_succ_cons, List.take_zero, List.drop_succ_cons, List.drop_zero]
    repeat still_step
    try refine wpStill_nil ?_
    go_wp2_with fail
    refine (addMul_at (X := fun j => muP A B pre i j) (Y := fun j => B k j) (c := A i k) rfl hq2 hq (by omega) HRR.out.drew hfit (Nat.le_refl _) (by unfold maxLen; omega) hXX.out hYY.out).mono ?_
    rintro e w' ⟨rfl, hr2, hg2'⟩
    have hg2 := gb_undrew hg2'
    go_wp2
    exact ⟨(KeepsFrom.of_grownBy hg2 (fun j e => by cases e; omega)), keepC_gb hg2 hGs, hr2.congr fun t ht => HS.out t ht, gb_trans HGG.out hg2⟩
  case done =>
    rintro D ys W hD hys ⟨hR, hG⟩ hK
    have hT := Pt.out.1
    have HRR := Lib.hid hR
    have Pt := Lib.hid (Pt.out.gb hG (by omega))
    have Pr := Lib.hid (Pr.out.gb hG (by omega))
    have Fr : Hid (Fz W (w.heap.size + 1 + 1)) := Fr.out.gb (by omega) hG (by omega)
    have HB := Lib.hid (below_gb HB.out hG (by omega) (by omega))
    obtain ⟨lT, x0, x1, x2, x3⟩ := Pt.out
    obtain ⟨lR, r0, r1, r2, r3⟩ := Pr.out
    obtain ⟨f0, f1, f2, f3⟩ := Fr.out.all
    gi_wp2
    have hD1 : w.heap.size + 1 + 1 ≠ D := by omega
    have hDh : h ≠ D := by omega
    have hK4 := keepD4 hK hD1 (.int .i64 q) (.int .i64 m) (.int .i64 n) (.slice (some ⟨h, 0, none⟩) (m * n) (m * n))
    refine ⟨by simp, .inl ⟨_, _, rfl, run_takeDeferred hK4, ?_⟩⟩
    have P4 := (Pr.out.set4 q m n (.slice (some ⟨h, 0, none⟩) (m * n) (m * n))).put (.deferred none) hD1
    obtain ⟨hO, hBB⟩ := fin_mat (A := muC l A B) (p := q) (r := m) (c := n) hK HRR.out HB.out (by omega : w.heap.size ≤ w.heap.size + 1 + 1) (by omega) (by omega) hDh hD1 (by omega) (by omega) (fun i j hi hj => muF_done hys hi hj)
    obtain ⟨_, q0, q1, q2, q3⟩ := P4
    refine ⟨.tuple #[.agg #[.int .i64 q, .int .i64 m, .int .i64 n, .slice (some ⟨h, 0, none⟩) (m * n) (m * n)], .int .i64 0], ?_, ⟨_, rfl, hO, hBB⟩⟩
    simp [results, Try.results34, go_sem, q0, q1, q2, q3]
  case stop =>
    rintro D c pre W _ _ h _
    exact h.elim
theorem IntsC.al {w : World} {v : Value} {zs : List Int} {o : Obj} (h : IntsC w v zs) : IntsC (w.alloc o) v zs := h.on ((Below.refl _ _).alloc (Nat.le_refl _) o)
theorem implMu_any {p r c q s d P R C k : Int} {u v : Value} {xs ys zs : List Int} {w : World} (hu : IntsC w u xs) (hv : IntsC w v ys) (h : MuRes p r c xs q s d ys P R C zs k) :
    Calls Try.prog 34 #[.agg #[.int .i64 p, .int .i64 r, .int .i64 c, u], .agg #[.int .i64 q, .int .i64 s, .int .i64 d, v]] w fun e w' => RetMC P R C zs k w e w' := by
  obtain ⟨hk, ⟨h0, rfl, rfl, rfl, rfl⟩ | ⟨rfl, rfl, rfl, rfl, u', _, m, n, l, A, B, hA, hB, rfl⟩⟩ := h
  · have e0 : (k != 0) = true := by simpa using h0
    exact implMu_b hu.1 hv.1 rfl hk e0
  · obtain ⟨_, _, e, hf⟩ := hk.good
    have e1 : c = s := by simpa using hf
    subst e e1
    obtain ⟨rfl, rfl, rfl, rfl, h5, h6, h7⟩ := hA
    obtain ⟨_, _, rfl, rfl, g5, g6, g7⟩ := hB
    exact implMu_ok hu hv ⟨rfl, rfl, rfl, rfl, h5, h6, h7⟩ ⟨rfl, rfl, rfl, rfl, g5, g6, g7⟩
end Go.Proofs.Ytabanmaaagmeaaa
