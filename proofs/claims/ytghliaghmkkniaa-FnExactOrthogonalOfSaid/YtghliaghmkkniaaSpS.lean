/-
  l03Join for more rows; l03Join for more rows.
-/
import Derived.Test.YtghliaghmkkniaaSpR
namespace Go.Proofs.Ytghliaghmkkniaa
open Go.RowKit
open Lin
set_option linter.unusedVariables false
set_option linter.unusedSectionVars false

set_option maxRecDepth 100000 in
set_option maxHeartbeats 6400000 in
theorem l03Join_big {q m n1 n2 : Nat} [NeZero q] {A B : Mt q} {L G : Nat} {u v : Value} {w : World} (hp : PtM w L q m n1 u) (hg : PtM w G q m n2 v) (hu : IntsC w u (flat m n1 A)) (hv : IntsC w v (flat m n2 B)) (hm : m ≤ 64) (hn1 : n1 ≤ 32) (hn2 : n2 ≤ 32) :
    Calls Try.prog 181 #[.pointer (some ⟨L, 0, none⟩), .pointer (some ⟨G, 0, none⟩)] w fun e w' => RetMx q m ((n1 : Int) + n2) (flat m (n1 + n2) (join n1 A B)) w e w' := by
  obtain ⟨i0, hi', hz0, hz1, hz2⟩ := info_parts info2
  have HU := Lib.hid hu
  have HV := Lib.hid hv
  obtain ⟨-, a1, k1, rfl, c11, c12, ha1⟩ := hu
  obtain ⟨-, a2, k2, rfl, c21, c22, ha2⟩ := hv
  simp only [flat_len] at hp hg HU HV c11 c21 ⊢
  have lL := hp.1
  have lG := hg.1
  have bb := (Below.refl w.heap.size w).alloc (Nat.le_refl _) (.cells #[.int .i64 0, .int .i64 0, .int .i64 0, .slice none 0 0] 27)
  have Pa0 := hp.on bb
  have Pb0 := hg.on bb
  have Pr0 := PtM.new w 0 0 0 (.slice none 0 0) 27
  have Fr0 := Fz.new w #[.int .i64 0, .int .i64 0, .int .i64 0, .slice none 0 0] 27
  clear hp hg
  go_enter Try.func181, Try.ntmps181
  go_wp2_with fail
  generalize hW : World.alloc w (.cells #[.int .i64 0, .int .i64 0, .int .i64 0, .slice none 0 0] 27) = W0 at Pa0 Pb0 Pr0 Fr0 bb ⊢
  obtain ⟨R, hR⟩ : ∃ R, w.heap.size = R := ⟨_, rfl⟩
  have hz : R + 1 ≤ W0.heap.size := by rw [← hW, ← hR]; simp
  rw [hR] at Pr0 Fr0 lL lG ⊢
  have HB := Lib.hid bb
  have Pa := Lib.hid Pa0
  have Pb := Lib.hid Pb0
  have Pr := Lib.hid Pr0
  have Fr : Hid (Fz W0 R) := Fr0
  clear hW bb Pa0 Pb0 Pr0 Fr0
  obtain ⟨lA, x0, x1, x2, x3⟩ := Pa.out
  obtain ⟨lB, y0, y1, y2, y3⟩ := Pb.out
  have w0 : IntKind.i64.wrap ((n1 : Int) + n2) = (n1 : Int) + n2 := IntWalk.i64_in _ (by omega)
  go_cut [5] (fun sp wx => ∃ (L2 g : Nat), sp = .pointer (some ⟨L2, 0, none⟩) ∧ Hid (MatB wx L2 q m ((n1 : Int) + n2) (.slice (some ⟨g, 0, none⟩) 0 0) ∧ OwnI W0.heap.size wx (.slice (some ⟨g, 0, none⟩) 0 0) [] ∧ W0.heap.size ≤ L2 ∧ Below W0.heap.size W0 wx))
  case first =>
    go_region
    · go_wp2_with fail
      go_meet
      case rel =>
        have h := heap_alloc_new (W0.alloc (.cells #[] 2)) (.cells #[.int .i64 q, .int .i64 m, .int .i64 ((n1 : Int) + n2), .slice (some ⟨W0.heap.size, 0, none⟩) 0 0] 27)
        rw [World.size_alloc] at h
        exact ⟨_, W0.heap.size, rfl, h, (madeI W0 W0.heap.size (Nat.le_refl _)).al.drew, by omega, drew_below (al1 (al1 (Below.refl _ _) _) _)⟩
    · go_wp2_with fail
      go_meet
      case rel =>
        refine ⟨_, W0.heap.size + 1, rfl, (Deep.blk_alloc_lt _ _ _ (by simp)).trans (heap_alloc_new W0 _), ?_, by omega, drew_below (al1 (al1 (Below.refl _ _) _) _)⟩
        have h := (madeI (W0.alloc (.cells #[.int .i64 q, .int .i64 m, .int .i64 ((n1 : Int) + n2), .slice (some ⟨W0.heap.size + 1, 0, none⟩) 0 0] 27)) W0.heap.size (by simp)).drew
        simpa using h
  obtain ⟨L2, g, rfl, hc⟩ := hcut
  obtain ⟨hp2, ho2, hL2, hb2⟩ := hc.out
  clear hc lA x0 x1 x2 x3 lB y0 y1 y2 y3
  rename World => W1
  have Pa := Lib.hid (Pa.out.on hb2)
  have Pb := Lib.hid (Pb.out.on hb2)
  have Pr := Lib.hid (Pr.out.on hb2)
  have Fr : Hid (Fz W1 R) := Fr.out.on (by omega) hb2
  have HB := Lib.hid (HB.out.trans (hb2.mono HB.out.size))
  have s1 := hb2.size
  have s0 := HB.out.size
  have lL2 := hp2.lt
  have H2 := Lib.hid hp2
  have HO := Lib.hid (ho2.mono (show R + 1 ≤ W0.heap.size by omega))
  clear hp2 ho2 hb2
  go_wp2_with fail
  go_loopw [6] (fun s wr => ∃ i : Nat, i ≤ m ∧ s = .int .i64 (i : Int) ∧ Hid (JoinR (R + 1) W1 wr L2 q m ((n1 : Int) + n2) (flat i (n1 + n2) (join n1 A B)))) (fun s _ => m - (intOf s).toNat)
  case atStart => exact ⟨0, Nat.zero_le _, rfl, ⟨some ⟨g, 0, none⟩, 0, by simpa [flat] using H2.out, by simpa [flat] using HO.out, Below.refl _ _⟩⟩
  case round =>
    obtain ⟨i, hi, rfl, HX⟩ := hrel
    obtain ⟨ap, c', hM, hO, hk⟩ := HX.out
    have Pa' := Pa.out.keep hk (by omega)
    have Pb' := Pb.out.keep hk (by omega)
    obtain ⟨lA, x0, x1, x2, x3⟩ := Pa'
    obtain ⟨lB, y0, y1, y2, y3⟩ := Pb'
    by_cases hlt : i < m
    · have ii0 : (0 : Int) ≤ (i : Int) := by omega
      have i1 : (i : Int) < (m : Int) := by omega
      have vinc : IntKind.i64.wrap ((i : Int) + 1) = (i : Int) + 1 := IntWalk.i64_in _ (by omega)
      obtain ⟨zs, hzs⟩ : ∃ zs, flat i (n1 + n2) (join n1 A B) = zs := ⟨_, rfl⟩
      have HZ := Lib.hid hzs
      have hzl : zs.length ≤ 4096 := by rw [← hzs, flat_len]; have := Nat.mul_le_mul (show i ≤ 64 by omega) (show n1 + n2 ≤ 64 by omega); omega
      rw [hzs] at hM hO
      obtain ⟨N1, hN1⟩ : ∃ N, zs.length = N := ⟨_, rfl⟩
      rw [hN1] at hM hO hzl
      have HN1 := Lib.hid hN1
      obtain ⟨l2, z0, z1, z2, z3⟩ := hM.pt
      have HM := Lib.hid hM
      have HO1 := Lib.hid hO
      have HK1 := Lib.hid hk
      have sk := hk.size
      have xs : i * n1 ≤ 2048 := Nat.mul_le_mul (show i ≤ 64 by omega) hn1
      have xf : i * n1 + n1 ≤ m * n1 := by rw [← Nat.succ_mul]; exact Nat.mul_le_mul_right n1 hlt
      have x0 : n1 = 0 → i * n1 = 0 := fun e => by rw [e, Nat.mul_zero]
      have xI := ((rowW_ints HU.out (by omega) hlt).on (HB.out.trans (hk.mono (by omega)))).src (by rw [rowL_len]; omega)
      unfold rowW at xI
      have xe : (i + 1) * n1 = i * n1 + n1 := Nat.succ_mul i n1
      obtain ⟨x, hx⟩ : ∃ x, i * n1 = x := ⟨_, rfl⟩
      rw [hx] at xs xf x0 xI xe
      obtain ⟨y, hy⟩ : ∃ y, x + n1 = y := ⟨_, rfl⟩
      have v1n1 : IntKind.i64.wrap ((i : Int) * (n1 : Int)) = (x : Int) := by rw [← Int.natCast_mul, hx]; exact IntWalk.i64_in _ (by omega)
      have v3n1 : IntKind.i64.wrap (((i : Int) + 1) * (n1 : Int)) = (y : Int) := by rw [show (i : Int) + 1 = ((i + 1 : Nat) : Int) by omega, ← Int.natCast_mul, xe, hy]; exact IntWalk.i64_in _ (by omega)
      have hadrn1 : (if k1 = x then a1 else Option.map (fun p => p.add x) a1) = adr a1 x := cut_adr (n := n1) (by omega) x0 (.inr trivial) ha1
      have y1 : x ≤ y := by omega
      have y2 : (y : Int) ≤ (k1 : Int) := by omega
      have y3 : y - x = n1 := by omega
      have HSn1 := Lib.hid xI
      clear hx hy xI xe xf x0
      clear hzs hN1 hM hO HX
      go_wp2_with fail
      go_still_tail 20, (by kernel_rfl)
      change wpList _ _ _ _ _ wr.drew
      go_wp2_with (
        at_builtin
        refine wp_append_src rfl _ _ 25 rfl (R + 1) 2 i0 (.int .i64 0) 8 Try.underlying25 hi' hz0 hz1 hz2 rfl _ N1 (iv zs) rfl (by have h := HO1.out.drew.out; rw [HN1.out] at h; exact h) _ (iv (rowL n1 A i)) rfl HSn1.out.drew iv_one (by omega) (by omega) (by show R + 1 ≤ wr.heap.size; omega) ?_
        intro v2 w2 hv2 hg2
        have hg2' : wr.grownBy w2 (Value.ownBlock (.slice ap N1 c')) := ⟨hg2.os, hg2.tape, hg2.output, hg2.size, hg2.block⟩
        have hv3 : w2.ownsRow (R + 1) 2 1 v2 (zs.length + (rowL n1 A i).length) (iv zs ++ iv (rowL n1 A i)) := by rw [HN1.out]; rw [iv_len] at hv2; exact hv2
        obtain ⟨hM2, hJ2⟩ := JoinR.push (a := W1) HM.out HO1.out HK1.out (by omega) (by omega) hv3 hg2'
        have hO2 : OwnI (R + 1) w2 v2 (zs ++ rowL n1 A i) := by unfold OwnI; rw [iv_app, List.length_append]; exact hv3
        have hsp := hO2.slice
        obtain ⟨N2, hN2⟩ : ∃ N, (zs ++ rowL n1 A i).length = N := ⟨_, rfl⟩
        have hN2l : N2 ≤ 4096 + 32 := by rw [← hN2, List.length_append, rowL_len, HN1.out]; omega
        have HN2 := Lib.hid hN2
        rw [hN2] at hsp
        obtain ⟨ap2, cp2, rfl⟩ := hsp
        obtain ⟨_, t0, t1, t2, t3⟩ := hM2.pt
        have tf := hM2.fz 3)
      have HJ2 := Lib.hid hJ2
      clear hv2 hv3 hg2 hg2' hO2 hJ2 hN2 hM2 HO1 HM z0 z1 z2 z3 lA x0 x1 x2 x3 lB y0 y1 y2 y3
      try go_wp2_with fail
      generalize hw3 : w2.setCell ⟨L2, 3, none⟩ (.slice ap2 N2 cp2) = w3 at HJ2 ⊢
      obtain ⟨ap3, cp3, hM3, hO3, hk3⟩ := HJ2.out
      rw [HN2.out] at hM3 hO3
      obtain ⟨l3, z0, z1, z2, z3⟩ := hM3.pt
      obtain ⟨lA, x0, x1, x2, x3⟩ := Pa.out.keep hk3 (by omega)
      obtain ⟨lB, y0, y1, y2, y3⟩ := Pb.out.keep hk3 (by omega)
      have HM3 := Lib.hid hM3
      have HO3 := Lib.hid hO3
      have HK3 := Lib.hid hk3
      have sk3 := hk3.size
      have x2s : i * n2 ≤ 2048 := Nat.mul_le_mul (show i ≤ 64 by omega) hn2
      have x2f : i * n2 + n2 ≤ m * n2 := by rw [← Nat.succ_mul]; exact Nat.mul_le_mul_right n2 hlt
      have x20 : n2 = 0 → i * n2 = 0 := fun e => by rw [e, Nat.mul_zero]
      have x2I := ((rowW_ints HV.out (by omega) hlt).on (HB.out.trans (hk3.mono (by omega)))).src (by rw [rowL_len]; omega)
      unfold rowW at x2I
      have x2e : (i + 1) * n2 = i * n2 + n2 := Nat.succ_mul i n2
      obtain ⟨xb, hx2⟩ : ∃ xb, i * n2 = xb := ⟨_, rfl⟩
      rw [hx2] at x2s x2f x20 x2I x2e
      obtain ⟨yb, hy2⟩ : ∃ yb, xb + n2 = yb := ⟨_, rfl⟩
      have v1n2 : IntKind.i64.wrap ((i : Int) * (n2 : Int)) = (xb : Int) := by rw [← Int.natCast_mul, hx2]; exact IntWalk.i64_in _ (by omega)
      have v3n2 : IntKind.i64.wrap (((i : Int) + 1) * (n2 : Int)) = (yb : Int) := by rw [show (i : Int) + 1 = ((i + 1 : Nat) : Int) by omega, ← Int.natCast_mul, x2e, hy2]; exact IntWalk.i64_in _ (by omega)
      have hadrn2 : (if k2 = xb then a2 else Option.map (fun p => p.add xb) a2) = adr a2 xb := cut_adr (n := n2) (by omega) x20 (.inr trivial) ha2
      have yy1 : xb ≤ yb := by omega
      have yy2 : (yb : Int) ≤ (k2 : Int) := by omega
      have yy3 : yb - xb = n2 := by omega
      have HSn2 := Lib.hid x2I
      clear hx2 hy2 x2I x2e x2f x20
      clear hM3 hO3 HJ2 hw3 hk3 t0 t1 t2 t3 tf
      go_still_tail 20, (by kernel_rfl)
      change wpList _ _ _ _ _ w3.drew
      go_wp2_with (
        at_builtin
        refine wp_append_src rfl _ _ 25 rfl (R + 1) 2 i0 (.int .i64 0) 8 Try.underlying25 hi' hz0 hz1 hz2 rfl _ N2 (iv (zs ++ rowL n1 A i)) rfl (by have h := HO3.out.drew.out; rw [HN2.out] at h; exact h) _ (iv (rowL n2 B i)) rfl HSn2.out.drew iv_one (by omega) (by omega) (by show R + 1 ≤ w3.heap.size; omega) ?_
        intro v4 w4 hv4 hg4
        have hg4' : w3.grownBy w4 (Value.ownBlock (.slice ap3 N2 cp3)) := ⟨hg4.os, hg4.tape, hg4.output, hg4.size, hg4.block⟩
        have hv5 : w4.ownsRow (R + 1) 2 1 v4 ((zs ++ rowL n1 A i).length + (rowL n2 B i).length) (iv (zs ++ rowL n1 A i) ++ iv (rowL n2 B i)) := by rw [HN2.out]; rw [iv_len] at hv4; exact hv4
        obtain ⟨hM4, hJ4⟩ := JoinR.push (a := W1) HM3.out HO3.out HK3.out (by omega) (by omega) hv5 hg4'
        have hO4 : OwnI (R + 1) w4 v4 ((zs ++ rowL n1 A i) ++ rowL n2 B i) := by unfold OwnI; rw [iv_app, List.length_append]; exact hv5
        have hsp := hO4.slice
        have hrow : ((zs ++ rowL n1 A i) ++ rowL n2 B i) = flat (i + 1) (n1 + n2) (join n1 A B) := by rw [← HZ.out, flat_rowN, rowL_join, List.append_assoc]
        obtain ⟨N4, hN4⟩ : ∃ N, ((zs ++ rowL n1 A i) ++ rowL n2 B i).length = N := ⟨_, rfl⟩
        rw [hN4] at hsp
        obtain ⟨ap4, cp4, rfl⟩ := hsp
        obtain ⟨_, t0, t1, t2, t3⟩ := hM4.pt
        have tf := hM4.fz 3)
      rw [hrow] at hJ4
      have HJ4 := Lib.hid hJ4
      clear hv4 hv5 hg4 hg4' hO4 hJ4 hN4 hM4 HO3 HM3 z0 z1 z2 z3 lA x0 x1 x2 x3 lB y0 y1 y2 y3 hrow HZ HN1 HN2
      try go_wp2
      go_roundw
      case rel => exact ⟨i + 1, by omega, by go_num, HJ4.out⟩
      case measure => simp [intOf]; omega
    · obtain rfl : i = m := by omega
      obtain ⟨N, hN⟩ : ∃ N, (flat i (n1 + n2) (join n1 A B)).length = N := ⟨_, rfl⟩
      rw [hN] at hM hO
      obtain ⟨l2, z0, z1, z2, z3⟩ := hM.pt
      have hRr := Pr.out.keep hk (by omega)
      have hRf : Fz wr R := fun o => (hk.frozen (p := ⟨R, o, none⟩) (show R < R + 1 by omega)).trans (Fr.out o)
      have hq := Lib.hid (hRr.set4 q i ((n1 : Int) + n2) (.slice ap N c'))
      have HOO := Lib.hid hO
      have HBB := Lib.hid (HB.out.trans (hk.mono (by omega)))
      obtain ⟨lR, r0, r1, r2, r3⟩ := hRr
      obtain ⟨f0, f1, f2, f3⟩ := hRf.all
      clear hM hO HX hN
      go_wp2_with fail
      obtain ⟨_, q0, q1, q2, q3⟩ := hq.out
      refine bodyPost_ret (v := .agg #[.int .i64 q, .int .i64 i, .int .i64 ((n1 : Int) + n2), .slice ap N c']) (by simp [results, Try.results181, go_sem, q0, q1, q2, q3]) rfl ⟨_, rfl, ?_, below_set4 HBB.out (by omega) _ _ _ _⟩
      refine OwnI.mono (B := R + 1) ?_ (by omega)
      repeat (refine OwnI.setOut ?_ (by omega) _)
      exact HOO.out
end Go.Proofs.Ytghliaghmkkniaa
