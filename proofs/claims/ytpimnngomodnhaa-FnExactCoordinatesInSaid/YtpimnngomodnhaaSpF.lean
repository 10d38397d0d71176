/-
  The matrix with some rows, by the model.
-/
import Derived.Test.YtpimnngomodnhaaSpD
import Derived.Test.YtpimnngomodnhaaPE
import Derived.Test.YtpimnngomodnhaaMxRd
namespace Go.Proofs.Ytpimnngomodnhaa
open Go.RowKit
open Lin
set_option linter.unusedVariables false
set_option linter.unusedSectionVars false

theorem RowsC.at {w : World} {v : Value} {m : Nat} {R : Nat → List Int} (h : RowsC w v m R) {i : Nat} (hi : i < m) : ∃ H o c u, v = .slice (some ⟨H, o, none⟩) m c ∧ H < w.heap.size ∧ w.cell? ⟨H, o + i, none⟩ = some u ∧ IntsC w u (R i) := by
  obtain ⟨a, c, rfl, _, ⟨_, _, h0⟩ | ⟨H, o, rfl, hH, hc⟩⟩ := h
  · omega
  · obtain ⟨u, h1, h2⟩ := hc i hi
    exact ⟨H, o, c, u, rfl, by omega, h1, h2⟩
set_option maxRecDepth 100000 in
set_option maxHeartbeats 6400000 in
theorem l04Rows_any {q m n : Nat} [NeZero q] {A : Mt q} {v : Value} {w : World} (hv : RowsC w v m (rowL n A)) (hm : m ≤ 1048576) (hn : n ≤ 64) (hmn : m * n ≤ 1048576) :
    Calls Try.prog 120 #[.int .i64 (q : Int), .int .i64 (n : Int), v] w fun e w' => RetMx q m n (flat m n A) w e w' := by
  obtain ⟨i0, hi', hz0, hz1, hz2⟩ := info_parts info2
  have HV := Lib.hid hv
  obtain ⟨av, cv, rfl, -, -⟩ := hv
  have Pr0 := PtM.new w 0 0 0 (.slice none 0 0) 26
  have Fr0 := Fz.new w #[.int .i64 0, .int .i64 0, .int .i64 0, .slice none 0 0] 26
  have b0 := (Below.refl w.heap.size w).alloc (Nat.le_refl _) (.cells #[.int .i64 0, .int .i64 0, .int .i64 0, .slice none 0 0] 26)
  have h2 := heap_alloc_new ((w.alloc (.cells #[.int .i64 0, .int .i64 0, .int .i64 0, .slice none 0 0] 26)).alloc (.cells #[] 2)) (.cells #[.int .i64 q, .int .i64 m, .int .i64 n, .slice (some ⟨w.heap.size + 1, 0, none⟩) 0 0] 26)
  rw [World.size_alloc, World.size_alloc] at h2
  have o2 := ((madeI (w.alloc (.cells #[.int .i64 0, .int .i64 0, .int .i64 0, .slice none 0 0] 26)) (w.heap.size + 1) (by simp)).al (o := .cells #[.int .i64 q, .int .i64 m, .int .i64 n, .slice (some ⟨w.heap.size + 1, 0, none⟩) 0 0] 26))
  rw [World.size_alloc] at o2
  go_enter Try.func120, Try.ntmps120
  go_wp2_with fail
  generalize hW : World.alloc w (.cells #[.int .i64 0, .int .i64 0, .int .i64 0, .slice none 0 0] 26) = W0 at Pr0 Fr0 b0 h2 o2 ⊢
  obtain ⟨R, hR⟩ : ∃ R, w.heap.size = R := ⟨_, rfl⟩
  have hz : W0.heap.size = R + 1 := by rw [← hW, ← hR]; simp
  rw [hR] at Pr0 Fr0 h2 o2 ⊢
  have ba := al1 (al1 (Below.refl W0.heap.size W0) (.cells #[] 2)) (.cells #[.int .i64 q, .int .i64 m, .int .i64 n, .slice (some ⟨R + 1, 0, none⟩) 0 0] 26)
  generalize hW1 : World.alloc (World.alloc W0 (.cells #[] 2)) (.cells #[.int .i64 q, .int .i64 m, .int .i64 n, .slice (some ⟨R + 1, 0, none⟩) 0 0] 26) = W1 at h2 o2 ba ⊢
  have s1 : R + 3 = W1.heap.size := by rw [← hW1]; simp; omega
  have HB := Lib.hid (b0.trans (ba.mono (by omega)))
  have Pr := Lib.hid (Pr0.on ba)
  have Fr : Hid (Fz W1 R) := Fr0.on (by omega) ba
  have HRR := Lib.hid hR
  have H2 : Hid (MatB W1 (R + 1 + 1) q m n (.slice (some ⟨R + 1, 0, none⟩) 0 0)) := h2
  have HO := Lib.hid (o2 : OwnI (R + 1) W1 (.slice (some ⟨R + 1, 0, none⟩) 0 0) [])
  clear hW hW1 b0 ba Pr0 Fr0 h2 o2 hR
  go_loopw [8] (fun s wr => ∃ i : Nat, i ≤ m ∧ s = .int .i64 (i : Int) ∧ Hid (JoinR (R + 1) W1 wr (R + 1 + 1) q m n (flat i n A))) (fun s _ => m - (intOf s).toNat)
  case atStart => exact ⟨0, Nat.zero_le _, rfl, ⟨some ⟨R + 1, 0, none⟩, 0, by simpa [flat] using H2.out, by simpa [flat] using HO.out, Below.refl _ _⟩⟩
  case round =>
    obtain ⟨i, hi, rfl, HX⟩ := hrel
    obtain ⟨ap, c', hM, hO, hk⟩ := HX.out
    by_cases hlt : i < m
    · have ii0 : (0 : Int) ≤ (i : Int) := by omega
      have i1 : (i : Int) < (m : Int) := by omega
      obtain ⟨zs, hzs⟩ : ∃ zs, flat i n A = zs := ⟨_, rfl⟩
      have HZ := Lib.hid hzs
      have hzl : zs.length ≤ 1048576 := by rw [← hzs, flat_len]; exact Nat.le_trans (Nat.mul_le_mul_right n hi) hmn
      rw [hzs] at hM hO
      obtain ⟨N1, hN1⟩ : ∃ N, zs.length = N := ⟨_, rfl⟩
      rw [hN1] at hM hO hzl
      have HN1 := Lib.hid hN1
      obtain ⟨l2, z0, z1, z2, z3⟩ := hM.pt
      have HM := Lib.hid hM
      have HO1 := Lib.hid hO
      have HK1 := Lib.hid hk
      have sk := hk.size
      obtain ⟨Hv, ov, cc, u, e, hHv, hu, hui⟩ := HV.out.at hlt
      simp only [Value.slice.injEq, true_and] at e
      obtain ⟨rfl, rfl⟩ := e
      have hbb : Below w.heap.size w wr := HB.out.trans (hk.mono (by have := HRR.out; omega))
      have d1 := (hbb.cell (p := ⟨Hv, ov + i, none⟩) hHv).trans hu
      have xI := (hui.on hbb).src (by rw [rowL_len]; omega)
      obtain ⟨ua, uc, rfl⟩ := hui.1.slice
      rw [rowL_len] at d1 xI
      have HS := Lib.hid xI
      clear hzs hN1 hM hO HX hu hui xI hbb
      go_wp2_with fail
      go_still_tail 6, (by kernel_rfl)
      change wpList _ _ _ _ _ wr.drew
      go_wp2_with (
        at_builtin
        refine wp_append_src rfl _ _ 24 rfl (R + 1) 2 i0 (.int .i64 0) 8 Try.underlying24 hi' hz0 hz1 hz2 rfl _ N1 (iv zs) rfl (by have h := HO1.out.drew.out; rw [HN1.out] at h; exact h) _ (iv (rowL n A i)) rfl HS.out.drew iv_one (by omega) (by omega) (by show R + 1 ≤ wr.heap.size; omega) ?_
        intro v2 w2 hv2 hg2
        have hg2' : wr.grownBy w2 (Value.ownBlock (.slice ap N1 c')) := ⟨hg2.os, hg2.tape, hg2.output, hg2.size, hg2.block⟩
        have hv3 : w2.ownsRow (R + 1) 2 1 v2 (zs.length + (rowL n A i).length) (iv zs ++ iv (rowL n A i)) := by rw [HN1.out]; rw [iv_len] at hv2; exact hv2
        obtain ⟨hM2, hJ2⟩ := JoinR.push (a := W1) HM.out HO1.out HK1.out (by omega) (by omega) hv3 hg2'
        have hO2 : OwnI (R + 1) w2 v2 (zs ++ rowL n A i) := by unfold OwnI; rw [iv_app, List.length_append]; exact hv3
        have hsp := hO2.slice
        obtain ⟨N2, hN2⟩ : ∃ N, (zs ++ rowL n A i).length = N := ⟨_, rfl⟩
        have HN2 := Lib.hid hN2
        rw [hN2] at hsp
        obtain ⟨ap2, cp2, rfl⟩ := hsp
        have hrow : zs ++ rowL n A i = flat (i + 1) n A := by rw [← HZ.out, flat_rowN]
        have HROW := Lib.hid hrow
        obtain ⟨_, t0, t1, t2, t3⟩ := hM2.pt
        have tf := hM2.fz 3)
      rw [HROW.out] at hJ2
      have HJ2 := Lib.hid hJ2
      clear hv2 hv3 hg2 hg2' hO2 hJ2 hN2 hM2 HO1 HM z0 z1 z2 z3 hrow HROW HZ HN1 HN2
      try go_wp2
      go_roundw
      case rel => exact ⟨i + 1, by omega, by go_num, HJ2.out⟩
      case measure => simp [intOf]; omega
    · obtain rfl : i = m := by omega
      obtain ⟨N, hN⟩ : ∃ N, (flat i n A).length = N := ⟨_, rfl⟩
      rw [hN] at hM hO
      obtain ⟨l2, z0, z1, z2, z3⟩ := hM.pt
      have hRr := Pr.out.keep (hk.mono (Nat.le_refl (R + 1)) : Below (R + 1) W1 wr) (by omega)
      have hRf : Fz wr R := fun o => (hk.frozen (p := ⟨R, o, none⟩) (show R < R + 1 by omega)).trans (Fr.out o)
      have hq := Lib.hid (hRr.set4 q i n (.slice ap N c'))
      have HOO := Lib.hid hO
      have HBB := Lib.hid (HB.out.trans (hk.mono (by have := HRR.out; omega)))
      obtain ⟨lR, r0, r1, r2, r3⟩ := hRr
      obtain ⟨f0, f1, f2, f3⟩ := hRf.all
      clear hM hO HX hN
      go_wp2_with fail
      obtain ⟨_, q0, q1, q2, q3⟩ := hq.out
      refine bodyPost_ret (v := .agg #[.int .i64 q, .int .i64 i, .int .i64 n, .slice ap N c']) (by simp [results, Try.results120, go_sem, q0, q1, q2, q3]) rfl ⟨_, rfl, ?_, below_set4 HBB.out (by have := HRR.out; omega) _ _ _ _⟩
      refine OwnI.mono (B := R + 1) ?_ (by have := HRR.out; omega)
      repeat (refine OwnI.setOut ?_ (by omega) _)
      exact HOO.out
end Go.Proofs.Ytpimnngomodnhaa
