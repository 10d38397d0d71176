/-
  ComplementOf of the program.
-/
import Derived.Test.YtlakkmhfaojebaaSqH
import Derived.Test.YtlakkmhfaojebaaSpC
import Derived.Test.YtlakkmhfaojebaaSpV
namespace Go.Proofs.Ytlakkmhfaojebaa
open Go.RowKit
open Lin
set_option linter.unusedVariables false
set_option linter.unusedSectionVars false

theorem row_slice {w : World} {B n : Nat} {t : TypeId} {v : Value} {L : List Value} (h : w.ownsRow B t 1 v n L) : ∃ a c, v = .slice a n c := by
  obtain ⟨_, ⟨h, h'⟩ | ⟨g, cap, cur, h, _⟩⟩ := h <;> exact ⟨_, _, by rw [h] <;> (try rw [h'])⟩
/-- A list of rows of a matrix, by their slices. -/
theorem rows_some_of {q N M : Nat} [NeZero q] {B : Nat} {w : World} {v : Value} {ua : Option Addr} {uc : Nat} {fs : List Nat} (hv : IntsC w (.slice ua (N * N) uc) (flat N N (unitM : Mt q))) (hN : N ≤ 32) (hlt : ∀ k ∈ fs, k < N)
    (h : w.ownsRow B 24 1 v M (fs.map (rowW ua N uc))) (hM : fs.length = M) (hM2 : M ≤ 2097152) : RowsC w v M (rowL N (mat q (unitR q N fs))) := by
  refine RowsC.of_own h hM2 (by rw [List.length_map, hM]) fun i hi => ?_
  have hi' : i < fs.length := by rw [List.length_map] at hi; exact hi
  rw [List.getElem_map]
  have e : rowL N (unitM : Mt q) fs[i] = rowL N (mat q (unitR q N fs)) i := by
    refine vec_row (vecs_unitR q N fs _ (List.mem_map.2 ⟨fs[i], List.getElem_mem hi', rfl⟩)) _ i ?_
    unfold unitR
    rw [List.getElem?_map, List.getElem?_eq_getElem hi']
    rfl
  rw [← e]
  exact rowW_ints hv (by omega) (hlt _ (List.getElem_mem hi'))
set_option maxRecDepth 100000 in
set_option maxHeartbeats 3200000 in
theorem implCmp_b {p n : Int} {zz : List (List Int)} {u : Value} {w : World} (hu : RowsD w u zz) (h : ¬ VOk p n zz) :
    Calls Try.prog 43 #[.agg #[.int .i64 p, .int .i64 n, u]] w fun e w' => RetVC 0 0 [] 1 w e w' := by
  have HU := Lib.hid hu
  have HK : Hid (false = vB p n zz) := (vB_no h).symm
  obtain ⟨a, c, rfl⟩ := hu.1.slice
  have Pr0 := PtV.new (w.alloc (.cells #[.int .i64 p, .int .i64 n, .slice a zz.length c] 32)) 0 0 (.slice none 0 0) 32
  have Fr0 := Fz.new (w.alloc (.cells #[.int .i64 p, .int .i64 n, .slice a zz.length c] 32)) #[.int .i64 0, .int .i64 0, .slice none 0 0] 32
  rw [World.size_alloc] at Pr0 Fr0
  clear h hu
  go_enter Try.func43, Try.ntmps43
  go_wp2_with fail
  refine (implVS_is (T := false) (HU.out.on (al1 (al1 (Below.refl _ _) _) _)) HK.out).mono ?_
  rintro e w1 ⟨rfl, hb⟩
  have HB := Lib.hid (up2 hb)
  have HPt := Lib.hid (Pr0.on hb)
  have HF : Hid (Fz w1 (w.heap.size + 1)) := Fr0.on (by simp) hb
  obtain ⟨lR, r0, r1, r2⟩ := HPt.out
  have f0 := HF.out 0
  have f1 := HF.out 1
  have f2 := HF.out 2
  have HQ3 := Lib.hid (HPt.out.set3 0 0 (.slice none 0 0))
  clear hb Pr0 Fr0
  go_wp2_with fail
  obtain ⟨_, q0, q1, q2⟩ := HQ3.out
  refine bodyPost_ret (v := .tuple #[.agg #[.int .i64 0, .int .i64 0, .slice none 0 0], .int .i64 1]) (by simp [results, Try.results43, go_sem, q0, q1, q2]) rfl ⟨_, rfl, OwnRI.nul _ _, ?_⟩
  repeat (refine Below.setC ?_ (by omega) _)
  exact HB.out
set_option maxRecDepth 100000 in
set_option maxHeartbeats 6400000 in
theorem implCmp_ok {q N r : Nat} [NeZero q] {A : Mt q} {zz : List (List Int)} {u : Value} {w : World} (hu : RowsD w u zz) (hA : VIs q N zz q N r A) :
    Calls Try.prog 43 #[.agg #[.int .i64 (q : Int), .int .i64 (N : Int), u]] w fun e w' => RetVC q N (cmpOf r N A) 0 w e w' := by
  have HU := Lib.hid hu
  have HK : Hid (true = vB (q : Int) N zz) := (vB_yes hA.ok).symm
  have HRC := Lib.hid (hA.rowsC hu)
  have HM := Lib.hid hA.mis
  have HPR := Lib.hid hA.pr
  have hr32 := hA.mis.m32
  have hN32 := hA.n32
  have hrN : r * N ≤ 1024 := Nat.mul_le_mul hr32 hN32
  have hNN : N * N ≤ 1024 := Nat.mul_le_mul hN32 hN32
  have HUR : Hid (URes (q : Int) N q N N (flat N N (unitM : Mt q)) 0) := .inr (.inr ⟨hA.pr, inB_yes (by omega) (by omega), rfl, rfl, rfl, rfl, q, inferInstance, N, rfl, rfl, rfl⟩)
  obtain ⟨i0, hi0, hz0, hz1, hz2⟩ := info_parts info_r
  obtain ⟨F, hF⟩ : ∃ F, (freeL (red r A N).piv N).length = F := ⟨_, rfl⟩
  have HCM : Hid (cmpOf r N A = basOf F N (mat q (unitR q N (freeL (red r A N).piv N)))) := by
    show _ = _
    unfold cmpOf bas
    rw [unitR_len, hF]
  generalize cmpOf r N A = zc at HCM ⊢
  obtain ⟨piv, hpiv⟩ : ∃ piv, (red r A N).piv = piv := ⟨_, rfl⟩
  have HPE := Lib.hid hpiv
  rw [hpiv] at hF HCM
  have hfl := freeL_len piv N
  rw [hF] at hfl
  have HFL := Lib.hid hF
  have hpm := piv_le_rows (fd_of hA.pr) r N A
  rw [hpiv] at hpm
  clear hpiv hF
  have hl := hA.len
  obtain ⟨a, c, rfl⟩ := hu.1.slice
  rw [hl] at HU HRC ⊢
  have Pa0 := PtV.new1 w (q : Int) (N : Int) (.slice a r c) 32 (.cells #[.int .i64 0, .int .i64 0, .slice none 0 0] 32)
  have Pr0 := PtV.new (w.alloc (.cells #[.int .i64 (q : Int), .int .i64 (N : Int), .slice a r c] 32)) 0 0 (.slice none 0 0) 32
  have Fr0 := Fz.new (w.alloc (.cells #[.int .i64 (q : Int), .int .i64 (N : Int), .slice a r c] 32)) #[.int .i64 0, .int .i64 0, .slice none 0 0] 32
  rw [World.size_alloc] at Pr0 Fr0
  clear hu hA hl
  go_enter Try.func43, Try.ntmps43
  go_wp2_with fail
  refine (implVS_is (T := true) (HU.out.on (al1 (al1 (Below.refl _ _) _) _)) HK.out).mono ?_
  rintro e w1 ⟨rfl, hb⟩
  have HB := Lib.hid (up2 hb)
  have Pa := Lib.hid (Pa0.on hb)
  have Pr := Lib.hid (Pr0.on hb)
  have Fr : Hid (Fz w1 (w.heap.size + 1)) := Fr0.on (by simp) hb
  have hs1 : w.heap.size + 2 ≤ w1.heap.size := by have := hb.size; simp at this; omega
  clear hb Pa0 Pr0 Fr0
  obtain ⟨lA, x0, x1, x2⟩ := Pa.out
  go_wp2_with fail
  refine (basisMat_any (HRC.out.on HB.out) hr32 hN32).mono ?_
  rintro e w2 ⟨v2, rfl, ho, hb⟩
  have HC := Lib.hid (ho.atC (by rw [flat_len]; omega))
  obtain ⟨va, vc, rfl⟩ := ho.slice
  have HB := Lib.hid (HB.out.trans (hb.mono (by omega)))
  have Pa := Lib.hid (Pa.out.on hb)
  have Pr := Lib.hid (Pr.out.on hb)
  have Fr : Hid (Fz w2 (w.heap.size + 1)) := Fr.out.on (by omega) hb
  have hs2 := hb.size
  clear ho hb lA x0 x1 x2
  obtain ⟨lA, x0, x1, x2⟩ := Pa.out
  go_wp2_with fail
  refine (implRf_ok HC.out HM.out).mono ?_
  rintro e w3 ⟨v3, pv, rfl, ho, hop, hb, -⟩
  rw [HPE.out] at hop
  have HPV := Lib.hid (hop.at (by rw [pivI_len]; omega))
  obtain ⟨fa, fc, rfl⟩ := ho.slice
  obtain ⟨pa, pc, rfl⟩ := hop.slice
  simp only [flat_len, pivI_len] at HPV ⊢
  have HB := Lib.hid (HB.out.trans (hb.mono (by omega)))
  have Pa := Lib.hid (Pa.out.on hb)
  have Pr := Lib.hid (Pr.out.on hb)
  have Fr : Hid (Fz w3 (w.heap.size + 1)) := Fr.out.on (by omega) hb
  have hs3 := hb.size
  clear ho hop hb lA x0 x1 x2 HC HRC
  obtain ⟨lA, x0, x1, x2⟩ := Pa.out
  go_wp2_with fail
  refine (implUnit_any _ HUR.out).mono ?_
  rintro e w4 ⟨v4, rfl, ho, hb'⟩
  have hb := up1 hb'
  have HUC := Lib.hid (ho.atC (by rw [flat_len]; omega))
  obtain ⟨ua, uc, rfl⟩ := ho.slice
  simp only [flat_len] at HUC ⊢
  have HB := Lib.hid (HB.out.trans (hb.mono (by omega)))
  have Pa := Lib.hid (Pa.out.on hb)
  have Pr := Lib.hid (Pr.out.on hb)
  have Fr : Hid (Fz w4 (w.heap.size + 1)) := Fr.out.on (by omega) hb
  have HPV := Lib.hid (HPV.out.on hb)
  have hs4 := hb.size
  clear ho hb hb' lA x0 x1 x2
  have bb := al1 (Below.refl w4.heap.size w4) (.cells #[.int .i64 q, .int .i64 N, .int .i64 N, .slice ua (N * N) uc] 26)
  have Pf := PtM.new w4 (q : Int) (N : Int) (N : Int) (.slice ua (N * N) uc) 26
  go_wp2_with fail
  generalize hW : World.alloc w4 (.cells #[.int .i64 q, .int .i64 N, .int .i64 N, .slice ua (N * N) uc] 26) = W4 at bb Pf ⊢
  have HPV := Lib.hid (HPV.out.on bb)
  have HUC := Lib.hid (HUC.out.on bb)
  have Pa := Lib.hid (Pa.out.on bb)
  have Pr := Lib.hid (Pr.out.on bb)
  have Fr : Hid (Fz W4 (w.heap.size + 1)) := Fr.out.on (by omega) bb
  have HB := Lib.hid (HB.out.trans (bb.mono (by omega)))
  have hs5 := bb.size
  clear bb hW
  obtain ⟨-, a', c', e', hu1, hu2, hu3⟩ := HUC.out
  simp only [Value.slice.injEq] at e'
  obtain ⟨rfl, -, rfl⟩ := e'
  rw [flat_len] at hu1
  refine (rows_any Pf hN32 (by omega) hu1 hu2 hu3).mono ?_
  rintro e w5 ⟨H, rfl, hH, hri, hb⟩
  have HRI := Lib.hid hri
  have hH2 := hri.lt
  have HPV := Lib.hid (HPV.out.on hb)
  have HUC := Lib.hid (HUC.out.on hb)
  have Pa := Lib.hid (Pa.out.on hb)
  have Pr := Lib.hid (Pr.out.on hb)
  have Fr : Hid (Fz w5 (w.heap.size + 1)) := Fr.out.on (by omega) hb
  have HB := Lib.hid (HB.out.trans (hb.mono (by omega)))
  have hs6 := hb.size
  clear hri hb Pf hu1 hu2 hu3
  obtain ⟨lA, x0, x1, x2⟩ := Pa.out
  go_wp2_with fail
  refine (implFree_any HPV.out (by omega)).mono ?_
  rintro e w6 ⟨v6, rfl, ho, hb⟩
  have HFR := Lib.hid (ho.at (by rw [pivI_len, HFL.out]; omega))
  obtain ⟨ga, gc, rfl⟩ := ho.slice
  simp only [pivI_len, HFL.out] at HFR ⊢
  have HUC := Lib.hid (HUC.out.on hb)
  have HRC : Hid (∀ k, k < N → w6.cell? ⟨H, k, none⟩ = some (rowW ua N uc k)) := fun k hk => (hb.cell (p := ⟨H, k, none⟩) hH2).trans (HRI.out.cell hk)
  have Pa := Lib.hid (Pa.out.on hb)
  have Pr := Lib.hid (Pr.out.on hb)
  have Fr : Hid (Fz w6 (w.heap.size + 1)) := Fr.out.on (by omega) hb
  have HB := Lib.hid (HB.out.trans (hb.mono (by omega)))
  have hs7 := hb.size
  clear ho hb lA x0 x1 x2 HRI HPV
  go_wp2_with fail
  go_loopw [38, 10] (fun sj so wr => ∃ j : Nat, j ≤ F ∧ sj = .int .i64 (j : Int) ∧ Hid (wr.ownsRow w6.heap.size 24 1 so j (((freeL piv N).take j).map (rowW ua N uc))) ∧ Hid (Below w6.heap.size w6 wr)) (fun sj _ _ => F - (intOf sj).toNat)
  case atStart => exact ⟨0, Nat.zero_le _, rfl, World.ownsRow_nil _ _ _ _, Below.refl _ _⟩
  case round =>
    obtain ⟨j, hj, rfl, HX, HK⟩ := hrel
    obtain ⟨oa, oc, rfl⟩ := row_slice HX.out
    have sk := HK.out.size
    by_cases hlt : j < F
    · have hjl : j < (freeL piv N).length := by rw [HFL.out]; exact hlt
      obtain ⟨k, hk⟩ : ∃ k, (freeL piv N)[j] = k := ⟨_, rfl⟩
      obtain ⟨hkn, hkp⟩ : k < N ∧ k ∉ piv := freeL_lt (by rw [← hk]; exact List.getElem_mem hjl)
      obtain ⟨gb, go, rfl, hgb, c1⟩ : ∃ b o, ga = some ⟨b, o, none⟩ ∧ b < w6.heap.size ∧ w6.cell? ⟨b, o + j, none⟩ = some (.int .i64 (k : Int)) := by
        obtain ⟨a', c', e', -, h | ⟨b, o, rfl, hb, h⟩⟩ := HFR.out
        · exfalso; have h0 : (freeL piv N).length = 0 := by rw [← pivI_len, h]; rfl
          omega
        · have := h j (by rw [pivI_len]; exact hjl)
          rw [pivI_at, hk] at this
          simp only [Value.slice.injEq] at e'
          exact ⟨b, o, e'.1, hb, this⟩
      have d1 := (HK.out.cell (p := ⟨gb, go + j, none⟩) hgb).trans c1
      have d2 := (HK.out.cell (p := ⟨H, k, none⟩) (show H < w6.heap.size by omega)).trans (HRC.out k hkn)
      have HTK : Hid (((freeL piv N).take (j + 1)).map (rowW ua N uc) = ((freeL piv N).take j).map (rowW ua N uc) ++ [rowW ua N uc k]) := by
        show _ = _; rw [List.take_succ_eq_append_getElem hjl, hk, List.map_append]; rfl
      obtain ⟨xa, xc, hx⟩ : ∃ xa xc, rowW ua N uc k = .slice xa N xc := ⟨_, _, rfl⟩
      rw [hx] at d2 HTK
      have j0 : (0 : Int) ≤ (j : Int) := by omega
      have j1 : (j : Int) < (F : Int) := by omega
      have k0 : (0 : Int) ≤ (k : Int) := by omega
      have k1 : (k : Int) < (N : Int) := by omega
      clear hkp hk hjl c1 hgb hx
      go_wp2_with (at_builtin; refine wpList_append_place _ rfl _ _ 28 rfl w6.heap.size 24 i0 (.slice none 0 0) 24 Try.underlying28 hi0 hz0 hz1 hz2 rfl _ j _ rfl (HX.out.alloc _) ⟨wr.heap.size, 0, none⟩ _ (.slice xa N xc) rfl (row_val _ _ _) (fun y hy => by simp at hy; rw [hy]; rfl) (by unfold maxLen; omega) (by omega) (by rw [World.size_alloc]; omega) ?_; intro v3 w8 hr3 hg3 hv3)
      rw [← HTK.out] at hr3
      have HX3 := Lib.hid hr3
      have HK3 := Lib.hid ((al1 HK.out _).grown hg3 (by rw [World.size_alloc]; omega) (fun k hk => (HX.out.lt k hk).1))
      clear hr3 hg3 hv3 HX HK
      go_wp2
      go_roundw
      case rel => exact ⟨j + 1, by omega, by go_num, HX3.out, HK3.out⟩
      case measure => simp [intOf]; omega
    · obtain rfl : j = F := by omega
      have HE : Hid ((freeL piv N).take j = freeL piv N) := by show _ = _; rw [← HFL.out, List.take_length]
      have hkk := HX.out
      rw [HE.out] at hkk
      have HRR := Lib.hid (rows_some_of (HUC.out.on HK.out) hN32 (fun k hk => (freeL_lt hk).1) hkk HFL.out (by omega))
      have HB := Lib.hid (HB.out.trans (HK.out.mono (by omega)))
      have Pa := Lib.hid (Pa.out.on HK.out)
      have Pr := Lib.hid (Pr.out.on HK.out)
      have Fr : Hid (Fz wr (w.heap.size + 1)) := Fr.out.on (by omega) HK.out
      clear hkk
      obtain ⟨lA, x0, x1, x2⟩ := Pa.out
      go_wp2_with fail
      refine (shapeOf_any (q : Int) (N : Int) wr).mono ?_
      rintro e w8 ⟨rfl, hb⟩
      have HB := Lib.hid (HB.out.trans (hb.mono (by omega)))
      have Pr := Lib.hid (Pr.out.on hb)
      have Fr : Hid (Fz w8 (w.heap.size + 1)) := Fr.out.on (by omega) hb
      have HRR := Lib.hid (HRR.out.on hb)
      have hs8 := hb.size
      clear hb lA x0 x1 x2
      go_wp2_with fail
      refine (span_any HRR.out HPR.out (by omega) (by omega)).mono ?_
      rintro e w9 ⟨v9, rfl, ho, hb⟩
      rw [← HCM.out] at ho
      have HO := Lib.hid ho
      obtain ⟨vx, vy, rfl⟩ := HO.out.slice
      have HB := Lib.hid (HB.out.trans (hb.mono (by omega)))
      have Pr := Lib.hid (Pr.out.on hb)
      have Fr : Hid (Fz w9 (w.heap.size + 1)) := Fr.out.on (by omega) hb
      have hs9 := hb.size
      obtain ⟨lR, r0, r1, r2⟩ := Pr.out
      have f0 := Fr.out 0
      have f1 := Fr.out 1
      have f2 := Fr.out 2
      have HQ3 := Lib.hid (Pr.out.set3 q N (.slice vx zc.length vy))
      clear ho hb
      go_wp2_with fail
      obtain ⟨_, q0, q1, q2⟩ := HQ3.out
      refine bodyPost_ret (v := .tuple #[.agg #[.int .i64 q, .int .i64 N, .slice vx zc.length vy], .int .i64 0]) (by simp [results, Try.results43, go_sem, q0, q1, q2]) rfl ⟨_, rfl, ?_, ?_⟩
      · refine OwnRI.mono (B := w8.heap.size) ?_ (by omega)
        repeat (refine OwnRI.setOut ?_ (by omega) _)
        exact HO.out
      · repeat (refine Below.setC ?_ (by omega) _)
        exact HB.out
theorem implCmp_any {p n P N k : Int} {u : Value} {zz Z : List (List Int)} {w : World} (hu : RowsD w u zz) (h : CmpRes p n zz P N Z k) :
    Calls Try.prog 43 #[.agg #[.int .i64 p, .int .i64 n, u]] w fun e w' => RetVC P N Z k w e w' := by
  rcases h with ⟨h, rfl, rfl, rfl, rfl⟩ | ⟨rfl, rfl, rfl, q, _, M, r, A, hA, rfl⟩
  · exact implCmp_b hu h
  · obtain ⟨rfl, rfl⟩ : P = q ∧ N = M := ⟨hA.p, hA.n⟩
    exact implCmp_ok hu hA
end Go.Proofs.Ytlakkmhfaojebaa
