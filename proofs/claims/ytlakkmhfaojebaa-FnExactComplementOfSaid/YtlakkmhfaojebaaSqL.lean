/-
  ComplementOf of the model.
-/
import Derived.Test.YtlakkmhfaojebaaSqH
import Derived.Test.YtlakkmhfaojebaaSqC
import Derived.Test.YtlakkmhfaojebaaSpY
namespace Go.Proofs.Ytlakkmhfaojebaa
open Go.RowKit
open Lin
set_option linter.unusedVariables false
set_option linter.unusedSectionVars false

theorem row_val' (w : World) (u : Value) (t : TypeId) (n : Nat) (hn : n = w.heap.size) : ∀ (j : Nat) (x : Value), [u][j]? = some x → (w.alloc (.cells #[u] t)).cell? ((⟨n, 0, none⟩ : Addr).add j) = some x := by
  subst hn; exact row_val w u t
theorem pivI_take {P : List Nat} {t : Nat} (h : t < P.length) : pivI (P.take (t + 1)) = pivI (P.take t) ++ [((P.getD t 0 : Nat) : Int)] := by
  rw [List.take_succ_eq_append_getElem h, pivI_app, getD_at _ _ h]; rfl
theorem pivI_take_len {P : List Nat} {t : Nat} (h : t ≤ P.length) : (pivI (P.take t)).length = t := by rw [pivI_len, List.length_take]; omega
set_option maxRecDepth 100000 in
set_option maxHeartbeats 3200000 in
theorem specCmp_b {p n : Int} {zz : List (List Int)} {u : Value} {w : World} (hu : RowsD w u zz) (h : ¬ VOk p n zz) :
    Calls Try.prog 42 #[.agg #[.int .i64 p, .int .i64 n, u]] w fun e w' => RetVC 0 0 [] 1 w e w' := by
  have HU := Lib.hid hu
  have HK : Hid (false = vB p n zz) := (vB_no h).symm
  obtain ⟨a, c, rfl⟩ := hu.1.slice
  have Pa0 := PtV.new1 w p n (.slice a zz.length c) 32 (.cells #[.int .i64 0, .int .i64 0, .slice none 0 0] 32)
  have Pr0 := PtV.new (w.alloc (.cells #[.int .i64 p, .int .i64 n, .slice a zz.length c] 32)) 0 0 (.slice none 0 0) 32
  have Fr0 := Fz.new (w.alloc (.cells #[.int .i64 p, .int .i64 n, .slice a zz.length c] 32)) #[.int .i64 0, .int .i64 0, .slice none 0 0] 32
  rw [World.size_alloc] at Pr0 Fr0
  clear h hu
  go_enter Try.func42, Try.ntmps42
  go_wp2_with fail
  refine (l04Ok_is (T := false) Pa0 (HU.out.on (al1 (al1 (Below.refl _ _) _) _)) HK.out).mono ?_
  rintro e w1 ⟨rfl, hb⟩
  have HB := Lib.hid (up2 hb)
  have HPt := Lib.hid (Pr0.on hb)
  have HF : Hid (Fz w1 (w.heap.size + 1)) := Fr0.on (by simp) hb
  obtain ⟨lR, r0, r1, r2⟩ := HPt.out
  have f0 := HF.out 0
  have f1 := HF.out 1
  have f2 := HF.out 2
  have HQ3 := Lib.hid (HPt.out.set3 0 0 (.slice none 0 0))
  clear hb Pr0 Fr0
  go_wp2_with fail
  obtain ⟨_, q0, q1, q2⟩ := HQ3.out
  refine bodyPost_ret (v := .tuple #[.agg #[.int .i64 0, .int .i64 0, .slice none 0 0], .int .i64 1]) (by simp [results, Try.results42, go_sem, q0, q1, q2]) rfl ⟨_, rfl, OwnRI.nul _ _, ?_⟩
  repeat (refine Below.setC ?_ (by omega) _)
  exact HB.out
set_option maxRecDepth 100000 in
set_option maxHeartbeats 6400000 in
theorem specCmp_ok {q N r : Nat} [NeZero q] {A : Mt q} {zz : List (List Int)} {u : Value} {w : World} (hu : RowsD w u zz) (hA : VIs q N zz q N r A) :
    Calls Try.prog 42 #[.agg #[.int .i64 (q : Int), .int .i64 (N : Int), u]] w fun e w' => RetVC q N (cmpOf r N A) 0 w e w' := by
  have HU := Lib.hid hu
  have HK : Hid (true = vB (q : Int) N zz) := (vB_yes hA.ok).symm
  have HRC := Lib.hid (hA.rowsC hu)
  have HPR := Lib.hid hA.pr
  have hr32 := hA.mis.m32
  have hN32 := hA.n32
  have hl := hA.len
  obtain ⟨i0, hi0, hz0, hz1, hz2⟩ := info_parts info_i
  obtain ⟨j0, hj0, hy0, hy1, hy2⟩ := info_parts info_r
  have HFA : Hid (∀ t, t < r → FirstAt (rowL N A t) ((red r A N).piv.getD t 0) ∧ (red r A N).piv.getD t 0 < N) := fun t ht => vis_first hA ht
  have HCM : Hid (cmpOf r N A = bas q N (unitR q N (freeL (red r A N).piv N))) := rfl
  have hq2 : 2 ≤ q := by have := hA.pr.1; omega
  have HPL := Lib.hid hA.piv
  generalize cmpOf r N A = zc at HCM ⊢
  obtain ⟨P, hP⟩ : ∃ P, (red r A N).piv = P := ⟨_, rfl⟩
  rw [hP] at HFA HCM HPL
  clear hP
  obtain ⟨a, c, rfl⟩ := hu.1.slice
  rw [hl] at HU HRC ⊢
  have Pa0 := PtV.new1 w (q : Int) (N : Int) (.slice a r c) 32 (.cells #[.int .i64 0, .int .i64 0, .slice none 0 0] 32)
  have Pr0 := PtV.new (w.alloc (.cells #[.int .i64 (q : Int), .int .i64 (N : Int), .slice a r c] 32)) 0 0 (.slice none 0 0) 32
  have Fr0 := Fz.new (w.alloc (.cells #[.int .i64 (q : Int), .int .i64 (N : Int), .slice a r c] 32)) #[.int .i64 0, .int .i64 0, .slice none 0 0] 32
  rw [World.size_alloc] at Pr0 Fr0
  clear hu hA hl
  go_enter Try.func42, Try.ntmps42
  go_wp2_with fail
  refine (l04Ok_is (T := true) Pa0 (HU.out.on (al1 (al1 (Below.refl _ _) _) _)) HK.out).mono ?_
  rintro e w1 ⟨rfl, hb⟩
  have HB := Lib.hid (up2 hb)
  have Pa := Lib.hid (Pa0.on hb)
  have Pr := Lib.hid (Pr0.on hb)
  have Fr : Hid (Fz w1 (w.heap.size + 1)) := Fr0.on (by simp) hb
  have hs1 : w.heap.size + 2 ≤ w1.heap.size := by have := hb.size; simp at this; omega
  clear hb Pa0 Pr0 Fr0
  have HRC := Lib.hid (HRC.out.on HB.out)
  clear HU HK
  have HCM1 : Hid (OwnI w1.heap.size (w1.alloc (.cells #[] 2)) (.slice (some ⟨w1.heap.size, 0, none⟩) 0 0) (pivI (P.take 0))) := madeI w1 w1.heap.size (Nat.le_refl _)
  have HBC0 : Hid (Below w1.heap.size w1 (w1.alloc (.cells #[] 2))) := (Below.refl _ _).alloc (Nat.le_refl _) _
  go_wp2_with fail
  go_loopw [5, 4] (fun si so wr => ∃ t : Nat, t ≤ r ∧ si = .int .i64 (t : Int) ∧ Hid (OwnI w1.heap.size wr so (pivI (P.take t))) ∧ Hid (Below w1.heap.size w1 wr)) (fun si _ _ => r - (intOf si).toNat)
  case atStart => exact ⟨0, Nat.zero_le _, rfl, HCM1.out, HBC0.out⟩
  case round =>
    obtain ⟨t, ht, rfl, HX, HK2⟩ := hrel
    obtain ⟨oa, oc, rfl⟩ := HX.out.slice
    have HCL : Hid ((pivI (P.take t)).length = t) := pivI_take_len (by rw [HPL.out]; exact ht)
    simp only [HCL.out] at HX ⊢
    have sk := HK2.out.size
    obtain ⟨lA, x0, x1, x2⟩ := Pa.out.on HK2.out
    by_cases htr : t < r
    · have t0 : (0 : Int) ≤ (t : Int) := by omega
      have t1 : (t : Int) < (r : Int) := by omega
      obtain ⟨Hr, ro, rc, ur, e, hHr, hur, hui⟩ := HRC.out.at htr
      simp only [Value.slice.injEq, true_and] at e
      obtain ⟨rfl, rfl⟩ := e
      obtain ⟨ua, uc, rfl⟩ := hui.1.slice
      have d0 := (HK2.out.cell (p := ⟨Hr, ro + t, none⟩) hHr).trans hur
      have HUI := Lib.hid (hui.1.on HK2.out)
      obtain ⟨hfa, hfn⟩ := HFA.out t htr
      have HF := Lib.hid hfa
      have HCS := Lib.hid (pivI_take (P := P) (t := t) (by rw [HPL.out]; exact htr))
      obtain ⟨f, hf⟩ : ∃ f, P.getD t 0 = f := ⟨_, rfl⟩
      rw [hf] at HF hfn HCS
      have f0 : (0 : Int) ≤ (f : Int) := by omega
      have f1 : (f : Int) < (N : Int) := by omega
      rw [rowL_len] at d0 HUI
      clear hur hui hfa hHr hf
      go_wp2_with fail
      refine (l04First_any HUI.out HF.out).mono ?_
      rintro e wc ⟨rfl, rfl⟩
      have hown := HX.out.out
      rw [HCL.out] at hown
      go_wp2_with (at_builtin; refine wpList_append_own _ rfl _ _ 24 rfl w1.heap.size 2 i0 (.int .i64 0) 1 8 Try.underlying24 hi0 hz0 hz1 hz2 rfl (by decide) _ t (iv (pivI (P.take t))) rfl (hown.alloc _) ⟨wr.heap.size, 0, none⟩ 1 1 [.int .i64 (f : Int)] rfl rfl (cell_one_new _ _ _) (fun x hx => by simp at hx; subst hx; rfl) (by unfold maxLen; omega) (by omega) (by simp; omega) ?_; intro v3 w3 hr3 hg3 hn3)
      have HX3 : Hid (OwnI w1.heap.size w3 v3 (pivI (P.take (t + 1)))) := by
        show OwnI _ _ _ _
        rw [HCS.out]
        have h := hr3
        unfold OwnI
        rw [iv_app, List.length_append, HCL.out]
        exact h
      have HK3 : Hid (Below w1.heap.size w1 w3) := (HK2.out.alloc sk _).grown hg3 (by simp; omega) (fun g hg => (hown.lt g hg).1)
      go_wp2_with fail
      go_roundw
      case rel => exact ⟨t + 1, by omega, by go_num, HX3.out, HK3.out⟩
      case measure => simp [intOf]; omega
    · obtain rfl : t = r := by omega
      rename World => wo
      have HTA : Hid (P.take t = P) := by show _ = _; rw [← HPL.out, List.take_length]
      have hfs := HX.out.at (by rw [HCL.out]; omega)
      rw [HTA.out] at hfs
      have HFS := Lib.hid hfs
      have Pv := Lib.hid (Pa.out.on HK2.out)
      have Pr := Lib.hid (Pr.out.on HK2.out)
      have Fr : Hid (Fz wo (w.heap.size + 1)) := Fr.out.on (by omega) HK2.out
      have HB3 := Lib.hid (HB.out.trans (HK2.out.mono (by omega)))
      have HLP : Hid (P.length = t) := HPL.out
      have HM := Lib.hid (OwnRI.made wo wo.heap.size (Nat.le_refl _))
      have HBM := Lib.hid ((Below.refl wo.heap.size wo).alloc (Nat.le_refl _) (.cells #[] 24))
      have hso : w.heap.size + 2 ≤ wo.heap.size := by omega
      clear hfs HX HK2 lA x0 x1 x2 Pa HRC HFA HCL HPL
      obtain ⟨lA, x0, x1, x2⟩ := Pv.out
      go_wp2_with fail
      clear lA x0 x1 x2
      go_loopw [7, 6] (fun si so wr => ∃ k : Nat, k ≤ N ∧ si = .int .i64 (k : Int) ∧ Hid (OwnRI wo.heap.size wr so (unitR q N (freeL P k))) ∧ Hid (Below wo.heap.size wo wr)) (fun si _ _ => N - (intOf si).toNat)
      case atStart => exact ⟨0, Nat.zero_le _, rfl, HM.out, HBM.out⟩
      case round =>
        obtain ⟨k, hk, rfl, HX, HK⟩ := hrel
        rename World => wk
        obtain ⟨ra, rc, rfl⟩ := HX.out.slice
        have sk2 := HK.out.size
        obtain ⟨lA, x0, x1, x2⟩ := Pv.out.on HK.out
        have hfl := freeL_len P k
        obtain ⟨M, hM⟩ : ∃ M, (unitR q N (freeL P k)).length = M := ⟨_, rfl⟩
        have hM2 : M ≤ k := by rw [← hM, unitR_len]; exact hfl
        have HM2 := Lib.hid hM
        rw [hM] at HX
        simp only [hM]
        clear hfl hM
        by_cases hlt : k < N
        · have k0 : (0 : Int) ≤ (k : Int) := by omega
          have k1 : (k : Int) < (N : Int) := by omega
          have vi : IntKind.i64.wrap ((k : Int) + 1) = (k : Int) + 1 := IntWalk.i64_in _ (by omega)
          by_cases hin : k ∈ P
          · have hT : decide ((k : Int) ∈ pivI P) = true := by simp only [decide_eq_true_eq]; exact mem_pivI.2 hin
            have HT := Lib.hid hT
            have HF1 : Hid (freeL P (k + 1) = freeL P k) := freeL_in hin
            clear hT hin
            go_wp2_with fail
            refine (l00Has_is (HFS.out.on HK.out) HT.out).mono ?_
            rintro e wc ⟨rfl, rfl⟩
            go_wp2
            go_roundw
            case rel => exact ⟨k + 1, by omega, by go_num, by rw [HF1.out]; exact HX.out, HK.out⟩
            case measure => simp [intOf]; omega
          · have hT : decide ((k : Int) ∈ pivI P) = false := by simp only [decide_eq_false_iff_not]; exact fun h => hin (mem_pivI.1 h)
            have HT := Lib.hid hT
            have HNI : Hid (k ∈ P → False) := hin
            clear hT hin
            have hmk := run_make_row' (P := Try.prog) 24 2 (.int .i64 0) 8 Try.underlying24 info_i rfl .i64 .i64 N (by omega) (by omega)
            have hrow := World.rowIs_made wk (.int .i64 0) N 2
            go_wp2_with fail
            refine (l00Has_is (HFS.out.on HK.out) HT.out).mono ?_
            rintro e wc ⟨rfl, rfl⟩
            have g1 := hrow.cell (i := k) hlt
            have f1 := hrow.frozen k
            have HG3 : Hid (wk.heap.size < (wk.alloc (.cells (madeCells #[.int .i64 0] N) 2)).heap.size) := hrow.lt
            have es := World.setCell_alloc_new (w := wk) (madeCells #[.int .i64 0] N) 2 k (.int .i64 1)
            have h3 : Hid (OwnI wk.heap.size (wk.alloc (.cells ((madeCells #[.int .i64 0] N).setIfInBounds k (.int .i64 1)) 2)) (.slice (some ⟨wk.heap.size, 0, none⟩) N N) (rowL N (unitM : Mt q) k)) := by
              show OwnI _ _ _ _
              rw [← es]
              have h := OwnI.of_row (B := wk.heap.size) (g := wk.heap.size) (w := (wk.alloc (.cells (madeCells #[.int .i64 0] N) 2)).setCell ⟨wk.heap.size, k, none⟩ (.int .i64 1)) (zs := rowL N (unitM : Mt q) k) (by
                rw [rowL_len]
                refine (hrow.set k _).congr fun l hl => ?_
                rw [getD_in (by rw [rowL_len]; exact hl), rowL_at]
                unfold unitM
                by_cases e : l = k
                · rw [if_pos e, if_pos e.symm, fv_one hq2]
                · rw [if_neg e, if_neg (fun h => e h.symm), fv_zero]) (Nat.le_refl _) (by rw [rowL_len]; omega)
              rw [rowL_len] at h
              exact h
            have hg3 : Hid (wk.grownBy (wk.alloc (.cells ((madeCells #[.int .i64 0] N).setIfInBounds k (.int .i64 1)) 2)) none) := ⟨rfl, rfl, rfl, by simp, fun i hi _ => Deep.blk_alloc_lt wk _ i hi⟩
            clear es hrow
            obtain ⟨L0, hL⟩ := HX.out
            have HL := Lib.hid hL
            have HRO : Hid (unitR q N (freeL P (k + 1)) = unitR q N (freeL P k) ++ [rowL N (unitM : Mt q) k]) := by
              show _ = _; rw [freeL_out HNI.out, unitR_app]
            have hB3 : Below wk.heap.size wk (wk.alloc (.cells ((madeCells #[.int .i64 0] N).setIfInBounds k (.int .i64 1)) 2)) := ⟨hg3.out.os, hg3.out.tape, hg3.out.output, hg3.out.size, fun i hi => hg3.out.block i hi (by simp)⟩
            have HBC := Lib.hid hB3
            clear hL hg3 hB3
            go_wp2_with (at_builtin; go_loud (refine wpList_append_place _ rfl _ _ 28 rfl wo.heap.size 24 j0 (.slice none 0 0) 24 Try.underlying28 hj0 hy0 hy1 hy2 rfl _ M L0 rfl (by have h := (HL.out.on HBC.out).row; rw [HM2.out] at h; exact h.alloc _) ⟨wk.heap.size + 1, 0, none⟩ _ (.slice (some ⟨wk.heap.size, 0, none⟩) N N) rfl (row_val' _ _ _ _ (by simp)) (fun y hy => by simp at hy; rw [hy]; rfl) (by unfold maxLen; omega) (by omega) (by simp only [World.size_alloc]; omega) ?_; intro v3 w3 hr3 hg3 hv3))
            have hp3 := OwnRI.push HL.out h3.out HBC.out (by omega) (by rw [HM2.out]; exact hr3) hg3 (fun g hg => (hv3 g hg).imp id (fun h => by simp only [World.size_alloc] at h ⊢; omega))
            rw [← HRO.out] at hp3
            have HX3 := Lib.hid hp3
            have HK3 := Lib.hid (below_pushR HK.out (Nat.le_refl _) (by omega) HX.out HBC.out hg3)
            clear hp3 hr3 hg3 hv3 HX HK HL HBC
            go_wp2
            go_roundw
            case rel => exact ⟨k + 1, by omega, by go_num, HX3.out, HK3.out⟩
            case measure => simp [intOf]; omega
        · obtain rfl : k = N := by omega
          have hfit := fit_unitR q (N := k) (fs := freeL P k) (by rw [← unitR_len q k, HM2.out]; omega) (by omega)
          have hrd := (HX.out.atD hfit).mat (vecs_unitR q k _)
          rw [HM2.out] at hrd
          have HRD := Lib.hid hrd
          have HB4 := Lib.hid (HB3.out.trans (HK.out.mono (by omega)))
          have Pr := Lib.hid (Pr.out.on HK.out)
          have Fr : Hid (Fz wk (w.heap.size + 1)) := Fr.out.on (by omega) HK.out
          have HMk : Hid (M * k ≤ 1048576) := Nat.le_trans (Nat.mul_le_mul (show M ≤ 32 by omega) hN32) (by decide)
          have HCN : Hid (zc = basOf M k (mat q (unitR q k (freeL P k)))) := by
            show _ = _; rw [HCM.out]; unfold bas; rw [HM2.out]
          clear hfit hrd HX HK
          go_wp2_with fail
          refine (l04Space_any HRD.out HPR.out (by omega) (by omega) HMk.out).mono ?_
          rintro e w9 ⟨v9, rfl, ho, hb⟩
          rw [← HCN.out] at ho
          have HO := Lib.hid ho
          obtain ⟨vx, vy, rfl⟩ := ho.slice
          have HB5 := Lib.hid (HB4.out.trans (hb.mono (by omega)))
          have Pr := Lib.hid (Pr.out.on hb)
          have Fr : Hid (Fz w9 (w.heap.size + 1)) := Fr.out.on (by omega) hb
          have hs5 := hb.size
          clear lA x0 x1 x2
          obtain ⟨lR, r0, r1, r2⟩ := Pr.out
          have f0 := Fr.out 0
          have f1 := Fr.out 1
          have f2 := Fr.out 2
          have HQ3 := Lib.hid (Pr.out.set3 q k (.slice vx zc.length vy))
          clear ho hb
          go_wp2_with fail
          obtain ⟨_, q0, q1, q2⟩ := HQ3.out
          refine bodyPost_ret (v := .tuple #[.agg #[.int .i64 q, .int .i64 k, .slice vx zc.length vy], .int .i64 0]) (by simp [results, Try.results42, go_sem, q0, q1, q2]) rfl ⟨_, rfl, ?_, ?_⟩
          · refine OwnRI.mono (B := wk.heap.size) ?_ (by omega)
            repeat (refine OwnRI.setOut ?_ (by omega) _)
            exact HO.out
          · repeat (refine Below.setC ?_ (by omega) _)
            exact HB5.out
theorem specCmp_any {p n P N k : Int} {u : Value} {zz Z : List (List Int)} {w : World} (hu : RowsD w u zz) (h : CmpRes p n zz P N Z k) :
    Calls Try.prog 42 #[.agg #[.int .i64 p, .int .i64 n, u]] w fun e w' => RetVC P N Z k w e w' := by
  rcases h with ⟨h, rfl, rfl, rfl, rfl⟩ | ⟨rfl, rfl, rfl, q, _, M, r, A, hA, rfl⟩
  · exact specCmp_b hu h
  · obtain ⟨rfl, rfl⟩ : P = q ∧ N = M := ⟨hA.p, hA.n⟩
    exact specCmp_ok hu hA
end Go.Proofs.Ytlakkmhfaojebaa
