/-
  ComposeMaps of the program.
-/
import Derived.Test.YtibdcejglkhcfaaDoorMpJ
namespace Go.Proofs.YtibdcejglkhcfaaDoor
open Go.RowKit Go.Maps
set_option linter.unusedVariables false
set_option linter.unusedSimpArgs false

set_option maxRecDepth 100000 in
set_option maxHeartbeats 6400000 in
theorem implCM_is {u v t x y : Value} {za zb zc : List (List Int)} {f g yy : List Int} {c : Int} {w : World} (hu : RowsAt w u za) (hv : RowsAt w v zb) (ht : RowsAt w t zc) (hx : IntsAt w x f) (hy : IntsAt w y g) (h : CmIs za zb zc f g yy c) (hTz : Tz w) :
    Calls Tryd.prog 20 #[.agg #[u], .agg #[v], .agg #[t], x, y] w fun e w' => RetSI5 yy c w e w' := by
  have HU := Lib.hid hu
  have HV := Lib.hid hv
  have HT := Lib.hid ht
  have HX := Lib.hid hx
  have HY := Lib.hid hy
  obtain ⟨a, ca, rfl⟩ := hu.slice
  obtain ⟨b, cb, rfl⟩ := hv.slice
  obtain ⟨d, cd, rfl⟩ := ht.slice
  obtain ⟨xa, xc, rfl⟩ := hx.slice
  obtain ⟨ya, yc, rfl⟩ := hy.slice
  have P0 : Hid (PtC (((w.alloc (.cells #[.slice a za.length ca] 28)).alloc (.cells #[.slice b zb.length cb] 28)).alloc (.cells #[.slice d zc.length cd] 28)) w.heap.size (.slice a za.length ca)) := (PtC.new1 w _ 28 (.cells #[.slice b zb.length cb] 28)).on ((Below.refl _ _).alloc (Nat.le_refl _) _)
  have P1 : Hid (PtC (((w.alloc (.cells #[.slice a za.length ca] 28)).alloc (.cells #[.slice b zb.length cb] 28)).alloc (.cells #[.slice d zc.length cd] 28)) (w.heap.size + 1) (.slice b zb.length cb)) := by
    have h := PtC.new1 (w.alloc (.cells #[.slice a za.length ca] 28)) (.slice b zb.length cb) 28 (.cells #[.slice d zc.length cd] 28)
    rw [World.size_alloc] at h
    exact h
  have P2 : Hid (PtC (((w.alloc (.cells #[.slice a za.length ca] 28)).alloc (.cells #[.slice b zb.length cb] 28)).alloc (.cells #[.slice d zc.length cd] 28)) (w.heap.size + 2) (.slice d zc.length cd)) := by
    have h := PtC.new ((w.alloc (.cells #[.slice a za.length ca] 28)).alloc (.cells #[.slice b zb.length cb] 28)) (.slice d zc.length cd) 28
    rw [World.size_alloc, World.size_alloc] at h
    exact h
  have B0 : Hid (Below w.heap.size w (((w.alloc (.cells #[.slice a za.length ca] 28)).alloc (.cells #[.slice b zb.length cb] 28)).alloc (.cells #[.slice d zc.length cd] 28))) := al1 (al1 (al1 (Below.refl _ _) _) _) _
  have hS0 : w.heap.size + 3 ≤ (((w.alloc (.cells #[.slice a za.length ca] 28)).alloc (.cells #[.slice b zb.length cb] 28)).alloc (.cells #[.slice d zc.length cd] 28)).heap.size := by simp
  have HBU := Lib.hid (HU.out.on B0.out)
  have HBV := Lib.hid (HV.out.on B0.out)
  have HBT := Lib.hid (HT.out.on B0.out)
  have HBX := Lib.hid (HX.out.on B0.out)
  have HBY := Lib.hid (HY.out.on B0.out)
  have TZ := Lib.hid (hTz.on B0.out)
  clear hu hv ht hx hy hTz
  by_cases od : OkC zc
  · have OD := Lib.hid od
    obtain ⟨c1, hc1⟩ := mapC_has za zb f
    have HC1 := Lib.hid hc1
    by_cases e1 : c1 = 0
    · subst e1
      obtain ⟨oa, ob, m1⟩ := mapC_zero hc1
      have OA := Lib.hid oa
      have OB := Lib.hid ob
      have HM1 := Lib.hid m1
      obtain ⟨c2, hc2⟩ := mapC_has zb zc g
      have HC2 := Lib.hid hc2
      by_cases e2 : c2 = 0
      · subst e2
        have m2 := (mapC_zero hc2).2.2
        have HM2 := Lib.hid m2
        have hz : (0 : Int) = 0 := rfl
        obtain ⟨rfl, rfl⟩ : yy = cmpM zb f g ∧ c = 0 := by
          rcases h with ⟨h, _⟩ | ⟨_, h, _⟩ | ⟨_, _, h⟩
          · exact absurd ⟨oa, ob, od⟩ h
          · exact absurd ⟨m1, m2⟩ h
          · exact h
        have hf48 := m1.le oa
        have HFV := Lib.hid (m1.ver oa ob)
        clear h od hc1 oa ob m1 hc2 m2 hz
        have p2 := P2.out.2
        go_enter Tryd.func20, Tryd.ntmps20
        go_wp2_with fail
        clear p2
        generalize (((w.alloc (.cells #[.slice a za.length ca] 28)).alloc (.cells #[.slice b zb.length cb] 28)).alloc (.cells #[.slice d zc.length cd] 28)) = W0 at P0 P1 P2 B0 HBU HBV HBT HBX HBY hS0 TZ ⊢
        refine (implVal_is HBT.out (.inl ⟨rfl, OD.out⟩) TZ.out).mono ?_
        rintro e w1 ⟨rfl, hb1⟩
        have P0_1 := Lib.hid (P0.out.on hb1)
        have P1_1 := Lib.hid (P1.out.on hb1)
        have P2_1 := Lib.hid (P2.out.on hb1)
        have HBU_1 := Lib.hid (HBU.out.on hb1)
        have HBV_1 := Lib.hid (HBV.out.on hb1)
        have HBT_1 := Lib.hid (HBT.out.on hb1)
        have HBX_1 := Lib.hid (HBX.out.on hb1)
        have HBY_1 := Lib.hid (HBY.out.on hb1)
        have TZ_1 := Lib.hid (TZ.out.on hb1)
        have B0_1 := Lib.hid (B0.out.trans (hb1.mono B0.out.size))
        clear hb1 P0 P1 P2 HBU HBV HBT HBX HBY TZ
        have p0 := P0_1.out.2
        have p1 := P1_1.out.2
        go_wp2_with fail
        clear p0 p1
        refine (mapOf_is HBU_1.out HBV_1.out HBX_1.out HC1.out TZ_1.out).mono ?_
        rintro e wq2 ⟨f2, ⟨rfl, hb2⟩, hfz2⟩
        have HFZ2 := Lib.hid hfz2
        obtain ⟨cl2, hcl2⟩ : ∃ cl, arrL f2 = cl := ⟨_, rfl⟩
        have HVF2 : Hid (VarF wq2 f2 cl2) := by rw [← hcl2]; exact varF wq2 f2
        have P0_2 := Lib.hid ((P0_1.out.on hb2).on HVF2.out.bl)
        have P1_2 := Lib.hid ((P1_1.out.on hb2).on HVF2.out.bl)
        have P2_2 := Lib.hid ((P2_1.out.on hb2).on HVF2.out.bl)
        have HBU_2 := Lib.hid ((HBU_1.out.on hb2).on HVF2.out.bl)
        have HBV_2 := Lib.hid ((HBV_1.out.on hb2).on HVF2.out.bl)
        have HBT_2 := Lib.hid ((HBT_1.out.on hb2).on HVF2.out.bl)
        have HBX_2 := Lib.hid ((HBX_1.out.on hb2).on HVF2.out.bl)
        have HBY_2 := Lib.hid ((HBY_1.out.on hb2).on HVF2.out.bl)
        have TZ_2 := Lib.hid ((TZ_1.out.on hb2).on HVF2.out.bl)
        have B0_2 := Lib.hid ((B0_1.out.trans (hb2.mono B0_1.out.size)).trans (HVF2.out.bl.mono (Nat.le_trans B0_1.out.size hb2.size)))
        have AR2 := Lib.hid HVF2.out.ar
        have hsz2 := hb2.size
        unfold vmV
        rw [hcl2]
        clear hcl2 hb2 hfz2 P0_1 P1_1 P2_1 HBU_1 HBV_1 HBT_1 HBX_1 HBY_1 TZ_1 B0_1
        go_wp2_with (refine wpList_store_mid rfl 59 (.tmp 12) (.tmp 27) rfl wq2.heap.size 0 cl2.toArray rfl rfl HVF2.out.th HVF2.out.i1 HVF2.out.one ?_; refine Hid.out ?_)
        refine Lib.hid ?_
        try rw [show cl2.toArray.toList = cl2 from rfl]
        have hgl2 : wq2.heap.size < ((wq2.alloc (.cells #[.int .i64 0, .int .i64 0, .int .i64 0, .int .i64 0, .int .i64 0, .int .i64 0, .int .i64 0, .int .i64 0, .int .i64 0, .int .i64 0] 59)).setCells wq2.heap.size 0 cl2).heap.size := World.block_lt_of_cell? _ ⟨wq2.heap.size, 0, none⟩ (AR2.out 0 (by omega)).1
        generalize ((wq2.alloc (.cells #[.int .i64 0, .int .i64 0, .int .i64 0, .int .i64 0, .int .i64 0, .int .i64 0, .int .i64 0, .int .i64 0, .int .i64 0, .int .i64 0] 59)).setCells wq2.heap.size 0 cl2) = w2 at P0_2 P1_2 P2_2 HBU_2 HBV_2 HBT_2 HBX_2 HBY_2 TZ_2 B0_2  AR2 hgl2 ⊢
        clear HVF2
        have p0 := P1_2.out.2
        have p1 := P2_2.out.2
        go_wp2_with fail
        clear p0 p1
        refine (mapOf_is HBV_2.out HBT_2.out HBY_2.out HC2.out TZ_2.out).mono ?_
        rintro e wq3 ⟨f3, ⟨rfl, hb3⟩, hfz3⟩
        have HFZ3 := Lib.hid hfz3
        obtain ⟨cl3, hcl3⟩ : ∃ cl, arrL f3 = cl := ⟨_, rfl⟩
        have HVF3 : Hid (VarF wq3 f3 cl3) := by rw [← hcl3]; exact varF wq3 f3
        have P0_3 := Lib.hid ((P0_2.out.on hb3).on HVF3.out.bl)
        have P1_3 := Lib.hid ((P1_2.out.on hb3).on HVF3.out.bl)
        have P2_3 := Lib.hid ((P2_2.out.on hb3).on HVF3.out.bl)
        have HBU_3 := Lib.hid ((HBU_2.out.on hb3).on HVF3.out.bl)
        have HBV_3 := Lib.hid ((HBV_2.out.on hb3).on HVF3.out.bl)
        have HBT_3 := Lib.hid ((HBT_2.out.on hb3).on HVF3.out.bl)
        have HBX_3 := Lib.hid ((HBX_2.out.on hb3).on HVF3.out.bl)
        have HBY_3 := Lib.hid ((HBY_2.out.on hb3).on HVF3.out.bl)
        have TZ_3 := Lib.hid ((TZ_2.out.on hb3).on HVF3.out.bl)
        have B0_3 := Lib.hid ((B0_2.out.trans (hb3.mono B0_2.out.size)).trans (HVF3.out.bl.mono (Nat.le_trans B0_2.out.size hb3.size)))
        have AR3 := Lib.hid HVF3.out.ar
        have hsz3 := hb3.size
        unfold vmV
        rw [hcl3]
        clear hcl3 hb3 hfz3 P0_2 P1_2 P2_2 HBU_2 HBV_2 HBT_2 HBX_2 HBY_2 TZ_2 B0_2
        go_wp2_with (refine wpList_store_mid rfl 59 (.tmp 14) (.tmp 37) rfl wq3.heap.size 0 cl3.toArray rfl rfl HVF3.out.th HVF3.out.i1 HVF3.out.one ?_; refine Hid.out ?_)
        refine Lib.hid ?_
        try rw [show cl3.toArray.toList = cl3 from rfl]
        have hgl3 : wq3.heap.size < ((wq3.alloc (.cells #[.int .i64 0, .int .i64 0, .int .i64 0, .int .i64 0, .int .i64 0, .int .i64 0, .int .i64 0, .int .i64 0, .int .i64 0, .int .i64 0] 59)).setCells wq3.heap.size 0 cl3).heap.size := World.block_lt_of_cell? _ ⟨wq3.heap.size, 0, none⟩ (AR3.out 0 (by omega)).1
        generalize ((wq3.alloc (.cells #[.int .i64 0, .int .i64 0, .int .i64 0, .int .i64 0, .int .i64 0, .int .i64 0, .int .i64 0, .int .i64 0, .int .i64 0, .int .i64 0] 59)).setCells wq3.heap.size 0 cl3) = w3 at P0_3 P1_3 P2_3 HBU_3 HBV_3 HBT_3 HBX_3 HBY_3 TZ_3 B0_3  AR3 hgl3 ⊢
        clear HVF3
        obtain rfl : f3 = arF (vsL zb) g := HFZ3.out (by first | trivial | rfl)
        have HTD : Hid (∀ k (hk : k < f.length), ∃ n : Nat, f[k] = (n : Int) ∧ n < 10 ∧ arF (vsL zb) g n = told (vsL zb) g f[k]) := fun k hk => by
          have hv := HFV.out _ (List.getElem_mem hk)
          have hb := vsL_bd OB.out _ hv
          have ht := (HM2.out.bd OB.out hv).1
          refine ⟨f[k].toNat, by omega, by omega, arF_told hb.1 ht⟩
        have HGT : Hid (∀ k (hk : k < f.length), (cmpM zb f g)[k]? = some (told (vsL zb) g f[k])) := fun k hk => by simp [cmpM, hk]
        have HCL : Hid ((cmpM zb f g).length = f.length) := by show _ = _; unfold cmpM; rw [List.length_map]
        obtain ⟨cm, hcm⟩ : ∃ cm, cmpM zb f g = cm := ⟨_, rfl⟩
        have HCM := Lib.hid hcm
        rw [hcm] at HGT HCL
        obtain ⟨i0, hi0, iz0, iz1, iz2⟩ := info_parts info2
        have h63 : f.length ≤ maxLen := by unfold maxLen; omega
        obtain ⟨wm, hmk, hmo, hmg⟩ := run_makeSlice_full (P := Tryd.prog) (w := w3) w3.heap.size 25 2 i0 (.int .i64 0) 1 Tryd.underlying25 hi0 iz0 iz1 .i64 .i64 f.length (by omega) (by rw [iz2]; omega) h63 (Nat.le_refl _)
        have HM0 : Hid (OwnI w3.heap.size wm (.slice (some ⟨w3.heap.size, 0, none⟩) f.length f.length) (cm.take 0 ++ List.replicate (f.length - 0) 0)) := by
          have e : cm.take 0 ++ List.replicate (f.length - 0) 0 = List.replicate f.length (0 : Int) := by simp
          show OwnI _ _ _ _
          rw [e]
          unfold OwnI
          rw [List.length_replicate]
          have e2 : iv (List.replicate f.length 0) = List.replicate f.length (.int .i64 0) := by unfold iv; rw [List.map_replicate]
          rw [e2]
          simpa [Value.cells, toList_madeCells_one] using hmo
        have HMB : Hid (Below w3.heap.size w3 wm) := (Below.refl _ w3).grown hmg (Nat.le_refl _) (fun q hq => by simp at hq)
        clear hmo hmg hcm
        go_wp2_with fail
        clear hmk
        obtain ⟨gp, hgp⟩ : ∃ gp, w3.heap.size = gp := ⟨_, rfl⟩
        have HGP := Lib.hid hgp
        rw [hgp] at HM0 ⊢
        clear hgp
        obtain ⟨xa', xc', e, hlx, kx⟩ := HBX_3.out.any
        injection e with e1 _ e3
        subst e1 e3
        have KX := Lib.hid kx
        clear kx
        go_loopw [47] (fun si wr => ∃ (i : Nat), i ≤ f.length ∧ si = .int .i64 (i : Int) ∧ Hid (OwnI gp wr (.slice (some ⟨gp, 0, none⟩) f.length f.length) (cm.take i ++ List.replicate (f.length - i) 0)) ∧ Hid (Below w3.heap.size w3 wr)) (fun i _ => f.length - (intOf i).toNat)
        case atStart => exact ⟨0, Nat.zero_le _, rfl, HM0, HMB⟩
        case round =>
          clear HM0 HMB
          obtain ⟨i, hi, rfl, HY, HB⟩ := hrel
          have k0 : 0 ≤ (i : Int) := by omega
          by_cases hlt : i < f.length
          · have k1 : (i : Int) < (f.length : Int) := by omega
            obtain ⟨fb, fo, rfl, hfb, g1'⟩ := KX.out i hlt
            have g1 := (HB.out.cell (p := ⟨fb, fo + i, none⟩) hfb).trans g1'
            obtain ⟨nv, hnv, hn10, hnt⟩ := HTD.out i hlt
            have hgt := HGT.out i hlt
            obtain ⟨z, hz⟩ : ∃ z, told (vsL zb) g f[i] = z := ⟨_, rfl⟩
            rw [hz] at hnt hgt
            rw [hnv] at g1
            obtain ⟨fa1, _⟩ := (AR3.out.on hgl3 HB.out).at hn10 (x := z) hnt
            have a0 : 0 ≤ (nv : Int) := by omega
            have a1 : (nv : Int) < 10 := by omega
            have HPF := Lib.hid (prt_fill (i := i) HCL.out hlt hgt)
            have hll : (cm.take i ++ List.replicate (f.length - i) 0).length = f.length := by
              have h : cm.length = f.length := HCL.out
              simp; omega
            obtain ⟨og, oc', e, hgB, hgl, ks⟩ := HY.out.at1 (by omega)
            injection e with e1 e2 e3
            injection e1 with e1
            injection e1 with e1
            subst e1
            clear e2 e3
            obtain ⟨y0, yc1⟩ : ∃ y, wr.cell? ⟨gp, i, none⟩ = some y := ⟨_, ks i (by omega)⟩
            have hyo := HY.out.out
            rw [hll] at hyo
            have ff1 : wr.frozen? ⟨gp, i, none⟩ = false := hyo.frozenAt i
            obtain ⟨h1, g2⟩ := HY.out.write hll.symm i z
            rw [HPF.out] at h1
            have HY1 := Lib.hid h1
            have HB1 : Hid (Below w3.heap.size w3 (wr.setCell ⟨gp, i, none⟩ (.int .i64 z))) := HB.out.setCell (p := ⟨gp, i, none⟩) (by rw [HGP.out]; exact Nat.le_refl _) _
            clear hyo h1 g2 ks hll g1' hnv hnt hgt hz
            go_wp2_with fail
            go_roundw
            case rel => exact ⟨i + 1, by omega, by go_num, HY1, HB1⟩
            case measure => simp [intOf]; omega
          · have hie : i = f.length := by omega
            have HYz : Hid (OwnI gp wr (.slice (some ⟨gp, 0, none⟩) f.length f.length) cm) := by
              have e : cm.take i ++ List.replicate (f.length - i) 0 = cm := by
                rw [hie, List.take_of_length_le (by have h : cm.length = f.length := HCL.out; omega), Nat.sub_self]; simp
              have := HY.out
              rw [e] at this
              exact this
            have HBw := Lib.hid (B0_3.out.trans (HB.out.mono B0_3.out.size))
            have HZL : Hid (w.heap.size ≤ gp) := by show _ ≤ _; rw [← HGP.out]; exact B0_3.out.size
            obtain ⟨kt, hkt⟩ : ∃ kt : Int, kt = (i : Int) := ⟨_, rfl⟩
            have hk10 : ¬ kt < (f.length : Int) := by omega
            rw [← hkt]
            clear HY hie hkt hi hlt k0 i
            go_wp2_with fail
            go_ret2
            exact ⟨_, rfl, by rw [HCM.out]; exact OwnI.mono HYz.out HZL.out, HBw.out⟩
      · obtain ⟨rfl, rfl⟩ : yy = [] ∧ c = c2 := by
          rcases h with ⟨h, _⟩ | ⟨_, _, h, e⟩ | ⟨_, ⟨_, m2⟩, _⟩
          · exact absurd ⟨oa, ob, od⟩ h
          · refine ⟨h, ?_⟩
            rcases hc2 with ⟨g, _⟩ | ⟨_, _, _, g⟩ | ⟨_, _, _, g⟩
            · exact absurd ⟨ob, od⟩ g
            · rw [e, g]
            · exact absurd g e2
          · rcases hc2 with ⟨g, _⟩ | ⟨_, _, g, _⟩ | ⟨_, _, _, g⟩
            · exact absurd ⟨ob, od⟩ g
            · exact absurd m2 g
            · exact absurd g e2
        have en : (c != 0) = true := by simpa using e2
        clear h od hc1 oa ob m1 hc2 e2
        have p2 := P2.out.2
        go_enter Tryd.func20, Tryd.ntmps20
        go_wp2_with fail
        clear p2
        generalize (((w.alloc (.cells #[.slice a za.length ca] 28)).alloc (.cells #[.slice b zb.length cb] 28)).alloc (.cells #[.slice d zc.length cd] 28)) = W0 at P0 P1 P2 B0 HBU HBV HBT HBX HBY hS0 TZ ⊢
        refine (implVal_is HBT.out (.inl ⟨rfl, OD.out⟩) TZ.out).mono ?_
        rintro e w1 ⟨rfl, hb1⟩
        have P0_1 := Lib.hid (P0.out.on hb1)
        have P1_1 := Lib.hid (P1.out.on hb1)
        have P2_1 := Lib.hid (P2.out.on hb1)
        have HBU_1 := Lib.hid (HBU.out.on hb1)
        have HBV_1 := Lib.hid (HBV.out.on hb1)
        have HBT_1 := Lib.hid (HBT.out.on hb1)
        have HBX_1 := Lib.hid (HBX.out.on hb1)
        have HBY_1 := Lib.hid (HBY.out.on hb1)
        have TZ_1 := Lib.hid (TZ.out.on hb1)
        have B0_1 := Lib.hid (B0.out.trans (hb1.mono B0.out.size))
        clear hb1 P0 P1 P2 HBU HBV HBT HBX HBY TZ
        have p0 := P0_1.out.2
        have p1 := P1_1.out.2
        go_wp2_with fail
        clear p0 p1
        refine (mapOf_is HBU_1.out HBV_1.out HBX_1.out HC1.out TZ_1.out).mono ?_
        rintro e wq2 ⟨f2, ⟨rfl, hb2⟩, hfz2⟩
        have HFZ2 := Lib.hid hfz2
        obtain ⟨cl2, hcl2⟩ : ∃ cl, arrL f2 = cl := ⟨_, rfl⟩
        have HVF2 : Hid (VarF wq2 f2 cl2) := by rw [← hcl2]; exact varF wq2 f2
        have P0_2 := Lib.hid ((P0_1.out.on hb2).on HVF2.out.bl)
        have P1_2 := Lib.hid ((P1_1.out.on hb2).on HVF2.out.bl)
        have P2_2 := Lib.hid ((P2_1.out.on hb2).on HVF2.out.bl)
        have HBU_2 := Lib.hid ((HBU_1.out.on hb2).on HVF2.out.bl)
        have HBV_2 := Lib.hid ((HBV_1.out.on hb2).on HVF2.out.bl)
        have HBT_2 := Lib.hid ((HBT_1.out.on hb2).on HVF2.out.bl)
        have HBX_2 := Lib.hid ((HBX_1.out.on hb2).on HVF2.out.bl)
        have HBY_2 := Lib.hid ((HBY_1.out.on hb2).on HVF2.out.bl)
        have TZ_2 := Lib.hid ((TZ_1.out.on hb2).on HVF2.out.bl)
        have B0_2 := Lib.hid ((B0_1.out.trans (hb2.mono B0_1.out.size)).trans (HVF2.out.bl.mono (Nat.le_trans B0_1.out.size hb2.size)))
        have AR2 := Lib.hid HVF2.out.ar
        have hsz2 := hb2.size
        unfold vmV
        rw [hcl2]
        clear hcl2 hb2 hfz2 P0_1 P1_1 P2_1 HBU_1 HBV_1 HBT_1 HBX_1 HBY_1 TZ_1 B0_1
        go_wp2_with (refine wpList_store_mid rfl 59 (.tmp 12) (.tmp 27) rfl wq2.heap.size 0 cl2.toArray rfl rfl HVF2.out.th HVF2.out.i1 HVF2.out.one ?_; refine Hid.out ?_)
        refine Lib.hid ?_
        try rw [show cl2.toArray.toList = cl2 from rfl]
        have hgl2 : wq2.heap.size < ((wq2.alloc (.cells #[.int .i64 0, .int .i64 0, .int .i64 0, .int .i64 0, .int .i64 0, .int .i64 0, .int .i64 0, .int .i64 0, .int .i64 0, .int .i64 0] 59)).setCells wq2.heap.size 0 cl2).heap.size := World.block_lt_of_cell? _ ⟨wq2.heap.size, 0, none⟩ (AR2.out 0 (by omega)).1
        generalize ((wq2.alloc (.cells #[.int .i64 0, .int .i64 0, .int .i64 0, .int .i64 0, .int .i64 0, .int .i64 0, .int .i64 0, .int .i64 0, .int .i64 0, .int .i64 0] 59)).setCells wq2.heap.size 0 cl2) = w2 at P0_2 P1_2 P2_2 HBU_2 HBV_2 HBT_2 HBX_2 HBY_2 TZ_2 B0_2  AR2 hgl2 ⊢
        clear HVF2
        have p0 := P1_2.out.2
        have p1 := P2_2.out.2
        go_wp2_with fail
        clear p0 p1
        refine (mapOf_is HBV_2.out HBT_2.out HBY_2.out HC2.out TZ_2.out).mono ?_
        rintro e wq3 ⟨f3, ⟨rfl, hb3⟩, hfz3⟩
        have HFZ3 := Lib.hid hfz3
        obtain ⟨cl3, hcl3⟩ : ∃ cl, arrL f3 = cl := ⟨_, rfl⟩
        have HVF3 : Hid (VarF wq3 f3 cl3) := by rw [← hcl3]; exact varF wq3 f3
        have P0_3 := Lib.hid ((P0_2.out.on hb3).on HVF3.out.bl)
        have P1_3 := Lib.hid ((P1_2.out.on hb3).on HVF3.out.bl)
        have P2_3 := Lib.hid ((P2_2.out.on hb3).on HVF3.out.bl)
        have HBU_3 := Lib.hid ((HBU_2.out.on hb3).on HVF3.out.bl)
        have HBV_3 := Lib.hid ((HBV_2.out.on hb3).on HVF3.out.bl)
        have HBT_3 := Lib.hid ((HBT_2.out.on hb3).on HVF3.out.bl)
        have HBX_3 := Lib.hid ((HBX_2.out.on hb3).on HVF3.out.bl)
        have HBY_3 := Lib.hid ((HBY_2.out.on hb3).on HVF3.out.bl)
        have TZ_3 := Lib.hid ((TZ_2.out.on hb3).on HVF3.out.bl)
        have B0_3 := Lib.hid ((B0_2.out.trans (hb3.mono B0_2.out.size)).trans (HVF3.out.bl.mono (Nat.le_trans B0_2.out.size hb3.size)))
        have AR3 := Lib.hid HVF3.out.ar
        have hsz3 := hb3.size
        unfold vmV
        rw [hcl3]
        clear hcl3 hb3 hfz3 P0_2 P1_2 P2_2 HBU_2 HBV_2 HBT_2 HBX_2 HBY_2 TZ_2 B0_2
        go_wp2_with (refine wpList_store_mid rfl 59 (.tmp 14) (.tmp 37) rfl wq3.heap.size 0 cl3.toArray rfl rfl HVF3.out.th HVF3.out.i1 HVF3.out.one ?_; refine Hid.out ?_)
        refine Lib.hid ?_
        try rw [show cl3.toArray.toList = cl3 from rfl]
        have hgl3 : wq3.heap.size < ((wq3.alloc (.cells #[.int .i64 0, .int .i64 0, .int .i64 0, .int .i64 0, .int .i64 0, .int .i64 0, .int .i64 0, .int .i64 0, .int .i64 0, .int .i64 0] 59)).setCells wq3.heap.size 0 cl3).heap.size := World.block_lt_of_cell? _ ⟨wq3.heap.size, 0, none⟩ (AR3.out 0 (by omega)).1
        generalize ((wq3.alloc (.cells #[.int .i64 0, .int .i64 0, .int .i64 0, .int .i64 0, .int .i64 0, .int .i64 0, .int .i64 0, .int .i64 0, .int .i64 0, .int .i64 0] 59)).setCells wq3.heap.size 0 cl3) = w3 at P0_3 P1_3 P2_3 HBU_3 HBV_3 HBT_3 HBX_3 HBY_3 TZ_3 B0_3  AR3 hgl3 ⊢
        clear HVF3
        go_wp2_with fail
        go_ret2
        exact ⟨_, rfl, World.ownsRow_nil _ _ _ _, B0_3.out⟩
    · obtain ⟨rfl, rfl⟩ : yy = [] ∧ c = c1 := by
        rcases h with ⟨h, h2, e⟩ | ⟨⟨oa, ob, _⟩, _, h, e⟩ | ⟨⟨oa, ob, _⟩, ⟨m1, _⟩, _⟩
        · refine ⟨h2, ?_⟩
          rcases hc1 with ⟨_, g⟩ | ⟨oa, ob, _⟩ | ⟨oa, ob, _⟩
          · rw [e, g]
          · exact absurd ⟨oa, ob, od⟩ h
          · exact absurd ⟨oa, ob, od⟩ h
        · refine ⟨h, ?_⟩
          rcases hc1 with ⟨g, _⟩ | ⟨_, _, _, g⟩ | ⟨_, _, _, g⟩
          · exact absurd ⟨oa, ob⟩ g
          · rw [e, g]
          · exact absurd g e1
        · rcases hc1 with ⟨g, _⟩ | ⟨_, _, g, _⟩ | ⟨_, _, _, g⟩
          · exact absurd ⟨oa, ob⟩ g
          · exact absurd m1 g
          · exact absurd g e1
      have en : (c != 0) = true := by simpa using e1
      clear h od hc1 e1
      have p2 := P2.out.2
      go_enter Tryd.func20, Tryd.ntmps20
      go_wp2_with fail
      clear p2
      generalize (((w.alloc (.cells #[.slice a za.length ca] 28)).alloc (.cells #[.slice b zb.length cb] 28)).alloc (.cells #[.slice d zc.length cd] 28)) = W0 at P0 P1 P2 B0 HBU HBV HBT HBX HBY hS0 TZ ⊢
      refine (implVal_is HBT.out (.inl ⟨rfl, OD.out⟩) TZ.out).mono ?_
      rintro e w1 ⟨rfl, hb1⟩
      have P0_1 := Lib.hid (P0.out.on hb1)
      have P1_1 := Lib.hid (P1.out.on hb1)
      have P2_1 := Lib.hid (P2.out.on hb1)
      have HBU_1 := Lib.hid (HBU.out.on hb1)
      have HBV_1 := Lib.hid (HBV.out.on hb1)
      have HBT_1 := Lib.hid (HBT.out.on hb1)
      have HBX_1 := Lib.hid (HBX.out.on hb1)
      have HBY_1 := Lib.hid (HBY.out.on hb1)
      have TZ_1 := Lib.hid (TZ.out.on hb1)
      have B0_1 := Lib.hid (B0.out.trans (hb1.mono B0.out.size))
      clear hb1 P0 P1 P2 HBU HBV HBT HBX HBY TZ
      have p0 := P0_1.out.2
      have p1 := P1_1.out.2
      go_wp2_with fail
      clear p0 p1
      refine (mapOf_is HBU_1.out HBV_1.out HBX_1.out HC1.out TZ_1.out).mono ?_
      rintro e wq2 ⟨f2, ⟨rfl, hb2⟩, hfz2⟩
      have HFZ2 := Lib.hid hfz2
      obtain ⟨cl2, hcl2⟩ : ∃ cl, arrL f2 = cl := ⟨_, rfl⟩
      have HVF2 : Hid (VarF wq2 f2 cl2) := by rw [← hcl2]; exact varF wq2 f2
      have P0_2 := Lib.hid ((P0_1.out.on hb2).on HVF2.out.bl)
      have P1_2 := Lib.hid ((P1_1.out.on hb2).on HVF2.out.bl)
      have P2_2 := Lib.hid ((P2_1.out.on hb2).on HVF2.out.bl)
      have HBU_2 := Lib.hid ((HBU_1.out.on hb2).on HVF2.out.bl)
      have HBV_2 := Lib.hid ((HBV_1.out.on hb2).on HVF2.out.bl)
      have HBT_2 := Lib.hid ((HBT_1.out.on hb2).on HVF2.out.bl)
      have HBX_2 := Lib.hid ((HBX_1.out.on hb2).on HVF2.out.bl)
      have HBY_2 := Lib.hid ((HBY_1.out.on hb2).on HVF2.out.bl)
      have TZ_2 := Lib.hid ((TZ_1.out.on hb2).on HVF2.out.bl)
      have B0_2 := Lib.hid ((B0_1.out.trans (hb2.mono B0_1.out.size)).trans (HVF2.out.bl.mono (Nat.le_trans B0_1.out.size hb2.size)))
      have AR2 := Lib.hid HVF2.out.ar
      have hsz2 := hb2.size
      unfold vmV
      rw [hcl2]
      clear hcl2 hb2 hfz2 P0_1 P1_1 P2_1 HBU_1 HBV_1 HBT_1 HBX_1 HBY_1 TZ_1 B0_1
      go_wp2_with (refine wpList_store_mid rfl 59 (.tmp 12) (.tmp 27) rfl wq2.heap.size 0 cl2.toArray rfl rfl HVF2.out.th HVF2.out.i1 HVF2.out.one ?_; refine Hid.out ?_)
      refine Lib.hid ?_
      try rw [show cl2.toArray.toList = cl2 from rfl]
      have hgl2 : wq2.heap.size < ((wq2.alloc (.cells #[.int .i64 0, .int .i64 0, .int .i64 0, .int .i64 0, .int .i64 0, .int .i64 0, .int .i64 0, .int .i64 0, .int .i64 0, .int .i64 0] 59)).setCells wq2.heap.size 0 cl2).heap.size := World.block_lt_of_cell? _ ⟨wq2.heap.size, 0, none⟩ (AR2.out 0 (by omega)).1
      generalize ((wq2.alloc (.cells #[.int .i64 0, .int .i64 0, .int .i64 0, .int .i64 0, .int .i64 0, .int .i64 0, .int .i64 0, .int .i64 0, .int .i64 0, .int .i64 0] 59)).setCells wq2.heap.size 0 cl2) = w2 at P0_2 P1_2 P2_2 HBU_2 HBV_2 HBT_2 HBX_2 HBY_2 TZ_2 B0_2  AR2 hgl2 ⊢
      clear HVF2
      go_wp2_with fail
      go_ret2
      exact ⟨_, rfl, World.ownsRow_nil _ _ _ _, B0_2.out⟩
  · obtain ⟨rfl, rfl⟩ : yy = [] ∧ c = 1 := by
      rcases h with ⟨_, h⟩ | ⟨h, _⟩ | ⟨h, _⟩
      · exact h
      · exact absurd h.2.2 od
      · exact absurd h.2.2 od
    have OD := Lib.hid od
    clear h od
    have p2 := P2.out.2
    go_enter Tryd.func20, Tryd.ntmps20
    go_wp2_with fail
    clear p2
    generalize (((w.alloc (.cells #[.slice a za.length ca] 28)).alloc (.cells #[.slice b zb.length cb] 28)).alloc (.cells #[.slice d zc.length cd] 28)) = W0 at P0 P1 P2 B0 HBU HBV HBT HBX HBY hS0 TZ ⊢
    refine (implVal_is HBT.out (.inr ⟨rfl, OD.out⟩) TZ.out).mono ?_
    rintro e w1 ⟨rfl, hb1⟩
    have P0_1 := Lib.hid (P0.out.on hb1)
    have P1_1 := Lib.hid (P1.out.on hb1)
    have P2_1 := Lib.hid (P2.out.on hb1)
    have HBU_1 := Lib.hid (HBU.out.on hb1)
    have HBV_1 := Lib.hid (HBV.out.on hb1)
    have HBT_1 := Lib.hid (HBT.out.on hb1)
    have HBX_1 := Lib.hid (HBX.out.on hb1)
    have HBY_1 := Lib.hid (HBY.out.on hb1)
    have TZ_1 := Lib.hid (TZ.out.on hb1)
    have B0_1 := Lib.hid (B0.out.trans (hb1.mono B0.out.size))
    clear hb1 P0 P1 P2 HBU HBV HBT HBX HBY TZ
    go_wp2_with fail
    go_ret2
    exact ⟨_, rfl, World.ownsRow_nil _ _ _ _, B0_1.out⟩
end Go.Proofs.YtibdcejglkhcfaaDoor
