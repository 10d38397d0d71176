/-
  ComposeMaps of the model and of the program.
-/
import Derived.Test.YtibdcejglkhcfaaDoorMpI
import Derived.Test.YtibdcejglkhcfaaDoorCyN
namespace Go.Proofs.YtibdcejglkhcfaaDoor
open Go.RowKit Go.Maps
set_option linter.unusedVariables false
set_option linter.unusedSimpArgs false

def cmpM (zb : List (List Int)) (f g : List Int) : List Int := f.map (told (vsL zb) g)
def CmIs (za zb zc : List (List Int)) (f g yy : List Int) (c : Int) : Prop :=
  (¬ (OkC za ∧ OkC zb ∧ OkC zc) ∧ yy = [] ∧ c = 1) ∨ ((OkC za ∧ OkC zb ∧ OkC zc) ∧ ¬ (MapP za zb f ∧ MapP zb zc g) ∧ yy = [] ∧ c = 7) ∨ ((OkC za ∧ OkC zb ∧ OkC zc) ∧ (MapP za zb f ∧ MapP zb zc g) ∧ yy = cmpM zb f g ∧ c = 0)
theorem cm_has (za zb zc : List (List Int)) (f g : List Int) : ∃ yy c, CmIs za zb zc f g yy c := by
  by_cases h : OkC za ∧ OkC zb ∧ OkC zc
  · by_cases m : MapP za zb f ∧ MapP zb zc g
    · exact ⟨_, _, .inr (.inr ⟨h, m, rfl, rfl⟩)⟩
    · exact ⟨_, _, .inr (.inl ⟨h, m, rfl, rfl⟩)⟩
  · exact ⟨_, _, .inl ⟨h, rfl, rfl⟩⟩
theorem MapP.le {za zb : List (List Int)} {f : List Int} (h : MapP za zb f) (oa : OkC za) : f.length ≤ 48 := by rw [h.2.1]; exact vsL_le oa
theorem CmIs.fit {za zb zc : List (List Int)} {f g yy : List Int} {c : Int} (h : CmIs za zb zc f g yy c) : yy.length ≤ 1048576 := by
  rcases h with ⟨_, rfl, _⟩ | ⟨_, _, rfl, _⟩ | ⟨o, m, rfl, _⟩
  · simp
  · simp
  · unfold cmpM; rw [List.length_map]; have := m.1.le o.1; omega
/-- What a map tells is a vertex of the other complex. -/
theorem MapP.ver {za zb : List (List Int)} {f : List Int} (h : MapP za zb f) (oa : OkC za) (ob : OkC zb) : ∀ x ∈ f, x ∈ vsL zb := fun x hx => by
  obtain ⟨k, hk, rfl⟩ := List.getElem_of_mem hx
  have hk' : k < (vsL za).length := by rw [← h.2.1]; exact hk
  have h1 := h.img oa (ver_sim oa (List.getElem_mem hk'))
  have e : imgL (told (vsL za) f) [(vsL za)[k]] = [f[k]] := by
    simp only [imgL, List.foldl_cons, List.foldl_nil, insL]
    rw [told_at (vsL_nodup oa) h.2.1 hk']
  rw [e] at h1
  exact sim_ver ob h1 (by simp)
theorem cmp_take {zb : List (List Int)} {f g : List Int} {k : Nat} (hk : k < f.length) : (cmpM zb f g).take (k + 1) = (cmpM zb f g).take k ++ [told (vsL zb) g f[k]] := by
  have h : k < (cmpM zb f g).length := by unfold cmpM; rw [List.length_map]; exact hk
  rw [List.take_succ_eq_append_getElem h]
  congr 2
  simp [cmpM]
set_option maxRecDepth 100000 in
set_option maxHeartbeats 6400000 in
theorem specCM_is {u v t x y : Value} {za zb zc : List (List Int)} {f g yy : List Int} {c : Int} {w : World} (hu : RowsQ w u za) (hv : RowsQ w v zb) (ht : RowsQ w t zc) (hx : IntsAt w x f) (hy : IntsAt w y g) (h : CmIs za zb zc f g yy c) :
    Calls Tryd.prog 19 #[.agg #[u], .agg #[v], .agg #[t], x, y] w fun e w' => RetSI5 yy c w e w' := by
  have HU := Lib.hid hu
  have HV := Lib.hid hv
  have HT := Lib.hid ht
  have HX := Lib.hid hx
  have HY := Lib.hid hy
  obtain ⟨a, ca, rfl⟩ := hu.rows.slice
  obtain ⟨b, cb, rfl⟩ := hv.rows.slice
  obtain ⟨d, cd, rfl⟩ := ht.rows.slice
  obtain ⟨xa, xc, rfl⟩ := hx.slice
  obtain ⟨ya, yc, rfl⟩ := hy.slice
  have P0 : Hid (PtC (((w.alloc (.cells #[.slice a za.length ca] 28)).alloc (.cells #[.slice b zb.length cb] 28)).alloc (.cells #[.slice d zc.length cd] 28)) w.heap.size (.slice a za.length ca)) := (PtC.new1 w _ 28 (.cells #[.slice b zb.length cb] 28)).on ((Below.refl _ _).alloc (Nat.le_refl _) _)
  have P1 : Hid (PtC (((w.alloc (.cells #[.slice a za.length ca] 28)).alloc (.cells #[.slice b zb.length cb] 28)).alloc (.cells #[.slice d zc.length cd] 28)) (w.heap.size + 1) (.slice b zb.length cb)) := by
    have h := PtC.new1 (w.alloc (.cells #[.slice a za.length ca] 28)) (.slice b zb.length cb) 28 (.cells #[.slice d zc.length cd] 28)
    rw [World.size_alloc] at h
    exact h
  have P2 : Hid (PtC (((w.alloc (.cells #[.slice a za.length ca] 28)).alloc (.cells #[.slice b zb.length cb] 28)).alloc (.cells #[.slice d zc.length cd] 28)) (w.heap.size + 2) (.slice d zc.length cd)) := by
    have h := PtC.new ((w.alloc (.cells #[.slice a za.length ca] 28)).alloc (.cells #[.slice b zb.length cb] 28)) (.slice d zc.length cd) 28
    rw [World.size_alloc, World.size_alloc] at h
    exact h
  have B0 : Hid (Below w.heap.size w (((w.alloc (.cells #[.slice a za.length ca] 28)).alloc (.cells #[.slice b zb.length cb] 28)).alloc (.cells #[.slice d zc.length cd] 28))) := al1 (al1 (al1 (Below.refl _ _) _) _) _
  have hS0 : w.heap.size + 3 ≤ (((w.alloc (.cells #[.slice a za.length ca] 28)).alloc (.cells #[.slice b zb.length cb] 28)).alloc (.cells #[.slice d zc.length cd] 28)).heap.size := by simp
  have HBU := Lib.hid (HU.out.on B0.out)
  have HBV := Lib.hid (HV.out.on B0.out)
  have HBT := Lib.hid (HT.out.on B0.out)
  have HBX := Lib.hid (HX.out.on B0.out)
  have HBY := Lib.hid (HY.out.on B0.out)
  clear hu hv ht hx hy
  by_cases oa : OkC za
  · by_cases ob : OkC zb
    · by_cases od : OkC zc
      · have h' : (¬ (MapP za zb f ∧ MapP zb zc g) ∧ yy = [] ∧ c = 7) ∨ ((MapP za zb f ∧ MapP zb zc g) ∧ yy = cmpM zb f g ∧ c = 0) := by
          rcases h with ⟨h, _⟩ | ⟨_, h⟩ | ⟨_, h⟩
          · exact absurd ⟨oa, ob, od⟩ h
          · exact .inl h
          · exact .inr h
        have OA := Lib.hid oa
        have OB := Lib.hid ob
        have OD := Lib.hid od
        have HH := Lib.hid h'
        clear h h' oa ob od
        go_enter Tryd.func19, Tryd.ntmps19
        go_wp2_with (go_at_call 37; refine Hid.out ?_)
        refine Lib.hid ?_
        generalize (((w.alloc (.cells #[.slice a za.length ca] 28)).alloc (.cells #[.slice b zb.length cb] 28)).alloc (.cells #[.slice d zc.length cd] 28)) = W0 at P0 P1 P2 B0 HBU HBV HBT HBX HBY hS0 ⊢
        refine (l05Ok_is P0.out HBU.out (.inl ⟨rfl, OA.out⟩)).mono ?_
        rintro e w1 ⟨rfl, hb1⟩
        have P0_1 := Lib.hid (P0.out.on hb1)
        have P1_1 := Lib.hid (P1.out.on hb1)
        have P2_1 := Lib.hid (P2.out.on hb1)
        have HBU_1 := Lib.hid (HBU.out.on hb1)
        have HBV_1 := Lib.hid (HBV.out.on hb1)
        have HBT_1 := Lib.hid (HBT.out.on hb1)
        have HBX_1 := Lib.hid (HBX.out.on hb1)
        have HBY_1 := Lib.hid (HBY.out.on hb1)
        have B0_1 := Lib.hid (B0.out.trans (hb1.mono B0.out.size))
        clear hb1 P0 P1 P2 HBU HBV HBT HBX HBY
        go_wp2_with fail
        refine (l05Ok_is P1_1.out HBV_1.out (.inl ⟨rfl, OB.out⟩)).mono ?_
        rintro e w2 ⟨rfl, hb2⟩
        have P0_2 := Lib.hid (P0_1.out.on hb2)
        have P1_2 := Lib.hid (P1_1.out.on hb2)
        have P2_2 := Lib.hid (P2_1.out.on hb2)
        have HBU_2 := Lib.hid (HBU_1.out.on hb2)
        have HBV_2 := Lib.hid (HBV_1.out.on hb2)
        have HBT_2 := Lib.hid (HBT_1.out.on hb2)
        have HBX_2 := Lib.hid (HBX_1.out.on hb2)
        have HBY_2 := Lib.hid (HBY_1.out.on hb2)
        have B0_2 := Lib.hid (B0_1.out.trans (hb2.mono B0_1.out.size))
        clear hb2 P0_1 P1_1 P2_1 HBU_1 HBV_1 HBT_1 HBX_1 HBY_1
        go_wp2_with fail
        refine (l05Ok_is P2_2.out HBT_2.out (.inl ⟨rfl, OD.out⟩)).mono ?_
        rintro e w3 ⟨rfl, hb3⟩
        have P0_3 := Lib.hid (P0_2.out.on hb3)
        have P1_3 := Lib.hid (P1_2.out.on hb3)
        have P2_3 := Lib.hid (P2_2.out.on hb3)
        have HBU_3 := Lib.hid (HBU_2.out.on hb3)
        have HBV_3 := Lib.hid (HBV_2.out.on hb3)
        have HBT_3 := Lib.hid (HBT_2.out.on hb3)
        have HBX_3 := Lib.hid (HBX_2.out.on hb3)
        have HBY_3 := Lib.hid (HBY_2.out.on hb3)
        have B0_3 := Lib.hid (B0_2.out.trans (hb3.mono B0_2.out.size))
        clear hb3 P0_2 P1_2 P2_2 HBU_2 HBV_2 HBT_2 HBX_2 HBY_2
        obtain ⟨T1, hT1⟩ := mapB_has za zb f
        have HT1 := Lib.hid hT1
        have m1 := l08Map_is P0_3.out HBU_3.out.rows P1_3.out HBV_3.out.rows HBX_3.out OA.out HT1.out
        by_cases hm1 : MapP za zb f
        · obtain rfl : T1 = true := by
            rcases hT1 with ⟨h, _⟩ | ⟨_, h⟩
            · exact h
            · exact absurd hm1 h
          obtain ⟨T2, hT2⟩ := mapB_has zb zc g
          have HT2 := Lib.hid hT2
          have HM1 := Lib.hid hm1
          clear hT1 hm1
          go_wp2_with fail
          refine (m1).mono ?_
          rintro e w4 ⟨rfl, hb4⟩
          have P0_4 := Lib.hid (P0_3.out.on hb4)
          have P1_4 := Lib.hid (P1_3.out.on hb4)
          have P2_4 := Lib.hid (P2_3.out.on hb4)
          have HBU_4 := Lib.hid (HBU_3.out.on hb4)
          have HBV_4 := Lib.hid (HBV_3.out.on hb4)
          have HBT_4 := Lib.hid (HBT_3.out.on hb4)
          have HBX_4 := Lib.hid (HBX_3.out.on hb4)
          have HBY_4 := Lib.hid (HBY_3.out.on hb4)
          have B0_4 := Lib.hid (B0_3.out.trans (hb4.mono B0_3.out.size))
          clear hb4 P0_3 P1_3 P2_3 HBU_3 HBV_3 HBT_3 HBX_3 HBY_3
          clear m1
          by_cases hm2 : MapP zb zc g
          · obtain rfl : T2 = true := by
              rcases hT2 with ⟨h, _⟩ | ⟨_, h⟩
              · exact h
              · exact absurd hm2 h
            obtain ⟨rfl, rfl⟩ : yy = cmpM zb f g ∧ c = 0 := by
              rcases HH.out with ⟨h, _⟩ | ⟨_, h⟩
              · exact absurd ⟨HM1.out, hm2⟩ h
              · exact h
            have HM2 := Lib.hid hm2
            clear hT2 hm2 HH
            go_wp2_with fail
            refine (l08Map_is P1_4.out HBV_4.out.rows P2_4.out HBT_4.out.rows HBY_4.out OB.out HT2.out).mono ?_
            rintro e w5 ⟨rfl, hb5⟩
            have P0_5 := Lib.hid (P0_4.out.on hb5)
            have P1_5 := Lib.hid (P1_4.out.on hb5)
            have P2_5 := Lib.hid (P2_4.out.on hb5)
            have HBU_5 := Lib.hid (HBU_4.out.on hb5)
            have HBV_5 := Lib.hid (HBV_4.out.on hb5)
            have HBT_5 := Lib.hid (HBT_4.out.on hb5)
            have HBX_5 := Lib.hid (HBX_4.out.on hb5)
            have HBY_5 := Lib.hid (HBY_4.out.on hb5)
            have B0_5 := Lib.hid (B0_4.out.trans (hb5.mono B0_4.out.size))
            clear hb5 P0_4 P1_4 P2_4 HBU_4 HBV_4 HBT_4 HBX_4 HBY_4
            go_wp2_with fail
            refine (l08Ver_any P1_5.out HBV_5.out.rows OB.out).mono ?_
            rintro e w6 ⟨v6, rfl, ho6, hb6⟩
            have HB6 := Lib.hid (B0_5.out.trans (hb6.mono B0_5.out.size))
            have HX6 := Lib.hid (HBX_5.out.on hb6)
            have HY6 := Lib.hid (HBY_5.out.on hb6)
            have hv48 := vsL_le OB.out
            have hf48 := HM1.out.le OA.out
            have HV6 := Lib.hid (ho6.at (by omega))
            obtain ⟨va, vc, rfl⟩ := ho6.slice
            have hglen : g.length ≤ (vsL zb).length := by rw [HM2.out.2.1]; exact Nat.le_refl _
            have HGL : Hid (g.length ≤ (vsL zb).length) := hglen
            have HCT : Hid (∀ k (hk : k < f.length), (cmpM zb f g).take (k + 1) = (cmpM zb f g).take k ++ [told (vsL zb) g f[k]]) := fun k hk => cmp_take hk
            have HCL : Hid ((cmpM zb f g).length = f.length) := by show _ = _; unfold cmpM; rw [List.length_map]
            obtain ⟨fx, fo, ff, hfe⟩ : ∃ (fx : Option Addr) (fo ff : Nat), True := ⟨none, 0, 0, trivial⟩
            obtain ⟨xa', xc', e, hlx, kx⟩ := HX6.out.any
            injection e with e1 _ e3
            subst e1 e3
            have KX := Lib.hid kx
            obtain ⟨sv, hsv⟩ : ∃ sv, vsL zb = sv := ⟨_, rfl⟩
            obtain ⟨i0, hi0, iz0, iz1, iz2⟩ := info_parts info2
            have hm : OwnI w6.heap.size (w6.alloc (.cells #[] 2)) (.slice (some ⟨w6.heap.size, 0, none⟩) 0 0) [] := World.ownsRow_made (base := w6.heap.size) (e := 2) (size := 1) w6 #[] 0 (Nat.le_refl _) (Nat.zero_le _) rfl
            have HM := Lib.hid hm
            have AL : Hid (Below w6.heap.size w6 (w6.alloc (.cells #[] 2))) := (Below.refl _ w6).alloc (Nat.le_refl _) _
            rw [hsv] at HV6 HGL HCT ⊢
            obtain ⟨cm, hcm⟩ : ∃ cm, cmpM zb f g = cm := ⟨_, rfl⟩
            have HCM := Lib.hid hcm
            rw [hcm] at HCT HCL
            clear ho6 hb6 kx hm hsv hglen hv48 hcm
            go_wp2_with fail
            go_loopw [13, 14] (fun sq si wr => ∃ (k : Nat), k ≤ f.length ∧ si = .int .i64 (k : Int) ∧ Hid (OwnI w6.heap.size wr sq (cm.take k)) ∧ Hid (Below w6.heap.size w6 wr)) (fun _ si _ => f.length - (intOf si).toNat)
            case atStart => exact ⟨0, Nat.zero_le _, rfl, by rw [List.take_zero]; exact HM, AL⟩
            case round =>
              clear HM AL
              obtain ⟨k, hk, rfl, HO, HB⟩ := hrel
              have hs := HB.out.size
              have k0 : 0 ≤ (k : Int) := by omega
              by_cases hlt : k < f.length
              · have k1 : (k : Int) < (f.length : Int) := by omega
                obtain ⟨fb, fo, rfl, hfb, g1'⟩ := KX.out k hlt
                have g1 := (HB.out.cell (p := ⟨fb, fo + k, none⟩) hfb).trans g1'
                have HN := Lib.hid (HCT.out k hlt)
                obtain ⟨q, hq⟩ : ∃ q, told sv g f[k] = q := ⟨_, rfl⟩
                have HQ := Lib.hid hq
                rw [hq] at HN
                have hcl : (cm.take k).length = k := by rw [List.length_take]; have := HCL.out; omega
                obtain ⟨oa, oc, rfl⟩ := HO.out.slice
                have hrow : wr.ownsRow w6.heap.size 2 1 (.slice oa k oc) k (iv (cm.take k)) := by
                  have h := HO.out.out
                  rw [hcl] at h; exact h
                have HROW := Lib.hid hrow
                have HOO := HO
                rw [hcl] at HO ⊢
                generalize f[k] = fk at g1 HQ
                clear g1' hq hrow
                go_wp2_with fail
                refine (l08Told_is (HV6.out.on HB.out) (HY6.out.on HB.out) HGL.out HQ.out).mono ?_
                rintro e w7 ⟨rfl, rfl⟩
                go_wp2_with (at_builtin; refine wpList_append_own _ rfl _ _ 25 rfl w6.heap.size 2 i0 (.int .i64 0) 1 8 Tryd.underlying25 hi0 iz0 iz1 iz2 rfl (by decide) _ _ _ rfl (HROW.out.alloc (.cells #[.int .i64 q] 2)) ⟨wr.heap.size, 0, none⟩ 1 1 [.int .i64 q] rfl rfl (row_oneS _ _ _ _ (by first | rfl | simp)) (by first | rfl | (intro u hu; simp at hu; subst hu; rfl)) (by unfold maxLen; omega) (by omega) (by first | omega | (simp; omega)) ?_; intro v2 w10 hown3 hgrow _)
                have HO2 : Hid (OwnI w6.heap.size w10 v2 (cm.take (k + 1))) := by
                  show OwnI _ _ _ _
                  rw [HN.out]; exact pushU (by rw [hcl]; exact hown3)
                have HB2 := Lib.hid (below_pushU HB.out (Nat.le_refl _) (by first | omega | (simp; omega)) HO.out hgrow)
                go_roundw
                case rel => exact ⟨k + 1, by omega, by go_num, HO2, HB2⟩
                case measure => simp [intOf]; omega
              · obtain rfl : k = f.length := by omega
                rw [List.take_of_length_le (by have := HCL.out; omega)] at HO
                go_wp2_with fail
                go_ret2
                exact ⟨_, rfl, by rw [HCM.out]; exact OwnI.mono HO.out HB6.out.size, HB6.out.trans (HB.out.mono HB6.out.size)⟩
          · obtain rfl : T2 = false := by
              rcases hT2 with ⟨_, h⟩ | ⟨h, _⟩
              · exact absurd h hm2
              · exact h
            obtain ⟨rfl, rfl⟩ : yy = [] ∧ c = 7 := by
              rcases HH.out with ⟨_, h⟩ | ⟨h, _⟩
              · exact h
              · exact absurd h.2 hm2
            clear hT2 hm2 HH
            go_wp2_with fail
            refine (l08Map_is P1_4.out HBV_4.out.rows P2_4.out HBT_4.out.rows HBY_4.out OB.out HT2.out).mono ?_
            rintro e w5 ⟨rfl, hb5⟩
            have P0_5 := Lib.hid (P0_4.out.on hb5)
            have P1_5 := Lib.hid (P1_4.out.on hb5)
            have P2_5 := Lib.hid (P2_4.out.on hb5)
            have HBU_5 := Lib.hid (HBU_4.out.on hb5)
            have HBV_5 := Lib.hid (HBV_4.out.on hb5)
            have HBT_5 := Lib.hid (HBT_4.out.on hb5)
            have HBX_5 := Lib.hid (HBX_4.out.on hb5)
            have HBY_5 := Lib.hid (HBY_4.out.on hb5)
            have B0_5 := Lib.hid (B0_4.out.trans (hb5.mono B0_4.out.size))
            clear hb5 P0_4 P1_4 P2_4 HBU_4 HBV_4 HBT_4 HBX_4 HBY_4
            go_wp2_with fail
            go_ret2
            exact ⟨_, rfl, World.ownsRow_nil _ _ _ _, B0_5.out⟩
        · obtain rfl : T1 = false := by
            rcases hT1 with ⟨_, h⟩ | ⟨h, _⟩
            · exact absurd h hm1
            · exact h
          obtain ⟨rfl, rfl⟩ : yy = [] ∧ c = 7 := by
            rcases HH.out with ⟨_, h⟩ | ⟨h, _⟩
            · exact h
            · exact absurd h.1 hm1
          clear hT1 hm1 HH
          go_wp2_with fail
          refine (m1).mono ?_
          rintro e w4 ⟨rfl, hb4⟩
          have P0_4 := Lib.hid (P0_3.out.on hb4)
          have P1_4 := Lib.hid (P1_3.out.on hb4)
          have P2_4 := Lib.hid (P2_3.out.on hb4)
          have HBU_4 := Lib.hid (HBU_3.out.on hb4)
          have HBV_4 := Lib.hid (HBV_3.out.on hb4)
          have HBT_4 := Lib.hid (HBT_3.out.on hb4)
          have HBX_4 := Lib.hid (HBX_3.out.on hb4)
          have HBY_4 := Lib.hid (HBY_3.out.on hb4)
          have B0_4 := Lib.hid (B0_3.out.trans (hb4.mono B0_3.out.size))
          clear hb4 P0_3 P1_3 P2_3 HBU_3 HBV_3 HBT_3 HBX_3 HBY_3
          clear m1
          go_wp2_with fail
          go_ret2
          exact ⟨_, rfl, World.ownsRow_nil _ _ _ _, B0_4.out⟩
      · have OA := Lib.hid oa
        have OB := Lib.hid ob
        have OD := Lib.hid od
        obtain ⟨rfl, rfl⟩ : yy = [] ∧ c = 1 := by
          rcases h with ⟨_, h⟩ | ⟨h, _⟩ | ⟨h, _⟩
          · exact h
          · exact absurd h.2.2 od
          · exact absurd h.2.2 od
        clear h
        clear oa ob od
        go_enter Tryd.func19, Tryd.ntmps19
        go_wp2_with (go_at_call 37; refine Hid.out ?_)
        refine Lib.hid ?_
        generalize (((w.alloc (.cells #[.slice a za.length ca] 28)).alloc (.cells #[.slice b zb.length cb] 28)).alloc (.cells #[.slice d zc.length cd] 28)) = W0 at P0 P1 P2 B0 HBU HBV HBT HBX HBY hS0 ⊢
        refine (l05Ok_is P0.out HBU.out (.inl ⟨rfl, OA.out⟩)).mono ?_
        rintro e w1 ⟨rfl, hb1⟩
        have P0_1 := Lib.hid (P0.out.on hb1)
        have P1_1 := Lib.hid (P1.out.on hb1)
        have P2_1 := Lib.hid (P2.out.on hb1)
        have HBU_1 := Lib.hid (HBU.out.on hb1)
        have HBV_1 := Lib.hid (HBV.out.on hb1)
        have HBT_1 := Lib.hid (HBT.out.on hb1)
        have HBX_1 := Lib.hid (HBX.out.on hb1)
        have HBY_1 := Lib.hid (HBY.out.on hb1)
        have B0_1 := Lib.hid (B0.out.trans (hb1.mono B0.out.size))
        clear hb1 P0 P1 P2 HBU HBV HBT HBX HBY
        go_wp2_with fail
        refine (l05Ok_is P1_1.out HBV_1.out (.inl ⟨rfl, OB.out⟩)).mono ?_
        rintro e w2 ⟨rfl, hb2⟩
        have P0_2 := Lib.hid (P0_1.out.on hb2)
        have P1_2 := Lib.hid (P1_1.out.on hb2)
        have P2_2 := Lib.hid (P2_1.out.on hb2)
        have HBU_2 := Lib.hid (HBU_1.out.on hb2)
        have HBV_2 := Lib.hid (HBV_1.out.on hb2)
        have HBT_2 := Lib.hid (HBT_1.out.on hb2)
        have HBX_2 := Lib.hid (HBX_1.out.on hb2)
        have HBY_2 := Lib.hid (HBY_1.out.on hb2)
        have B0_2 := Lib.hid (B0_1.out.trans (hb2.mono B0_1.out.size))
        clear hb2 P0_1 P1_1 P2_1 HBU_1 HBV_1 HBT_1 HBX_1 HBY_1
        go_wp2_with fail
        refine (l05Ok_is P2_2.out HBT_2.out (.inr ⟨rfl, OD.out⟩)).mono ?_
        rintro e w3 ⟨rfl, hb3⟩
        have P0_3 := Lib.hid (P0_2.out.on hb3)
        have P1_3 := Lib.hid (P1_2.out.on hb3)
        have P2_3 := Lib.hid (P2_2.out.on hb3)
        have HBU_3 := Lib.hid (HBU_2.out.on hb3)
        have HBV_3 := Lib.hid (HBV_2.out.on hb3)
        have HBT_3 := Lib.hid (HBT_2.out.on hb3)
        have HBX_3 := Lib.hid (HBX_2.out.on hb3)
        have HBY_3 := Lib.hid (HBY_2.out.on hb3)
        have B0_3 := Lib.hid (B0_2.out.trans (hb3.mono B0_2.out.size))
        clear hb3 P0_2 P1_2 P2_2 HBU_2 HBV_2 HBT_2 HBX_2 HBY_2
        go_wp2_with fail
        go_ret2
        exact ⟨_, rfl, World.ownsRow_nil _ _ _ _, B0_3.out⟩
    · have OA := Lib.hid oa
      have OB := Lib.hid ob
      obtain ⟨rfl, rfl⟩ : yy = [] ∧ c = 1 := by
        rcases h with ⟨_, h⟩ | ⟨h, _⟩ | ⟨h, _⟩
        · exact h
        · exact absurd h.2.1 ob
        · exact absurd h.2.1 ob
      clear h
      clear oa ob
      go_enter Tryd.func19, Tryd.ntmps19
      go_wp2_with (go_at_call 37; refine Hid.out ?_)
      refine Lib.hid ?_
      generalize (((w.alloc (.cells #[.slice a za.length ca] 28)).alloc (.cells #[.slice b zb.length cb] 28)).alloc (.cells #[.slice d zc.length cd] 28)) = W0 at P0 P1 P2 B0 HBU HBV HBT HBX HBY hS0 ⊢
      refine (l05Ok_is P0.out HBU.out (.inl ⟨rfl, OA.out⟩)).mono ?_
      rintro e w1 ⟨rfl, hb1⟩
      have P0_1 := Lib.hid (P0.out.on hb1)
      have P1_1 := Lib.hid (P1.out.on hb1)
      have P2_1 := Lib.hid (P2.out.on hb1)
      have HBU_1 := Lib.hid (HBU.out.on hb1)
      have HBV_1 := Lib.hid (HBV.out.on hb1)
      have HBT_1 := Lib.hid (HBT.out.on hb1)
      have HBX_1 := Lib.hid (HBX.out.on hb1)
      have HBY_1 := Lib.hid (HBY.out.on hb1)
      have B0_1 := Lib.hid (B0.out.trans (hb1.mono B0.out.size))
      clear hb1 P0 P1 P2 HBU HBV HBT HBX HBY
      go_wp2_with fail
      refine (l05Ok_is P1_1.out HBV_1.out (.inr ⟨rfl, OB.out⟩)).mono ?_
      rintro e w2 ⟨rfl, hb2⟩
      have P0_2 := Lib.hid (P0_1.out.on hb2)
      have P1_2 := Lib.hid (P1_1.out.on hb2)
      have P2_2 := Lib.hid (P2_1.out.on hb2)
      have HBU_2 := Lib.hid (HBU_1.out.on hb2)
      have HBV_2 := Lib.hid (HBV_1.out.on hb2)
      have HBT_2 := Lib.hid (HBT_1.out.on hb2)
      have HBX_2 := Lib.hid (HBX_1.out.on hb2)
      have HBY_2 := Lib.hid (HBY_1.out.on hb2)
      have B0_2 := Lib.hid (B0_1.out.trans (hb2.mono B0_1.out.size))
      clear hb2 P0_1 P1_1 P2_1 HBU_1 HBV_1 HBT_1 HBX_1 HBY_1
      go_wp2_with fail
      go_ret2
      exact ⟨_, rfl, World.ownsRow_nil _ _ _ _, B0_2.out⟩
  · have OA := Lib.hid oa
    obtain ⟨rfl, rfl⟩ : yy = [] ∧ c = 1 := by
      rcases h with ⟨_, h⟩ | ⟨h, _⟩ | ⟨h, _⟩
      · exact h
      · exact absurd h.1 oa
      · exact absurd h.1 oa
    clear h
    clear oa
    go_enter Tryd.func19, Tryd.ntmps19
    go_wp2_with (go_at_call 37; refine Hid.out ?_)
    refine Lib.hid ?_
    generalize (((w.alloc (.cells #[.slice a za.length ca] 28)).alloc (.cells #[.slice b zb.length cb] 28)).alloc (.cells #[.slice d zc.length cd] 28)) = W0 at P0 P1 P2 B0 HBU HBV HBT HBX HBY hS0 ⊢
    refine (l05Ok_is P0.out HBU.out (.inr ⟨rfl, OA.out⟩)).mono ?_
    rintro e w1 ⟨rfl, hb1⟩
    have P0_1 := Lib.hid (P0.out.on hb1)
    have P1_1 := Lib.hid (P1.out.on hb1)
    have P2_1 := Lib.hid (P2.out.on hb1)
    have HBU_1 := Lib.hid (HBU.out.on hb1)
    have HBV_1 := Lib.hid (HBV.out.on hb1)
    have HBT_1 := Lib.hid (HBT.out.on hb1)
    have HBX_1 := Lib.hid (HBX.out.on hb1)
    have HBY_1 := Lib.hid (HBY.out.on hb1)
    have B0_1 := Lib.hid (B0.out.trans (hb1.mono B0.out.size))
    clear hb1 P0 P1 P2 HBU HBV HBT HBX HBY
    go_wp2_with fail
    go_ret2
    exact ⟨_, rfl, World.ownsRow_nil _ _ _ _, B0_1.out⟩
end Go.Proofs.YtibdcejglkhcfaaDoor
