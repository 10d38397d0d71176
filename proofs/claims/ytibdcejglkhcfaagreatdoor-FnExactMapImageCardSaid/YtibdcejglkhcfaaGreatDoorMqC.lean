/-
  MapImage, plainly, and of the model.
-/
import Derived.Test.YtibdcejglkhcfaaGreatDoorPV
import Derived.Test.YtibdcejglkhcfaaGreatDoorPU
namespace Go.Proofs.YtibdcejglkhcfaaGreatDoor
open Go.RowKit
set_option linter.unusedVariables false
set_option linter.unusedSimpArgs false

def imgsL (za : List (List Int)) (xs : List Int) : List (List Int) := za.map (imgL (told (vsL za) xs))
theorem imgs_in {za zb : List (List Int)} {xs : List Int} (h : MapC za zb xs 0) : ∀ s ∈ imgsL za xs, s ∈ zb := fun s hs => by
  obtain ⟨oa, ob, hm⟩ := mapC_zero h
  obtain ⟨t, ht, rfl⟩ := List.mem_map.1 hs
  exact hm.img oa ht
theorem imgs_sim {za zb : List (List Int)} {xs : List Int} (h : MapC za zb xs 0) : ∀ s ∈ imgsL za xs, Sim s := fun s hs => (mapC_zero h).2.1.1.sim s (imgs_in h s hs)
/-- The images are a complex. -/
theorem fac_imgs {za zb : List (List Int)} {xs : List Int} (h : MapC za zb xs 0) {x : List Int} : Fac (imgsL za xs) x ↔ x ∈ imgsL za xs := by
  obtain ⟨oa, ob, hm⟩ := mapC_zero h
  constructor
  · rintro ⟨s', hs', hx0, hxs⟩
    obtain ⟨s, hs, rfl⟩ := List.mem_map.1 hs'
    have hts : (s.filter fun v => decide (told (vsL za) xs v ∈ x)).Sublist s := List.filter_sublist
    have hmt : ∀ v, v ∈ (s.filter fun v => decide (told (vsL za) xs v ∈ x)) ↔ v ∈ s ∧ told (vsL za) xs v ∈ x := fun v => by rw [List.mem_filter, decide_eq_true_eq]
    have hne : (s.filter fun v => decide (told (vsL za) xs v ∈ x)) ≠ [] := fun e => by
      obtain ⟨y, ys, hy⟩ := List.exists_cons_of_ne_nil hx0
      have hyx : y ∈ x := by rw [hy]; simp
      obtain ⟨v, hv, e2⟩ := mem_imgL.1 (hxs.subset hyx)
      have : v ∈ (s.filter fun v => decide (told (vsL za) xs v ∈ x)) := (hmt v).2 ⟨hv, by rw [e2]; exact hyx⟩
      rw [e] at this; simp at this
    have htz := oa.1.clo s hs _ ⟨hne, hts⟩
    refine List.mem_map.2 ⟨_, htz, ?_⟩
    refine rise_ext (imgL_rise _ _) ((imgL_rise _ _).sublist hxs) fun z => ?_
    rw [mem_imgL]
    constructor
    · rintro ⟨v, hv, rfl⟩; exact ((hmt v).1 hv).2
    · intro hz
      obtain ⟨v, hv, rfl⟩ := mem_imgL.1 (hxs.subset hz)
      exact ⟨v, (hmt v).2 ⟨hv, hz⟩, rfl⟩
  · intro hx
    have hs := imgs_sim h x hx
    exact ⟨x, hx, fun e => by have := hs.pos; rw [e] at this; simp at this, List.Sublist.refl x⟩
theorem clo_imgs {za zb : List (List Int)} {xs : List Int} (h : MapC za zb xs 0) : cloL (imgsL za xs) = zb.filter fun t => decide (t ∈ imgsL za xs) := by
  refine (cloL_is (imgs_sim h) (List.Pairwise.sublist List.filter_sublist (mapC_zero h).2.1.1.ord) fun x => ?_).symm
  rw [List.mem_filter, decide_eq_true_eq, fac_imgs h]
  exact ⟨fun g => g.2, fun g => ⟨imgs_in h x g, g⟩⟩
theorem mem_clo {za zb : List (List Int)} {xs : List Int} (h : MapC za zb xs 0) {x : List Int} : x ∈ cloL (imgsL za xs) ↔ x ∈ imgsL za xs := (cloL_mem (imgs_sim h)).trans (fac_imgs h)
theorem clo_ok {za zb : List (List Int)} {xs : List Int} (h : MapC za zb xs 0) : OkC (cloL (imgsL za xs)) := by
  have hsub : (cloL (imgsL za xs)).Sublist zb := by rw [clo_imgs h]; exact List.filter_sublist
  refine ⟨⟨cloL_ord _, fun z hz => imgs_sim h z ((mem_clo h).1 hz), fun z hz x hx => ?_⟩, Nat.le_trans hsub.length_le (mapC_zero h).2.1.2⟩
  exact (mem_clo h).2 ((fac_imgs h).1 ⟨z, (mem_clo h).1 hz, hx⟩)
def MimIs (za zb : List (List Int)) (xs : List Int) (yy : List (List Int)) (c : Int) : Prop :=
  (c ≠ 0 ∧ MapC za zb xs c ∧ yy = []) ∨ (MapC za zb xs 0 ∧ yy = cloL (imgsL za xs) ∧ c = 0)
theorem mim_has (za zb : List (List Int)) (xs : List Int) : ∃ yy c, MimIs za zb xs yy c := by
  obtain ⟨c, hc⟩ := mapC_has za zb xs
  by_cases h : c = 0
  · subst h; exact ⟨_, _, .inr ⟨hc, rfl, rfl⟩⟩
  · exact ⟨_, _, .inl ⟨h, hc, rfl⟩⟩
theorem MimIs.fit {za zb : List (List Int)} {xs : List Int} {yy : List (List Int)} {c : Int} (h : MimIs za zb xs yy c) : FitR yy := by
  rcases h with ⟨_, _, rfl⟩ | ⟨h, rfl, _⟩
  · exact ⟨by simp, by simp [tot]⟩
  · exact (clo_ok h).fit
theorem imgs_take {za : List (List Int)} {xs : List Int} {k : Nat} (hk : k < za.length) : (imgsL za xs).take (k + 1) = (imgsL za xs).take k ++ [imgL (told (vsL za) xs) za[k]] := by
  have h : k < (imgsL za xs).length := by unfold imgsL; rw [List.length_map]; exact hk
  rw [List.take_succ_eq_append_getElem h]
  congr 2
  simp [imgsL]
theorem ownRI_madeN (w : World) (B : Nat) (hB : B ≤ w.heap.size) : OwnRI B (w.alloc (.cells #[] 25)) (.slice (some ⟨w.heap.size, 0, none⟩) 0 0) [] :=
  ⟨[], rfl, World.ownsRow_made w #[] 0 hB (Nat.zero_le _) rfl, fun i u zs h _ => by simp at h, fun i u g h _ => by simp at h, fun i j u x g h _ _ _ => by simp at h, Nat.le_refl _, fun g h => by simp only [Value.ownBlock, Option.some.injEq] at h; rw [World.size_alloc]; omega, fun i u g h _ => by simp at h⟩
theorem mim_push {B g cap n : Nat} {wr w5 w6 w7 : World} {ob : Obj} {v u : Value} {L : List Value} {zz : List (List Int)} {zs : List Int} (hn : zz.length = n) (o : OwnR B wr.heap.size wr v L zz) (hB : B ≤ wr.heap.size) (hb5 : Below wr.heap.size wr w5) (hb6 : Below wr.heap.size wr w6) (hu : OwnI w5.heap.size w6 u zs)
    (hown : w7.ownsRow B 25 1 (.slice (some ⟨g, 0, none⟩) (n + 1) cap) (n + 1) (L ++ [u])) (hgrow : (w6.alloc ob).grownBy w7 v.ownBlock) (hat : v.ownBlock = some g ∨ g = w6.heap.size + 1) : OwnRI B w7 (.slice (some ⟨g, 0, none⟩) (n + 1) cap) (zz ++ [zs]) := by
  subst hn
  have hs := hb5.size
  have h6 := hb6.size
  have hW : Below wr.heap.size wr (w6.alloc ob) := hb6.alloc hb6.size ob
  have hu' : OwnI wr.heap.size (w6.alloc ob) u zs := OwnI.mono (hu.on ((Below.refl _ w6).alloc (Nat.le_refl _) ob)) hs
  have hug : ∀ k, u.ownBlock = some k → wr.heap.size ≤ k ∧ k < (w6.alloc ob).heap.size := fun k hk => hu'.out.lt k hk
  have hsz : (w6.alloc ob).heap.size = w6.heap.size + 1 := World.size_alloc _ _
  exact ⟨_, OwnR.pushM (o.on hW) hu' hB hown hgrow (fun k hk => by
    have hk' : g = k := by simpa [Value.ownBlock] using hk
    subst hk'
    rcases hat with e | e
    · exact .inl e
    · exact .inr ⟨by omega, fun e2 => by have := hug _ e2; omega⟩)⟩
theorem mim_below {K n : Nat} {a wr w6 w7 : World} {ob : Obj} {v : Value} {L : List Value} (hB : Below K a wr) (hK : K ≤ wr.heap.size) (hb6 : Below wr.heap.size wr w6) (ho : wr.ownsRow K 25 1 v n L) (hgrow : (w6.alloc ob).grownBy w7 v.ownBlock) : Below K a w7 :=
  (hB.trans ((hb6.alloc hb6.size ob).mono hK)).grown hgrow (Nat.le_trans hK (hb6.alloc hb6.size ob).size) (fun q hq => (ho.lt q hq).1)
theorem imgs_fit {za zb : List (List Int)} {xs : List Int} (h : MapC za zb xs 0) : FitR (imgsL za xs) := by
  have hl : (imgsL za xs).length = za.length := by unfold imgsL; rw [List.length_map]
  have h48 := (mapC_zero h).1.2
  exact ⟨by omega, Nat.le_trans (tot_four fun s hs => (imgs_sim h s hs).le) (by omega)⟩
set_option maxRecDepth 100000 in
set_option maxHeartbeats 12800000 in
theorem specMim_is {u v x : Value} {za zb : List (List Int)} {xs : List Int} {yy : List (List Int)} {c : Int} {w : World} (hu : RowsQ w u za) (hv : RowsQ w v zb) (hx : IntsAt w x xs) (h : MimIs za zb xs yy c) :
    Calls Tryz.prog 9 #[.agg #[u], .agg #[v], x] w fun e w' => RetClo yy c w e w' := by
  have HU := Lib.hid hu
  have HV := Lib.hid hv
  have HX := Lib.hid hx
  obtain ⟨a, ca, rfl⟩ := hu.rows.slice
  obtain ⟨b, cb, rfl⟩ := hv.rows.slice
  obtain ⟨xa, xc, rfl⟩ := hx.slice
  have P0 : Hid (PtC (((w.alloc (.cells #[.slice a za.length ca] 27)).alloc (.cells #[.slice b zb.length cb] 27)).alloc (.cells #[.slice none 0 0] 27)) w.heap.size (.slice a za.length ca)) := (PtC.new1 w _ 27 (.cells #[.slice b zb.length cb] 27)).on ((Below.refl _ _).alloc (Nat.le_refl _) _)
  have P1 : Hid (PtC (((w.alloc (.cells #[.slice a za.length ca] 27)).alloc (.cells #[.slice b zb.length cb] 27)).alloc (.cells #[.slice none 0 0] 27)) (w.heap.size + 1) (.slice b zb.length cb)) := by
    have h := PtC.new1 (w.alloc (.cells #[.slice a za.length ca] 27)) (.slice b zb.length cb) 27 (.cells #[.slice none 0 0] 27)
    rw [World.size_alloc] at h
    exact h
  have R0 : Hid (ResC (((w.alloc (.cells #[.slice a za.length ca] 27)).alloc (.cells #[.slice b zb.length cb] 27)).alloc (.cells #[.slice none 0 0] 27)) (w.heap.size + 2)) := by
    have h := ResC.new ((w.alloc (.cells #[.slice a za.length ca] 27)).alloc (.cells #[.slice b zb.length cb] 27))
    rw [World.size_alloc, World.size_alloc] at h
    exact h
  have B0 : Hid (Below w.heap.size w (((w.alloc (.cells #[.slice a za.length ca] 27)).alloc (.cells #[.slice b zb.length cb] 27)).alloc (.cells #[.slice none 0 0] 27))) := al1 (al1 (al1 (Below.refl _ _) _) _) _
  have HBU := Lib.hid (HU.out.on B0.out)
  have HBV := Lib.hid (HV.out.on B0.out)
  have HBX := Lib.hid (HX.out.on B0.out)
  obtain ⟨LR, hLR⟩ : ∃ LR, w.heap.size + 2 = LR := ⟨_, rfl⟩
  rw [hLR] at R0
  have HLR := Lib.hid hLR
  have hlr : w.heap.size < LR := by omega
  clear hu hv hx hLR
  rcases h with ⟨h0, h, rfl⟩ | ⟨h, rfl, rfl⟩
  · have HC := Lib.hid h
    have e1 : (c != 0) = true := by simpa using h0
    clear h h0
    go_enter Tryz.func9, Tryz.ntmps9
    go_wp2_with (go_at_call 34; refine Hid.out ?_)
    refine Lib.hid ?_
    try rw [show w.heap.size + 1 + 1 = LR from HLR.out]
    generalize (((w.alloc (.cells #[.slice a za.length ca] 27)).alloc (.cells #[.slice b zb.length cb] 27)).alloc (.cells #[.slice none 0 0] 27)) = W0 at P0 P1 R0 B0 HBU HBV HBX ⊢
    refine (l08Ask_is P0.out HBU.out P1.out HBV.out HBX.out HC.out).mono ?_
    rintro e w1 ⟨rfl, hb1⟩
    have HB1 := Lib.hid (B0.out.trans (hb1.mono B0.out.size))
    have P01 := Lib.hid (P0.out.on hb1)
    have P11 := Lib.hid (P1.out.on hb1)
    have R1 := Lib.hid (R0.out.on hb1)
    have HU1 := Lib.hid (HBU.out.on hb1)
    have HV1 := Lib.hid (HBV.out.on hb1)
    have HX1 := Lib.hid (HBX.out.on hb1)
    clear hb1
    obtain ⟨⟨_, r1⟩, z1⟩ := R1.out
    go_wp2_with fail
    refine bodyPost_ret (v := .tuple #[.agg #[.slice none 0 0], .int .i64 c]) (by simp [results, Tryz.results9, go_sem, r1]) rfl ⟨_, rfl, OwnRI.nul _ _, HB1.out.setCell (p := ⟨LR, 0, none⟩) (Nat.le_of_lt hlr) _⟩
  · have HC := Lib.hid h
    have HOA := Lib.hid (mapC_zero h).1
    have HMP := Lib.hid (mapC_zero h).2.2
    have HSM := Lib.hid (imgs_sim h)
    have HFR := Lib.hid (imgs_fit h)
    have HAT : Hid (∀ k (hk : k < za.length), ∃ j : Nat, ∃ hj : j < zb.length, atI za zb xs k = (j : Int) ∧ zb[j] = imgL (told (vsL za) xs) za[k]) := fun k hk => atI_at h hk
    have h48 := (mapC_zero h).1.2
    have h48b := (mapC_zero h).2.1.2
    clear h
    go_enter Tryz.func9, Tryz.ntmps9
    go_wp2_with (go_at_call 34; refine Hid.out ?_)
    refine Lib.hid ?_
    try rw [show w.heap.size + 1 + 1 = LR from HLR.out]
    generalize (((w.alloc (.cells #[.slice a za.length ca] 27)).alloc (.cells #[.slice b zb.length cb] 27)).alloc (.cells #[.slice none 0 0] 27)) = W0 at P0 P1 R0 B0 HBU HBV HBX ⊢
    refine (l08Ask_is P0.out HBU.out P1.out HBV.out HBX.out HC.out).mono ?_
    rintro e w1 ⟨rfl, hb1⟩
    have HB1 := Lib.hid (B0.out.trans (hb1.mono B0.out.size))
    have P01 := Lib.hid (P0.out.on hb1)
    have P11 := Lib.hid (P1.out.on hb1)
    have R1 := Lib.hid (R0.out.on hb1)
    have HU1 := Lib.hid (HBU.out.on hb1)
    have HV1 := Lib.hid (HBV.out.on hb1)
    have HX1 := Lib.hid (HBX.out.on hb1)
    clear hb1
    obtain ⟨i0, hi0, iz0, iz1, iz2⟩ := info_parts info_r
    have HM : Hid (OwnRI w1.heap.size (w1.alloc (.cells #[] 25)) (.slice (some ⟨w1.heap.size, 0, none⟩) 0 0) ((imgsL za xs).take 0)) := by
      show OwnRI _ _ _ _
      rw [List.take_zero]; exact ownRI_madeN w1 _ (Nat.le_refl _)
    have AL : Hid (Below w1.heap.size w1 (w1.alloc (.cells #[] 25))) := (Below.refl _ w1).alloc (Nat.le_refl _) _
    have HIL : Hid ((imgsL za xs).length = za.length) := by show _ = _; unfold imgsL; rw [List.length_map]
    go_wp2_with fail
    go_loopw [9, 10] (fun sv si wr => ∃ (k : Nat), k ≤ za.length ∧ si = .int .i64 (k : Int) ∧ Hid (OwnRI w1.heap.size wr sv ((imgsL za xs).take k)) ∧ Hid (Below w1.heap.size w1 wr)) (fun _ si _ => za.length - (intOf si).toNat)
    case atStart => exact ⟨0, Nat.zero_le _, rfl, HM, AL⟩
    case round =>
      clear HM AL
      obtain ⟨k, hk, rfl, HY, HB⟩ := hrel
      have hs := HB.out.size
      have k0 : 0 ≤ (k : Int) := by omega
      have pa := (P01.out.on HB.out).2
      have pb := (P11.out.on HB.out).2
      by_cases hlt : k < za.length
      · have k1 : (k : Int) < (za.length : Int) := by omega
        obtain ⟨j, hj, hat, hzj⟩ := HAT.out k hlt
        have HN := Lib.hid hat
        have HTK := Lib.hid (imgs_take (xs := xs) hlt)
        obtain ⟨ra, rca, e, hlz, k2⟩ := HV1.out.on HB.out
        injection e with e1 _ e3
        subst e1 e3
        obtain ⟨rb, ro, y, rfl, hrb, c1, i1⟩ := k2 j hj
        obtain ⟨ta, tc, rfl⟩ := i1.1.slice
        obtain ⟨t, htt⟩ : ∃ t, zb[j] = t := ⟨_, rfl⟩
        have hl4 : t.length ≤ 4 := by rw [← htt, hzj]; exact Nat.le_trans (imgL_len _ _) ((HOA.out.sim hlt).le)
        have c1w : wr.cell? ⟨rb, ro + j, none⟩ = some (.slice ta t.length tc) := by rw [← htt]; exact c1
        have I1 : Hid (IntsC wr (.slice ta t.length tc) t) := by rw [← htt]; exact i1
        have HTT : Hid (imgL (told (vsL za) xs) za[k] = t) := by show _ = _; rw [← hzj]; exact htt
        have j0 : 0 ≤ (j : Int) := by omega
        have j1 : (j : Int) < (zb.length : Int) := by omega
        obtain ⟨L, hL⟩ := HY.out
        obtain ⟨z, hz⟩ : ∃ z, ((imgsL za xs).take k).length = z := ⟨_, rfl⟩
        have hz9 : z ≤ 48 := by rw [← hz, List.length_take]; omega
        have HZ := Lib.hid hz
        obtain ⟨va, vc, rfl⟩ := hL.slice
        have SO := Lib.hid hL
        rw [hz] at SO ⊢
        have PBr := Lib.hid (P11.out.on HB.out)
        clear k2 c1 i1 htt hzj hat hz hL
        go_wp2_with fail
        go_region_law
          (first
            | (go_simp; go_at_call 36; refine (l08At_is (by first | exact P01.out.on HB.out | exact (P01.out.on HB.out).drew) (by first | exact (HU1.out.on HB.out).rows | exact (HU1.out.on HB.out).rows.drew) (by first | exact PBr.out | exact PBr.out.drew) (by first | exact (HV1.out.on HB.out).rows | exact (HV1.out.on HB.out).rows.drew) (by first | exact HX1.out.on HB.out | exact (HX1.out.on HB.out).drew) HOA.out HMP.out hlt HN.out).mono ?_; rintro e w5 ⟨rfl, hb5'⟩; have hb5 : Below wr.heap.size wr w5 := (by first | exact hb5' | exact undrew hb5'); have pb5 := (PBr.out.on hb5).2; have c5 := (hb5.cell (p := ⟨rb, ro + j, none⟩) hrb).trans c1w; have I5 := Lib.hid (I1.out.on hb5); dsimp only)
            | (go_simp; go_at_call 35; refine (l00Own_any I5.out (by omega)).mono ?_; rintro e w6 ⟨v6, rfl, ho6, hb6'⟩; have hb6 : Below wr.heap.size wr w6 := hb5.trans (hb6'.mono hb5.size); obtain ⟨oa6, oc6, rfl⟩ := ho6.slice; have HX6 := Lib.hid ho6; dsimp only)
            | (refine step_append_lies _ (by rfl) _ _ _ (by rfl) w1.heap.size 25 i0 (.slice none 0 0) 1 24 Tryz.underlying22 hi0 iz0 iz1 iz2 (by rfl) (by omega) (.slice va z vc) z L (by rfl) (OwnR.rowZ SO.out HZ.out (by repeat (first | with_reducible exact Below.refl _ _ | with_reducible exact hb5 | with_reducible exact hb6 | with_reducible refine drew_below ?_ | with_reducible refine al1 ?_ _))) ⟨w6.heap.size, 0, none⟩ 1 1 [.slice oa6 t.length oc6] (by rfl) (by rfl) (by first | with_reducible exact row_oneJ _ _ _ _ (by simp) | exact row_oneJ _ _ _ _ (by simp)) (by simp [Value.oneCell']) (by omega) (by unfold maxLen; omega) (by omega) (by have := hb6.size; simp; omega) (w6.heap.size + 1) (by simp) ?_; intro gg cap w7 hown7 hgrow hat7 hlt7))
        all_goals
          have HN7 : Hid (OwnRI w1.heap.size w7 (.slice (some ⟨gg, 0, none⟩) (z + 1) cap) ((imgsL za xs).take (k + 1))) := by
            show OwnRI _ _ _ _
            rw [HTK.out, HTT.out]
            exact mim_push HZ.out SO.out hs hb5 hb6 HX6.out hown7 hgrow hat7
          have HB7 : Hid (Below w1.heap.size w1 w7) := mim_below HB.out hs hb6 SO.out.row hgrow
          clear hown7 hgrow hat7 hlt7 hb5 hb5' hb6 hb6' ho6 HX6 I5 pb5 c5
          go_wp2_with fail
          go_roundw
          case rel => exact ⟨k + 1, by omega, by go_num, HN7, HB7⟩
          case measure => simp [intOf]; omega
      · obtain rfl : k = za.length := by omega
        rw [List.take_of_length_le (by rw [HIL.out]; exact Nat.le_refl _)] at HY
        have hcl := l05Clo_is (HY.out.atQ HFR.out) HSM.out
        have hw1 := R1.out.1.1
        have R2 := Lib.hid (R1.out.on HB.out)
        go_wp2_with fail
        refine hcl.mono ?_
        rintro e w4 ⟨u, rfl, ho4, hb4⟩
        obtain ⟨ua, uc, rfl⟩ := ho4.slice
        have HO4 := Lib.hid ho4
        obtain ⟨⟨_, r4⟩, z4⟩ := R2.out.on hb4
        have HB4 := Lib.hid (HB1.out.trans ((HB.out.trans (hb4.mono hs)).mono HB1.out.size))
        clear hcl ho4 hb4
        go_wp2_with fail
        refine bodyPost_ret (v := .tuple #[.agg #[.slice ua (cloL (imgsL za xs)).length uc], .int .i64 0]) (by simp [results, Tryz.results9, go_sem, r4]) rfl ⟨_, rfl, OwnRI.mono (OwnRI.setOut HO4.out (by omega) _) (Nat.le_trans HB1.out.size hs), HB4.out.setCell (p := ⟨LR, 0, none⟩) (Nat.le_of_lt hlr) _⟩
end Go.Proofs.YtibdcejglkhcfaaGreatDoor
