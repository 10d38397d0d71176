/-
  MapImage of the program.
-/
import Derived.Test.YtibdcejglkhcfaaGreatDoorMqC
namespace Go.Proofs.YtibdcejglkhcfaaGreatDoor
open Go.RowKit Go.Maps
set_option linter.unusedVariables false
set_option linter.unusedSimpArgs false

theorem ims_eq {za zb : List (List Int)} {xs : List Int} (h : MapC za zb xs 0) : (za.map maskOf).map (mkI (arF (vsL za) xs)) = (imgsL za xs).map maskOf := by
  unfold imgsL
  rw [List.map_map, List.map_map]
  exact List.map_congr_left fun s hsm => map_img h hsm
theorem mem_ims {za zb : List (List Int)} {xs : List Int} (h : MapC za zb xs 0) {f : Nat} : f ∈ (za.map maskOf).map (mkI (arF (vsL za) xs)) ↔ f ∈ allM (imgsL za xs) := by
  have hs := imgs_sim h
  rw [ims_eq h]
  constructor
  · intro hf
    obtain ⟨s, hsm, rfl⟩ := List.mem_map.1 hf
    obtain ⟨g, hg, e2⟩ := List.mem_map.1 ((mem_allM hs).2 ((fac_imgs h).2 hsm))
    rw [← e2, mask_verts (allM_lt hs hg).1]; exact hg
  · intro hf
    have h1 := (fac_imgs h).1 ((mem_allM hs).1 (List.mem_map.2 ⟨f, hf, rfl⟩))
    exact List.mem_map.2 ⟨_, h1, mask_verts (allM_lt hs hf).1⟩
set_option maxRecDepth 100000 in
set_option maxHeartbeats 12800000 in
theorem implMim_is {u v x : Value} {za zb : List (List Int)} {xs : List Int} {yy : List (List Int)} {c : Int} {w : World} (hu : RowsAt w u za) (hv : RowsAt w v zb) (hx : IntsAt w x xs) (h : MimIs za zb xs yy c) (hTz : Tz w) :
    Calls Tryz.prog 12 #[.agg #[u], .agg #[v], x] w fun e w' => RetClo yy c w e w' := by
  have hmm := @run_makeMap Tryz.prog
  have HU := Lib.hid hu
  have HV := Lib.hid hv
  have HX := Lib.hid hx
  obtain ⟨a, ca, rfl⟩ := hu.slice
  obtain ⟨b, cb, rfl⟩ := hv.slice
  obtain ⟨xa, xc, rfl⟩ := hx.slice
  have P0 : Hid (PtC (((w.alloc (.cells #[.slice a za.length ca] 27)).alloc (.cells #[.slice b zb.length cb] 27)).alloc (.cells #[.slice none 0 0] 27)) w.heap.size (.slice a za.length ca)) := (PtC.new1 w _ 27 (.cells #[.slice b zb.length cb] 27)).on ((Below.refl _ _).alloc (Nat.le_refl _) _)
  have P1 : Hid (PtC (((w.alloc (.cells #[.slice a za.length ca] 27)).alloc (.cells #[.slice b zb.length cb] 27)).alloc (.cells #[.slice none 0 0] 27)) (w.heap.size + 1) (.slice b zb.length cb)) := by
    have h := PtC.new1 (w.alloc (.cells #[.slice a za.length ca] 27)) (.slice b zb.length cb) 27 (.cells #[.slice none 0 0] 27)
    rw [World.size_alloc] at h
    exact h
  have R0 : Hid (ResC (((w.alloc (.cells #[.slice a za.length ca] 27)).alloc (.cells #[.slice b zb.length cb] 27)).alloc (.cells #[.slice none 0 0] 27)) (w.heap.size + 2)) := by
    have h := ResC.new ((w.alloc (.cells #[.slice a za.length ca] 27)).alloc (.cells #[.slice b zb.length cb] 27))
    rw [World.size_alloc, World.size_alloc] at h
    exact h
  have B0 : Hid (Below w.heap.size w (((w.alloc (.cells #[.slice a za.length ca] 27)).alloc (.cells #[.slice b zb.length cb] 27)).alloc (.cells #[.slice none 0 0] 27))) := al1 (al1 (al1 (Below.refl _ _) _) _) _
  have HBU := Lib.hid (HU.out.on B0.out)
  have HBV := Lib.hid (HV.out.on B0.out)
  have HBX := Lib.hid (HX.out.on B0.out)
  have TZ := Lib.hid (hTz.on B0.out)
  obtain ⟨LR, hLR⟩ : ∃ LR, w.heap.size + 2 = LR := ⟨_, rfl⟩
  rw [hLR] at R0
  have HLR := Lib.hid hLR
  have hlr : w.heap.size < LR := by omega
  clear hu hv hx hLR hTz
  have p0 := P0.out.2
  have p1 := P1.out.2
  rcases h with ⟨h0, h, rfl⟩ | ⟨h, rfl, rfl⟩
  · have HC := Lib.hid h
    have e1 : (c != 0) = true := by simpa using h0
    clear h h0
    go_enter Tryz.func12, Tryz.ntmps12
    go_wp2_with fail
    clear p0 p1
    try rw [show w.heap.size + 1 + 1 = LR from HLR.out]
    generalize (((w.alloc (.cells #[.slice a za.length ca] 27)).alloc (.cells #[.slice b zb.length cb] 27)).alloc (.cells #[.slice none 0 0] 27)) = W0 at P0 P1 R0 B0 HBU HBV HBX TZ ⊢
    refine (mapOf_is HBU.out HBV.out HBX.out HC.out TZ.out).mono ?_
    rintro e w2 ⟨f, ⟨rfl, hb2⟩, hfz⟩
    have HFZ := Lib.hid hfz
    have HB2 := Lib.hid (B0.out.trans (hb2.mono B0.out.size))
    obtain ⟨cl, hcl⟩ : ∃ cl, arrL f = cl := ⟨_, rfl⟩
    have HVF : Hid (VarF w2 f cl) := by rw [← hcl]; exact varF w2 f
    have HBE : Hid (Below w.heap.size w ((w2.alloc (.cells #[.int .i64 0, .int .i64 0, .int .i64 0, .int .i64 0, .int .i64 0, .int .i64 0, .int .i64 0, .int .i64 0, .int .i64 0, .int .i64 0] 60)).setCells w2.heap.size 0 cl)) := HB2.out.trans (HVF.out.bl.mono HB2.out.size)
    have P03 := Lib.hid ((P0.out.on hb2).on HVF.out.bl)
    have R3 := Lib.hid ((R0.out.on hb2).on HVF.out.bl)
    have HU3 := Lib.hid ((HBU.out.on hb2).on HVF.out.bl)
    have TZ3 := Lib.hid ((TZ.out.on hb2).on HVF.out.bl)
    have AR3 := Lib.hid HVF.out.ar
    have hs2 := hb2.size
    unfold vmV
    rw [hcl]
    clear hcl hb2 hfz P0 P1 R0 HBU HBV HBX TZ
    go_wp2_with (refine wpList_store_mid rfl 60 (.tmp 8) (.tmp 18) rfl w2.heap.size 0 cl.toArray rfl rfl HVF.out.th HVF.out.i1 HVF.out.one ?_; refine Hid.out ?_)
    refine Lib.hid ?_
    try rw [show cl.toArray.toList = cl from rfl]
    have hgl : w2.heap.size < ((w2.alloc (.cells #[.int .i64 0, .int .i64 0, .int .i64 0, .int .i64 0, .int .i64 0, .int .i64 0, .int .i64 0, .int .i64 0, .int .i64 0, .int .i64 0] 60)).setCells w2.heap.size 0 cl).heap.size := World.block_lt_of_cell? _ ⟨w2.heap.size, 0, none⟩ (AR3.out 0 (by omega)).1
    generalize ((w2.alloc (.cells #[.int .i64 0, .int .i64 0, .int .i64 0, .int .i64 0, .int .i64 0, .int .i64 0, .int .i64 0, .int .i64 0, .int .i64 0, .int .i64 0] 60)).setCells w2.heap.size 0 cl) = w3 at HBE P03 R3 HU3 TZ3 AR3 hgl ⊢
    clear HVF
    obtain ⟨⟨_, r3⟩, z3⟩ := R3.out
    go_wp2_with fail
    refine bodyPost_ret (v := .tuple #[.agg #[.slice none 0 0], .int .i64 c]) (by simp [results, Tryz.results12, go_sem, r3]) rfl ⟨_, rfl, OwnRI.nul _ _, HBE.out.setCell (p := ⟨LR, 0, none⟩) (Nat.le_of_lt hlr) _⟩
  · have HC := Lib.hid h
    have HOA := Lib.hid (mapC_zero h).1
    have HSM := Lib.hid (imgs_sim h)
    have HF9 := Lib.hid (map_bd h)
    have HMI : Hid (∀ f, f ∈ (za.map maskOf).map (mkI (arF (vsL za) xs)) ↔ f ∈ allM (imgsL za xs)) := fun f => mem_ims h
    have HMS : Hid (∀ m ∈ za.map maskOf, m < 1024) := fun m hm => by
      obtain ⟨s, hs, rfl⟩ := List.mem_map.1 hm
      exact maskOf_lt s (fun v hv => ((mapC_zero h).1.1.sim s hs).bd v hv)
    have h48 := (mapC_zero h).1.2
    clear h
    go_enter Tryz.func12, Tryz.ntmps12
    go_wp2_with fail
    clear p0 p1
    try rw [show w.heap.size + 1 + 1 = LR from HLR.out]
    generalize (((w.alloc (.cells #[.slice a za.length ca] 27)).alloc (.cells #[.slice b zb.length cb] 27)).alloc (.cells #[.slice none 0 0] 27)) = W0 at P0 P1 R0 B0 HBU HBV HBX TZ ⊢
    refine (mapOf_is HBU.out HBV.out HBX.out HC.out TZ.out).mono ?_
    rintro e w2 ⟨f, ⟨rfl, hb2⟩, hfz⟩
    have HFZ := Lib.hid hfz
    have HB2 := Lib.hid (B0.out.trans (hb2.mono B0.out.size))
    obtain ⟨cl, hcl⟩ : ∃ cl, arrL f = cl := ⟨_, rfl⟩
    have HVF : Hid (VarF w2 f cl) := by rw [← hcl]; exact varF w2 f
    have HBE : Hid (Below w.heap.size w ((w2.alloc (.cells #[.int .i64 0, .int .i64 0, .int .i64 0, .int .i64 0, .int .i64 0, .int .i64 0, .int .i64 0, .int .i64 0, .int .i64 0, .int .i64 0] 60)).setCells w2.heap.size 0 cl)) := HB2.out.trans (HVF.out.bl.mono HB2.out.size)
    have P03 := Lib.hid ((P0.out.on hb2).on HVF.out.bl)
    have R3 := Lib.hid ((R0.out.on hb2).on HVF.out.bl)
    have HU3 := Lib.hid ((HBU.out.on hb2).on HVF.out.bl)
    have TZ3 := Lib.hid ((TZ.out.on hb2).on HVF.out.bl)
    have AR3 := Lib.hid HVF.out.ar
    have hs2 := hb2.size
    unfold vmV
    rw [hcl]
    clear hb2 hfz P0 P1 R0 HBU HBV HBX TZ
    go_wp2_with (refine wpList_store_mid rfl 60 (.tmp 8) (.tmp 18) rfl w2.heap.size 0 cl.toArray rfl rfl HVF.out.th HVF.out.i1 HVF.out.one ?_; refine Hid.out ?_)
    refine Lib.hid ?_
    try rw [show cl.toArray.toList = cl from rfl]
    have hgl : w2.heap.size < ((w2.alloc (.cells #[.int .i64 0, .int .i64 0, .int .i64 0, .int .i64 0, .int .i64 0, .int .i64 0, .int .i64 0, .int .i64 0, .int .i64 0, .int .i64 0] 60)).setCells w2.heap.size 0 cl).heap.size := World.block_lt_of_cell? _ ⟨w2.heap.size, 0, none⟩ (AR3.out 0 (by omega)).1
    generalize ((w2.alloc (.cells #[.int .i64 0, .int .i64 0, .int .i64 0, .int .i64 0, .int .i64 0, .int .i64 0, .int .i64 0, .int .i64 0, .int .i64 0, .int .i64 0] 60)).setCells w2.heap.size 0 cl) = w3 at HBE P03 R3 HU3 TZ3 AR3 hgl ⊢
    clear HVF
    obtain rfl : f = arF (vsL za) xs := HFZ.out (by first | trivial | rfl)
    have HSZ : Hid (Option.map (fun x => x.size) (Tryz.prog.info? 60) = some cl.length) := by rw [← hcl]; exact vm_size _
    have HIM : Hid (∀ (m : Nat) (w1 : World), m < 1024 → Tz w1 → Calls Tryz.prog 41 #[.agg cl.toArray, .int .u16 (m : Int)] w1 fun e w' => e = .returned (.int .u16 (mkI (arF (vsL za) xs) m : Int)) ∧ Below w1.heap.size w1 w') := by rw [← hcl]; exact fun m w1 hm ht => imageOf_any HF9.out hm ht
    have HRG : Hid (∀ w1, Arr w1 w2.heap.size (arF (vsL za) xs) → w1.rangeAt w2.heap.size 0 cl) := by rw [← hcl]; exact fun w1 h => h.range
    have HML : Hid (∀ m, mkI (arF (vsL za) xs) m < 1024) := fun m => mkI_lt HF9.out m
    have AL4 : Hid (Below w3.heap.size w3 (w3.alloc (.map #[] 0))) := (Below.refl _ _).alloc (Nat.le_refl _) _
    have HM4 : Hid (MU (w3.alloc (.map #[] 0)) w3.heap.size []) := World.ownsMap_made _ _ _ _
    have p04 := (P03.out.on AL4.out).2
    obtain ⟨g, hg⟩ : ∃ g, w2.heap.size = g := ⟨_, rfl⟩
    rw [hg] at AR3 hgl HRG ⊢
    generalize arF (vsL za) xs = f at HMI HFZ HIM HRG HML HF9 AR3 hcl
    clear hcl HFZ HC
    go_wp2_with fail
    refine (list_any (HU3.out.on AL4.out) HOA.out).mono ?_
    rintro e w5 ⟨v5, rfl, ho5, hb5⟩
    have HB5 : Hid (Below w3.heap.size w3 w5) := AL4.out.trans (hb5.mono AL4.out.size)
    have HM5 := Lib.hid (HM4.out.on hb5)
    obtain ⟨ms, hms⟩ : ∃ ms, za.map maskOf = ms := ⟨_, rfl⟩
    rw [hms] at ho5 HMI HMS
    obtain ⟨n, hn⟩ : ∃ n, ms.length = n := ⟨_, rfl⟩
    have hn48 : n ≤ 48 := by rw [← hn, ← hms, List.length_map]; exact h48
    have HNN := Lib.hid hn
    obtain ⟨ya, yc, rfl⟩ := ho5.slice
    rw [hn] at ho5 ⊢
    have hB5 : w3.heap.size < (w3.alloc (.map #[] 0)).heap.size := by simp
    generalize (w3.alloc (.map #[] 0)).heap.size = B5 at ho5 hB5
    have HO5 := Lib.hid ho5
    obtain ⟨mb, hmb⟩ : ∃ mb, w3.heap.size = mb := ⟨_, rfl⟩
    have HMB := Lib.hid hmb
    rw [hmb] at HM5 HB5 hgl hB5 ⊢
    clear ho5 hb5 hms hn AL4 HM4 p04 hmm hmb
    go_wp2_with fail
    go_loopw [28] (fun si wr => ∃ (k : Nat), k ≤ n ∧ si = .int .i64 (k : Int) ∧ Hid (MU wr mb ((ms.map (mkI f)).take k)) ∧ Hid (OwnU B5 wr (.slice ya n yc) ms) ∧ Hid (Below mb w3 wr)) (fun si _ => n - (intOf si).toNat)
    case atStart => exact ⟨0, Nat.zero_le _, rfl, by simpa using HM5, HO5, HB5⟩
    case round =>
      clear HM5 HO5 HB5
      obtain ⟨k, hk, rfl, HM, HO, HB⟩ := hrel
      have k0 : 0 ≤ (k : Int) := by omega
      have hbs : mb ≤ wr.heap.size := by have h := HB.out.size; have := HMB.out; omega
      have HBr : Hid (Below w3.heap.size w3 wr) := by
        show Below _ _ _
        rw [show w3.heap.size = mb from HMB.out]; exact HB.out
      by_cases hlt : k < n
      · have k1 : (k : Int) < (n : Int) := by omega
        have hkm : k < ms.length := by rw [HNN.out]; exact hlt
        obtain ⟨gg, gc, e, hgB⟩ := HO.out.at1 (by omega)
        injection e with e1 e2 e3
        clear e2
        subst e1 e3
        have c1 := HO.out.cell HNN.out.symm hkm
        have hmk := HMS.out _ (List.getElem_mem hkm)
        have hkn : k < (ms.map (mkI f)).length := by rw [List.length_map]; exact hkm
        have hnx : (ms.map (mkI f)).take (k + 1) = (ms.map (mkI f)).take k ++ [mkI f ms[k]] := by
          rw [List.take_succ_eq_append_getElem hkn, List.getElem_map]
        have hic := HIM.out ms[k] wr hmk (TZ3.out.on HBr.out)
        have hig := HML.out ms[k]
        have hln : ((ms.map (mkI f)).take k).length < maxLen := by rw [List.length_take]; unfold maxLen; omega
        generalize ms[k] = m at c1 hmk hnx hic hig
        generalize mkI f m = y at hnx hic hig
        have HNX := Lib.hid hnx
        have har := Lib.hid (HRG.out wr (AR3.out.on (by have := HMB.out; omega) HBr.out))
        have hgm : gg ≠ mb := by omega
        generalize (ms.map (mkI f)).take k = is at HM HNX hln
        clear hnx hkm hkn
        go_wp2_with (refine wpList_load_mid rfl 60 (.tmp 8) rfl g 0 rfl cl _ har.out Tryz.underlying60 rfl HSZ.out ?_)
        refine hic.mono ?_
        rintro e w6 ⟨rfl, hb6⟩
        have HM6 := Lib.hid (HM.out.on hb6)
        have HO6 := Lib.hid (HO.out.on hb6)
        have HB6 := Lib.hid (HB.out.trans (hb6.mono hbs))
        have hs6 := hb6.size
        clear hb6 har hic
        go_wp2_with (at_mapUpdate; refine wpList_mapUpdate_own _ rfl _ _ _ 63 rfl 68 4 (int_keyed Tryz.underlying68) Tryz.underlying63 (plainElem Tryz.prog 4) mb is.length _ rfl HM6.out.out hln _ _ (.int .u16 (y : Int)) rfl rfl (key_u16 hig) (.lit (.bool true)) [] (plainElem_bool Tryz.underlying4 true) ?_; intro w7 hown7 hgrow7)
        have HM7 : Hid (MU w7 mb ((ms.map (mkI f)).take (k + 1))) := by
          show MU _ _ _
          rw [HNX.out]; exact MU.put hown7
        have HO7 := Lib.hid (HO6.out.kept hgrow7 (by simp [Value.ownBlock]; exact hgm))
        have HB7 : Hid (Below mb w3 w7) := HB6.out.grown hgrow7 (Nat.le_trans hbs hs6) (fun q hq => by cases hq; exact Nat.le_refl _)
        clear hown7 hgrow7
        go_roundw
        case rel => exact ⟨k + 1, by omega, by go_num, HM7, HO7, HB7⟩
        case measure => simp [intOf]; omega
      · obtain rfl : k = n := by omega
        rw [List.take_of_length_le (by rw [List.length_map, HNN.out]; exact Nat.le_refl _)] at HM
        have hil : (ms.map (mkI f)).length ≤ 48 := by rw [List.length_map, HNN.out]; exact hn48
        have hsz : Maps.size (DU (H := Unit) (ms.map (mkI f))) ≤ 1048576 := Nat.le_trans (World.ownsMap.size_le HM.out.out) (by omega)
        have hb0 : Below wr.heap.size wr (wr.alloc (.cells #[.map (some mb)] 63)) := (Below.refl wr.heap.size wr).alloc (Nat.le_refl _) _
        have hHBE : Below w.heap.size w wr := HBE.out.trans (HBr.out.mono HBE.out.size)
        have hB4 := al1 hHBE (.cells #[.map (some mb)] 63)
        have hP4 := PtC.new wr (.map (some mb)) 63
        have hM4 := HM.out.on hb0
        have hR4 := (R3.out.on HBr.out).on hb0
        have hT4 := (TZ3.out.on HBr.out).on hb0
        have hcol := collectU_any hP4.1 hP4.2 hM4.out hsz
        have HR4 := Lib.hid hR4
        have HB4 := Lib.hid hB4
        have HT4 := Lib.hid hT4
        have hLs : LR < wr.heap.size := (R3.out.on HBr.out).1.1
        generalize ms.map (mkI f) = is at HM HMI hil hsz hM4 hcol
        clear hlt hk hR4 hB4 hT4 hP4
        go_wp2_with (first | (go_at_call 44; refine (keysU_any _ _).mono ?_; rintro e w' ⟨rfl, rfl⟩) | (go_at_call 43; refine hcol.mono ?_; rintro e w6 ⟨v, ss, rfl, ⟨hnd, hss⟩, hrow, hb6⟩; obtain ⟨fs, e1, e2, hn, hm⟩ := nats_of hnd (fun x => (hss x).trans (has_DU _ x)); rw [e1, e2] at hrow; clear hnd hss e1 e2))
        have hfl : fs.length ≤ 48 := Nat.le_trans (List.Nodup.length_le_of_subset hn (fun f hf => (hm f).1 hf)) hil
        have hma : ∀ f, f ∈ fs ↔ f ∈ allM (imgsL za xs) := fun f => (hm f).trans (HMI.out f)
        refine (complexOf_any hrow (fun f hf => allM_lt HSM.out ((hma f).1 hf)) (by omega) (HT4.out.on hb6)).mono ?_
        rintro e w7 ⟨v7, y7, c7, rfl, ho7, hb7, hc7⟩
        have hb67 := hb6.trans (hb7.mono hb6.size)
        obtain ⟨⟨_, l7⟩, z7⟩ := HR4.out.on hb67
        have hyc : y7 = cloL (imgsL za xs) ∧ c7 = 0 := by
          rcases hc7 with ⟨h1, h2, h3⟩ | ⟨h1, h2, hp, hs⟩
          · omega
          · exact ⟨sets_clo HSM.out hn hma hp hs, h2⟩
        obtain ⟨rfl, rfl⟩ := hyc
        have HO7 := Lib.hid ho7
        obtain ⟨va, vc, rfl⟩ := ho7.slice
        have hs46 := hb6.size
        have HB67 := Lib.hid (HB4.out.trans (hb67.mono HB4.out.size))
        clear hcol hrow ho7 hc7 hb67 hb6 hb7
        go_wp2_with fail
        refine bodyPost_ret (v := .tuple #[.agg #[.slice va (cloL (imgsL za xs)).length vc], .int .i64 0]) (by simp [results, Tryz.results12, go_sem, l7]) rfl ⟨_, rfl, OwnRI.mono (OwnRI.setOut HO7.out (by simp at hs46; omega) _) (Nat.le_trans HB4.out.size hs46), HB67.out.setCell (p := ⟨LR, 0, none⟩) (Nat.le_of_lt hlr) _⟩
end Go.Proofs.YtibdcejglkhcfaaGreatDoor
