/-
  SimplexImage of the program.
-/
import Derived.Test.YtibdcejglkhcfaaDoorMpH
import Derived.Deep.RegionHeld3
namespace Go.Proofs.YtibdcejglkhcfaaDoor
open Go.RowKit Go.Maps
set_option linter.unusedVariables false
set_option linter.unusedSimpArgs false

theorem map_bd {za zb : List (List Int)} {xs : List Int} (h : MapC za zb xs 0) : ∀ j, j < 10 → 0 ≤ arF (vsL za) xs j ∧ arF (vsL za) xs j ≤ 9 := fun j hj => by
  obtain ⟨oa, ob, hm⟩ := mapC_zero h
  unfold arF
  by_cases hv : (j : Int) ∈ vsL za
  · have := hm.bd oa hv; omega
  · rw [told_none hv]; omega
theorem map_img {za zb : List (List Int)} {xs : List Int} (h : MapC za zb xs 0) {s : List Int} (hs : s ∈ za) : mkI (arF (vsL za) xs) (maskOf s) = maskOf (imgL (told (vsL za) xs) s) := by
  obtain ⟨oa, ob, hm⟩ := mapC_zero h
  rw [(mkI_sim (oa.1.sim s hs) (map_bd h)).1]
  congr 1
  exact imgL_congr fun v hv => arF_told (vsL_bd oa v (sim_ver oa hs hv)).1 (hm.bd oa (sim_ver oa hs hv)).1

set_option maxRecDepth 100000 in
set_option maxHeartbeats 6400000 in
theorem implSI_is {u v x : Value} {za zb : List (List Int)} {xs : List Int} {k n c : Int} {w : World} (hu : RowsAt w u za) (hv : RowsAt w v zb) (hx : IntsAt w x xs) (h : SimIs za zb xs k n c) (hTz : Tz w) :
    Calls Tryd.prog 18 #[.agg #[u], .agg #[v], x, .int .i64 k] w fun e w' => e = .returned (.tuple #[.int .i64 n, .int .i64 c]) ∧ Below w.heap.size w w' := by
  have HU := Lib.hid hu
  have HV := Lib.hid hv
  have HX := Lib.hid hx
  have HH := Lib.hid h
  obtain ⟨a, ca, rfl⟩ := hu.slice
  obtain ⟨b, cb, rfl⟩ := hv.slice
  obtain ⟨xa, xc, rfl⟩ := hx.slice
  have P0 : Hid (PtC ((w.alloc (.cells #[.slice a za.length ca] 28)).alloc (.cells #[.slice b zb.length cb] 28)) w.heap.size (.slice a za.length ca)) := PtC.new1 w _ 28 _
  have P1 : Hid (PtC ((w.alloc (.cells #[.slice a za.length ca] 28)).alloc (.cells #[.slice b zb.length cb] 28)) (w.heap.size + 1) (.slice b zb.length cb)) := by
    have h := PtC.new (w.alloc (.cells #[.slice a za.length ca] 28)) (.slice b zb.length cb) 28
    rw [World.size_alloc] at h
    exact h
  have B0 : Hid (Below w.heap.size w ((w.alloc (.cells #[.slice a za.length ca] 28)).alloc (.cells #[.slice b zb.length cb] 28))) := al1 (al1 (Below.refl _ _) _) _
  have hS0 : w.heap.size + 2 ≤ ((w.alloc (.cells #[.slice a za.length ca] 28)).alloc (.cells #[.slice b zb.length cb] 28)).heap.size := by simp
  have hbu := HU.out.on B0.out
  have hbv := HV.out.on B0.out
  have hbx := HX.out.on B0.out
  have HBU := Lib.hid hbu
  have HBV := Lib.hid hbv
  have HBX := Lib.hid hbx
  have TZ := Lib.hid (hTz.on B0.out)
  clear hu hv hx hbu hbv hbx hTz
  have hl48 : MapC za zb xs 0 → za.length ≤ 48 := fun h => (mapC_zero h).1.2
  rcases h with ⟨h0, _, h, rfl⟩ | ⟨h, hr, rfl, rfl⟩ | ⟨h, ⟨i, hi, rfl, rfl⟩, rfl⟩
  · have HC := Lib.hid h
    have e1 : (c != 0) = true := by simpa using h0
    clear h h0 HH hl48
    have p0 := P0.out.2
    have p1 := P1.out.2
    go_enter Tryd.func18, Tryd.ntmps18
    go_wp2_with fail
    clear p0 p1
    generalize ((w.alloc (.cells #[.slice a za.length ca] 28)).alloc (.cells #[.slice b zb.length cb] 28)) = W0 at P0 P1 B0 HBU HBV HBX hS0 TZ ⊢
    refine (mapOf_is HBU.out HBV.out HBX.out HC.out TZ.out).mono ?_
    rintro e w2 ⟨f, ⟨rfl, hb2⟩, hfz⟩
    have HFZ := Lib.hid hfz
    have HB2 := Lib.hid (B0.out.trans (hb2.mono B0.out.size))
    obtain ⟨cl, hcl⟩ : ∃ cl, arrL f = cl := ⟨_, rfl⟩
    have HCL := Lib.hid hcl
    have HVF : Hid (VarF w2 f cl) := by rw [← hcl]; exact varF w2 f
    have HBE : Hid (Below w.heap.size w ((w2.alloc (.cells #[.int .i64 0, .int .i64 0, .int .i64 0, .int .i64 0, .int .i64 0, .int .i64 0, .int .i64 0, .int .i64 0, .int .i64 0, .int .i64 0] 59)).setCells w2.heap.size 0 cl)) := HB2.out.trans (HVF.out.bl.mono HB2.out.size)
    have P03 := Lib.hid ((P0.out.on hb2).on HVF.out.bl)
    have P13 := Lib.hid ((P1.out.on hb2).on HVF.out.bl)
    have HU3 := Lib.hid ((HBU.out.on hb2).on HVF.out.bl)
    have HV3 := Lib.hid ((HBV.out.on hb2).on HVF.out.bl)
    have TZ3 := Lib.hid ((TZ.out.on hb2).on HVF.out.bl)
    have AR3 := Lib.hid HVF.out.ar
    have hs2 := hb2.size
    unfold vmV
    rw [hcl]
    clear hcl hb2 hfz P0 P1 HBU HBV HBX TZ
    go_wp2_with (refine wpList_store_mid rfl 59 (.tmp 10) (.tmp 18) rfl w2.heap.size 0 cl.toArray rfl rfl HVF.out.th HVF.out.i1 HVF.out.one ?_; refine Hid.out ?_)
    refine Lib.hid ?_
    try rw [show cl.toArray.toList = cl from rfl]
    have hgl : w2.heap.size < ((w2.alloc (.cells #[.int .i64 0, .int .i64 0, .int .i64 0, .int .i64 0, .int .i64 0, .int .i64 0, .int .i64 0, .int .i64 0, .int .i64 0, .int .i64 0] 59)).setCells w2.heap.size 0 cl).heap.size := World.block_lt_of_cell? _ ⟨w2.heap.size, 0, none⟩ (AR3.out 0 (by omega)).1
    generalize ((w2.alloc (.cells #[.int .i64 0, .int .i64 0, .int .i64 0, .int .i64 0, .int .i64 0, .int .i64 0, .int .i64 0, .int .i64 0, .int .i64 0, .int .i64 0] 59)).setCells w2.heap.size 0 cl) = w3 at HBE P03 P13 HU3 HV3 TZ3 AR3 hgl ⊢
    clear HVF
    go_wp2_with fail
    go_ret2
    exact ⟨rfl, HBE.out⟩
  · have HC := Lib.hid h
    have h48 := hl48 h
    have HASK : Hid (AskIs za k 2) := .inr (.inl ⟨(mapC_zero h).1, hr, rfl⟩)
    clear h hr HH hl48
    have p0 := P0.out.2
    have p1 := P1.out.2
    go_enter Tryd.func18, Tryd.ntmps18
    go_wp2_with fail
    clear p0 p1
    generalize ((w.alloc (.cells #[.slice a za.length ca] 28)).alloc (.cells #[.slice b zb.length cb] 28)) = W0 at P0 P1 B0 HBU HBV HBX hS0 TZ ⊢
    refine (mapOf_is HBU.out HBV.out HBX.out HC.out TZ.out).mono ?_
    rintro e w2 ⟨f, ⟨rfl, hb2⟩, hfz⟩
    have HFZ := Lib.hid hfz
    have HB2 := Lib.hid (B0.out.trans (hb2.mono B0.out.size))
    obtain ⟨cl, hcl⟩ : ∃ cl, arrL f = cl := ⟨_, rfl⟩
    have HCL := Lib.hid hcl
    have HVF : Hid (VarF w2 f cl) := by rw [← hcl]; exact varF w2 f
    have HBE : Hid (Below w.heap.size w ((w2.alloc (.cells #[.int .i64 0, .int .i64 0, .int .i64 0, .int .i64 0, .int .i64 0, .int .i64 0, .int .i64 0, .int .i64 0, .int .i64 0, .int .i64 0] 59)).setCells w2.heap.size 0 cl)) := HB2.out.trans (HVF.out.bl.mono HB2.out.size)
    have P03 := Lib.hid ((P0.out.on hb2).on HVF.out.bl)
    have P13 := Lib.hid ((P1.out.on hb2).on HVF.out.bl)
    have HU3 := Lib.hid ((HBU.out.on hb2).on HVF.out.bl)
    have HV3 := Lib.hid ((HBV.out.on hb2).on HVF.out.bl)
    have TZ3 := Lib.hid ((TZ.out.on hb2).on HVF.out.bl)
    have AR3 := Lib.hid HVF.out.ar
    have hs2 := hb2.size
    unfold vmV
    rw [hcl]
    clear hcl hb2 hfz P0 P1 HBU HBV HBX TZ
    go_wp2_with (refine wpList_store_mid rfl 59 (.tmp 10) (.tmp 18) rfl w2.heap.size 0 cl.toArray rfl rfl HVF.out.th HVF.out.i1 HVF.out.one ?_; refine Hid.out ?_)
    refine Lib.hid ?_
    try rw [show cl.toArray.toList = cl from rfl]
    have hgl : w2.heap.size < ((w2.alloc (.cells #[.int .i64 0, .int .i64 0, .int .i64 0, .int .i64 0, .int .i64 0, .int .i64 0, .int .i64 0, .int .i64 0, .int .i64 0, .int .i64 0] 59)).setCells w2.heap.size 0 cl).heap.size := World.block_lt_of_cell? _ ⟨w2.heap.size, 0, none⟩ (AR3.out 0 (by omega)).1
    generalize ((w2.alloc (.cells #[.int .i64 0, .int .i64 0, .int .i64 0, .int .i64 0, .int .i64 0, .int .i64 0, .int .i64 0, .int .i64 0, .int .i64 0, .int .i64 0] 59)).setCells w2.heap.size 0 cl) = w3 at HBE P03 P13 HU3 HV3 TZ3 AR3 hgl ⊢
    clear HVF
    have p0 := P03.out.2
    go_wp2_with fail
    refine (indexCode_is HU3.out HASK.out TZ3.out).mono ?_
    rintro e w4 ⟨rfl, hb4⟩
    go_wp2_with fail
    go_ret2
    exact ⟨rfl, HBE.out.trans (hb4.mono HBE.out.size)⟩
  · have HC := Lib.hid h
    have h48 := hl48 h
    have HASK : Hid (AskIs za (i : Int) 0) := .inr (.inr ⟨(mapC_zero h).1, by omega, rfl⟩)
    obtain ⟨j, hj, hat, hzj⟩ := atI_at h hi
    have HAT : Hid (maskOf zb[j] = mkI (arF (vsL za) xs) (maskOf za[i])) := by
      show _ = _
      rw [hzj, map_img h (List.getElem_mem hi)]
    have HJ := Lib.hid hj
    have HF9 := Lib.hid (map_bd h)
    have HSM := Lib.hid ((mapC_zero h).1.sim hi)
    have HI := Lib.hid hi
    have HOB := Lib.hid (mapC_zero h).2.1
    rw [hat]
    clear h HH hl48 hat hzj
    have p0 := P0.out.2
    have p1 := P1.out.2
    go_enter Tryd.func18, Tryd.ntmps18
    go_wp2_with fail
    clear p0 p1
    generalize ((w.alloc (.cells #[.slice a za.length ca] 28)).alloc (.cells #[.slice b zb.length cb] 28)) = W0 at P0 P1 B0 HBU HBV HBX hS0 TZ ⊢
    refine (mapOf_is HBU.out HBV.out HBX.out HC.out TZ.out).mono ?_
    rintro e w2 ⟨f, ⟨rfl, hb2⟩, hfz⟩
    have HFZ := Lib.hid hfz
    have HB2 := Lib.hid (B0.out.trans (hb2.mono B0.out.size))
    obtain ⟨cl, hcl⟩ : ∃ cl, arrL f = cl := ⟨_, rfl⟩
    have HCL := Lib.hid hcl
    have HVF : Hid (VarF w2 f cl) := by rw [← hcl]; exact varF w2 f
    have HBE : Hid (Below w.heap.size w ((w2.alloc (.cells #[.int .i64 0, .int .i64 0, .int .i64 0, .int .i64 0, .int .i64 0, .int .i64 0, .int .i64 0, .int .i64 0, .int .i64 0, .int .i64 0] 59)).setCells w2.heap.size 0 cl)) := HB2.out.trans (HVF.out.bl.mono HB2.out.size)
    have P03 := Lib.hid ((P0.out.on hb2).on HVF.out.bl)
    have P13 := Lib.hid ((P1.out.on hb2).on HVF.out.bl)
    have HU3 := Lib.hid ((HBU.out.on hb2).on HVF.out.bl)
    have HV3 := Lib.hid ((HBV.out.on hb2).on HVF.out.bl)
    have TZ3 := Lib.hid ((TZ.out.on hb2).on HVF.out.bl)
    have AR3 := Lib.hid HVF.out.ar
    have hs2 := hb2.size
    unfold vmV
    rw [hcl]
    clear hcl hb2 hfz P0 P1 HBU HBV HBX TZ
    go_wp2_with (refine wpList_store_mid rfl 59 (.tmp 10) (.tmp 18) rfl w2.heap.size 0 cl.toArray rfl rfl HVF.out.th HVF.out.i1 HVF.out.one ?_; refine Hid.out ?_)
    refine Lib.hid ?_
    try rw [show cl.toArray.toList = cl from rfl]
    have hgl : w2.heap.size < ((w2.alloc (.cells #[.int .i64 0, .int .i64 0, .int .i64 0, .int .i64 0, .int .i64 0, .int .i64 0, .int .i64 0, .int .i64 0, .int .i64 0, .int .i64 0] 59)).setCells w2.heap.size 0 cl).heap.size := World.block_lt_of_cell? _ ⟨w2.heap.size, 0, none⟩ (AR3.out 0 (by omega)).1
    generalize ((w2.alloc (.cells #[.int .i64 0, .int .i64 0, .int .i64 0, .int .i64 0, .int .i64 0, .int .i64 0, .int .i64 0, .int .i64 0, .int .i64 0, .int .i64 0] 59)).setCells w2.heap.size 0 cl) = w3 at HBE P03 P13 HU3 HV3 TZ3 AR3 hgl ⊢
    clear HVF
    have p0 := P03.out.2
    go_wp2_with fail
    refine (indexCode_is HU3.out HASK.out TZ3.out).mono ?_
    rintro e w4 ⟨rfl, hb4⟩
    have HB4 := Lib.hid (HBE.out.trans (hb4.mono HBE.out.size))
    have P04 := Lib.hid (P03.out.on hb4)
    have P14 := Lib.hid (P13.out.on hb4)
    have HU4 := Lib.hid (HU3.out.on hb4)
    have HV4 := Lib.hid (HV3.out.on hb4)
    have TZ4 := Lib.hid (TZ3.out.on hb4)
    obtain rfl : f = arF (vsL za) xs := HFZ.out (by first | trivial | rfl)
    have AR4 := Lib.hid (AR3.out.on hgl hb4)
    have hgl4 : w2.heap.size < w4.heap.size := Nat.lt_of_lt_of_le hgl hb4.size
    obtain ⟨ra, rca, e, hlz, k1⟩ := HU4.out.any
    injection e with e1 e2 e3
    subst e1 e3
    obtain ⟨rb, ro, y, rfl, hrb, c1, i1⟩ := k1 i HI.out
    have hsl := HSM.out.le
    obtain ⟨sb, so, sc, rfl, hsb, k1s⟩ := i1.at1 HSM.out.pos
    have HSET : Hid (∀ w5, Below w4.heap.size w4 w5 → Calls Tryd.prog 47 #[.slice (some ⟨sb, so, none⟩) za[i].length sc] w5 fun e w' => e = .returned (.int .u16 (maskOf za[i] : Int)) ∧ w5 = w') := fun w5 hb => setOf_some (by omega) HSM.out.bd (fun j hj => (hb.cell (p := ⟨sb, so + j, none⟩) hsb).trans (k1s j hj))
    have hmk := maskOf_lt za[i] (fun v hv => HSM.out.bd v hv)
    have hig := mkI_lt HF9.out (maskOf za[i])
    have HAT2 := Lib.hid HAT.out
    have p0 := P04.out.2
    have p1 := P14.out.2
    have hund := Tryd.underlying59
    have hinf := vm_size (arF (vsL za) xs)
    have hrg := AR4.out.range
    have i0' : 0 ≤ (i : Int) := by omega
    have i1' : (i : Int) < (za.length : Int) := by have := HI.out; omega
    obtain ⟨sn, hsn⟩ : ∃ sn, za[i].length = sn := ⟨_, rfl⟩
    rw [hsn] at HSET
    have c1w : w4.cell? ⟨rb, ro + i, none⟩ = some (.slice (some ⟨sb, so, none⟩) sn sc) := by rw [← hsn]; exact c1
    generalize maskOf za[i] = m at HSET hmk hig HAT2
    have hW := HBE.out.size
    have hne1 : w2.heap.size ≠ w.heap.size := by omega
    have hne2 : w2.heap.size ≠ w.heap.size + 1 := by omega
    clear hb4 k1 i1 k1s hsn c1 HAT HSM HU3 HV3 P03 P13 TZ3 AR3 HFZ HCL HASK
    go_wp2_with fail
    go_region_held3 (fun w' => w'.rangeAt w2.heap.size 0 (arrL (arF (vsL za) xs)) ∧ w'.cell? ⟨w.heap.size, 0, none⟩ = some (.slice (some ⟨rb, ro, none⟩) za.length ca) ∧ w'.cell? ⟨w.heap.size + 1, 0, none⟩ = some (.slice b zb.length cb) ∧ w'.cell? ⟨rb, ro + i, none⟩ = some (.slice (some ⟨sb, so, none⟩) sn sc)) (go_keep)
      (first
        | (go_at_call 45; refine (indices_any (by first | exact HV4.out | exact HV4.out.drew) HOB.out).mono ?_; rintro e wx ⟨mb, D, rfl, hmx, hdx, hbx'⟩; have hbx : Below w4.heap.size w4 wx := (by first | exact hbx' | exact undrew hbx'); have := (P04.out.on hbx).2; have := (P14.out.on hbx).2; have := (AR4.out.on hgl4 hbx).range; have := ((hbx).cell (p := ⟨rb, ro + i, none⟩) hrb).trans c1w)
        | (go_at_call 47; refine (HSET.out _ (by first | exact hbx)).mono ?_; rintro e wy ⟨rfl, rfl⟩)
        | (go_at_call 46; refine (imageOf_any HF9.out hmk (TZ4.out.on hbx)).mono ?_; rintro e w7 ⟨rfl, hb7'⟩; have hb7 : Below w4.heap.size w4 w7 := hbx.trans (hb7'.mono hbx.size); have := (P04.out.on hb7).2; have := (P14.out.on hb7).2; have := (AR4.out.on hgl4 hb7).range; have := ((hb7).cell (p := ⟨rb, ro + i, none⟩) hrb).trans c1w; obtain ⟨cc, hrun, hcat, _⟩ := World.ownsMap.lookup_int (hmx.on hb7').out (int_keyed Tryd.underlying69) Tryd.underlying66 Tryd.underlying2 (zero_i64 w7) (key_u16 hig)))
    have hcc : cc = (j : Int) := by
      have h2 := hdx.2.2 j HJ.out HJ.out (.lit (.int .i64 0))
      rw [HAT2.out, hcat] at h2
      injection h2 with h2
      injection h2
    have HB7 := Lib.hid (HB4.out.trans (hb7.mono HB4.out.size))
    subst hcc
    clear hb7 hb7' hbx hbx' hmx hdx hrun hcat
    go_wp2_with fail
    go_ret2
    exact ⟨rfl, HB7.out⟩
end Go.Proofs.YtibdcejglkhcfaaDoor
