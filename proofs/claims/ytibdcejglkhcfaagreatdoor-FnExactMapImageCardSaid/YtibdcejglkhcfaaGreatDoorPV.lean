/-
  SimplexImage of the model and of the program.
  SimplexImage of the program.
  ComposeMaps of the model and of the program.
  ComposeMaps of the program.
-/
import Derived.Test.YtibdcejglkhcfaaGreatDoorPO
import Derived.Test.YtibdcejglkhcfaaGreatDoorCyN
import Derived.Deep.RegionHeld3
namespace Go.Proofs.YtibdcejglkhcfaaGreatDoor
open Go.RowKit Go.Maps
set_option linter.unusedVariables false
set_option linter.unusedSimpArgs false

set_option maxRecDepth 100000 in
set_option maxHeartbeats 3200000 in
theorem l08Ask_is {La Lb : Nat} {va vb x : Value} {za zb : List (List Int)} {xs : List Int} {c : Int} {w : World} (pa : PtC w La va) (ha : RowsQ w va za) (pb : PtC w Lb vb) (hb : RowsQ w vb zb) (hx : IntsAt w x xs) (h : MapC za zb xs c) :
    Calls Tryz.prog 34 #[.pointer (some ⟨La, 0, none⟩), .pointer (some ⟨Lb, 0, none⟩), x] w fun e w' => e = .returned (.int .i64 c) ∧ Below w.heap.size w w' := by
  have PA := Lib.hid pa
  have PB := Lib.hid pb
  have HA := Lib.hid ha
  have HB := Lib.hid hb
  have HX := Lib.hid hx
  obtain ⟨xa, xc, rfl⟩ := hx.slice
  by_cases oa : OkC za
  · have h1 := l05Ok_is pa ha (.inl ⟨rfl, oa⟩)
    have OA := Lib.hid oa
    by_cases ob : OkC zb
    · have OB := Lib.hid ob
      obtain ⟨T2, hT2⟩ := mapB_has za zb xs
      have HT2 := Lib.hid hT2
      have hcc : (T2 = true ∧ c = 0) ∨ (T2 = false ∧ c = 7) := by
        rcases h with ⟨h, _⟩ | ⟨_, _, h, rfl⟩ | ⟨_, _, h, rfl⟩
        · exact absurd ⟨oa, ob⟩ h
        · rcases hT2 with ⟨_, g⟩ | ⟨rfl, _⟩
          · exact absurd g h
          · exact .inr ⟨rfl, rfl⟩
        · rcases hT2 with ⟨rfl, _⟩ | ⟨_, g⟩
          · exact .inl ⟨rfl, rfl⟩
          · exact absurd h g
      clear h hT2 oa ob pa ha pb hb hx
      rcases hcc with ⟨rfl, rfl⟩ | ⟨rfl, rfl⟩
      all_goals
        go_enter Tryz.func34, Tryz.ntmps34
        go_wp2_with fail
        refine h1.mono ?_
        rintro e w1 ⟨rfl, hb1⟩
        have HB1 := Lib.hid hb1
        clear hb1 h1
        go_wp2_with fail
        refine (l05Ok_is (PB.out.on HB1.out) (HB.out.on HB1.out) (.inl ⟨rfl, OB.out⟩)).mono ?_
        rintro e w2 ⟨rfl, hb2⟩
        have HB2 := Lib.hid (HB1.out.trans (hb2.mono HB1.out.size))
        clear hb2
        go_wp2_with fail
        refine (l08Map_is (PA.out.on HB2.out) (HA.out.on HB2.out).rows (PB.out.on HB2.out) (HB.out.on HB2.out).rows (HX.out.on HB2.out) OA.out HT2.out).mono ?_
        rintro e w3 ⟨rfl, hb3⟩
        go_wp2_with fail
        go_ret
        exact ⟨rfl, HB2.out.trans (hb3.mono HB2.out.size)⟩
    · obtain rfl : c = 1 := by
        rcases h with ⟨_, h⟩ | ⟨_, h, _⟩ | ⟨_, h, _⟩
        · exact h
        · exact absurd h ob
        · exact absurd h ob
      have OB := Lib.hid ob
      clear h oa ob pa ha pb hb hx
      go_enter Tryz.func34, Tryz.ntmps34
      go_wp2_with fail
      refine h1.mono ?_
      rintro e w1 ⟨rfl, hb1⟩
      have HB1 := Lib.hid hb1
      clear hb1 h1
      go_wp2_with fail
      refine (l05Ok_is (PB.out.on HB1.out) (HB.out.on HB1.out) (.inr ⟨rfl, OB.out⟩)).mono ?_
      rintro e w2 ⟨rfl, hb2⟩
      go_wp2_with fail
      go_ret
      exact ⟨rfl, HB1.out.trans (hb2.mono HB1.out.size)⟩
  · obtain rfl : c = 1 := by
      rcases h with ⟨_, h⟩ | ⟨h, _⟩ | ⟨h, _⟩
      · exact h
      · exact absurd h oa
      · exact absurd h oa
    have h1 := l05Ok_is pa ha (.inr ⟨rfl, oa⟩)
    clear h oa pa ha pb hb hx
    go_enter Tryz.func34, Tryz.ntmps34
    go_wp2_with fail
    refine h1.mono ?_
    rintro e w1 ⟨rfl, hb1⟩
    go_wp2_with fail
    go_ret
    exact ⟨rfl, hb1⟩
/-- The index of the image of a simplex. -/
def atI (za zb : List (List Int)) (xs : List Int) (k : Nat) : Int := fndI (imgL (told (vsL za) xs) (za.getD k [])) zb 0
set_option maxRecDepth 100000 in
set_option maxHeartbeats 6400000 in
theorem l08At_is {La Lb k : Nat} {va vb x : Value} {za zb : List (List Int)} {xs : List Int} {N : Int} {w : World} (pa : PtC w La va) (ha : RowsAt w va za) (pb : PtC w Lb vb) (hb : RowsAt w vb zb) (hx : IntsAt w x xs) (oa : OkC za) (hm : MapP za zb xs) (hk : k < za.length) (hN : atI za zb xs k = N) :
    Calls Tryz.prog 36 #[.pointer (some ⟨La, 0, none⟩), .pointer (some ⟨Lb, 0, none⟩), x, .int .i64 (k : Int)] w fun e w' => e = .returned (.int .i64 N) ∧ Below w.heap.size w w' := by
  have PA := Lib.hid pa
  have PB := Lib.hid pb
  have HA := Lib.hid ha
  have HB := Lib.hid hb
  have HX := Lib.hid hx
  have OA := Lib.hid oa
  obtain ⟨xa, xc, rfl⟩ := hx.slice
  obtain ⟨a, ca, rfl, hlz, k1⟩ := ha.any
  obtain ⟨b, o, y, rfl, hbl, c1, i1⟩ := k1 k hk
  have I1 := Lib.hid i1
  obtain ⟨ya, yc, rfl⟩ := i1.slice
  have hs4 := (oa.sim hk).le
  have hvl : xs.length ≤ (vsL za).length := by rw [hm.2.1]; exact Nat.le_refl _
  have hv48 := vsL_le oa
  have hsv : ∀ v ∈ za[k], 0 ≤ told (vsL za) xs v := fun v hv => (hm.bd oa (sim_ver oa (List.getElem_mem hk) hv)).1
  have hat : fndI (imgL (told (vsL za) xs) za[k]) zb 0 = N := by rw [← hN]; unfold atI; simp [List.getD, hk]
  have HAT := Lib.hid hat
  have HIM : Hid (ImgIs (told (vsL za) xs) za[k] (imgL (told (vsL za) xs) za[k]) true) := .inl ⟨rfl, hsv, rfl⟩
  have hil : (imgL (told (vsL za) xs) za[k]).length ≤ 1048576 := by have := imgL_len (told (vsL za) xs) za[k]; omega
  generalize imgL (told (vsL za) xs) za[k] = yy at HIM HAT hil
  have q1 := pa.2
  have k0 : 0 ≤ (k : Int) := by omega
  have k2 : (k : Int) < (za.length : Int) := by omega
  generalize za[k] = s at I1 HIM hs4 c1
  generalize s.length = sn at I1 c1
  have hlw := pa.1
  clear k1 i1 hat hsv hm hN ha hb hx pb oa
  go_enter Tryz.func36, Tryz.ntmps36
  go_wp2_with fail
  go_region_held3 (fun w' => w'.cell? ⟨La, 0, none⟩ = some (.slice (some ⟨b, o, none⟩) za.length ca) ∧ w'.cell? ⟨b, o + k, none⟩ = some (.slice ya sn yc)) (go_keep)
    (first
      | (go_at_call 82; refine (l08Ver_any (by first | exact PA.out | exact PA.out.drew) (by first | exact HA.out | exact HA.out.drew) OA.out).mono ?_; rintro e wx ⟨vx, rfl, hox, hbx'⟩; have hbx : Below w.heap.size w wx := (by first | exact hbx' | exact undrew hbx'); have HVX := Lib.hid (hox.at (by omega)); obtain ⟨_, _, rfl⟩ := hox.slice; have := (PA.out.on hbx).2; have := (hbx.cell (p := ⟨b, o + k, none⟩) hbl).trans c1)
      | (go_at_call 81; refine (l08Image_any (by first | exact HVX.out | exact HVX.out.drew) (by first | exact HX.out.on hbx | exact (HX.out.on hbx).drew) hvl (by first | exact I1.out.on hbx | exact (I1.out.on hbx).drew) hs4 HIM.out).mono ?_; rintro e w5 ⟨v5, rfl, ho5, hb5'⟩; have hb50 : Below wx.heap.size wx w5 := (by first | exact hb5' | exact undrew hb5'); have hb5 : Below w.heap.size w w5 := hbx.trans (hb50.mono hbx.size); have HY5 := Lib.hid (ho5.at hil); obtain ⟨_, _, rfl⟩ := ho5.slice; have := (PA.out.on hb5).2; have := (hb5.cell (p := ⟨b, o + k, none⟩) hbl).trans c1))
  have HB5 := Lib.hid hb5
  clear hb5 hb5' hb50 hbx hbx' ho5 hox HVX
  go_wp2_with fail
  refine (l05Find_is (PB.out.on HB5.out) (HB.out.on HB5.out) HY5.out HAT.out).mono ?_
  rintro e w6 ⟨rfl, n6, rfl⟩
  go_wp2_with fail
  go_ret
  exact ⟨rfl, below_drewX HB5.out n6⟩
def SimIs (za zb : List (List Int)) (xs : List Int) (k n c : Int) : Prop :=
  (c ≠ 0 ∧ c ≠ 2 ∧ MapC za zb xs c ∧ n = 0) ∨ (MapC za zb xs 0 ∧ ¬ (0 ≤ k ∧ k ≤ (za.length : Int) - 1) ∧ n = 0 ∧ c = 2) ∨ (MapC za zb xs 0 ∧ (∃ i : Nat, i < za.length ∧ k = (i : Int) ∧ n = atI za zb xs i) ∧ c = 0)
theorem sim_has (za zb : List (List Int)) (xs : List Int) (k : Int) : ∃ n c, SimIs za zb xs k n c := by
  obtain ⟨c, hc⟩ := mapC_has za zb xs
  by_cases h : c = 0
  · subst h
    by_cases h1 : 0 ≤ k ∧ k ≤ (za.length : Int) - 1
    · exact ⟨_, _, .inr (.inr ⟨hc, ⟨k.toNat, by omega, by omega, rfl⟩, rfl⟩)⟩
    · exact ⟨_, _, .inr (.inl ⟨hc, h1, rfl, rfl⟩)⟩
  · refine ⟨0, c, .inl ⟨h, ?_, hc, rfl⟩⟩
    rcases hc with ⟨_, h⟩ | ⟨_, _, _, h⟩ | ⟨_, _, _, h⟩ <;> omega
theorem atI_at {za zb : List (List Int)} {xs : List Int} {i : Nat} (h : MapC za zb xs 0) (hi : i < za.length) : ∃ j : Nat, ∃ hj : j < zb.length, atI za zb xs i = (j : Int) ∧ zb[j] = imgL (told (vsL za) xs) za[i] := by
  obtain ⟨oa, ob, hm⟩ := mapC_zero h
  obtain ⟨j, hj, e1, e2⟩ := fndI_yes (i := 0) (hm.img oa (List.getElem_mem hi))
  refine ⟨j, hj, ?_, e2⟩
  unfold atI
  simp only [List.getD_eq_getElem?_getD, List.getElem?_eq_getElem hi, Option.getD_some, e1]
  omega
end Go.Proofs.YtibdcejglkhcfaaGreatDoor

namespace Go.Proofs.YtibdcejglkhcfaaGreatDoor
open Go.RowKit Go.Maps
set_option linter.unusedVariables false
set_option linter.unusedSimpArgs false

theorem map_bd {za zb : List (List Int)} {xs : List Int} (h : MapC za zb xs 0) : ∀ j, j < 10 → 0 ≤ arF (vsL za) xs j ∧ arF (vsL za) xs j ≤ 9 := fun j hj => by
  obtain ⟨oa, ob, hm⟩ := mapC_zero h
  unfold arF
  by_cases hv : (j : Int) ∈ vsL za
  · have := hm.bd oa hv; omega
  · rw [told_none hv]; omega
theorem map_img {za zb : List (List Int)} {xs : List Int} (h : MapC za zb xs 0) {s : List Int} (hs : s ∈ za) : mkI (arF (vsL za) xs) (maskOf s) = maskOf (imgL (told (vsL za) xs) s) := by
  obtain ⟨oa, ob, hm⟩ := mapC_zero h
  rw [(mkI_sim (oa.1.sim s hs) (map_bd h)).1]
  congr 1
  exact imgL_congr fun v hv => arF_told (vsL_bd oa v (sim_ver oa hs hv)).1 (hm.bd oa (sim_ver oa hs hv)).1

end Go.Proofs.YtibdcejglkhcfaaGreatDoor

namespace Go.Proofs.YtibdcejglkhcfaaGreatDoor
open Go.RowKit Go.Maps
set_option linter.unusedVariables false
set_option linter.unusedSimpArgs false

def cmpM (zb : List (List Int)) (f g : List Int) : List Int := f.map (told (vsL zb) g)
def CmIs (za zb zc : List (List Int)) (f g yy : List Int) (c : Int) : Prop :=
  (¬ (OkC za ∧ OkC zb ∧ OkC zc) ∧ yy = [] ∧ c = 1) ∨ ((OkC za ∧ OkC zb ∧ OkC zc) ∧ ¬ (MapP za zb f ∧ MapP zb zc g) ∧ yy = [] ∧ c = 7) ∨ ((OkC za ∧ OkC zb ∧ OkC zc) ∧ (MapP za zb f ∧ MapP zb zc g) ∧ yy = cmpM zb f g ∧ c = 0)
theorem cm_has (za zb zc : List (List Int)) (f g : List Int) : ∃ yy c, CmIs za zb zc f g yy c := by
  by_cases h : OkC za ∧ OkC zb ∧ OkC zc
  · by_cases m : MapP za zb f ∧ MapP zb zc g
    · exact ⟨_, _, .inr (.inr ⟨h, m, rfl, rfl⟩)⟩
    · exact ⟨_, _, .inr (.inl ⟨h, m, rfl, rfl⟩)⟩
  · exact ⟨_, _, .inl ⟨h, rfl, rfl⟩⟩
theorem MapP.le {za zb : List (List Int)} {f : List Int} (h : MapP za zb f) (oa : OkC za) : f.length ≤ 48 := by rw [h.2.1]; exact vsL_le oa
theorem CmIs.fit {za zb zc : List (List Int)} {f g yy : List Int} {c : Int} (h : CmIs za zb zc f g yy c) : yy.length ≤ 1048576 := by
  rcases h with ⟨_, rfl, _⟩ | ⟨_, _, rfl, _⟩ | ⟨o, m, rfl, _⟩
  · simp
  · simp
  · unfold cmpM; rw [List.length_map]; have := m.1.le o.1; omega
/-- What a map tells is a vertex of the other complex. -/
theorem MapP.ver {za zb : List (List Int)} {f : List Int} (h : MapP za zb f) (oa : OkC za) (ob : OkC zb) : ∀ x ∈ f, x ∈ vsL zb := fun x hx => by
  obtain ⟨k, hk, rfl⟩ := List.getElem_of_mem hx
  have hk' : k < (vsL za).length := by rw [← h.2.1]; exact hk
  have h1 := h.img oa (ver_sim oa (List.getElem_mem hk'))
  have e : imgL (told (vsL za) f) [(vsL za)[k]] = [f[k]] := by
    simp only [imgL, List.foldl_cons, List.foldl_nil, insL]
    rw [told_at (vsL_nodup oa) h.2.1 hk']
  rw [e] at h1
  exact sim_ver ob h1 (by simp)
theorem cmp_take {zb : List (List Int)} {f g : List Int} {k : Nat} (hk : k < f.length) : (cmpM zb f g).take (k + 1) = (cmpM zb f g).take k ++ [told (vsL zb) g f[k]] := by
  have h : k < (cmpM zb f g).length := by unfold cmpM; rw [List.length_map]; exact hk
  rw [List.take_succ_eq_append_getElem h]
  congr 2
  simp [cmpM]
end Go.Proofs.YtibdcejglkhcfaaGreatDoor

namespace Go.Proofs.YtibdcejglkhcfaaGreatDoor
open Go.RowKit Go.Maps
set_option linter.unusedVariables false
set_option linter.unusedSimpArgs false

end Go.Proofs.YtibdcejglkhcfaaGreatDoor
