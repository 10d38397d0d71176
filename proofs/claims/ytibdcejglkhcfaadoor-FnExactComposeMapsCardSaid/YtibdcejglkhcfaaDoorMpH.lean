/-
  SimplexImage of the model and of the program.
-/
import Derived.Test.YtibdcejglkhcfaaDoorPO
import Derived.Test.YtibdcejglkhcfaaDoorCyN
namespace Go.Proofs.YtibdcejglkhcfaaDoor
open Go.RowKit Go.Maps
set_option linter.unusedVariables false
set_option linter.unusedSimpArgs false

set_option maxRecDepth 100000 in
set_option maxHeartbeats 3200000 in
theorem l08Ask_is {La Lb : Nat} {va vb x : Value} {za zb : List (List Int)} {xs : List Int} {c : Int} {w : World} (pa : PtC w La va) (ha : RowsQ w va za) (pb : PtC w Lb vb) (hb : RowsQ w vb zb) (hx : IntsAt w x xs) (h : MapC za zb xs c) :
    Calls Tryd.prog 41 #[.pointer (some ⟨La, 0, none⟩), .pointer (some ⟨Lb, 0, none⟩), x] w fun e w' => e = .returned (.int .i64 c) ∧ Below w.heap.size w w' := by
  have PA := Lib.hid pa
  have PB := Lib.hid pb
  have HA := Lib.hid ha
  have HB := Lib.hid hb
  have HX := Lib.hid hx
  obtain ⟨xa, xc, rfl⟩ := hx.slice
  by_cases oa : OkC za
  · have h1 := l05Ok_is pa ha (.inl ⟨rfl, oa⟩)
    have OA := Lib.hid oa
    by_cases ob : OkC zb
    · have OB := Lib.hid ob
      obtain ⟨T2, hT2⟩ := mapB_has za zb xs
      have HT2 := Lib.hid hT2
      have hcc : (T2 = true ∧ c = 0) ∨ (T2 = false ∧ c = 7) := by
        rcases h with ⟨h, _⟩ | ⟨_, _, h, rfl⟩ | ⟨_, _, h, rfl⟩
        · exact absurd ⟨oa, ob⟩ h
        · rcases hT2 with ⟨_, g⟩ | ⟨rfl, _⟩
          · exact absurd g h
          · exact .inr ⟨rfl, rfl⟩
        · rcases hT2 with ⟨rfl, _⟩ | ⟨_, g⟩
          · exact .inl ⟨rfl, rfl⟩
          · exact absurd h g
      clear h hT2 oa ob pa ha pb hb hx
      rcases hcc with ⟨rfl, rfl⟩ | ⟨rfl, rfl⟩
      all_goals
        go_enter Tryd.func41, Tryd.ntmps41
        go_wp2_with fail
        refine h1.mono ?_
        rintro e w1 ⟨rfl, hb1⟩
        have HB1 := Lib.hid hb1
        clear hb1 h1
        go_wp2_with fail
        refine (l05Ok_is (PB.out.on HB1.out) (HB.out.on HB1.out) (.inl ⟨rfl, OB.out⟩)).mono ?_
        rintro e w2 ⟨rfl, hb2⟩
        have HB2 := Lib.hid (HB1.out.trans (hb2.mono HB1.out.size))
        clear hb2
        go_wp2_with fail
        refine (l08Map_is (PA.out.on HB2.out) (HA.out.on HB2.out).rows (PB.out.on HB2.out) (HB.out.on HB2.out).rows (HX.out.on HB2.out) OA.out HT2.out).mono ?_
        rintro e w3 ⟨rfl, hb3⟩
        go_wp2_with fail
        go_ret
        exact ⟨rfl, HB2.out.trans (hb3.mono HB2.out.size)⟩
    · obtain rfl : c = 1 := by
        rcases h with ⟨_, h⟩ | ⟨_, h, _⟩ | ⟨_, h, _⟩
        · exact h
        · exact absurd h ob
        · exact absurd h ob
      have OB := Lib.hid ob
      clear h oa ob pa ha pb hb hx
      go_enter Tryd.func41, Tryd.ntmps41
      go_wp2_with fail
      refine h1.mono ?_
      rintro e w1 ⟨rfl, hb1⟩
      have HB1 := Lib.hid hb1
      clear hb1 h1
      go_wp2_with fail
      refine (l05Ok_is (PB.out.on HB1.out) (HB.out.on HB1.out) (.inr ⟨rfl, OB.out⟩)).mono ?_
      rintro e w2 ⟨rfl, hb2⟩
      go_wp2_with fail
      go_ret
      exact ⟨rfl, HB1.out.trans (hb2.mono HB1.out.size)⟩
  · obtain rfl : c = 1 := by
      rcases h with ⟨_, h⟩ | ⟨h, _⟩ | ⟨h, _⟩
      · exact h
      · exact absurd h oa
      · exact absurd h oa
    have h1 := l05Ok_is pa ha (.inr ⟨rfl, oa⟩)
    clear h oa pa ha pb hb hx
    go_enter Tryd.func41, Tryd.ntmps41
    go_wp2_with fail
    refine h1.mono ?_
    rintro e w1 ⟨rfl, hb1⟩
    go_wp2_with fail
    go_ret
    exact ⟨rfl, hb1⟩
/-- The index of the image of a simplex. -/
def atI (za zb : List (List Int)) (xs : List Int) (k : Nat) : Int := fndI (imgL (told (vsL za) xs) (za.getD k [])) zb 0
set_option maxRecDepth 100000 in
set_option maxHeartbeats 6400000 in
theorem l08At_is {La Lb k : Nat} {va vb x : Value} {za zb : List (List Int)} {xs : List Int} {N : Int} {w : World} (pa : PtC w La va) (ha : RowsAt w va za) (pb : PtC w Lb vb) (hb : RowsAt w vb zb) (hx : IntsAt w x xs) (oa : OkC za) (hm : MapP za zb xs) (hk : k < za.length) (hN : atI za zb xs k = N) :
    Calls Tryd.prog 43 #[.pointer (some ⟨La, 0, none⟩), .pointer (some ⟨Lb, 0, none⟩), x, .int .i64 (k : Int)] w fun e w' => e = .returned (.int .i64 N) ∧ Below w.heap.size w w' := by
  have PA := Lib.hid pa
  have PB := Lib.hid pb
  have HA := Lib.hid ha
  have HB := Lib.hid hb
  have HX := Lib.hid hx
  have OA := Lib.hid oa
  obtain ⟨xa, xc, rfl⟩ := hx.slice
  obtain ⟨a, ca, rfl, hlz, k1⟩ := ha.any
  obtain ⟨b, o, y, rfl, hbl, c1, i1⟩ := k1 k hk
  have I1 := Lib.hid i1
  obtain ⟨ya, yc, rfl⟩ := i1.slice
  have hs4 := (oa.sim hk).le
  have hvl : xs.length ≤ (vsL za).length := by rw [hm.2.1]; exact Nat.le_refl _
  have hv48 := vsL_le oa
  have hsv : ∀ v ∈ za[k], 0 ≤ told (vsL za) xs v := fun v hv => (hm.bd oa (sim_ver oa (List.getElem_mem hk) hv)).1
  have hat : fndI (imgL (told (vsL za) xs) za[k]) zb 0 = N := by rw [← hN]; unfold atI; simp [List.getD, hk]
  have HAT := Lib.hid hat
  have HIM : Hid (ImgIs (told (vsL za) xs) za[k] (imgL (told (vsL za) xs) za[k]) true) := .inl ⟨rfl, hsv, rfl⟩
  have hil : (imgL (told (vsL za) xs) za[k]).length ≤ 1048576 := by have := imgL_len (told (vsL za) xs) za[k]; omega
  generalize imgL (told (vsL za) xs) za[k] = yy at HIM HAT hil
  have q1 := pa.2
  have k0 : 0 ≤ (k : Int) := by omega
  have k2 : (k : Int) < (za.length : Int) := by omega
  generalize za[k] = s at I1 HIM hs4 c1
  generalize s.length = sn at I1 c1
  have hlw := pa.1
  clear k1 i1 hat hsv hm hN ha hb hx pb oa
  go_enter Tryd.func43, Tryd.ntmps43
  go_wp2_with fail
  go_region_held3 (fun w' => w'.cell? ⟨La, 0, none⟩ = some (.slice (some ⟨b, o, none⟩) za.length ca) ∧ w'.cell? ⟨b, o + k, none⟩ = some (.slice ya sn yc)) (go_keep)
    (first
      | (go_at_call 48; refine (l08Ver_any (by first | exact PA.out | exact PA.out.drew) (by first | exact HA.out | exact HA.out.drew) OA.out).mono ?_; rintro e wx ⟨vx, rfl, hox, hbx'⟩; have hbx : Below w.heap.size w wx := (by first | exact hbx' | exact undrew hbx'); have HVX := Lib.hid (hox.at (by omega)); obtain ⟨_, _, rfl⟩ := hox.slice; have := (PA.out.on hbx).2; have := (hbx.cell (p := ⟨b, o + k, none⟩) hbl).trans c1)
      | (go_at_call 72; refine (l08Image_any (by first | exact HVX.out | exact HVX.out.drew) (by first | exact HX.out.on hbx | exact (HX.out.on hbx).drew) hvl (by first | exact I1.out.on hbx | exact (I1.out.on hbx).drew) hs4 HIM.out).mono ?_; rintro e w5 ⟨v5, rfl, ho5, hb5'⟩; have hb50 : Below wx.heap.size wx w5 := (by first | exact hb5' | exact undrew hb5'); have hb5 : Below w.heap.size w w5 := hbx.trans (hb50.mono hbx.size); have HY5 := Lib.hid (ho5.at hil); obtain ⟨_, _, rfl⟩ := ho5.slice; have := (PA.out.on hb5).2; have := (hb5.cell (p := ⟨b, o + k, none⟩) hbl).trans c1))
  have HB5 := Lib.hid hb5
  clear hb5 hb5' hb50 hbx hbx' ho5 hox HVX
  go_wp2_with fail
  refine (l05Find_is (PB.out.on HB5.out) (HB.out.on HB5.out) HY5.out HAT.out).mono ?_
  rintro e w6 ⟨rfl, n6, rfl⟩
  go_wp2_with fail
  go_ret
  exact ⟨rfl, below_drewX HB5.out n6⟩
def SimIs (za zb : List (List Int)) (xs : List Int) (k n c : Int) : Prop :=
  (c ≠ 0 ∧ c ≠ 2 ∧ MapC za zb xs c ∧ n = 0) ∨ (MapC za zb xs 0 ∧ ¬ (0 ≤ k ∧ k ≤ (za.length : Int) - 1) ∧ n = 0 ∧ c = 2) ∨ (MapC za zb xs 0 ∧ (∃ i : Nat, i < za.length ∧ k = (i : Int) ∧ n = atI za zb xs i) ∧ c = 0)
theorem sim_has (za zb : List (List Int)) (xs : List Int) (k : Int) : ∃ n c, SimIs za zb xs k n c := by
  obtain ⟨c, hc⟩ := mapC_has za zb xs
  by_cases h : c = 0
  · subst h
    by_cases h1 : 0 ≤ k ∧ k ≤ (za.length : Int) - 1
    · exact ⟨_, _, .inr (.inr ⟨hc, ⟨k.toNat, by omega, by omega, rfl⟩, rfl⟩)⟩
    · exact ⟨_, _, .inr (.inl ⟨hc, h1, rfl, rfl⟩)⟩
  · refine ⟨0, c, .inl ⟨h, ?_, hc, rfl⟩⟩
    rcases hc with ⟨_, h⟩ | ⟨_, _, _, h⟩ | ⟨_, _, _, h⟩ <;> omega
theorem atI_at {za zb : List (List Int)} {xs : List Int} {i : Nat} (h : MapC za zb xs 0) (hi : i < za.length) : ∃ j : Nat, ∃ hj : j < zb.length, atI za zb xs i = (j : Int) ∧ zb[j] = imgL (told (vsL za) xs) za[i] := by
  obtain ⟨oa, ob, hm⟩ := mapC_zero h
  obtain ⟨j, hj, e1, e2⟩ := fndI_yes (i := 0) (hm.img oa (List.getElem_mem hi))
  refine ⟨j, hj, ?_, e2⟩
  unfold atI
  simp only [List.getD_eq_getElem?_getD, List.getElem?_eq_getElem hi, Option.getD_some, e1]
  omega
set_option maxRecDepth 100000 in
set_option maxHeartbeats 6400000 in
theorem specSI_is {u v x : Value} {za zb : List (List Int)} {xs : List Int} {k n c : Int} {w : World} (hu : RowsQ w u za) (hv : RowsQ w v zb) (hx : IntsAt w x xs) (h : SimIs za zb xs k n c) :
    Calls Tryd.prog 17 #[.agg #[u], .agg #[v], x, .int .i64 k] w fun e w' => e = .returned (.tuple #[.int .i64 n, .int .i64 c]) ∧ Below w.heap.size w w' := by
  have HU := Lib.hid hu
  have HV := Lib.hid hv
  have HX := Lib.hid hx
  have HH := Lib.hid h
  obtain ⟨a, ca, rfl⟩ := hu.rows.slice
  obtain ⟨b, cb, rfl⟩ := hv.rows.slice
  obtain ⟨xa, xc, rfl⟩ := hx.slice
  have P0 : Hid (PtC ((w.alloc (.cells #[.slice a za.length ca] 28)).alloc (.cells #[.slice b zb.length cb] 28)) w.heap.size (.slice a za.length ca)) := PtC.new1 w _ 28 _
  have P1 : Hid (PtC ((w.alloc (.cells #[.slice a za.length ca] 28)).alloc (.cells #[.slice b zb.length cb] 28)) (w.heap.size + 1) (.slice b zb.length cb)) := by
    have h := PtC.new (w.alloc (.cells #[.slice a za.length ca] 28)) (.slice b zb.length cb) 28
    rw [World.size_alloc] at h
    exact h
  have B0 : Hid (Below w.heap.size w ((w.alloc (.cells #[.slice a za.length ca] 28)).alloc (.cells #[.slice b zb.length cb] 28))) := al1 (al1 (Below.refl _ _) _) _
  have hS0 : w.heap.size + 2 ≤ ((w.alloc (.cells #[.slice a za.length ca] 28)).alloc (.cells #[.slice b zb.length cb] 28)).heap.size := by simp
  have hbu := HU.out.on B0.out
  have hbv := HV.out.on B0.out
  have hbx := HX.out.on B0.out
  have HBU := Lib.hid hbu
  have HBV := Lib.hid hbv
  have HBX := Lib.hid hbx
  clear hu hv hx hbu hbv hbx
  have hl48 : MapC za zb xs 0 → za.length ≤ 48 := fun h => (mapC_zero h).1.2
  rcases h with ⟨h0, _, h, rfl⟩ | ⟨h, hr, rfl, rfl⟩ | ⟨h, ⟨i, hi, rfl, rfl⟩, rfl⟩
  · have HC := Lib.hid h
    have e0 : (c == 0) = false := by simpa using h0
    have e1 : (c != 0) = true := by simpa using h0
    clear h h0 HH hl48
    go_enter Tryd.func17, Tryd.ntmps17
    go_wp2_with (go_at_call 41; refine Hid.out ?_)
    refine Lib.hid ?_
    generalize ((w.alloc (.cells #[.slice a za.length ca] 28)).alloc (.cells #[.slice b zb.length cb] 28)) = W0 at P0 P1 B0 HBU HBV HBX hS0 ⊢
    refine (l08Ask_is P0.out HBU.out P1.out HBV.out HBX.out HC.out).mono ?_
    rintro e w1 ⟨rfl, hb1⟩
    have HB1 := Lib.hid (B0.out.trans (hb1.mono B0.out.size))
    have P01 := Lib.hid (P0.out.on hb1)
    have P11 := Lib.hid (P1.out.on hb1)
    have HU1 := Lib.hid (HBU.out.on hb1)
    have HV1 := Lib.hid (HBV.out.on hb1)
    have HX1 := Lib.hid (HBX.out.on hb1)
    have p0 := P01.out.2
    clear hb1
    go_wp2_with fail
    go_ret2
    exact ⟨rfl, HB1.out⟩
  · have HC := Lib.hid h
    have h48 := hl48 h
    have hin : inB k 0 ((za.length : Int) - 1) = false := inB_no (by omega)
    clear h hr HH hl48
    go_enter Tryd.func17, Tryd.ntmps17
    go_wp2_with (go_at_call 41; refine Hid.out ?_)
    refine Lib.hid ?_
    generalize ((w.alloc (.cells #[.slice a za.length ca] 28)).alloc (.cells #[.slice b zb.length cb] 28)) = W0 at P0 P1 B0 HBU HBV HBX hS0 ⊢
    refine (l08Ask_is P0.out HBU.out P1.out HBV.out HBX.out HC.out).mono ?_
    rintro e w1 ⟨rfl, hb1⟩
    have HB1 := Lib.hid (B0.out.trans (hb1.mono B0.out.size))
    have P01 := Lib.hid (P0.out.on hb1)
    have P11 := Lib.hid (P1.out.on hb1)
    have HU1 := Lib.hid (HBU.out.on hb1)
    have HV1 := Lib.hid (HBV.out.on hb1)
    have HX1 := Lib.hid (HBX.out.on hb1)
    have p0 := P01.out.2
    clear hb1
    go_wp2_with (go_at_call 42; refine (l00In_is _ hin).mono ?_; rintro e w3 ⟨rfl, rfl⟩)
    go_ret2
    exact ⟨rfl, HB1.out⟩
  · have HC := Lib.hid h
    have h48 := hl48 h
    have hin : inB (i : Int) 0 ((za.length : Int) - 1) = true := inB_yes (by omega) (by omega)
    have HMP := Lib.hid (mapC_zero h)
    have HI := Lib.hid hi
    obtain ⟨N, hN⟩ : ∃ N, atI za zb xs i = N := ⟨_, rfl⟩
    have HN := Lib.hid hN
    rw [hN]
    clear h HH hl48 hN hi
    go_enter Tryd.func17, Tryd.ntmps17
    go_wp2_with (go_at_call 41; refine Hid.out ?_)
    refine Lib.hid ?_
    generalize ((w.alloc (.cells #[.slice a za.length ca] 28)).alloc (.cells #[.slice b zb.length cb] 28)) = W0 at P0 P1 B0 HBU HBV HBX hS0 ⊢
    refine (l08Ask_is P0.out HBU.out P1.out HBV.out HBX.out HC.out).mono ?_
    rintro e w1 ⟨rfl, hb1⟩
    have HB1 := Lib.hid (B0.out.trans (hb1.mono B0.out.size))
    have P01 := Lib.hid (P0.out.on hb1)
    have P11 := Lib.hid (P1.out.on hb1)
    have HU1 := Lib.hid (HBU.out.on hb1)
    have HV1 := Lib.hid (HBV.out.on hb1)
    have HX1 := Lib.hid (HBX.out.on hb1)
    have p0 := P01.out.2
    clear hb1
    go_wp2_with (go_at_call 42; refine (l00In_is _ hin).mono ?_; rintro e w3 ⟨rfl, rfl⟩)
    refine (l08At_is P01.out HU1.out.rows P11.out HV1.out.rows HX1.out HMP.out.1 HMP.out.2.2 HI.out HN.out).mono ?_
    rintro e w5 ⟨rfl, hb5⟩
    go_wp2_with fail
    go_ret2
    exact ⟨rfl, HB1.out.trans (hb5.mono HB1.out.size)⟩
end Go.Proofs.YtibdcejglkhcfaaDoor
