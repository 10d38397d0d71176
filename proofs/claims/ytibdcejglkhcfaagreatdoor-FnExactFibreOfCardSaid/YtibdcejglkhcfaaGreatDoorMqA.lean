/-
  FibreOf of the model.
-/
import Derived.Test.YtibdcejglkhcfaaGreatDoorPV
namespace Go.Proofs.YtibdcejglkhcfaaGreatDoor
open Go.RowKit Go.Maps
set_option linter.unusedVariables false
set_option linter.unusedSimpArgs false

/-- The simplices below k whose image is the simplex m. -/
def fibK (za zb : List (List Int)) (xs : List Int) (m : Int) (k : Nat) : List Int := ((List.range k).filter fun (i : Nat) => decide (atI za zb xs i = m)).map fun (i : Nat) => (i : Int)
theorem fibK_yes {za zb : List (List Int)} {xs : List Int} {m : Int} {k : Nat} (h : atI za zb xs k = m) : fibK za zb xs m (k + 1) = fibK za zb xs m k ++ [(k : Int)] := by
  simp [fibK, List.range_succ, List.filter_append, h]
theorem fibK_no {za zb : List (List Int)} {xs : List Int} {m : Int} {k : Nat} (h : atI za zb xs k ≠ m) : fibK za zb xs m (k + 1) = fibK za zb xs m k := by
  simp [fibK, List.range_succ, List.filter_append, h]
theorem fibK_len (za zb : List (List Int)) (xs : List Int) (m : Int) (k : Nat) : (fibK za zb xs m k).length ≤ k := by
  unfold fibK
  rw [List.length_map]
  exact Nat.le_trans (List.length_filter_le _ _) (by simp)
def FibIs (za zb : List (List Int)) (xs : List Int) (m : Int) (yy : List Int) (c : Int) : Prop :=
  (c ≠ 0 ∧ c ≠ 2 ∧ MapC za zb xs c ∧ yy = []) ∨ (MapC za zb xs 0 ∧ ¬ (0 ≤ m ∧ m ≤ (zb.length : Int) - 1) ∧ yy = [] ∧ c = 2) ∨ (MapC za zb xs 0 ∧ (0 ≤ m ∧ m ≤ (zb.length : Int) - 1) ∧ yy = fibK za zb xs m za.length ∧ c = 0)
theorem fib_has (za zb : List (List Int)) (xs : List Int) (m : Int) : ∃ yy c, FibIs za zb xs m yy c := by
  obtain ⟨c, hc⟩ := mapC_has za zb xs
  by_cases h : c = 0
  · subst h
    by_cases h1 : 0 ≤ m ∧ m ≤ (zb.length : Int) - 1
    · exact ⟨_, _, .inr (.inr ⟨hc, h1, rfl, rfl⟩)⟩
    · exact ⟨_, _, .inr (.inl ⟨hc, h1, rfl, rfl⟩)⟩
  · refine ⟨_, c, .inl ⟨h, ?_, hc, rfl⟩⟩
    rcases hc with ⟨_, h⟩ | ⟨_, _, _, h⟩ | ⟨_, _, _, h⟩ <;> omega
theorem FibIs.fit {za zb : List (List Int)} {xs : List Int} {m : Int} {yy : List Int} {c : Int} (h : FibIs za zb xs m yy c) : yy.length ≤ 1048576 := by
  rcases h with ⟨_, _, _, rfl⟩ | ⟨_, _, rfl, _⟩ | ⟨hm, _, rfl, _⟩
  · simp
  · simp
  · have h1 := fibK_len za zb xs m za.length
    have h2 := (mapC_zero hm).1.2
    omega
set_option maxRecDepth 100000 in
set_option maxHeartbeats 6400000 in
theorem specFib_is {u v x : Value} {za zb : List (List Int)} {xs : List Int} {m c : Int} {yy : List Int} {w : World} (hu : RowsQ w u za) (hv : RowsQ w v zb) (hx : IntsAt w x xs) (h : FibIs za zb xs m yy c) :
    Calls Tryz.prog 18 #[.agg #[u], .agg #[v], x, .int .i64 m] w fun e w' => RetSI5 yy c w e w' := by
  have HU := Lib.hid hu
  have HV := Lib.hid hv
  have HX := Lib.hid hx
  have HH := Lib.hid h
  obtain ⟨a, ca, rfl⟩ := hu.rows.slice
  obtain ⟨b, cb, rfl⟩ := hv.rows.slice
  obtain ⟨xa, xc, rfl⟩ := hx.slice
  have P0 : Hid (PtC ((w.alloc (.cells #[.slice a za.length ca] 27)).alloc (.cells #[.slice b zb.length cb] 27)) w.heap.size (.slice a za.length ca)) := PtC.new1 w _ 27 _
  have P1 : Hid (PtC ((w.alloc (.cells #[.slice a za.length ca] 27)).alloc (.cells #[.slice b zb.length cb] 27)) (w.heap.size + 1) (.slice b zb.length cb)) := by
    have h := PtC.new (w.alloc (.cells #[.slice a za.length ca] 27)) (.slice b zb.length cb) 27
    rw [World.size_alloc] at h
    exact h
  have B0 : Hid (Below w.heap.size w ((w.alloc (.cells #[.slice a za.length ca] 27)).alloc (.cells #[.slice b zb.length cb] 27))) := al1 (al1 (Below.refl _ _) _) _
  have hS0 : w.heap.size + 2 ≤ ((w.alloc (.cells #[.slice a za.length ca] 27)).alloc (.cells #[.slice b zb.length cb] 27)).heap.size := by simp
  have hbu := HU.out.on B0.out
  have hbv := HV.out.on B0.out
  have hbx := HX.out.on B0.out
  have HBU := Lib.hid hbu
  have HBV := Lib.hid hbv
  have HBX := Lib.hid hbx
  clear hu hv hx hbu hbv hbx
  have hl48 : MapC za zb xs 0 → za.length ≤ 48 ∧ zb.length ≤ 48 := fun h => ⟨(mapC_zero h).1.2, (mapC_zero h).2.1.2⟩
  rcases h with ⟨h0, _, h, rfl⟩ | ⟨h, hr, rfl, rfl⟩ | ⟨h, hr, rfl, rfl⟩
  · have HC := Lib.hid h
    have e0 : (c == 0) = false := by simpa using h0
    have e1 : (c != 0) = true := by simpa using h0
    clear h h0 HH hl48
    go_enter Tryz.func18, Tryz.ntmps18
    go_wp2_with (go_at_call 34; refine Hid.out ?_)
    refine Lib.hid ?_
    generalize ((w.alloc (.cells #[.slice a za.length ca] 27)).alloc (.cells #[.slice b zb.length cb] 27)) = W0 at P0 P1 B0 HBU HBV HBX hS0 ⊢
    refine (l08Ask_is P0.out HBU.out P1.out HBV.out HBX.out HC.out).mono ?_
    rintro e w1 ⟨rfl, hb1⟩
    have HB1 := Lib.hid (B0.out.trans (hb1.mono B0.out.size))
    have P01 := Lib.hid (P0.out.on hb1)
    have P11 := Lib.hid (P1.out.on hb1)
    have HU1 := Lib.hid (HBU.out.on hb1)
    have HV1 := Lib.hid (HBV.out.on hb1)
    have HX1 := Lib.hid (HBX.out.on hb1)
    have p0 := P11.out.2
    clear hb1
    go_wp2_with fail
    go_ret2
    exact ⟨_, rfl, World.ownsRow_nil _ _ _ _, HB1.out⟩
  · have HC := Lib.hid h
    obtain ⟨h48, h48b⟩ := hl48 h
    have hin : inB m 0 ((zb.length : Int) - 1) = false := inB_no (by omega)
    clear h hr HH hl48
    go_enter Tryz.func18, Tryz.ntmps18
    go_wp2_with (go_at_call 34; refine Hid.out ?_)
    refine Lib.hid ?_
    generalize ((w.alloc (.cells #[.slice a za.length ca] 27)).alloc (.cells #[.slice b zb.length cb] 27)) = W0 at P0 P1 B0 HBU HBV HBX hS0 ⊢
    refine (l08Ask_is P0.out HBU.out P1.out HBV.out HBX.out HC.out).mono ?_
    rintro e w1 ⟨rfl, hb1⟩
    have HB1 := Lib.hid (B0.out.trans (hb1.mono B0.out.size))
    have P01 := Lib.hid (P0.out.on hb1)
    have P11 := Lib.hid (P1.out.on hb1)
    have HU1 := Lib.hid (HBU.out.on hb1)
    have HV1 := Lib.hid (HBV.out.on hb1)
    have HX1 := Lib.hid (HBX.out.on hb1)
    have p0 := P11.out.2
    clear hb1
    go_wp2_with (go_at_call 45; refine (l00In_is _ hin).mono ?_; rintro e w3 ⟨rfl, rfl⟩)
    go_ret2
    exact ⟨_, rfl, World.ownsRow_nil _ _ _ _, HB1.out⟩
  · have HC := Lib.hid h
    obtain ⟨h48, h48b⟩ := hl48 h
    have hin : inB m 0 ((zb.length : Int) - 1) = true := inB_yes hr.1 hr.2
    have HMP := Lib.hid (mapC_zero h)
    clear h hr HH hl48
    go_enter Tryz.func18, Tryz.ntmps18
    go_wp2_with (go_at_call 34; refine Hid.out ?_)
    refine Lib.hid ?_
    generalize ((w.alloc (.cells #[.slice a za.length ca] 27)).alloc (.cells #[.slice b zb.length cb] 27)) = W0 at P0 P1 B0 HBU HBV HBX hS0 ⊢
    refine (l08Ask_is P0.out HBU.out P1.out HBV.out HBX.out HC.out).mono ?_
    rintro e w1 ⟨rfl, hb1⟩
    have HB1 := Lib.hid (B0.out.trans (hb1.mono B0.out.size))
    have P01 := Lib.hid (P0.out.on hb1)
    have P11 := Lib.hid (P1.out.on hb1)
    have HU1 := Lib.hid (HBU.out.on hb1)
    have HV1 := Lib.hid (HBV.out.on hb1)
    have HX1 := Lib.hid (HBX.out.on hb1)
    have p0 := P11.out.2
    clear hb1
    obtain ⟨i0, hi0, iz0, iz1, iz2⟩ := info_parts info2
    have hm : OwnI w1.heap.size (w1.alloc (.cells #[] 2)) (.slice (some ⟨w1.heap.size, 0, none⟩) 0 0) [] := World.ownsRow_made (base := w1.heap.size) (e := 2) (size := 1) w1 #[] 0 (Nat.le_refl _) (Nat.zero_le _) rfl
    have HM : Hid (OwnI w1.heap.size (w1.alloc (.cells #[] 2)) (.slice (some ⟨w1.heap.size, 0, none⟩) 0 0) (fibK za zb xs m 0)) := hm
    have AL : Hid (Below w1.heap.size w1 (w1.alloc (.cells #[] 2))) := (Below.refl _ w1).alloc (Nat.le_refl _) _
    clear hm
    go_wp2_with (go_at_call 45; refine (l00In_is _ hin).mono ?_; rintro e w3 ⟨rfl, rfl⟩)
    go_loopw [11, 12] (fun sv si wr => ∃ (k : Nat), k ≤ za.length ∧ si = .int .i64 (k : Int) ∧ Hid (OwnI w1.heap.size wr sv (fibK za zb xs m k)) ∧ Hid (Below w1.heap.size w1 wr)) (fun _ si _ => za.length - (intOf si).toNat)
    case atStart => exact ⟨0, Nat.zero_le _, rfl, HM, AL⟩
    case round =>
      clear HM AL
      obtain ⟨k, hk, rfl, HY, HB⟩ := hrel
      have hs := HB.out.size
      have k0 : 0 ≤ (k : Int) := by omega
      have pa := (P01.out.on HB.out).2
      by_cases hlt : k < za.length
      · have k1 : (k : Int) < (za.length : Int) := by omega
        have hkl := fibK_len za zb xs m k
        obtain ⟨N, hN⟩ : ∃ N, atI za zb xs k = N := ⟨_, rfl⟩
        have HN := Lib.hid hN
        obtain ⟨y, hyl⟩ : ∃ y, (fibK za zb xs m k).length = y := ⟨_, rfl⟩
        obtain ⟨oa, oc, rfl⟩ := HY.out.slice
        have hrow : wr.ownsRow w1.heap.size 2 1 (.slice oa y oc) y (iv (fibK za zb xs m k)) := by
          have h := HY.out.out
          rw [hyl] at h; exact h
        have HROW := Lib.hid hrow
        rw [hyl] at hkl HY ⊢
        by_cases he : N = m
        · have HF := Lib.hid (fibK_yes (k := k) (hN.trans he))
          have e0 : (N == m) = true := by simpa using he
          clear hN he hrow
          go_wp2_with fail
          refine (l08At_is (P01.out.on HB.out) (HU1.out.on HB.out).rows (P11.out.on HB.out) (HV1.out.on HB.out).rows (HX1.out.on HB.out) HMP.out.1 HMP.out.2.2 hlt HN.out).mono ?_
          rintro e w5 ⟨rfl, hb5⟩
          have HR5 := Lib.hid (HY.out.on hb5)
          have hs5 := hb5.size
          have hrow5 : w5.ownsRow w1.heap.size 2 1 (.slice oa y oc) y (iv (fibK za zb xs m k)) := by
            have h := (HR5.out).out
            rw [hyl] at h; exact h
          have HROW5 := Lib.hid hrow5
          have HB5 := Lib.hid (HB.out.trans (hb5.mono hs))
          clear hrow5 hb5
          go_wp2_with (at_builtin; refine wpList_append_own _ rfl _ _ 25 rfl w1.heap.size 2 i0 (.int .i64 0) 1 8 Tryz.underlying25 hi0 iz0 iz1 iz2 rfl (by decide) _ _ _ rfl (HROW5.out.alloc (.cells #[.int .i64 (k : Int)] 2)) ⟨w5.heap.size, 0, none⟩ 1 1 [.int .i64 (k : Int)] rfl rfl (row_oneS _ _ _ _ (by first | rfl | simp)) (by first | rfl | (intro u hu; simp at hu; subst hu; rfl)) (by unfold maxLen; omega) (by omega) (by first | omega | (simp; omega)) ?_; intro v2 w10 hown3 hgrow _)
          have HO2 : Hid (OwnI w1.heap.size w10 v2 (fibK za zb xs m (k + 1))) := by
            show OwnI _ _ _ _
            rw [HF.out]; exact pushU (by rw [hyl]; exact hown3)
          have HB2 := Lib.hid (below_pushU HB5.out (Nat.le_refl _) (by first | omega | (simp; omega)) HR5.out hgrow)
          go_roundw
          case rel => exact ⟨k + 1, by omega, by go_num, HO2, HB2⟩
          case measure => simp [intOf]; omega
        · have HF := Lib.hid (fibK_no (k := k) (fun h => he (hN.symm.trans h)))
          have e0 : (N == m) = false := by simpa using he
          clear hN he hrow
          go_wp2_with fail
          refine (l08At_is (P01.out.on HB.out) (HU1.out.on HB.out).rows (P11.out.on HB.out) (HV1.out.on HB.out).rows (HX1.out.on HB.out) HMP.out.1 HMP.out.2.2 hlt HN.out).mono ?_
          rintro e w5 ⟨rfl, hb5⟩
          have HR5 : Hid (OwnI w1.heap.size w5 (.slice oa y oc) (fibK za zb xs m (k + 1))) := by
            show OwnI _ _ _ _
            rw [HF.out]; exact HY.out.on hb5
          have HB5 := Lib.hid (HB.out.trans (hb5.mono hs))
          clear hb5
          go_wp2_with fail
          go_roundw
          case rel => exact ⟨k + 1, by omega, by go_num, HR5, HB5⟩
          case measure => simp [intOf]; omega
      · obtain rfl : k = za.length := by omega
        go_wp2_with fail
        go_ret2
        exact ⟨_, rfl, OwnI.mono HY.out HB1.out.size, HB1.out.trans (HB.out.mono HB1.out.size)⟩
end Go.Proofs.YtibdcejglkhcfaaGreatDoor
