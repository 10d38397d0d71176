/-
  FibreOf of the program.
-/
import Derived.Test.YtibdcejglkhcfaaGreatDoorMqA
import Derived.Deep.RegionHeld3
namespace Go.Proofs.YtibdcejglkhcfaaGreatDoor
open Go.RowKit Go.Maps
set_option linter.unusedVariables false
set_option linter.unusedSimpArgs false

set_option maxRecDepth 100000 in
set_option maxHeartbeats 3200000 in
theorem fibHas_is {g dp m0 : Nat} {f : Nat → Int} {v : Value} {t : List Int} {w : World} (hf : ∀ j, j < 10 → 0 ≤ f j ∧ f j ≤ 9) (ht : Sim t) (hv : IntsAt w v t) (ha : Arr w g f) (hd : w.cell? ⟨dp, 0, none⟩ = some (.int .u16 (m0 : Int))) (hTz : Tz w) :
    Calls Tryz.prog 49 #[v, .pointer (some ⟨g, 0, none⟩), .pointer (some ⟨dp, 0, none⟩)] w fun e w' => e = .returned (.bool (decide (mkI f (maskOf t) = m0))) ∧ Below w.heap.size w w' := by
  obtain ⟨tb, to_, tc, rfl, htb, k1⟩ := hv.at1 ht.pos
  have hset := fun n => setOf_some (c := tc) (w := w.drewN n) (by have := ht.le; omega) ht.bd k1
  have hset0 := setOf_some (c := tc) (w := w) (by have := ht.le; omega) ht.bd k1
  have hset1 := setOf_some (c := tc) (w := w.drew) (by have := ht.le; omega) ht.bd k1
  have HSETD := Lib.hid hset1
  have HSET := Lib.hid hset0
  have HF := Lib.hid hf
  have HA := Lib.hid ha
  have TZ := Lib.hid hTz
  have hmk := maskOf_lt t (fun v hv => ht.bd v hv)
  have hgl : g < w.heap.size := World.block_lt_of_cell? _ ⟨g, 0, none⟩ (ha 0 (by omega)).1
  have hdl : dp < w.heap.size := World.block_lt_of_cell? _ ⟨dp, 0, none⟩ hd
  have hrg := ha.range
  have hund := Tryz.underlying60
  have hinf := vm_size f
  have hbeq : (((mkI f (maskOf t) : Nat) : Int) == (m0 : Int)) = decide (mkI f (maskOf t) = m0) := by
    rw [Bool.eq_iff_iff, beq_iff_eq, decide_eq_true_eq]; omega
  have HIM : Hid (∀ w1, Tz w1 → Calls Tryz.prog 41 #[vmV f, .int .u16 (maskOf t : Int)] w1 fun e w' => e = .returned (.int .u16 (mkI f (maskOf t) : Int)) ∧ Below w1.heap.size w1 w') := fun w1 h => imageOf_any hf hmk h
  generalize mkI f (maskOf t) = y at hbeq HIM
  generalize maskOf t = mt at HSET HSETD hmk HIM
  generalize decide (y = m0) = T at hbeq
  generalize t.length = tl at HSET HSETD
  clear k1 hset hset0 hset1 hf ha hTz hv ht
  go_enter Tryz.func49, Tryz.ntmps49
  go_wp2_with fail
  go_region_held3 (fun w' => w'.rangeAt g 0 (arrL f) ∧ w'.cell? ⟨dp, 0, none⟩ = some (.int .u16 (m0 : Int))) (go_keep)
    (first
      | (go_at_call 47; refine HSETD.out.mono ?_; rintro e wy ⟨rfl, rfl⟩)
      | (go_at_call 47; refine HSET.out.mono ?_; rintro e wy ⟨rfl, rfl⟩)
      | (go_at_call 41; refine (HIM.out _ (by first | exact TZ.out | exact TZ.out.drew 1)).mono ?_; rintro e w7 ⟨rfl, hb7'⟩; have hb7 : Below w.heap.size w w7 := (by first | exact hb7' | exact undrew hb7'); have := (HA.out.on hgl hb7).range; have := (hb7.cell (p := ⟨dp, 0, none⟩) hdl).trans hd))
  have HB7 := Lib.hid hb7
  clear hb7 hb7'
  go_wp2_with fail
  go_ret
  exact ⟨rfl, HB7.out⟩
def selK (zz : List (List Int)) (p : List Int → Bool) (k : Nat) : List Int := ((List.range k).filter fun (i : Nat) => p (zz.getD i [])).map fun (i : Nat) => (i : Int)
theorem selK_yes {zz : List (List Int)} {p : List Int → Bool} {k : Nat} (hk : k < zz.length) (h : p zz[k] = true) : selK zz p (k + 1) = selK zz p k ++ [(k : Int)] := by
  simp [selK, List.range_succ, List.filter_append, List.getD, hk, h]
theorem selK_no {zz : List (List Int)} {p : List Int → Bool} {k : Nat} (hk : k < zz.length) (h : p zz[k] = false) : selK zz p (k + 1) = selK zz p k := by
  simp [selK, List.range_succ, List.filter_append, List.getD, hk, h]
theorem selK_len (zz : List (List Int)) (p : List Int → Bool) (k : Nat) : (selK zz p k).length ≤ k := by
  unfold selK
  rw [List.length_map]
  exact Nat.le_trans (List.length_filter_le _ _) (by simp)
set_option maxRecDepth 100000 in
set_option maxHeartbeats 3200000 in
theorem selFib_any {g dp : Nat} {u : Value} {zz : List (List Int)} {p : List Int → Bool} {w : World} (hu : RowsAt w u zz) (ho : OkC zz)
    (hF : ∀ (w1 : World) (v : Value) (t : List Int), t ∈ zz → Below w.heap.size w w1 → IntsAt w1 v t → Calls Tryz.prog 49 #[v, .pointer (some ⟨g, 0, none⟩), .pointer (some ⟨dp, 0, none⟩)] w1 fun e w' => e = .returned (.bool (p t)) ∧ Below w1.heap.size w1 w') :
    Calls Tryz.prog 48 #[.agg #[u], .func (.func 49) #[] #[.pointer (some ⟨g, 0, none⟩), .pointer (some ⟨dp, 0, none⟩)]] w fun e w' => RetN (selK zz p zz.length) w e w' := by
  obtain ⟨i0, hi, iz0, iz1, iz2⟩ := info_parts info2
  obtain ⟨a, cp, rfl, hl, k1⟩ := hu.any
  have K1 := Lib.hid k1
  have h48 := ho.2
  have HFN := Lib.hid hF
  have AL : Hid (Below w.heap.size w (w.alloc (.cells #[.slice a zz.length cp] 27))) := (Below.refl _ w).alloc (Nat.le_refl _) _
  clear k1 hu ho hF
  go_enter Tryz.func48, Tryz.ntmps48
  go_wp2_with fail
  go_loopw [5, 11] (fun sv si wr => ∃ (k : Nat), k ≤ zz.length ∧ si = .int .i64 (k : Int) ∧ Hid (OwnI w.heap.size wr sv (selK zz p k)) ∧ Hid (Below w.heap.size w wr)) (fun _ i _ => zz.length - (intOf i).toNat)
  case atStart => exact ⟨0, Nat.zero_le _, rfl, World.ownsRow_nil _ _ _ _, AL⟩
  case round =>
    clear AL
    obtain ⟨k, hk, rfl, HY, HB⟩ := hrel
    have hs := HB.out.size
    by_cases hlt : k < zz.length
    · obtain ⟨b, o, u, rfl, hb, c1', i1'⟩ := K1.out k hlt
      have c1 : wr.cell? ⟨b, o + k, none⟩ = some u := (HB.out.cell (p := ⟨b, o + k, none⟩) hb).trans c1'
      have hh := HFN.out wr u zz[k] (List.getElem_mem hlt) HB.out (i1'.on HB.out)
      have i0' : 0 ≤ (k : Int) := by omega
      have i1 : (k : Int) < (zz.length : Int) := by omega
      have hkl := selK_len zz p k
      obtain ⟨y, hyl⟩ : ∃ y, (selK zz p k).length = y := ⟨_, rfl⟩
      obtain ⟨oa, oc, rfl⟩ := HY.out.slice
      rw [hyl] at hkl HY ⊢
      have hIU := i1'.on HB.out
      obtain ⟨ua, uc, rfl⟩ := hIU.slice
      cases he : p zz[k] with
      | true =>
        have HN := Lib.hid (selK_yes hlt he)
        rw [he] at hh
        have HH := Lib.hid hh
        generalize zz[k].length = n at c1 HH
        clear he hh hIU i1' c1'
        go_wp2_with fail
        refine HH.out.mono ?_
        rintro e w5 ⟨rfl, hb5⟩
        have HR5 := Lib.hid (HY.out.on hb5)
        have hrow5 : w5.ownsRow w.heap.size 2 1 (.slice oa y oc) y (iv (selK zz p k)) := by
          have h := (HR5.out).out
          rw [hyl] at h; exact h
        have HROW5 := Lib.hid hrow5
        have HB5 := Lib.hid (HB.out.trans (hb5.mono hs))
        have hs5 := HB5.out.size
        clear hrow5 hb5
        go_wp2_with (at_builtin; refine wpList_append_own _ rfl _ _ 25 rfl w.heap.size 2 i0 (.int .i64 0) 1 8 Tryz.underlying25 hi iz0 iz1 iz2 rfl (by decide) _ _ _ rfl (HROW5.out.alloc (.cells #[.int .i64 (k : Int)] 2)) ⟨w5.heap.size, 0, none⟩ 1 1 [.int .i64 (k : Int)] rfl rfl (row_oneS _ _ _ _ (by first | rfl | simp)) (by first | rfl | (intro u hu; simp at hu; subst hu; rfl)) (by unfold maxLen; omega) (by omega) (by first | omega | (simp; omega)) ?_; intro v2 w10 hown3 hgrow _)
        have HO2 : Hid (OwnI w.heap.size w10 v2 (selK zz p (k + 1))) := by
          show OwnI _ _ _ _
          rw [HN.out]; exact pushU (by rw [hyl]; exact hown3)
        have HB2 := Lib.hid (below_pushU HB5.out (Nat.le_refl _) (by first | omega | (simp; omega)) HR5.out hgrow)
        go_roundw
        case rel => exact ⟨k + 1, by omega, by go_num, HO2, HB2⟩
        case measure => simp [intOf]; omega
      | false =>
        have HN := Lib.hid (selK_no hlt he)
        rw [he] at hh
        have HH := Lib.hid hh
        generalize zz[k].length = n at c1 HH
        clear he hh hIU i1' c1'
        go_wp2_with fail
        refine HH.out.mono ?_
        rintro e w5 ⟨rfl, hb5⟩
        have HR5 : Hid (OwnI w.heap.size w5 (.slice oa y oc) (selK zz p (k + 1))) := by
          show OwnI _ _ _ _
          rw [HN.out]; exact HY.out.on hb5
        have HB5 := Lib.hid (HB.out.trans (hb5.mono hs))
        clear hb5
        go_wp2_with fail
        go_roundw
        case rel => exact ⟨k + 1, by omega, by go_num, HR5, HB5⟩
        case measure => simp [intOf]; omega
    · obtain rfl : k = zz.length := by omega
      go_wp2_with fail
      go_ret
      exact ⟨_, rfl, HY.out, HB.out⟩
theorem fib_sel {za zb : List (List Int)} {xs : List Int} {j : Nat} (h : MapC za zb xs 0) (hj : j < zb.length) : fibK za zb xs (j : Int) za.length = selK za (fun t => decide (mkI (arF (vsL za) xs) (maskOf t) = maskOf zb[j])) za.length := by
  unfold fibK selK
  congr 1
  refine List.filter_congr fun i hi => ?_
  have hi' := List.mem_range.1 hi
  rw [List.getD_eq_getElem?_getD, List.getElem?_eq_getElem hi', Option.getD_some]
  obtain ⟨j', hj', e1, e2⟩ := atI_at h hi'
  rw [Bool.eq_iff_iff, decide_eq_true_eq, decide_eq_true_eq, map_img h (List.getElem_mem hi'), ← e2, e1]
  constructor
  · intro e
    have : j' = j := by omega
    subst this; rfl
  · intro e
    have := (mapC_zero h).2.1.1.minj hj' hj e
    rw [this]

set_option maxRecDepth 100000 in
set_option maxHeartbeats 6400000 in
theorem implFib_is {u v x : Value} {za zb : List (List Int)} {xs : List Int} {m c : Int} {yy : List Int} {w : World} (hu : RowsAt w u za) (hv : RowsAt w v zb) (hx : IntsAt w x xs) (h : FibIs za zb xs m yy c) (hTz : Tz w) :
    Calls Tryz.prog 19 #[.agg #[u], .agg #[v], x, .int .i64 m] w fun e w' => RetSI5 yy c w e w' := by
  have HU := Lib.hid hu
  have HV := Lib.hid hv
  have HX := Lib.hid hx
  have HH := Lib.hid h
  obtain ⟨a, ca, rfl⟩ := hu.slice
  obtain ⟨b, cb, rfl⟩ := hv.slice
  obtain ⟨xa, xc, rfl⟩ := hx.slice
  have P0 : Hid (PtC ((w.alloc (.cells #[.slice a za.length ca] 27)).alloc (.cells #[.slice b zb.length cb] 27)) w.heap.size (.slice a za.length ca)) := PtC.new1 w _ 27 _
  have P1 : Hid (PtC ((w.alloc (.cells #[.slice a za.length ca] 27)).alloc (.cells #[.slice b zb.length cb] 27)) (w.heap.size + 1) (.slice b zb.length cb)) := by
    have h := PtC.new (w.alloc (.cells #[.slice a za.length ca] 27)) (.slice b zb.length cb) 27
    rw [World.size_alloc] at h
    exact h
  have B0 : Hid (Below w.heap.size w ((w.alloc (.cells #[.slice a za.length ca] 27)).alloc (.cells #[.slice b zb.length cb] 27))) := al1 (al1 (Below.refl _ _) _) _
  have hS0 : w.heap.size + 2 ≤ ((w.alloc (.cells #[.slice a za.length ca] 27)).alloc (.cells #[.slice b zb.length cb] 27)).heap.size := by simp
  have hbu := HU.out.on B0.out
  have hbv := HV.out.on B0.out
  have hbx := HX.out.on B0.out
  have HBU := Lib.hid hbu
  have HBV := Lib.hid hbv
  have HBX := Lib.hid hbx
  have TZ := Lib.hid (hTz.on B0.out)
  clear hu hv hx hbu hbv hbx hTz
  rcases h with ⟨h0, _, h, rfl⟩ | ⟨h, hr, rfl, rfl⟩ | ⟨h, hr, rfl, rfl⟩
  · have HC := Lib.hid h
    have e1 : (c != 0) = true := by simpa using h0
    clear h h0 HH
    have p0 := P0.out.2
    have p1 := P1.out.2
    go_enter Tryz.func19, Tryz.ntmps19
    go_wp2_with fail
    clear p0 p1
    generalize ((w.alloc (.cells #[.slice a za.length ca] 27)).alloc (.cells #[.slice b zb.length cb] 27)) = W0 at P0 P1 B0 HBU HBV HBX hS0 TZ ⊢
    refine (mapOf_is HBU.out HBV.out HBX.out HC.out TZ.out).mono ?_
    rintro e w2 ⟨f, ⟨rfl, hb2⟩, hfz⟩
    have HFZ := Lib.hid hfz
    have HB2 := Lib.hid (B0.out.trans (hb2.mono B0.out.size))
    obtain ⟨cl, hcl⟩ : ∃ cl, arrL f = cl := ⟨_, rfl⟩
    have HVF : Hid (VarF w2 f cl) := by rw [← hcl]; exact varF w2 f
    have HBE : Hid (Below w.heap.size w ((w2.alloc (.cells #[.int .i64 0, .int .i64 0, .int .i64 0, .int .i64 0, .int .i64 0, .int .i64 0, .int .i64 0, .int .i64 0, .int .i64 0, .int .i64 0] 60)).setCells w2.heap.size 0 cl)) := HB2.out.trans (HVF.out.bl.mono HB2.out.size)
    have P03 := Lib.hid ((P0.out.on hb2).on HVF.out.bl)
    have P13 := Lib.hid ((P1.out.on hb2).on HVF.out.bl)
    have HU3 := Lib.hid ((HBU.out.on hb2).on HVF.out.bl)
    have HV3 := Lib.hid ((HBV.out.on hb2).on HVF.out.bl)
    have TZ3 := Lib.hid ((TZ.out.on hb2).on HVF.out.bl)
    have AR3 := Lib.hid HVF.out.ar
    have hs2 := hb2.size
    unfold vmV
    rw [hcl]
    clear hcl hb2 hfz P0 P1 HBU HBV HBX TZ
    go_wp2_with (refine wpList_store_mid rfl 60 (.tmp 10) (.tmp 19) rfl w2.heap.size 0 cl.toArray rfl rfl HVF.out.th HVF.out.i1 HVF.out.one ?_; refine Hid.out ?_)
    refine Lib.hid ?_
    try rw [show cl.toArray.toList = cl from rfl]
    have hgl : w2.heap.size < ((w2.alloc (.cells #[.int .i64 0, .int .i64 0, .int .i64 0, .int .i64 0, .int .i64 0, .int .i64 0, .int .i64 0, .int .i64 0, .int .i64 0, .int .i64 0] 60)).setCells w2.heap.size 0 cl).heap.size := World.block_lt_of_cell? _ ⟨w2.heap.size, 0, none⟩ (AR3.out 0 (by omega)).1
    generalize ((w2.alloc (.cells #[.int .i64 0, .int .i64 0, .int .i64 0, .int .i64 0, .int .i64 0, .int .i64 0, .int .i64 0, .int .i64 0, .int .i64 0, .int .i64 0] 60)).setCells w2.heap.size 0 cl) = w3 at HBE P03 P13 HU3 HV3 TZ3 AR3 hgl ⊢
    clear HVF
    go_wp2_with fail
    go_ret2
    exact ⟨_, rfl, World.ownsRow_nil _ _ _ _, HBE.out⟩
  · have HC := Lib.hid h
    have HASK : Hid (AskIs zb m 2) := .inr (.inl ⟨(mapC_zero h).2.1, hr, rfl⟩)
    clear h hr HH
    have p0 := P0.out.2
    have p1 := P1.out.2
    go_enter Tryz.func19, Tryz.ntmps19
    go_wp2_with fail
    clear p0 p1
    generalize ((w.alloc (.cells #[.slice a za.length ca] 27)).alloc (.cells #[.slice b zb.length cb] 27)) = W0 at P0 P1 B0 HBU HBV HBX hS0 TZ ⊢
    refine (mapOf_is HBU.out HBV.out HBX.out HC.out TZ.out).mono ?_
    rintro e w2 ⟨f, ⟨rfl, hb2⟩, hfz⟩
    have HFZ := Lib.hid hfz
    have HB2 := Lib.hid (B0.out.trans (hb2.mono B0.out.size))
    obtain ⟨cl, hcl⟩ : ∃ cl, arrL f = cl := ⟨_, rfl⟩
    have HVF : Hid (VarF w2 f cl) := by rw [← hcl]; exact varF w2 f
    have HBE : Hid (Below w.heap.size w ((w2.alloc (.cells #[.int .i64 0, .int .i64 0, .int .i64 0, .int .i64 0, .int .i64 0, .int .i64 0, .int .i64 0, .int .i64 0, .int .i64 0, .int .i64 0] 60)).setCells w2.heap.size 0 cl)) := HB2.out.trans (HVF.out.bl.mono HB2.out.size)
    have P03 := Lib.hid ((P0.out.on hb2).on HVF.out.bl)
    have P13 := Lib.hid ((P1.out.on hb2).on HVF.out.bl)
    have HU3 := Lib.hid ((HBU.out.on hb2).on HVF.out.bl)
    have HV3 := Lib.hid ((HBV.out.on hb2).on HVF.out.bl)
    have TZ3 := Lib.hid ((TZ.out.on hb2).on HVF.out.bl)
    have AR3 := Lib.hid HVF.out.ar
    have hs2 := hb2.size
    unfold vmV
    rw [hcl]
    clear hcl hb2 hfz P0 P1 HBU HBV HBX TZ
    go_wp2_with (refine wpList_store_mid rfl 60 (.tmp 10) (.tmp 19) rfl w2.heap.size 0 cl.toArray rfl rfl HVF.out.th HVF.out.i1 HVF.out.one ?_; refine Hid.out ?_)
    refine Lib.hid ?_
    try rw [show cl.toArray.toList = cl from rfl]
    have hgl : w2.heap.size < ((w2.alloc (.cells #[.int .i64 0, .int .i64 0, .int .i64 0, .int .i64 0, .int .i64 0, .int .i64 0, .int .i64 0, .int .i64 0, .int .i64 0, .int .i64 0] 60)).setCells w2.heap.size 0 cl).heap.size := World.block_lt_of_cell? _ ⟨w2.heap.size, 0, none⟩ (AR3.out 0 (by omega)).1
    generalize ((w2.alloc (.cells #[.int .i64 0, .int .i64 0, .int .i64 0, .int .i64 0, .int .i64 0, .int .i64 0, .int .i64 0, .int .i64 0, .int .i64 0, .int .i64 0] 60)).setCells w2.heap.size 0 cl) = w3 at HBE P03 P13 HU3 HV3 TZ3 AR3 hgl ⊢
    clear HVF
    have p1 := P13.out.2
    go_wp2_with fail
    refine (indexCode_is HV3.out HASK.out TZ3.out).mono ?_
    rintro e w4 ⟨rfl, hb4⟩
    go_wp2_with fail
    go_ret2
    exact ⟨_, rfl, World.ownsRow_nil _ _ _ _, HBE.out.trans (hb4.mono HBE.out.size)⟩
  · have HC := Lib.hid h
    obtain ⟨j, hj, rfl⟩ : ∃ j : Nat, j < zb.length ∧ m = (j : Int) := ⟨m.toNat, by omega, by omega⟩
    have HASK : Hid (AskIs zb (j : Int) 0) := .inr (.inr ⟨(mapC_zero h).2.1, hr, rfl⟩)
    have HFS := Lib.hid (fib_sel h hj)
    have HF9 := Lib.hid (map_bd h)
    have HOA := Lib.hid (mapC_zero h).1
    have HSB := Lib.hid ((mapC_zero h).2.1.sim hj)
    have h48b := (mapC_zero h).2.1.2
    clear h hr HH
    have p0 := P0.out.2
    have p1 := P1.out.2
    go_enter Tryz.func19, Tryz.ntmps19
    go_wp2_with fail
    clear p0 p1
    generalize ((w.alloc (.cells #[.slice a za.length ca] 27)).alloc (.cells #[.slice b zb.length cb] 27)) = W0 at P0 P1 B0 HBU HBV HBX hS0 TZ ⊢
    refine (mapOf_is HBU.out HBV.out HBX.out HC.out TZ.out).mono ?_
    rintro e w2 ⟨f, ⟨rfl, hb2⟩, hfz⟩
    have HFZ := Lib.hid hfz
    have HB2 := Lib.hid (B0.out.trans (hb2.mono B0.out.size))
    obtain ⟨cl, hcl⟩ : ∃ cl, arrL f = cl := ⟨_, rfl⟩
    have HVF : Hid (VarF w2 f cl) := by rw [← hcl]; exact varF w2 f
    have HBE : Hid (Below w.heap.size w ((w2.alloc (.cells #[.int .i64 0, .int .i64 0, .int .i64 0, .int .i64 0, .int .i64 0, .int .i64 0, .int .i64 0, .int .i64 0, .int .i64 0, .int .i64 0] 60)).setCells w2.heap.size 0 cl)) := HB2.out.trans (HVF.out.bl.mono HB2.out.size)
    have P03 := Lib.hid ((P0.out.on hb2).on HVF.out.bl)
    have P13 := Lib.hid ((P1.out.on hb2).on HVF.out.bl)
    have HU3 := Lib.hid ((HBU.out.on hb2).on HVF.out.bl)
    have HV3 := Lib.hid ((HBV.out.on hb2).on HVF.out.bl)
    have TZ3 := Lib.hid ((TZ.out.on hb2).on HVF.out.bl)
    have AR3 := Lib.hid HVF.out.ar
    have hs2 := hb2.size
    unfold vmV
    rw [hcl]
    clear hcl hb2 hfz P0 P1 HBU HBV HBX TZ
    go_wp2_with (refine wpList_store_mid rfl 60 (.tmp 10) (.tmp 19) rfl w2.heap.size 0 cl.toArray rfl rfl HVF.out.th HVF.out.i1 HVF.out.one ?_; refine Hid.out ?_)
    refine Lib.hid ?_
    try rw [show cl.toArray.toList = cl from rfl]
    have hgl : w2.heap.size < ((w2.alloc (.cells #[.int .i64 0, .int .i64 0, .int .i64 0, .int .i64 0, .int .i64 0, .int .i64 0, .int .i64 0, .int .i64 0, .int .i64 0, .int .i64 0] 60)).setCells w2.heap.size 0 cl).heap.size := World.block_lt_of_cell? _ ⟨w2.heap.size, 0, none⟩ (AR3.out 0 (by omega)).1
    generalize ((w2.alloc (.cells #[.int .i64 0, .int .i64 0, .int .i64 0, .int .i64 0, .int .i64 0, .int .i64 0, .int .i64 0, .int .i64 0, .int .i64 0, .int .i64 0] 60)).setCells w2.heap.size 0 cl) = w3 at HBE P03 P13 HU3 HV3 TZ3 AR3 hgl ⊢
    clear HVF
    have p1 := P13.out.2
    go_wp2_with fail
    refine (indexCode_is HV3.out HASK.out TZ3.out).mono ?_
    rintro e w4 ⟨rfl, hb4⟩
    have HB4 := Lib.hid (HBE.out.trans (hb4.mono HBE.out.size))
    have P04 := Lib.hid (P03.out.on hb4)
    have P14 := Lib.hid (P13.out.on hb4)
    have HU4 := Lib.hid (HU3.out.on hb4)
    have HV4 := Lib.hid (HV3.out.on hb4)
    have TZ4 := Lib.hid (TZ3.out.on hb4)
    obtain rfl : f = arF (vsL za) xs := HFZ.out (by first | trivial | rfl)
    have AR4 := Lib.hid (AR3.out.on hgl hb4)
    have hgl4 : w2.heap.size < w4.heap.size := Nat.lt_of_lt_of_le hgl hb4.size
    obtain ⟨ra, rca, e, hlz, k1⟩ := HV4.out.any
    injection e with e1 e2 e3
    subst e1 e3
    obtain ⟨rb, ro, y, rfl, hrb, c1, i1⟩ := k1 j hj
    have hsl := HSB.out.le
    obtain ⟨sb, so, sc, rfl, hsb, k1s⟩ := i1.at1 HSB.out.pos
    have HSET := Lib.hid (setOf_some (c := sc) (w := w4) (by omega) HSB.out.bd k1s)
    obtain ⟨sn, hsn⟩ : ∃ sn, zb[j].length = sn := ⟨_, rfl⟩
    have c1w : w4.cell? ⟨rb, ro + j, none⟩ = some (.slice (some ⟨sb, so, none⟩) sn sc) := by rw [← hsn]; exact c1
    rw [hsn] at HSET
    obtain ⟨m0, hm0⟩ : ∃ m0, maskOf zb[j] = m0 := ⟨_, rfl⟩
    rw [hm0] at HSET HFS
    have j0 : 0 ≤ (j : Int) := by omega
    have j1 : (j : Int) < (zb.length : Int) := by omega
    have p0 := P04.out.2
    have p1 := P14.out.2
    have HD5 : Hid ((w4.alloc (.cells #[.int .u16 (m0 : Int)] 68)).cell? ⟨w4.heap.size, 0, none⟩ = some (.int .u16 (m0 : Int))) := by show _ = _; rw [World.cell?_alloc_at _ _ _ _ rfl]; rfl
    have AL5 : Hid (Below w4.heap.size w4 (w4.alloc (.cells #[.int .u16 (m0 : Int)] 68))) := al1 (Below.refl _ _) _
    have p05 := (P04.out.on AL5.out).2
    clear hb4 k1 i1 k1s hsn hm0 c1 HU3 HV3 P03 P13 TZ3 AR3 HFZ HASK
    go_wp2_with (go_at_call 47; refine HSET.out.mono ?_; rintro e wy ⟨rfl, rfl⟩)
    have hl5 : w4.heap.size < (w4.alloc (.cells #[.int .u16 (m0 : Int)] 68)).heap.size := by simp
    refine (selFib_any (p := fun t => decide (mkI (arF (vsL za) xs) (maskOf t) = m0)) (HU4.out.on AL5.out) HOA.out (fun w1 v t ht hb hv => fibHas_is HF9.out (HOA.out.1.sim t ht) hv ((AR4.out.on hgl4 AL5.out).on (Nat.lt_of_lt_of_le hgl4 AL5.out.size) hb) ((hb.cell (p := ⟨w4.heap.size, 0, none⟩) hl5).trans HD5.out) ((TZ4.out.on AL5.out).on hb))).mono ?_
    rintro e w7 ⟨v7, rfl, ho7, hb7⟩
    have HB7 := Lib.hid ((HB4.out.trans (AL5.out.mono HB4.out.size)).trans (hb7.mono (Nat.le_trans HB4.out.size AL5.out.size)))
    have HO7 := Lib.hid ho7
    clear ho7 hb7
    go_wp2_with fail
    go_ret2
    exact ⟨_, rfl, by rw [HFS.out]; exact OwnI.mono HO7.out (Nat.le_trans HB4.out.size AL5.out.size), HB7.out⟩
end Go.Proofs.YtibdcejglkhcfaaGreatDoor
