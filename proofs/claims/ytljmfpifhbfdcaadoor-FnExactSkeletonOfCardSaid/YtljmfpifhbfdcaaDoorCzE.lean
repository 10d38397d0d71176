/-
  LinkOf of the model and of the program.
-/
import Derived.Test.YtljmfpifhbfdcaaDoorCzD
namespace Go.Proofs.YtljmfpifhbfdcaaDoor
open Go.RowKit
set_option linter.unusedVariables false
set_option linter.unusedSimpArgs false

set_option maxRecDepth 100000 in
set_option maxHeartbeats 12800000 in
theorem specLnk_is {u : Value} {zz : List (List Int)} {k : Int} {yy : List (List Int)} {c : Int} {w : World} (hu : RowsQ w u zz) (h : LnkIs zz k yy c) :
    Calls Tryd.prog 39 #[.agg #[u], .int .i64 k] w fun e w' => RetClo yy c w e w' := by
  obtain ⟨i0, hi0, iz0, iz1, iz2⟩ := info_parts info2
  have HU := Lib.hid hu
  obtain ⟨a, cp, rfl, hl, k1⟩ := hu
  have K1 := Lib.hid k1
  have hW1 : Below w.heap.size w ((w.alloc (.cells #[.slice a zz.length cp] 27)).alloc (.cells #[.slice none 0 0] 27)) := al1 ((Below.refl _ w).alloc (Nat.le_refl _) _) _
  have hP1 : PtC ((w.alloc (.cells #[.slice a zz.length cp] 27)).alloc (.cells #[.slice none 0 0] 27)) w.heap.size (.slice a zz.length cp) := PtC.new1 w _ _ _
  have hR1 := ResC.new (w.alloc (.cells #[.slice a zz.length cp] 27))
  rw [World.size_alloc] at hR1
  have hU1 := HU.out.on hW1
  obtain ⟨LR, hLR⟩ : ∃ LR, w.heap.size + 1 = LR := ⟨_, rfl⟩
  rw [hLR] at hR1
  have hlr : w.heap.size < LR := by omega
  have HLR := Lib.hid hLR
  clear k1 hLR
  rcases h with ⟨ho, rfl, rfl⟩ | ⟨ho, hd, rfl, rfl⟩ | ⟨ho, ⟨i, hi, rfl, rfl⟩, rfl⟩
  · go_enter Tryd.func39, Tryd.ntmps39
    go_wp2_with fail
    rw [HLR.out]
    generalize (w.alloc (.cells #[.slice a zz.length cp] 27)).alloc (.cells #[.slice none 0 0] 27) = W1 at hW1 hP1 hR1 hU1 ⊢
    have AL := Lib.hid hW1
    have P1 := Lib.hid hP1
    have R1 := Lib.hid hR1
    have U1 := Lib.hid hU1
    clear hW1 hP1 hR1 hU1
    refine (l05Ask_is (k := k) P1.out U1.out (.inl ⟨ho, rfl⟩)).mono ?_
    rintro e w2 ⟨rfl, hb2⟩
    obtain ⟨⟨_, r2⟩, z2⟩ := R1.out.on hb2
    have HB2 := Lib.hid (AL.out.trans (hb2.mono AL.out.size))
    clear hb2
    go_wp2_with fail
    refine bodyPost_ret (v := .tuple #[.agg #[.slice none 0 0], .int .i64 1]) (by simp [results, Tryd.results39, go_sem, r2]) rfl ⟨_, rfl, OwnRI.nul _ _, HB2.out.setCell (p := ⟨LR, 0, none⟩) (Nat.le_of_lt hlr) _⟩
  · go_enter Tryd.func39, Tryd.ntmps39
    go_wp2_with fail
    rw [HLR.out]
    generalize (w.alloc (.cells #[.slice a zz.length cp] 27)).alloc (.cells #[.slice none 0 0] 27) = W1 at hW1 hP1 hR1 hU1 ⊢
    have AL := Lib.hid hW1
    have P1 := Lib.hid hP1
    have R1 := Lib.hid hR1
    have U1 := Lib.hid hU1
    clear hW1 hP1 hR1 hU1
    refine (l05Ask_is (k := k) P1.out U1.out (.inr (.inl ⟨ho, hd, rfl⟩))).mono ?_
    rintro e w2 ⟨rfl, hb2⟩
    obtain ⟨⟨_, r2⟩, z2⟩ := R1.out.on hb2
    have HB2 := Lib.hid (AL.out.trans (hb2.mono AL.out.size))
    clear hb2
    go_wp2_with fail
    refine bodyPost_ret (v := .tuple #[.agg #[.slice none 0 0], .int .i64 2]) (by simp [results, Tryd.results39, go_sem, r2]) rfl ⟨_, rfl, OwnRI.nul _ _, HB2.out.setCell (p := ⟨LR, 0, none⟩) (Nat.le_of_lt hlr) _⟩
  · have HO := Lib.hid ho
    have hsk := ho.sim hi
    have hii : ∃ s, zz[i] = s := ⟨_, rfl⟩
    obtain ⟨b, o, x, rfl, hb, c1', i1'⟩ := K1.out i hi
    have hz : Hid (zz[i] ∈ zz) := List.getElem_mem hi
    obtain ⟨s, hs⟩ := hii
    rw [hs] at hsk hz i1' ⊢
    have HS := Lib.hid hsk
    have C1 := Lib.hid c1'
    have I1 := Lib.hid i1'.1
    clear c1' i1' hsk hs
    go_enter Tryd.func39, Tryd.ntmps39
    go_wp2_with fail
    rw [HLR.out]
    generalize (w.alloc (.cells #[.slice (some ⟨b, o, none⟩) zz.length cp] 27)).alloc (.cells #[.slice none 0 0] 27) = W1 at hW1 hP1 hR1 hU1 ⊢
    have AL := Lib.hid hW1
    have P1 := Lib.hid hP1
    have R1 := Lib.hid hR1
    have U1 := Lib.hid hU1
    clear hW1 hP1 hR1 hU1
    refine (l05Ask_is (k := (i : Int)) P1.out U1.out (.inr (.inr ⟨ho, by omega, rfl⟩))).mono ?_
    rintro e w2 ⟨rfl, hb2⟩
    have HB2 := Lib.hid (AL.out.trans (hb2.mono AL.out.size))
    have P2 := Lib.hid (P1.out.on hb2)
    have R2 := Lib.hid (R1.out.on hb2)
    have U2 := Lib.hid (U1.out.on hb2)
    have I2 := Lib.hid (I1.out.on HB2.out)
    have c2 := (HB2.out.cell (p := ⟨b, o + i, none⟩) hb).trans C1.out
    have q2 := P2.out.2
    have j0 : 0 ≤ (i : Int) := by omega
    have j1 : (i : Int) < (zz.length : Int) := by omega
    obtain ⟨xa, xc, rfl⟩ := I2.out.slice
    clear hb2 ho
    go_wp2_with fail
    have hC3 := CpS.fresh w2
    have hA3 : Below w2.heap.size w2 ((w2.alloc (.cells #[] 38)).alloc (.cells #[.slice (some ⟨w2.heap.size, 0, none⟩) 0 0] 27)) := al1 ((Below.refl _ w2).alloc (Nat.le_refl _) _) _
    obtain ⟨cb, hcb⟩ : ∃ cb, w2.heap.size + 1 = cb := ⟨_, rfl⟩
    rw [hcb] at hC3 ⊢
    have hlc : LR < w2.heap.size := R2.out.1.1
    have hwc : w2.heap.size < cb := by omega
    generalize (w2.alloc (.cells #[] 38)).alloc (.cells #[.slice (some ⟨w2.heap.size, 0, none⟩) 0 0] 27) = W3 at hC3 hA3 ⊢
    have HC3 := Lib.hid hC3
    have HA3 := Lib.hid hA3
    have hcw : cb < W3.heap.size := by obtain ⟨g, cap, L, p, _⟩ := hC3; exact p.1
    clear hC3 hA3 hcb q2 c2
    refine (l05Star_any (P2.out.on HA3.out) (U2.out.on HA3.out).rows (I2.out.on HA3.out) HO.out).mono ?_
    rintro e w4 ⟨v4, rfl, ho4, hb4⟩
    obtain ⟨sa, sc, rfl⟩ := ho4.slice
    have HC4 := Lib.hid (HC3.out.on hb4)
    have HA4 := Lib.hid (HA3.out.trans (hb4.mono HA3.out.size))
    have HO4 := Lib.hid ho4
    have hn4 := HO4.out.notAt (cb := cb) hcw
    have HSL := Lib.hid (staK_len zz s zz.length)
    have HG : Hid (∀ k (h : k < (staK zz s zz.length).length), ∃ j : Nat, ∃ h' : j < zz.length, (staK zz s zz.length)[k] = (j : Int) ∧ difI zz s (staK zz s zz.length)[k] = difL zz[j] s) := fun k h => sta_get h
    have HSUB : Hid (∀ k (h : k < (staK zz s zz.length).length), difI zz s (staK zz s zz.length)[k] ≠ [] → Sim (difI zz s (staK zz s zz.length)[k])) := fun k h h0 => by
      obtain ⟨j, h', _, e⟩ := sta_get h
      rw [e] at h0 ⊢
      exact (HO.out.sim h').face (dif_face h0)
    have HEND : Hid (∀ L : List (List Int), Cpx L → (∀ y, y ∈ L ↔ Fac (rests zz s (staK zz s zz.length)) y) → L = lnkL zz s) := fun L h1 h2 => cloL_is (rests_sim HO.out) h1.ord h2
    have h48 := HO.out.2
    have HNX := Lib.hid (fun (is : List Int) k (h : k < is.length) (h0 : difI zz s is[k] ≠ []) => rests_yes (zz := zz) (s := s) h h0)
    have HNO := Lib.hid (fun (is : List Int) k (h : k < is.length) (h0 : difI zz s is[k] = []) => rests_no (zz := zz) (s := s) h h0)
    generalize staK zz s zz.length = st at HO4 hn4 HSL HG HSUB HEND
    clear ho4 hb4 HC3 HA3
    go_wp2_with fail
    go_loopw [10] (fun si wr => ∃ (k : Nat) (yy : List (List Int)), k ≤ st.length ∧ si = .int .i64 (k : Int) ∧ Hid (CpS w2.heap.size cb wr yy) ∧ Hid (Cpx yy) ∧ Hid (∀ y, y ∈ yy ↔ Fac (rests zz s (st.take k)) y) ∧ Hid (w4.grownBy wr (some cb)) ∧ Hid (Below w2.heap.size w2 wr)) (fun i _ => st.length - (intOf i).toNat)
    case atStart => exact ⟨0, [], Nat.zero_le _, rfl, HC4, Cpx.nil, fun y => by simp [Fac, rests], gr_refl _ _, HA4⟩
    case round =>
      clear HC4 HA4
      obtain ⟨k, yy, hk, rfl, HC, HX, HM, HGR, HB⟩ := hrel
      obtain ⟨wo, rfl⟩ : ∃ wo, wo = wr := ⟨_, rfl⟩
      have hsl := HSL.out
      have i0' : 0 ≤ (k : Int) := by omega
      have hsz := HB.out.size
      by_cases hlt : k < st.length
      · have i1 : (k : Int) < (st.length : Int) := by omega
        obtain ⟨j, hj, hjk, hdj⟩ := HG.out k hlt
        obtain ⟨gs, gc, e, hgB, hgl, ks⟩ := (HO4.out.gr HGR.out hn4).at1 (by omega)
        injection e with e1 e2 e3
        subst e1 e3
        have s1 := ks k hlt
        have hsub := HSUB.out k hlt
        have hyes := HNX.out st k hlt
        have hno := HNO.out st k hlt
        rw [hjk] at s1
        rw [hdj] at hsub hyes hno
        have HHY := Lib.hid hyes
        have HHN := Lib.hid hno
        have HHS := Lib.hid hsub
        have p1 := (P2.out.on HB.out).2
        obtain ⟨b2, o2, y, e, hb2, c1', i1'⟩ := K1.out j hj
        injection e with e; injection e with e1 e2; subst e1 e2
        have HBW := Lib.hid (HB2.out.trans (HB.out.mono HB2.out.size))
        have c1 := (HBW.out.cell (p := ⟨b, o + j, none⟩) hb).trans c1'
        have I1 := Lib.hid (i1'.1.on HBW.out)
        obtain ⟨tb, tq, tc, rfl, htb, kt⟩ := I1.out.at1 (HO.out.sim hj).pos
        have KT := Lib.hid kt
        have hcr : cb < wo.heap.size := by obtain ⟨g, cap, L, p, _⟩ := HC.out; exact p.1
        have m0 : 0 ≤ (j : Int) := by omega
        have m1 : (j : Int) < (zz.length : Int) := by omega
        have hst := HO.out.sim hj
        have ht4 := hst.le
        obtain ⟨t, htt⟩ : ∃ t, zz[j] = t := ⟨_, rfl⟩
        rw [htt] at c1 I1 HHY HHN HHS ht4 KT
        clear kt c1' i1' ks hjk hdj hsub hyes hno hst htt
        go_wp2_with fail
        have hA5 : Below wo.heap.size wo (wo.alloc (.cells #[] 2)) := (Below.refl _ wo).alloc (Nat.le_refl _) _
        have hM5 : OwnI wo.heap.size (wo.alloc (.cells #[] 2)) (.slice (some ⟨wo.heap.size, 0, none⟩) 0 0) [] := World.ownsRow_made (base := wo.heap.size) (e := 2) (size := 1) wo #[] 0 (Nat.le_refl _) (Nat.zero_le _) rfl
        have p5 := ((P2.out.on HB.out).on hA5).2
        have s5 := (hA5.cell (p := ⟨gs, k, none⟩) hgl).trans s1
        have c5 := (hA5.cell (p := ⟨b, o + j, none⟩) (Nat.lt_of_lt_of_le hb HBW.out.size)).trans c1
        generalize wo.alloc (.cells #[] 2) = W5 at hA5 hM5 p5 s5 c5 ⊢
        have HA5 := Lib.hid hA5
        have HM5 := Lib.hid hM5
        clear hA5 hM5 p1 s1 c1
        go_quiet (fail)
        go_wp2_with fail
        clear p5 s5 c5
        have I5 := Lib.hid (I1.out.on HA5.out)
        go_loopw [11, 13] (fun sv si w6 => ∃ (m : Nat), m ≤ t.length ∧ si = .int .i64 (m : Int) ∧ Hid (OwnI wo.heap.size w6 sv (difL (t.take m) s)) ∧ Hid (Below wo.heap.size wo w6)) (fun _ i _ => t.length - (intOf i).toNat)
        case atStart => exact ⟨0, Nat.zero_le _, rfl, by first | exact HM5 | (show OwnI _ _ _ _; exact HM5.out), by first | exact HA5 | exact drew_below HA5.out | exact below_drewX HA5.out _⟩
        case round =>
          clear HM5 HA5
          obtain ⟨m, hm, rfl, HY, HB6⟩ := hrel
          have n0 : 0 ≤ (m : Int) := by omega
          have hs6 := HB6.out.size
          by_cases hlm : m < t.length
          · have n1 : (m : Int) < (t.length : Int) := by omega
            have t6 : wr.cell? ⟨tb, tq + m, none⟩ = some (.int .i64 t[m]) := (HB6.out.cell (p := ⟨tb, tq + m, none⟩) htb).trans (KT.out m hlm)
            have X6 := Lib.hid (I2.out.on (HB.out.trans (HB6.out.mono hsz)))
            by_cases hin : t[m] ∈ s
            · have HD := Lib.hid (difL_snoc_in hlm hin)
              have HE : Hid (decide (t[m] ∈ s) = true) := decide_eq_true hin
              generalize t[m] = v at t6 HE
              clear hin
              go_wp2_with (go_at_call 75; refine (l05Has_is X6.out HE.out).mono ?_; rintro e w' ⟨rfl, rfl⟩)
              go_roundw
              case rel => exact ⟨m + 1, by omega, by go_num, by rw [HD.out]; exact HY, HB6⟩
              case measure => simp [intOf]; omega
            · have HD := Lib.hid (difL_snoc_out hlm hin)
              have HE : Hid (decide (t[m] ∈ s) = false) := decide_eq_false hin
              have hdl := difL_len (t.take m) s
              rw [List.length_take] at hdl
              generalize t[m] = v at t6 HE HD
              clear hin
              go_wp2_with fail
              refine (l05Has_is X6.out HE.out).mono ?_
              rintro e w5 ⟨rfl, rfl⟩
              go_wp2_with (at_builtin; refine wpList_append_own _ rfl _ _ 38 rfl wo.heap.size 2 i0 (.int .i64 0) 1 8 Tryd.underlying38 hi0 iz0 iz1 iz2 rfl (by decide) _ _ _ rfl (World.ownsRow.alloc HY.out.out (.cells #[.int .i64 v] 2)) ⟨wr.heap.size, 0, none⟩ 1 1 [.int .i64 v] rfl rfl (row_oneS _ _ _ _ (by first | rfl | simp)) (by first | rfl | (intro u hu; simp at hu; subst hu; rfl)) (by unfold maxLen; omega) (by omega) (by first | omega | (simp; omega)) ?_; intro v2 w10 hown3 hgrow _)
              have HO2 : Hid (OwnI wo.heap.size w10 v2 (difL (t.take (m + 1)) s)) := by
                show OwnI _ _ _ _
                rw [HD.out]; exact pushU hown3
              have HB2 := Lib.hid (below_pushU HB6.out (Nat.le_refl _) (by first | omega | (simp; omega)) HY.out hgrow)
              clear hown3 hgrow
              go_wp2_with fail
              go_roundw
              case rel => exact ⟨m + 1, by omega, by go_num, HO2, HB2⟩
              case measure => simp [intOf]; omega
          · obtain rfl : m = t.length := by omega
            rw [List.take_length] at HY
            obtain ⟨ra, rc, rfl⟩ := HY.out.slice
            have hdl := difL_len t s
            have HBB := Lib.hid (HB.out.trans (HB6.out.mono hsz))
            by_cases h0 : difL t s = []
            · have l0 : ¬ (0 : Int) < ((difL t s).length : Int) := by rw [h0]; simp
              have HN := Lib.hid (HHN.out h0)
              generalize (difL t s).length = n at l0
              clear h0 hdl
              go_wp2_with fail
              go_roundw
              case rel => exact ⟨k + 1, yy, by omega, by go_num, HC.out.on HB6.out, HX, by rw [HN.out]; exact HM, gr_on HGR.out HB6.out, HBB⟩
              case measure => simp [intOf]; omega
            · have l0 : (0 : Int) < ((difL t s).length : Int) := by have := List.length_pos_iff.2 h0; omega
              have HN := Lib.hid (HHY.out h0)
              have hpu := l05Put_any (difL t s).length w2.heap.size cb yy (difL t s) (.slice ra (difL t s).length rc) wr (Nat.le_refl _) (HHS.out h0) (HC.out.on HB6.out) HX.out (fun w' hg => ((HY.out.gr hg (HY.out.notAt hcr)).atC (by omega)))
              clear h0
              generalize difL t s = d at l0 HN hpu hdl
              go_wp2_with fail
              refine hpu.mono ?_
              rintro e w7 ⟨rfl, hg7, yy', hc7, hx7, hm7⟩
              have HC7 := Lib.hid hc7
              have HX7 := Lib.hid hx7
              have HG7 := Lib.hid (gr_tr (gr_on HGR.out HB6.out) hg7)
              have HB7 := Lib.hid (below_gr HBB.out hg7 HBB.out.size (by omega))
              have HM7 : Hid (∀ y, y ∈ yy' ↔ Fac (rests zz s (st.take (k + 1))) y) := fun y => by
                rw [hm7 y, HM.out y, HN.out]
                unfold Fac
                constructor
                · rintro (⟨r, hr, h⟩ | h)
                  · exact ⟨r, by rw [List.mem_append]; exact .inl hr, h⟩
                  · exact ⟨d, by simp, h⟩
                · rintro ⟨r, hr, h⟩
                  rw [List.mem_append, List.mem_singleton] at hr
                  rcases hr with hr | rfl
                  · exact .inl ⟨r, hr, h⟩
                  · exact .inr h
              clear hpu hc7 hx7 hm7 hg7
              go_wp2_with fail
              go_roundw
              case rel => exact ⟨k + 1, yy', by omega, by go_num, HC7, HX7, HM7, HG7, HB7⟩
              case measure => simp [intOf]; omega
      · obtain rfl : k = st.length := by omega
        have hm := HM.out
        rw [List.take_length] at hm
        have HY := Lib.hid (HEND.out yy HX.out hm)
        obtain ⟨g, cap, L, q1, o⟩ := HC.out.cell
        obtain ⟨⟨_, r1⟩, z1⟩ := R2.out.on HB.out
        have HOO := Lib.hid o
        clear hm o
        go_wp2_with fail
        refine bodyPost_ret (v := .tuple #[.agg #[.slice (some ⟨g, 0, none⟩) yy.length cap], .int .i64 0]) (by simp [results, Tryd.results39, go_sem, r1]) rfl ⟨_, rfl, ?_, (HB2.out.trans (HB.out.mono HB2.out.size)).setCell (p := ⟨LR, 0, none⟩) (Nat.le_of_lt hlr) _⟩
        rw [← HY.out]
        exact OwnRI.mono (OwnRI.setOut (B := w2.heap.size) ⟨L, HOO.out⟩ hlc _) HB2.out.size
end Go.Proofs.YtljmfpifhbfdcaaDoor
