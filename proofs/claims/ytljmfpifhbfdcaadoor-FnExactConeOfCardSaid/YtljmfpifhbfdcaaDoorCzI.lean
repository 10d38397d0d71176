/-
  ConeOf of the model.
-/
import Derived.Test.YtljmfpifhbfdcaaDoorCzH
namespace Go.Proofs.YtljmfpifhbfdcaaDoor
open Go.RowKit
set_option linter.unusedVariables false
set_option linter.unusedSimpArgs false

set_option maxRecDepth 100000 in
set_option maxHeartbeats 12800000 in
theorem specCon_is {u : Value} {zz : List (List Int)} {v : Int} {yy : List (List Int)} {c : Int} {w : World} (hu : RowsQ w u zz) (h : ConIs zz v yy c) :
    Calls Tryd.prog 43 #[.agg #[u], .int .i64 v] w fun e w' => RetClo yy c w e w' := by
  have HU := Lib.hid hu
  obtain ⟨a, cp, rfl, hl, k1⟩ := hu
  have K1 := Lib.hid k1
  have hW1 : Below w.heap.size w ((w.alloc (.cells #[.slice a zz.length cp] 27)).alloc (.cells #[.slice none 0 0] 27)) := al1 ((Below.refl _ w).alloc (Nat.le_refl _) _) _
  have hP1 : PtC ((w.alloc (.cells #[.slice a zz.length cp] 27)).alloc (.cells #[.slice none 0 0] 27)) w.heap.size (.slice a zz.length cp) := PtC.new1 w _ _ _
  have hR1 := ResC.new (w.alloc (.cells #[.slice a zz.length cp] 27))
  rw [World.size_alloc] at hR1
  have hU1 := HU.out.on hW1
  obtain ⟨LR, hLR⟩ : ∃ LR, w.heap.size + 1 = LR := ⟨_, rfl⟩
  rw [hLR] at hR1
  have hlr : w.heap.size < LR := by omega
  have HLR := Lib.hid hLR
  clear k1 hLR
  rcases h with ⟨ho, rfl, rfl⟩ | ⟨ho, hd, rfl, rfl⟩ | ⟨ho, hd, hz, rfl, rfl⟩ | ⟨ho, hd, hz, hR⟩
  · go_enter Tryd.func43, Tryd.ntmps43
    go_wp2_with fail
    rw [HLR.out]
    generalize (w.alloc (.cells #[.slice a zz.length cp] 27)).alloc (.cells #[.slice none 0 0] 27) = W1 at hW1 hP1 hR1 hU1 ⊢
    have AL := Lib.hid hW1
    have P1 := Lib.hid hP1
    have R1 := Lib.hid hR1
    have U1 := Lib.hid hU1
    clear hW1 hP1 hR1 hU1
    refine (l05Ok_is P1.out U1.out (.inr ⟨rfl, ho⟩)).mono ?_
    rintro e w2 ⟨rfl, hb2⟩
    obtain ⟨⟨_, r2⟩, z2⟩ := R1.out.on hb2
    have R2 := Lib.hid (R1.out.on hb2)
    have P2 := Lib.hid (P1.out.on hb2)
    have U2 := Lib.hid (U1.out.on hb2)
    have HB2 := Lib.hid (AL.out.trans (hb2.mono AL.out.size))
    clear hb2
    go_wp2_with fail
    refine bodyPost_ret (v := .tuple #[.agg #[.slice none 0 0], .int .i64 1]) (by simp [results, Tryd.results43, go_sem, r2]) rfl ⟨_, rfl, OwnRI.nul _ _, HB2.out.setCell (p := ⟨LR, 0, none⟩) (Nat.le_of_lt hlr) _⟩
  · have hin : inB v 0 9 = false := inB_no (by omega)
    go_enter Tryd.func43, Tryd.ntmps43
    go_wp2_with fail
    rw [HLR.out]
    generalize (w.alloc (.cells #[.slice a zz.length cp] 27)).alloc (.cells #[.slice none 0 0] 27) = W1 at hW1 hP1 hR1 hU1 ⊢
    have AL := Lib.hid hW1
    have P1 := Lib.hid hP1
    have R1 := Lib.hid hR1
    have U1 := Lib.hid hU1
    clear hW1 hP1 hR1 hU1
    refine (l05Ok_is P1.out U1.out (.inl ⟨rfl, ho⟩)).mono ?_
    rintro e w2 ⟨rfl, hb2⟩
    obtain ⟨⟨_, r2⟩, z2⟩ := R1.out.on hb2
    have R2 := Lib.hid (R1.out.on hb2)
    have P2 := Lib.hid (P1.out.on hb2)
    have U2 := Lib.hid (U1.out.on hb2)
    have HB2 := Lib.hid (AL.out.trans (hb2.mono AL.out.size))
    clear hb2
    go_wp2_with fail
    refine (l00In_is _ hin).mono ?_
    rintro e w3 ⟨rfl, rfl⟩
    go_wp2_with fail
    refine bodyPost_ret (v := .tuple #[.agg #[.slice none 0 0], .int .i64 2]) (by simp [results, Tryd.results43, go_sem, r2]) rfl ⟨_, rfl, OwnRI.nul _ _, HB2.out.setCell (p := ⟨LR, 0, none⟩) (Nat.le_of_lt hlr) _⟩
  · have hin : inB v 0 9 = true := inB_yes hd.1 hd.2
    obtain ⟨kf, _, hkf, _⟩ := fndI_yes (i := 0) hz
    have hge : fndI [v] zz 0 ≥ 0 := by omega
    clear hkf
    go_enter Tryd.func43, Tryd.ntmps43
    go_wp2_with fail
    rw [HLR.out]
    generalize (w.alloc (.cells #[.slice a zz.length cp] 27)).alloc (.cells #[.slice none 0 0] 27) = W1 at hW1 hP1 hR1 hU1 ⊢
    have AL := Lib.hid hW1
    have P1 := Lib.hid hP1
    have R1 := Lib.hid hR1
    have U1 := Lib.hid hU1
    clear hW1 hP1 hR1 hU1
    refine (l05Ok_is P1.out U1.out (.inl ⟨rfl, ho⟩)).mono ?_
    rintro e w2 ⟨rfl, hb2⟩
    obtain ⟨⟨_, r2⟩, z2⟩ := R1.out.on hb2
    have R2 := Lib.hid (R1.out.on hb2)
    have P2 := Lib.hid (P1.out.on hb2)
    have U2 := Lib.hid (U1.out.on hb2)
    have HB2 := Lib.hid (AL.out.trans (hb2.mono AL.out.size))
    clear hb2
    go_wp2_with fail
    refine (l00In_is _ hin).mono ?_
    rintro e w3 ⟨rfl, rfl⟩
    go_wp2_with fail
    have hb3 : Below w2.heap.size w2 (w2.alloc (.cells #[.int .i64 v] 2)) := (Below.refl _ w2).alloc (Nat.le_refl _) _
    refine (l05Find_is (P2.out.on hb3) (U2.out.on hb3).rows (ints_one w2 v _) rfl).mono ?_
    rintro e w4 ⟨rfl, n4, rfl⟩
    have hb4 := below_drewX hb3 n4
    have R4 := Lib.hid (R2.out.on hb4)
    have P4 := Lib.hid (P2.out.on hb4)
    have U4 := Lib.hid (U2.out.on hb4)
    have HB4 := Lib.hid (HB2.out.trans (hb4.mono HB2.out.size))
    generalize (w2.alloc (.cells #[.int .i64 v] 2)).drewN n4 = W4 at R4 P4 U4 HB4 ⊢
    clear r2 z2 hb3 hb4
    have hde : decide (fndI [v] zz 0 ≥ 0) = true := decide_eq_true hge
    obtain ⟨⟨_, r2⟩, z2⟩ := R4.out
    generalize fndI [v] zz 0 = fi at hge hde
    go_wp2_with fail
    refine bodyPost_ret (v := .tuple #[.agg #[.slice none 0 0], .int .i64 4]) (by simp [results, Tryd.results43, go_sem, r2]) rfl ⟨_, rfl, OwnRI.nul _ _, HB4.out.setCell (p := ⟨LR, 0, none⟩) (Nat.le_of_lt hlr) _⟩
  · have hin : inB v 0 9 = true := inB_yes hd.1 hd.2
    have hge : ¬ fndI [v] zz 0 ≥ 0 := by rw [fndI_no hz]; omega
    have HZ := Lib.hid hz
    have HD := Lib.hid hd
    have HRR := Lib.hid hR
    have h48 := ho.2
    clear hR hz hd
    go_enter Tryd.func43, Tryd.ntmps43
    go_wp2_with fail
    rw [HLR.out]
    generalize (w.alloc (.cells #[.slice a zz.length cp] 27)).alloc (.cells #[.slice none 0 0] 27) = W1 at hW1 hP1 hR1 hU1 ⊢
    have AL := Lib.hid hW1
    have P1 := Lib.hid hP1
    have R1 := Lib.hid hR1
    have U1 := Lib.hid hU1
    clear hW1 hP1 hR1 hU1
    refine (l05Ok_is P1.out U1.out (.inl ⟨rfl, ho⟩)).mono ?_
    rintro e w2 ⟨rfl, hb2⟩
    obtain ⟨⟨_, r2⟩, z2⟩ := R1.out.on hb2
    have R2 := Lib.hid (R1.out.on hb2)
    have P2 := Lib.hid (P1.out.on hb2)
    have U2 := Lib.hid (U1.out.on hb2)
    have HB2 := Lib.hid (AL.out.trans (hb2.mono AL.out.size))
    clear hb2
    go_wp2_with fail
    refine (l00In_is _ hin).mono ?_
    rintro e w3 ⟨rfl, rfl⟩
    go_wp2_with fail
    have hb3 : Below w2.heap.size w2 (w2.alloc (.cells #[.int .i64 v] 2)) := (Below.refl _ w2).alloc (Nat.le_refl _) _
    refine (l05Find_is (P2.out.on hb3) (U2.out.on hb3).rows (ints_one w2 v _) rfl).mono ?_
    rintro e w4 ⟨rfl, n4, rfl⟩
    have hb4 := below_drewX hb3 n4
    have R4 := Lib.hid (R2.out.on hb4)
    have P4 := Lib.hid (P2.out.on hb4)
    have U4 := Lib.hid (U2.out.on hb4)
    have HB4 := Lib.hid (HB2.out.trans (hb4.mono HB2.out.size))
    generalize (w2.alloc (.cells #[.int .i64 v] 2)).drewN n4 = W4 at R4 P4 U4 HB4 ⊢
    clear r2 z2 hb3 hb4
    have hde : decide (fndI [v] zz 0 ≥ 0) = false := decide_eq_false (by omega)
    have HO := Lib.hid ho
    clear ho
    generalize fndI [v] zz 0 = fi at hge hde
    go_wp2_with fail
    have hC3 := CpS.one W4 v
    have hA3 : Below W4.heap.size W4 (((W4.alloc (.cells #[.int .i64 v] 2)).alloc (.cells #[.slice (some ⟨W4.heap.size, 0, none⟩) 1 1] 38)).alloc (.cells #[.slice (some ⟨W4.heap.size + 1, 0, none⟩) 1 1] 27)) := al1 (al1 ((Below.refl _ W4).alloc (Nat.le_refl _) _) _) _
    obtain ⟨cb, hcb⟩ : ∃ cb, W4.heap.size + 2 = cb := ⟨_, rfl⟩
    rw [hcb] at hC3
    have HCB := Lib.hid hcb
    have hcb2 : W4.heap.size + 1 + 1 = cb := by omega
    (try rw [hcb])
    (try rw [hcb2])
    have hlc : LR < W4.heap.size := R4.out.1.1
    have hwc : W4.heap.size < cb := by omega
    generalize ((W4.alloc (.cells #[.int .i64 v] 2)).alloc (.cells #[.slice (some ⟨W4.heap.size, 0, none⟩) 1 1] 38)).alloc (.cells #[.slice (some ⟨W4.heap.size + 1, 0, none⟩) 1 1] 27) = W5 at hC3 hA3 ⊢
    have HC3 := Lib.hid hC3
    have HA3 := Lib.hid hA3
    clear hC3 hA3 hcb hcb2
    go_loopw [7] (fun si wr => ∃ (k : Nat) (xx : List (List Int)), k ≤ zz.length ∧ si = .int .i64 (k : Int) ∧ Hid (CpS W4.heap.size cb wr xx) ∧ Hid (Cpx xx) ∧ Hid (∀ y, y ∈ xx ↔ Fac (tipsR (zz.take k) v) y) ∧ Hid (∀ j (h : j < zz.length), j < k → zz[j].length ≤ 3) ∧ Hid (Below W4.heap.size W4 wr)) (fun i _ => zz.length - (intOf i).toNat)
    case atStart =>
      refine ⟨0, [[v]], Nat.zero_le _, rfl, HC3, ⟨by simp [Ord], fun z hz => by rw [List.mem_singleton] at hz; rw [hz]; exact one_sim HD.out, fun z hz x hx => ?_⟩, fun y => ?_, fun j _ hj => absurd hj (Nat.not_lt_zero j), HA3⟩
      · rw [List.mem_singleton] at hz; subst hz
        have hl := hx.2.length_le
        have hp := List.length_pos_iff.2 hx.1
        rw [hx.2.eq_of_length (by simp at hl ⊢; omega)]; simp
      · simp only [List.take_zero, tipsR, List.map_nil, Fac, List.mem_singleton, exists_eq_left]
        constructor
        · rintro rfl; exact ⟨by simp, List.Sublist.refl _⟩
        · intro hx
          have hl := hx.2.length_le
          have hp := List.length_pos_iff.2 hx.1
          exact hx.2.eq_of_length (by simp at hl ⊢; omega)
    case round =>
      clear HC3 HA3
      obtain ⟨k, xx, hk, rfl, HC, HX, HM, H3, HB⟩ := hrel
      have i0' : 0 ≤ (k : Int) := by omega
      have hsz := HB.out.size
      have p4 := (P4.out.on HB.out).2
      by_cases hlt : k < zz.length
      · have i1 : (k : Int) < (zz.length : Int) := by omega
        obtain ⟨b, o, y, rfl, hb, c1', i1'⟩ := K1.out k hlt
        have HBW := Lib.hid (HB4.out.trans (HB.out.mono HB4.out.size))
        have c1 := (HBW.out.cell (p := ⟨b, o + k, none⟩) hb).trans c1'
        have I1 := Lib.hid (i1'.on HBW.out)
        obtain ⟨ta, tc, rfl⟩ := I1.out.1.slice
        have hst := HO.out.sim hlt
        have HST := Lib.hid hst
        have hl4 := hst.le
        clear c1' i1' hst
        rcases Nat.lt_or_ge 3 zz[k].length with h3 | h3
        · have hyc : yy = [] ∧ c = 5 := by
            rcases HRR.out with ⟨_, r⟩ | ⟨h, _⟩
            · exact r
            · have := h _ (List.getElem_mem hlt); omega
          obtain ⟨rfl, rfl⟩ := hyc
          have l3 : (zz[k].length : Int) > 3 := by omega
          have l3' : (3 : Int) < (zz[k].length : Int) := by omega
          obtain ⟨⟨_, r2⟩, z2⟩ := R4.out.on HB.out
          generalize zz[k].length = n at c1 l3 l3'
          go_wp2_with fail
          refine bodyPost_ret (v := .tuple #[.agg #[.slice none 0 0], .int .i64 5]) (by simp [results, Tryd.results43, go_sem, r2]) rfl ⟨_, rfl, OwnRI.nul _ _, HBW.out.setCell (p := ⟨LR, 0, none⟩) (Nat.le_of_lt hlr) _⟩
        · have l3 : ¬ (zz[k].length : Int) > 3 := by omega
          have l3' : ¬ (3 : Int) < (zz[k].length : Int) := by omega
          have HN := Lib.hid (tipsR_next (v := v) hlt)
          have hcr : cb < wr.heap.size := by obtain ⟨g, cap, L, p, _⟩ := HC.out; exact p.1
          have H3' : Hid (∀ j (h : j < zz.length), j < k + 1 → zz[j].length ≤ 3) := fun j hj hjk => by
            by_cases e : j = k
            · subst e; exact h3
            · exact H3.out j hj (by omega)
          obtain ⟨t, htt⟩ : ∃ t, zz[k] = t := ⟨_, rfl⟩
          rw [htt] at c1 I1 HST hl4 h3 l3 l3' HN
          clear htt
          go_wp2_with fail
          refine (l00Own_any I1.out (by omega)).mono ?_
          rintro e w6 ⟨v6, rfl, ho6, hb6⟩
          obtain ⟨xa, xc, rfl⟩ := ho6.slice
          have I6 := Lib.hid (OwnI.at ho6 (by omega))
          have HB6 := Lib.hid hb6
          clear ho6 hb6
          go_wp2_with fail
          refine (l00Put_any (n := v) I6.out).mono ?_
          rintro e w7 ⟨v7, rfl, ho7, hb7⟩
          obtain ⟨za, zc, rfl⟩ := ho7.slice
          have HB7 := Lib.hid (HB6.out.trans (hb7.mono HB6.out.size))
          have HY7 := Lib.hid (OwnI.mono ho7 HB6.out.size)
          have hil := insL_len (n := v) t
          have hpu := l05Put_any (insL v t).length W4.heap.size cb xx (insL v t) (.slice za (insL v t).length zc) w7 (Nat.le_refl _) (ins_sim HST.out HD.out h3) (HC.out.on HB7.out) HX.out (fun w' hg => ((HY7.out.gr hg (HY7.out.notAt hcr)).atC (by omega)))
          generalize insL v t = d at hpu HN hil
          clear ho7 hb7
          go_wp2_with fail
          refine hpu.mono ?_
          rintro e w8 ⟨rfl, hg8, yy', hc8, hx8, hm8⟩
          have HC8 := Lib.hid hc8
          have HX8 := Lib.hid hx8
          have HBB := Lib.hid (HB.out.trans (HB7.out.mono hsz))
          have HB8 := Lib.hid (below_gr HBB.out hg8 HBB.out.size (by omega))
          have HM8 : Hid (∀ y, y ∈ yy' ↔ Fac (tipsR (zz.take (k + 1)) v) y) := fun y => by
            rw [hm8 y, HM.out y, HN.out]
            unfold Fac
            constructor
            · rintro (⟨r, hr, h⟩ | h)
              · exact ⟨r, by rw [List.mem_append]; exact .inl hr, h⟩
              · exact ⟨d, by simp, h⟩
            · rintro ⟨r, hr, h⟩
              rw [List.mem_append, List.mem_singleton] at hr
              rcases hr with hr | rfl
              · exact .inl ⟨r, hr, h⟩
              · exact .inr h
          clear hpu hc8 hx8 hm8 hg8
          go_wp2_with fail
          go_roundw
          case rel => exact ⟨k + 1, yy', by omega, by go_num, HC8, HX8, HM8, H3', HB8⟩
          case measure => simp [intOf]; omega
      · obtain rfl : k = zz.length := by omega
        have hall : ∀ t ∈ zz, t.length ≤ 3 := fun t ht => by obtain ⟨j, hj, rfl⟩ := List.getElem_of_mem ht; exact H3.out j hj hj
        have hm := HM.out
        rw [List.take_length] at hm
        have hxy : xx = conL zz v := cloL_is (tipsR_sim HO.out.1 HD.out hall) HX.out.ord hm
        have hxl := conL_len HO.out.1 HD.out HZ.out hall
        rw [← hxy] at hxl
        have HXY := Lib.hid hxy
        obtain ⟨g, cap, L, q1, o⟩ := HC.out.cell
        obtain ⟨⟨_, r2⟩, z2⟩ := R4.out.on HB.out
        have HOO := Lib.hid o
        have HBW := Lib.hid (HB4.out.trans (HB.out.mono HB4.out.size))
        clear hm o hxy
        rcases Nat.lt_or_ge 48 xx.length with h8 | h8
        · have hyc : yy = [] ∧ c = 5 := by
            rcases HRR.out with ⟨_, r⟩ | ⟨_, h, _⟩
            · exact r
            · omega
          obtain ⟨rfl, rfl⟩ := hyc
          have l8 : (xx.length : Int) > 48 := by omega
          have l8' : (48 : Int) < (xx.length : Int) := by omega
          clear hxl
          go_wp2_with fail
          refine bodyPost_ret (v := .tuple #[.agg #[.slice none 0 0], .int .i64 5]) (by simp [results, Tryd.results43, go_sem, r2]) rfl ⟨_, rfl, OwnRI.nul _ _, HBW.out.setCell (p := ⟨LR, 0, none⟩) (Nat.le_of_lt hlr) _⟩
        · have hyc : yy = conL zz v ∧ c = 0 := by
            rcases HRR.out with ⟨⟨t, ht, h⟩ | h, _⟩ | ⟨_, _, r⟩
            · have := hall t ht; omega
            · omega
            · exact r
          obtain ⟨rfl, rfl⟩ := hyc
          have l8 : ¬ (xx.length : Int) > 48 := by omega
          have l8' : ¬ (48 : Int) < (xx.length : Int) := by omega
          clear hxl
          go_wp2_with fail
          refine bodyPost_ret (v := .tuple #[.agg #[.slice (some ⟨g, 0, none⟩) xx.length cap], .int .i64 0]) (by simp [results, Tryd.results43, go_sem, r2]) rfl ⟨_, rfl, ?_, HBW.out.setCell (p := ⟨LR, 0, none⟩) (Nat.le_of_lt hlr) _⟩
          rw [← HXY.out]
          exact OwnRI.mono (OwnRI.setOut (B := W4.heap.size) ⟨L, HOO.out⟩ hlc _) HB4.out.size
end Go.Proofs.YtljmfpifhbfdcaaDoor
