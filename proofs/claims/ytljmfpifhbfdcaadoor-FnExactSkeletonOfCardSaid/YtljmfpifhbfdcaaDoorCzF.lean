/-
  LinkOf of the program.
-/
import Derived.Test.YtljmfpifhbfdcaaDoorCzE
namespace Go.Proofs.YtljmfpifhbfdcaaDoor
open Go.RowKit
set_option linter.unusedVariables false
set_option linter.unusedSimpArgs false

set_option maxRecDepth 100000 in
set_option maxHeartbeats 12800000 in
theorem implLnk_is {u : Value} {zz : List (List Int)} {k : Int} {yy : List (List Int)} {c : Int} {w : World} (hu : RowsAt w u zz) (h : LnkIs zz k yy c) (hTz : Tz w) :
    Calls Tryd.prog 40 #[.agg #[u], .int .i64 k] w fun e w' => RetClo yy c w e w' := by
  obtain ⟨i0, hi0, iz0, iz1, iz2⟩ := info_parts info_u
  have HU := Lib.hid hu
  obtain ⟨a, cp, rfl, hl, k1⟩ := hu.any
  have K1 := Lib.hid k1
  have hW1 : Below w.heap.size w ((w.alloc (.cells #[.slice a zz.length cp] 27)).alloc (.cells #[.slice none 0 0] 27)) := al1 ((Below.refl _ w).alloc (Nat.le_refl _) _) _
  have hP1 : PtC ((w.alloc (.cells #[.slice a zz.length cp] 27)).alloc (.cells #[.slice none 0 0] 27)) w.heap.size (.slice a zz.length cp) := PtC.new1 w _ _ _
  have hR1 := ResC.new (w.alloc (.cells #[.slice a zz.length cp] 27))
  rw [World.size_alloc] at hR1
  have hU1 := HU.out.on hW1
  have hT1 := hTz.on hW1
  obtain ⟨LR, hLR⟩ : ∃ LR, w.heap.size + 1 = LR := ⟨_, rfl⟩
  rw [hLR] at hR1
  have hlr : w.heap.size < LR := by omega
  have HLR := Lib.hid hLR
  clear k1 hLR hu hTz
  rcases h with ⟨ho, rfl, rfl⟩ | ⟨ho, hd, rfl, rfl⟩ | ⟨ho, ⟨i, hi, rfl, rfl⟩, rfl⟩
  · go_enter Tryd.func40, Tryd.ntmps40
    have p1 := hP1.2
    go_wp2_with fail
    rw [HLR.out]
    generalize (w.alloc (.cells #[.slice a zz.length cp] 27)).alloc (.cells #[.slice none 0 0] 27) = W1 at hW1 hP1 hR1 hU1 hT1 p1 ⊢
    have AL := Lib.hid hW1
    have R1 := Lib.hid hR1
    refine (implSta_is (k := k) hU1 (.inl ⟨ho, rfl, rfl⟩) hT1).mono ?_
    rintro e w2 ⟨v2, rfl, _, hb2⟩
    obtain ⟨⟨_, r2⟩, z2⟩ := R1.out.on hb2
    have HB2 := Lib.hid (AL.out.trans (hb2.mono AL.out.size))
    clear hb2 hW1 hP1 hR1 hU1 hT1
    go_wp2_with fail
    refine bodyPost_ret (v := .tuple #[.agg #[.slice none 0 0], .int .i64 1]) (by simp [results, Tryd.results40, go_sem, r2]) rfl ⟨_, rfl, OwnRI.nul _ _, HB2.out.setCell (p := ⟨LR, 0, none⟩) (Nat.le_of_lt hlr) _⟩
  · go_enter Tryd.func40, Tryd.ntmps40
    have p1 := hP1.2
    go_wp2_with fail
    rw [HLR.out]
    generalize (w.alloc (.cells #[.slice a zz.length cp] 27)).alloc (.cells #[.slice none 0 0] 27) = W1 at hW1 hP1 hR1 hU1 hT1 p1 ⊢
    have AL := Lib.hid hW1
    have R1 := Lib.hid hR1
    refine (implSta_is (k := k) hU1 (.inr (.inl ⟨ho, hd, rfl, rfl⟩)) hT1).mono ?_
    rintro e w2 ⟨v2, rfl, _, hb2⟩
    obtain ⟨⟨_, r2⟩, z2⟩ := R1.out.on hb2
    have HB2 := Lib.hid (AL.out.trans (hb2.mono AL.out.size))
    clear hb2 hW1 hP1 hR1 hU1 hT1
    go_wp2_with fail
    refine bodyPost_ret (v := .tuple #[.agg #[.slice none 0 0], .int .i64 2]) (by simp [results, Tryd.results40, go_sem, r2]) rfl ⟨_, rfl, OwnRI.nul _ _, HB2.out.setCell (p := ⟨LR, 0, none⟩) (Nat.le_of_lt hlr) _⟩
  · have HO := Lib.hid ho
    have hsk := ho.sim hi
    have hst1 : StaIs zz (i : Int) (staK zz zz[i] zz.length) 0 := .inr (.inr ⟨ho, ⟨i, hi, rfl, rfl⟩, rfl⟩)
    have hii : ∃ s, zz[i] = s := ⟨_, rfl⟩
    obtain ⟨b, o, x, rfl, hb, c1', i1'⟩ := K1.out i hi
    have hz : Hid (zz[i] ∈ zz) := List.getElem_mem hi
    obtain ⟨s, hs⟩ := hii
    rw [hs] at hsk hz i1' hst1 ⊢
    have HS := Lib.hid hsk
    have C1 := Lib.hid c1'
    obtain ⟨tb, tq, tc, rfl, htb, k1t⟩ := i1'.at1 hsk.pos
    have KT := Lib.hid k1t
    have j0 : 0 ≤ (i : Int) := by omega
    have j1 : (i : Int) < (zz.length : Int) := by omega
    clear c1' i1' hsk hs k1t
    go_enter Tryd.func40, Tryd.ntmps40
    have p1 := hP1.2
    go_wp2_with fail
    rw [HLR.out]
    generalize (w.alloc (.cells #[.slice (some ⟨b, o, none⟩) zz.length cp] 27)).alloc (.cells #[.slice none 0 0] 27) = W1 at hW1 hP1 hR1 hU1 hT1 p1 ⊢
    have AL := Lib.hid hW1
    have R1 := Lib.hid hR1
    have T1 := Lib.hid hT1
    have P1 := Lib.hid hP1
    refine (implSta_is hU1 hst1 hT1).mono ?_
    rintro e w2 ⟨v2, rfl, ho2, hb2⟩
    obtain ⟨sa, sc, rfl⟩ := ho2.slice
    have HB2 := Lib.hid (AL.out.trans (hb2.mono AL.out.size))
    have R2 := Lib.hid (R1.out.on hb2)
    have T2 := Lib.hid (T1.out.on hb2)
    have q2 := (P1.out.on hb2).2
    have P2 := Lib.hid (P1.out.on hb2)
    have c2 := (HB2.out.cell (p := ⟨b, o + i, none⟩) hb).trans C1.out
    have kt2 : ∀ j (h : j < s.length), w2.cell? ⟨tb, tq + j, none⟩ = some (.int .i64 s[j]) := fun j h => (HB2.out.cell (p := ⟨tb, tq + j, none⟩) htb).trans (KT.out j h)
    have hset := setOf_some (c := tc) (by have := HS.out.le; omega) HS.out.bd kt2
    have HO2 := Lib.hid ho2
    have HSL := Lib.hid (staK_len zz s zz.length)
    have HG : Hid (∀ k (h : k < (staK zz s zz.length).length), ∃ j : Nat, ∃ h' : j < zz.length, (staK zz s zz.length)[k] = (j : Int) ∧ difI zz s (staK zz s zz.length)[k] = difL zz[j] s) := fun k h => sta_get h
    have HRL := Lib.hid (rests_len zz s (staK zz s zz.length))
    have HNX := Lib.hid (fun (is : List Int) k (h : k < is.length) (h0 : difI zz s is[k] ≠ []) => rests_yes (zz := zz) (s := s) h h0)
    have HNO := Lib.hid (fun (is : List Int) k (h : k < is.length) (h0 : difI zz s is[k] = []) => rests_no (zz := zz) (s := s) h h0)
    have HRS := Lib.hid (rests_sim HO.out (s := s))
    have HEND : Hid (∀ L : List (List Int), L.Perm (rests zz s (staK zz s zz.length)) → (∀ i j (hi : i < L.length) (hj : j < L.length), i < j → befB L[j] L[i] = false) → L = lnkL zz s) := fun L h1 h2 => cloL_self (rests_sim HO.out) (rests_clo HO.out hz.out) (rests_nodup HO.out) h1 h2
    have h48 := HO.out.2
    have hms := maskOf_lt s (fun v hv => HS.out.bd v hv)
    generalize staK zz s zz.length = st at HO2 HSL HG HRL HRS HEND
    clear hb2 hW1 hP1 hR1 hU1 hT1 ho2 ho hst1 kt2
    go_wp2_with (go_at_call 55; refine hset.mono ?_; rintro e w4 ⟨rfl, rfl⟩)
    clear hset q2 c2
    go_loopw [9, 31] (fun sv si wr => ∃ (k : Nat), k ≤ st.length ∧ si = .int .i64 (k : Int) ∧ Hid (OwnU w2.heap.size wr sv ((rests zz s (st.take k)).map maskOf)) ∧ Hid (Below w2.heap.size w2 wr)) (fun _ i _ => st.length - (intOf i).toNat)
    case atStart => exact ⟨0, Nat.zero_le _, rfl, by show OwnU _ _ _ _; simp [rests]; exact World.ownsRow_nil _ _ _ _, Below.refl _ _⟩
    case round =>
      obtain ⟨k, hk, rfl, HY, HB⟩ := hrel
      have hsl := HSL.out
      have i0' : 0 ≤ (k : Int) := by omega
      have hsz := HB.out.size
      by_cases hlt : k < st.length
      · have i1 : (k : Int) < (st.length : Int) := by omega
        obtain ⟨j, hj, hjk, hdj⟩ := HG.out k hlt
        obtain ⟨gs, gc, e, hgB, hgl, ks⟩ := HO2.out.at1 (by omega)
        injection e with e1 e2 e3
        subst e1 e3
        have s1 := (HB.out.cell (p := ⟨gs, k, none⟩) hgl).trans (ks k hlt)
        have hyes := HNX.out st k hlt
        have hno := HNO.out st k hlt
        rw [hjk] at s1
        rw [hdj] at hyes hno
        have HHY := Lib.hid hyes
        have HHN := Lib.hid hno
        have p1 := (P2.out.on HB.out).2
        obtain ⟨b2, o2, y, e, hb2, c1', i1'⟩ := K1.out j hj
        injection e with e; injection e with e1 e2; subst e1 e2
        have HBW := Lib.hid (HB2.out.trans (HB.out.mono HB2.out.size))
        have c1 := (HBW.out.cell (p := ⟨b, o + j, none⟩) hb).trans c1'
        have hst := HO.out.sim hj
        obtain ⟨ub, uq, uc, rfl, hub, kt⟩ := (i1'.on HBW.out).at1 hst.pos
        have hset := setOf_some (c := uc) (by have := hst.le; omega) hst.bd kt
        have hmt := maskOf_lt zz[j] (fun v hv => hst.bd v hv)
        have hdm := dif_mask HS.out hst
        have hdl : maskOf (difL zz[j] s) < 65536 := by rw [← hdm]; exact Nat.lt_of_le_of_lt Nat.and_le_left (by omega)
        have hand : bits BinOp.andNot IntKind.u16 ((maskOf zz[j] : Nat) : Int) ((maskOf s : Nat) : Int) = ((maskOf (difL zz[j] s) : Nat) : Int) := by rw [andnot_u16 (by omega) (by omega), hdm]
        have hd0 : difL zz[j] s ≠ [] → maskOf (difL zz[j] s) ≠ 0 := fun h0 => mask_ne (hst.face (dif_face h0))
        have hrl : (rests zz s (st.take k)).length ≤ st.length := by have := rests_len zz s (st.take k); rw [List.length_take] at this; omega
        have hrm : ((rests zz s (st.take k)).map maskOf).length ≤ 48 := by rw [List.length_map]; omega
        have m0 : 0 ≤ (j : Int) := by omega
        have m1 : (j : Int) < (zz.length : Int) := by omega
        generalize zz[j].length = n at c1 hset
        generalize maskOf zz[j] = mt at hset hand
        obtain ⟨d, hdd⟩ : ∃ d, difL zz[j] s = d := ⟨_, rfl⟩
        rw [hdd] at hand hd0 HHY HHN hdl
        clear c1' i1' ks hjk hdj hyes hno hst hmt hdm kt hdd
        by_cases h0 : d = []
        · have hm0 : maskOf d = 0 := by rw [h0]; rfl
          rw [hm0] at hand
          have HN := Lib.hid (HHN.out h0)
          clear h0 hd0 hm0 hdl
          go_wp2_with (go_at_call 55; refine hset.mono ?_; rintro e w4 ⟨rfl, rfl⟩)
          go_roundw
          case rel => exact ⟨k + 1, by omega, by go_num, by rw [HN.out]; exact HY, HB⟩
          case measure => simp [intOf]; omega
        · have hm0 := hd0 h0
          have HN := Lib.hid (HHY.out h0)
          generalize hmd : maskOf d = md at hand hm0 hdl
          have HMD := Lib.hid hmd
          have e0 : ((md : Int) != 0) = true := by simp; omega
          clear h0 hd0 hmd
          go_wp2_with (first | (go_at_call 55; refine hset.mono ?_; rintro e w4 ⟨rfl, rfl⟩) | (at_builtin; refine wpList_append_own _ rfl _ _ 56 rfl w2.heap.size 58 i0 (.int .u16 0) 1 2 Tryd.underlying56 hi0 iz0 iz1 iz2 rfl (by decide) _ _ _ rfl (World.ownsRow.alloc HY.out.out (.cells #[.int .u16 (md : Int)] 58)) ⟨wr.heap.size, 0, none⟩ 1 1 [.int .u16 (md : Int)] rfl rfl (row_oneS _ _ _ _ (by first | rfl | simp)) (by first | rfl | (intro u hu; simp at hu; subst hu; rfl)) (by unfold maxLen; omega) (by omega) (by first | omega | (simp; omega)) ?_; intro v2 w10 hown3 hgrow _))
          have HO3 : Hid (OwnU w2.heap.size w10 v2 ((rests zz s (st.take (k + 1))).map maskOf)) := by
            show OwnU _ _ _ _
            rw [HN.out, List.map_append, List.map_singleton, HMD.out]; exact pushUv hown3
          have HB3 := Lib.hid (below_pushUv HB.out (Nat.le_refl _) (by first | omega | (simp; omega)) HY.out hgrow)
          clear hown3 hgrow
          go_wp2_with fail
          go_roundw
          case rel => exact ⟨k + 1, by omega, by go_num, HO3, HB3⟩
          case measure => simp [intOf]; omega
      · obtain rfl : k = st.length := by omega
        have hy := HY.out
        rw [List.take_length] at hy
        obtain ⟨⟨_, r1⟩, z1⟩ := R2.out.on HB.out
        have hco := complexOf_any hy (masks_fit HRS.out) (by rw [List.length_map]; have := HRL.out; omega) (T2.out.on HB.out)
        clear hy r1 z1
        go_wp2_with fail
        refine hco.mono ?_
        rintro e w7 ⟨v7, y7, c7, rfl, ho7, hb7, hc7⟩
        have hyc : y7 = lnkL zz s ∧ c7 = 0 := by
          rcases hc7 with ⟨h1, _, _⟩ | ⟨_, h2, hp, hs⟩
          · rw [List.length_map] at h1; have := HRL.out; omega
          · rw [verts_masks HRS.out] at hp
            exact ⟨HEND.out y7 hp hs, h2⟩
        obtain ⟨rfl, rfl⟩ := hyc
        obtain ⟨⟨_, r7⟩, z7⟩ := (R2.out.on HB.out).on hb7
        have HO7 := Lib.hid ho7
        have HB7 := Lib.hid (HB2.out.trans ((HB.out.trans (hb7.mono hsz)).mono HB2.out.size))
        obtain ⟨va, vc, rfl⟩ := ho7.slice
        clear ho7 hc7 hb7 hco
        have hlw : LR < w2.heap.size := R2.out.1.1
        go_wp2_with fail
        refine bodyPost_ret (v := .tuple #[.agg #[.slice va (lnkL zz s).length vc], .int .i64 0]) (by simp [results, Tryd.results40, go_sem, r7]) rfl ⟨_, rfl, OwnRI.mono (OwnRI.setOut HO7.out (by omega) _) (Nat.le_trans HB2.out.size hsz), HB7.out.setCell (p := ⟨LR, 0, none⟩) (Nat.le_of_lt hlr) _⟩
end Go.Proofs.YtljmfpifhbfdcaaDoor
