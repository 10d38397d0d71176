/-
  PartsOf of the model.
-/
import Derived.Test.YtljmfpifhbfdcaaDoorCzN
import Derived.Test.YtljmfpifhbfdcaaDoorCzA
import Derived.Deep.RegionHeld3
import Derived.Deep.RegionLaw
import Derived.Deep.AppendLies
import Derived.StillTactics
namespace Go.Proofs.YtljmfpifhbfdcaaDoor
open Go.RowKit
set_option linter.unusedVariables false
set_option linter.unusedSimpArgs false

theorem sprs_next {es : List (Int × Int)} {f : Int → Int} {k : Nat} (hk : k < es.length) : sprs (es.take (k + 1)) f = spr (sprs (es.take k) f) es[k] := by
  unfold sprs; rw [List.take_succ_eq_append_getElem hk, List.foldl_append]; rfl
theorem l00Min_any (a b : Int) (w : World) : Calls Tryd.prog 99 #[.int .i64 a, .int .i64 b] w fun e w' => e = .returned (.int .i64 (min a b)) ∧ w' = w := by
  by_cases h : a < b
  · have e : min a b = a := Int.min_eq_left (by omega)
    rw [e]
    go_enter Tryd.func99, Tryd.ntmps99
    go_wp2
    go_ret
    exact ⟨rfl, rfl⟩
  · have e : min a b = b := Int.min_eq_right (by omega)
    rw [e]
    go_enter Tryd.func99, Tryd.ntmps99
    go_wp2
    go_ret
    exact ⟨rfl, rfl⟩
theorem ivP_set (zs : List Int) (i : Nat) (x : Int) : (iv zs).set i (.int .i64 x) = iv (zs.set i x) := by unfold iv; rw [List.map_set]
theorem OwnI.write {B g n c : Nat} {w : World} {zs : List Int} (h : OwnI B w (.slice (some ⟨g, 0, none⟩) n c) zs) (hn : n = zs.length) (i : Nat) (x : Int) : OwnI B (w.setCell ⟨g, i, none⟩ (.int .i64 x)) (.slice (some ⟨g, 0, none⟩) n c) (zs.set i x) ∧ w.grownBy (w.setCell ⟨g, i, none⟩ (.int .i64 x)) (some g) := by
  subst hn
  obtain ⟨h1, h2⟩ := World.ownsRow.stored h.out i (.int .i64 x)
  refine ⟨?_, h2⟩
  unfold OwnI
  rw [List.length_set, ← ivP_set]
  exact h1
theorem OwnI.rowZ {B z : Nat} {w w' : World} {v : Value} {zs : List Int} (h : OwnI B w v zs) (hz : zs.length = z) (hb : Below w.heap.size w w') : w'.ownsRow B 2 1 v z (iv zs) := by
  have h1 := (h.on hb).out
  rw [hz] at h1; exact h1
theorem own_pushZ {B g cap z : Nat} {w : World} {zs : List Int} {x : Int} (hz : zs.length = z) (h : w.ownsRow B 2 1 (.slice (some ⟨g, 0, none⟩) (z + 1) cap) (z + 1) (iv zs ++ [.int .i64 x])) : OwnI B w (.slice (some ⟨g, 0, none⟩) (z + 1) cap) (zs ++ [x]) := by
  subst hz; exact pushU h
theorem below_pushZ {B K : Nat} {a wr W w7 : World} {v : Value} {zs : List Int} (hB : Below K a wr) (hgrow : W.grownBy w7 v.ownBlock) (hW : Below wr.heap.size wr W) (hK : K ≤ wr.heap.size) (ho : OwnI B wr v zs) (hKB : K ≤ B) : Below K a w7 :=
  (hB.trans (hW.mono hK)).grown hgrow (Nat.le_trans hK hW.size) (fun q hq => Nat.le_trans hKB (ho.out.lt q hq).1)
set_option maxRecDepth 100000 in
set_option maxHeartbeats 12800000 in
theorem l05Parts_any {L : Nat} {v : Value} {zz : List (List Int)} {w : World} (p : PtC w L v) (hq : RowsQ w v zz) (ho : OkC zz) :
    Calls Tryd.prog 84 #[.pointer (some ⟨L, 0, none⟩)] w fun e w' => RetN (prtL zz) w e w' := by
  obtain ⟨i0, hi0, iz0, iz1, iz2⟩ := info_parts info2
  have HQ := Lib.hid hq
  obtain ⟨a, c, rfl, hl, k1⟩ := hq
  have K1 := Lib.hid k1
  have P := Lib.hid p
  have HO := Lib.hid ho
  have h48 := ho.2
  clear k1 p ho
  go_enter Tryd.func84, Tryd.ntmps84
  go_wp2_with fail
  refine (l05Of_any (d := 0) P.out HQ.out.rows HO.out (by omega)).mono ?_
  rintro e w2 ⟨v2, rfl, ho2, hb2⟩
  obtain ⟨sa, sc, rfl⟩ := ho2.slice
  have HO2 := Lib.hid ho2
  have HB2 := Lib.hid hb2
  have HVL := Lib.hid (vsL_len zz)
  have hol := ofK_len zz 0 zz.length
  have HVA : Hid (∀ i, i < (ofK zz 0 zz.length).length → ∃ x, ∃ h : i < zz.length, (ofK zz 0 zz.length)[i]? = some (i : Int) ∧ zz[i] = [x] ∧ (vsL zz)[i]? = some x) := fun i hi => by
    have hi' : i < (vsL zz).length := by rw [vsL_len]; exact hi
    obtain ⟨h, h1, h2⟩ := ver_at HO.out hi'
    exact ⟨_, h, by rw [List.getElem?_eq_getElem hi, h1], h2, List.getElem?_eq_getElem hi'⟩
  have hm : OwnI w2.heap.size (w2.alloc (.cells #[] 2)) (.slice (some ⟨w2.heap.size, 0, none⟩) 0 0) [] := World.ownsRow_made (base := w2.heap.size) (e := 2) (size := 1) w2 #[] 0 (Nat.le_refl _) (Nat.zero_le _) rfl
  have HM := Lib.hid hm
  have AL : Hid (Below w2.heap.size w2 (w2.alloc (.cells #[] 2))) := (Below.refl _ w2).alloc (Nat.le_refl _) _
  obtain ⟨ov, hov⟩ : ∃ ov, ofK zz 0 zz.length = ov := ⟨_, rfl⟩
  rw [hov] at HO2 HVL hol HVA ⊢
  obtain ⟨vs, hvs⟩ : ∃ vs, vsL zz = vs := ⟨_, rfl⟩
  have HVS := Lib.hid hvs
  rw [hvs] at HVL HVA
  clear ho2 hb2 hm hov hvs
  go_wp2_with fail
  go_loopw [4, 5] (fun sv si wr => ∃ (k : Nat), k ≤ ov.length ∧ si = .int .i64 (k : Int) ∧ Hid (OwnI w2.heap.size wr sv (vs.take k)) ∧ Hid (Below w2.heap.size w2 wr)) (fun _ i _ => ov.length - (intOf i).toNat)
  case atStart => exact ⟨0, Nat.zero_le _, rfl, by show OwnI _ _ _ _; rw [List.take_zero]; exact HM.out, AL⟩
  case round =>
    clear HM AL
    obtain ⟨k, hk, rfl, HY, HB⟩ := hrel
    have hs := HB.out.size
    have i0' : 0 ≤ (k : Int) := by omega
    by_cases hlt : k < ov.length
    · have i1 : (k : Int) < (ov.length : Int) := by omega
      obtain ⟨x, hkz, hvk, hzk, hxk⟩ := HVA.out k hlt
      obtain ⟨gs, gc, e, hgB, hgl, ks⟩ := HO2.out.at1 (by omega)
      injection e with e1 e2 e3
      subst e1 e3
      have s1 := (HB.out.cell (p := ⟨gs, k, none⟩) hgl).trans (ks k hlt)
      have hvk' : ov[k] = (k : Int) := by rw [List.getElem?_eq_getElem hlt] at hvk; injection hvk
      rw [hvk'] at s1
      have p1 := ((P.out.on HB2.out).on HB.out).2
      obtain ⟨b, o, y, rfl, hb, c1', i1'⟩ := K1.out k hkz
      have HBW := Lib.hid (HB2.out.trans (HB.out.mono HB2.out.size))
      have c1 := (HBW.out.cell (p := ⟨b, o + k, none⟩) hb).trans c1'
      rw [hzk] at i1'
      obtain ⟨tb, tq, tc, rfl, htb, kt⟩ := (i1'.1.on HBW.out).at1 (by simp)
      have t1 := kt 0 (by simp)
      have HN : Hid (vs.take (k + 1) = vs.take k ++ [x]) := by
        show _ = _
        obtain ⟨h, e⟩ := List.getElem?_eq_some_iff.1 hxk
        rw [List.take_succ_eq_append_getElem h, e]
      simp only [List.getElem_cons_zero, Nat.add_zero, List.length_singleton] at t1 c1
      have m1 : (k : Int) < (zz.length : Int) := by omega
      have hyl : (vs.take k).length = k := by rw [List.length_take]; have := HVL.out; omega
      obtain ⟨ya, yc, rfl⟩ := HY.out.slice
      have hown := HY.out
      rw [hyl] at hown ⊢
      have HYO := Lib.hid hown
      clear hown c1' i1' kt ks hvk hvk' hzk hxk
      go_wp2_with fail
      go_region_law
        (first
          | (refine step_append_lies _ (by rfl) _ _ _ (by rfl) w2.heap.size 2 i0 (.int .i64 0) 1 8 Tryd.underlying38 hi0 iz0 iz1 iz2 (by rfl) (by omega) (.slice ya k yc) k (iv (vs.take k)) (by rfl) (OwnI.rowZ HYO.out hyl (by repeat (first | with_reducible exact Below.refl _ _ | with_reducible refine drew_below ?_ | with_reducible refine al1 ?_ _))) ⟨wr.heap.size, 0, none⟩ 1 1 [.int .i64 x] (by rfl) (by rfl) (by first | with_reducible exact row_oneU _ _ _ _ (by simp) | exact row_oneU _ _ _ _ (by simp)) (by simp [Value.oneCell']) (by omega) (by unfold maxLen; omega) (by omega) (by simp; omega) (wr.heap.size + 1) (by simp) ?_; intro gg cap w7 hown7 hgrow hat hlt7))
      all_goals
        have HO7 : Hid (OwnI w2.heap.size w7 (.slice (some ⟨gg, 0, none⟩) (k + 1) cap) (vs.take (k + 1))) := by
          show OwnI _ _ _ _
          rw [HN.out]; exact own_pushZ hyl hown7
        have HB7 := Lib.hid (below_pushZ HB.out hgrow (by repeat (first | with_reducible exact Below.refl _ _ | with_reducible refine drew_below ?_ | with_reducible refine al1 ?_ _)) hs HYO.out (Nat.le_refl _))
        clear hown7 hgrow hat
        go_wp2_with fail
        go_roundw
        case rel => exact ⟨k + 1, by omega, by go_num, HO7, HB7⟩
        case measure => simp [intOf]; omega
    · obtain rfl : k = ov.length := by omega
      obtain ⟨w4, rfl⟩ : ∃ w4, w4 = wr := ⟨_, rfl⟩
      have hvl := HVL.out
      rw [List.take_of_length_le (by omega)] at HY
      obtain ⟨oa, oc, rfl⟩ := HY.out.slice
      rw [hvl] at HY ⊢
      clear hvl
      have HB4 := Lib.hid (HB2.out.trans (HB.out.mono HB2.out.size))
      clear HVA
      go_wp2_with fail
      refine (l05Of_any (d := 1) (P.out.on HB4.out) (HQ.out.on HB4.out).rows HO.out (by omega)).mono ?_
      rintro e w5 ⟨v5, rfl, ho5, hb5⟩
      obtain ⟨ea, ec, rfl⟩ := ho5.slice
      have HE5 := Lib.hid ho5
      have HB5 := Lib.hid (HB4.out.trans (hb5.mono HB4.out.size))
      have HY5 : Hid (OwnI w2.heap.size w5 (.slice oa ov.length oc) vs) := HY.out.on hb5
      have HOB : Hid (∀ q, (Value.slice oa ov.length oc).ownBlock = some q → w2.heap.size ≤ q ∧ q < w4.heap.size) := fun q hq => HY.out.out.lt q hq
      have HEL := Lib.hid (esL_len zz)
      have hel := ofK_len zz 1 zz.length
      have HEA : Hid (∀ k, k < (ofK zz 1 zz.length).length → ∃ (j : Nat) (a b : Int) (ia ib : Nat), ∃ h : j < zz.length, (ofK zz 1 zz.length)[k]? = some (j : Int) ∧ zz[j] = [a, b] ∧ (esL zz)[k]? = some (a, b) ∧ vs[ia]? = some a ∧ vs[ib]? = some b ∧ fndI [a] zz 0 = (ia : Int) ∧ fndI [b] zz 0 = (ib : Int)) := fun k hk => by
        have hk' : k < (esL zz).length := by rw [esL_len]; exact hk
        obtain ⟨j, h, h1, h2, _, _, h5, h6⟩ := edg_at HO.out hk'
        obtain ⟨ia, hia, fa, va⟩ := ver_find HO.out h5
        obtain ⟨ib, hib, fb, vb⟩ := ver_find HO.out h6
        rw [← HVS.out]
        exact ⟨j, _, _, ia, ib, h, by rw [List.getElem?_eq_getElem hk, h1], h2, List.getElem?_eq_getElem hk', by rw [List.getElem?_eq_getElem hia, va], by rw [List.getElem?_eq_getElem hib, vb], fa, fb⟩
      have HND : Hid (vs.Nodup) := by show List.Nodup _; rw [← HVS.out]; exact vsL_nodup HO.out
      have HEND : Hid (vs.map (rnd (esL zz) vs.length) = prtL zz) := by
        show _ = _
        unfold prtL
        rw [← HVS.out]
        exact List.map_congr_left fun v hv => rnd_parts (edg_ver HO.out) hv
      obtain ⟨eo, heo⟩ : ∃ eo, ofK zz 1 zz.length = eo := ⟨_, rfl⟩
      rw [heo] at HE5 HEL hel HEA ⊢
      obtain ⟨es, hes⟩ : ∃ es, esL zz = es := ⟨_, rfl⟩
      rw [hes] at HEL HEA HEND
      clear ho5 hb5 heo hes HY HB
      rw [HVL.out] at HEND
      go_wp2_with fail
      go_loopw [7] (fun si wr => ∃ (r : Nat), r ≤ ov.length ∧ si = .int .i64 (r : Int) ∧ Hid (OwnI w2.heap.size wr (.slice oa ov.length oc) (vs.map (rnd es r))) ∧ Hid (w5.grownBy wr (Value.slice oa ov.length oc).ownBlock)) (fun i _ => ov.length - (intOf i).toNat)
      case atStart => exact ⟨0, Nat.zero_le _, rfl, by show OwnI _ _ _ _; simpa [rnd] using HY5.out, gr_refl _ _⟩
      case round =>
        clear HY5
        obtain ⟨r, hr, rfl, HY, HG⟩ := hrel
        obtain ⟨wo, rfl⟩ : ∃ wo, wo = wr := ⟨_, rfl⟩
        have r0 : 0 ≤ (r : Int) := by omega
        by_cases hlr : r < ov.length
        · have r1 : (r : Int) < (ov.length : Int) := by omega
          go_wp2_with fail
          go_loopw [8] (fun si wr => ∃ (k : Nat), k ≤ eo.length ∧ si = .int .i64 (k : Int) ∧ Hid (OwnI w2.heap.size wr (.slice oa ov.length oc) (vs.map (sprs (es.take k) (rnd es r)))) ∧ Hid (w5.grownBy wr (Value.slice oa ov.length oc).ownBlock)) (fun i _ => eo.length - (intOf i).toNat)
          case atStart => exact ⟨0, Nat.zero_le _, rfl, HY, HG⟩
          case round =>
            clear HY HG
            obtain ⟨k, hk, rfl, HY, HG⟩ := hrel
            have i0' : 0 ≤ (k : Int) := by omega
            by_cases hlt : k < eo.length
            · have i1 : (k : Int) < (eo.length : Int) := by omega
              obtain ⟨j, a, b, ia, ib, hj, hjk, hzj, hek, hva, hvb, hfa, hfb⟩ := HEA.out k hlt
              obtain ⟨hia, eia⟩ := List.getElem?_eq_some_iff.1 hva
              obtain ⟨hib, eib⟩ := List.getElem?_eq_some_iff.1 hvb
              obtain ⟨hke, eke⟩ := List.getElem?_eq_some_iff.1 hek
              have hjk' : eo[k] = (j : Int) := by rw [List.getElem?_eq_getElem hlt] at hjk; injection hjk
              have hbw : Below w.heap.size w wr := HB5.out.grown HG.out HB5.out.size (fun q hq => by have := HOB.out q hq; have := HB2.out.size; omega)
              obtain ⟨og, oc', e, hgB, hgl, ks⟩ := HY.out.at1 (by simp; omega)
              injection e with e1 e2 e3
              subst e1 e3
              clear e2
              have hogw := (HOB.out og rfl).2
              obtain ⟨gs, gc, e, hsB, hsl, es1⟩ := (HE5.out.gr HG.out (HE5.out.notAt hogw)).at1 (by omega)
              injection e with e1 e2 e3
              subst e1 e3
              have s1 := es1 k hlt
              rw [hjk'] at s1
              have p1 := (P.out.on hbw).2
              obtain ⟨b2, o2, y, rfl, hb2, c1', i1'⟩ := K1.out j hj
              have c1 := (hbw.cell (p := ⟨b2, o2 + j, none⟩) hb2).trans c1'
              rw [hzj] at i1'
              have hI := i1'.on hbw
              obtain ⟨hI1, xa, xc, rfl, hxc, hxm, hxx⟩ := hI
              obtain ⟨tb, tq, tc, e, htb, kt⟩ := hI1.at1 (by simp)
              injection e with e1 e2 e3
              subst e1 e3
              have t0 := kt 0 (by simp)
              have t1 := kt 1 (by simp)
              simp only [List.getElem_cons_zero, List.getElem_cons_succ, Nat.add_zero, List.length_cons, List.length_nil, Nat.zero_add, Nat.reduceAdd] at t0 t1 hxc c1
              have HA : Hid (IntsAt wr (.slice (some ⟨tb, tq, none⟩) 1 xc) [a]) := ⟨_, xc, rfl, by simp, .inr ⟨tb, tq, rfl, htb, fun m hm => by
                have hm0 : m = 0 := by simp at hm; exact hm
                subst hm0; exact t0⟩⟩
              have HBB : Hid (IntsAt wr (.slice (some ⟨tb, tq + 1, none⟩) 1 (xc - 1)) [b]) := ⟨_, xc - 1, rfl, by simp, .inr ⟨tb, tq + 1, rfl, htb, fun m hm => by
                have hm0 : m = 0 := by simp at hm; exact hm
                subst hm0; exact t1⟩⟩
              have HSN := Lib.hid (sprs_next (f := rnd es r) hke)
              rw [eke] at HSN
              have fa1 := ks ia (by simpa using hia)
              have fb1 := ks ib (by simpa using hib)
              rw [List.getElem_map, eia] at fa1
              rw [List.getElem_map, eib] at fb1
              have m0 : 0 ≤ (j : Int) := by omega
              have m1 : (j : Int) < (zz.length : Int) := by omega
              have HPw := Lib.hid (P.out.on hbw)
              have HRw := Lib.hid (HQ.out.on hbw).rows
              have HW1 := Lib.hid (spr_set HND.out (f := sprs (es.take k) (rnd es r)) hia hib eia eib)
              clear kt es1 ks c1' i1' hI1 hxx hjk hjk' hzj hek hva hvb
              have hx1 : (1 : Int) ≤ (xc : Int) := by omega
              have hx2 : (2 : Int) ≤ (xc : Int) := by omega
              go_wp2_with fail
              go_quiet (fail)
              have HDR : Hid (Below wr.heap.size wr (wr.drewN nq)) := below_drewX (Below.refl _ wr) nq
              go_wp2_with fail
              refine (l05Find_is (HPw.out.on HDR.out) (HRw.out.on HDR.out) (HA.out.on HDR.out) hfa).mono ?_
              rintro e w6 ⟨rfl, n6, rfl⟩
              have HD6 : Hid (Below wr.heap.size wr (wr.drewN (nq + n6))) := below_drewX (Below.refl _ wr) _
              go_wp2_with fail
              refine (l05Find_is (HPw.out.on HD6.out) (HRw.out.on HD6.out) (HBB.out.on HD6.out) hfb).mono ?_
              rintro e w7 ⟨rfl, n7, rfl⟩
              have ha0 : 0 ≤ (ia : Int) := by omega
              have ha1 : (ia : Int) < (ov.length : Int) := by have := HVL.out; omega
              have hb0 : 0 ≤ (ib : Int) := by omega
              have hb1 : (ib : Int) < (ov.length : Int) := by have := HVL.out; omega
              have hyo := HY.out.out
              rw [List.length_map, HVL.out] at hyo
              have ff1 : wr.frozen? ⟨og, ia, none⟩ = false := hyo.frozenAt ia
              have ff2 : wr.frozen? ⟨og, ib, none⟩ = false := hyo.frozenAt ib
              clear hyo
              generalize sprs (es.take k) (rnd es r) a = la at fa1 HW1
              generalize sprs (es.take k) (rnd es r) b = lb at fb1 HW1
              go_wp2_with fail
              go_quiet ((go_at_call 99; exact (l00Min_any la lb _).mono fun _ _ ⟨a, b⟩ => ⟨a, _, b⟩))
              generalize min la lb = mm at HW1 ⊢
              have fb2 : ∃ y : Int, ∀ n, ((wr.drewN n).setCell ⟨og, ia, none⟩ (.int .i64 mm)).cell? ⟨og, ib, none⟩ = some (.int .i64 y) := by
                by_cases e : ia = ib
                · subst e
                  exact ⟨mm, fun n => World.cell?_setCell_same' _ _ _ (by rw [World.cell?_drewN, fa1]; rfl)⟩
                · exact ⟨lb, fun n => (World.cell?_setCell_other _ _ _ _ (by intro h; injection h with _ h; exact e h)).trans fb1⟩
              obtain ⟨ym, fb2⟩ := fb2
              have HYN : Hid (∀ n, OwnI w2.heap.size (((wr.drewN n).setCell ⟨og, ia, none⟩ (.int .i64 mm)).setCell ⟨og, ib, none⟩ (.int .i64 mm)) (.slice (some ⟨og, 0, none⟩) ov.length oc) (vs.map (sprs (es.take (k + 1)) (rnd es r))) ∧ w5.grownBy (((wr.drewN n).setCell ⟨og, ia, none⟩ (.int .i64 mm)).setCell ⟨og, ib, none⟩ (.int .i64 mm)) (some og)) := fun n => by
                obtain ⟨h1, g1⟩ := (HY.out.on (below_drewX (Below.refl _ wr) n)).write (by rw [List.length_map]; exact HVL.out.symm) ia mm
                obtain ⟨h2, g2⟩ := h1.write (by rw [List.length_set, List.length_map]; exact HVL.out.symm) ib mm
                refine ⟨?_, gr_tr (gr_tr (gr_on HG.out (below_drewX (Below.refl _ wr) n)) g1) g2⟩
                rw [HSN.out, ← HW1.out]
                exact h2
              go_wp2_with fail
              go_roundw
              case rel => exact ⟨k + 1, by omega, by go_num, (HYN.out _).1, (HYN.out _).2⟩
              case measure => simp [intOf]; omega
            · obtain rfl : k = eo.length := by omega
              have hsr : vs.map (sprs (es.take eo.length) (rnd es r)) = vs.map (rnd es (r + 1)) := by
                rw [List.take_of_length_le (by have := HEL.out; omega)]; rfl
              rw [hsr] at HY
              clear hsr
              go_wp2_with fail
              go_roundw
              case rel => exact ⟨r + 1, by omega, by go_num, HY, HG⟩
              case measure => simp [intOf]; omega
        · obtain rfl : r = ov.length := by omega
          rw [HEND.out] at HY
          have hbw : Hid (Below w.heap.size w wo) := HB5.out.grown HG.out HB5.out.size (fun q hq => by have := HOB.out q hq; have := HB2.out.size; omega)
          go_wp2_with fail
          go_ret
          exact ⟨_, rfl, OwnI.mono HY.out HB2.out.size, hbw.out⟩
end Go.Proofs.YtljmfpifhbfdcaaDoor
