/-
  SkeletonOf of the model.
-/
import Derived.Test.YtljmfpifhbfdcaaDoorCzK
namespace Go.Proofs.YtljmfpifhbfdcaaDoor
open Go.RowKit
set_option linter.unusedVariables false
set_option linter.unusedSimpArgs false

theorem CpS.sk {B cb : Nat} {w : World} {yy : List (List Int)} (h : CpS B cb w yy) : SkS B cb w yy := by
  obtain ⟨g, cap, L, p, f, o, _, _, hne, hL⟩ := h
  exact ⟨_, L, p, f, o, fun e => hne (by simpa [Value.ownBlock] using e), hL⟩
theorem sk_res {B Lk K : Nat} {wr W w7 : World} {v x : Value} {n : Nat} {xs : List Value} (h : ResC wr K) (hW : Below wr.heap.size wr W) (hgrow : W.grownBy w7 v.ownBlock) (ho : wr.ownsRow B 38 1 v n xs) (hK : K < B) (hKL : K ≠ Lk) : ResC (w7.setCell ⟨Lk, 0, none⟩ x) K := by
  have h1 := h.on hW
  have hk : w7.heap[K]? = W.heap[K]? := hgrow.block K h1.1.1 (fun e => by have := (ho.lt K e.symm).1; omega)
  exact ⟨PtC.far ⟨Nat.lt_of_lt_of_le h1.1.1 hgrow.size, by rw [World.cell?_of_block hk]; exact h1.1.2⟩ hKL _, (World.frozen?_setCell _ _ _ _).trans (by rw [World.frozen?_of_block hk]; exact h1.2)⟩
set_option maxRecDepth 100000 in
set_option maxHeartbeats 12800000 in
theorem l05Skel_any {Lc : Nat} {v : Value} {zz : List (List Int)} {d : Int} {w : World} (p : PtC w Lc v) (hq : RowsQ w v zz) (ho : OkC zz) (hd : 0 ≤ d ∧ d ≤ 3) :
    Calls Tryd.prog 77 #[.pointer (some ⟨Lc, 0, none⟩), .int .i64 d] w fun e w' => ∃ v, e = .returned (.agg #[v]) ∧ OwnRI w.heap.size w' v (sklK zz d zz.length) ∧ Below w.heap.size w w' := by
  obtain ⟨i0, hi0, iz0, iz1, iz2⟩ := info_parts info_r
  obtain ⟨a, cp, rfl, hl, k1⟩ := hq
  have K1 := Lib.hid k1
  have P := Lib.hid p
  have HO := Lib.hid ho
  have h48 := ho.2
  have hR1 := ResC.new w
  have hC3 := (CpS.fresh (w.alloc (.cells #[.slice none 0 0] 27))).sk
  have hA1 : Below w.heap.size w (w.alloc (.cells #[.slice none 0 0] 27)) := (Below.refl _ w).alloc (Nat.le_refl _) _
  have hA2 : Below (w.alloc (.cells #[.slice none 0 0] 27)).heap.size (w.alloc (.cells #[.slice none 0 0] 27)) (((w.alloc (.cells #[.slice none 0 0] 27)).alloc (.cells #[] 38)).alloc (.cells #[.slice (some ⟨w.heap.size + 1, 0, none⟩) 0 0] 27)) := al1 ((Below.refl _ _).alloc (Nat.le_refl _) _) _
  have hR3 := hR1.on hA2
  rw [World.size_alloc] at hC3
  have hA3 := hA1.trans (hA2.mono hA1.size)
  obtain ⟨Lk, hLk⟩ : ∃ Lk, w.heap.size + 1 + 1 = Lk := ⟨_, rfl⟩
  rw [hLk] at hC3
  have HLK := Lib.hid hLk
  clear k1 p ho hR1 hA1 hA2 hLk
  go_enter Tryd.func77, Tryd.ntmps77
  go_wp2_with fail
  rw [HLK.out]
  generalize ((w.alloc (.cells #[.slice none 0 0] 27)).alloc (.cells #[] 38)).alloc (.cells #[.slice (some ⟨w.heap.size + 1, 0, none⟩) 0 0] 27) = W3 at hC3 hA3 hR3 ⊢
  have HS3 := Lib.hid hC3
  have HB3 := Lib.hid hA3
  have HR3 := Lib.hid hR3
  clear hC3 hA3 hR3
  go_loopw [6] (fun si wr => ∃ (k : Nat), k ≤ zz.length ∧ si = .int .i64 (k : Int) ∧ Hid (SkS (w.heap.size + 1) Lk wr (sklK zz d k)) ∧ Hid (ResC wr w.heap.size) ∧ Hid (Below w.heap.size w wr)) (fun i _ => zz.length - (intOf i).toNat)
  case atStart => exact ⟨0, Nat.zero_le _, rfl, by show SkS _ _ _ _; exact HS3.out, HR3, HB3⟩
  case round =>
    clear HS3 HB3 HR3
    obtain ⟨k, hk, rfl, HY, HR, HB⟩ := hrel
    have i0' : 0 ≤ (k : Int) := by omega
    have hsz := HB.out.size
    have p1 := (P.out.on HB.out).2
    by_cases hlt : k < zz.length
    · have i1 : (k : Int) < (zz.length : Int) := by omega
      obtain ⟨b, o, y, rfl, hb, c1', i1'⟩ := K1.out k hlt
      have c1 := (HB.out.cell (p := ⟨b, o + k, none⟩) hb).trans c1'
      have I1 := Lib.hid (i1'.on HB.out)
      obtain ⟨ta, tc, rfl⟩ := I1.out.1.slice
      have hst := HO.out.sim hlt
      have hl4 := hst.le
      have hl1 := hst.pos
      clear c1' i1' hst
      by_cases hdim : (zz[k].length : Int) ≤ d + 1
      · have HN := Lib.hid (sklK_yes hlt hdim)
        have l3 : (zz[k].length : Int) ≤ d + 1 := hdim
        obtain ⟨t, htt⟩ : ∃ t, zz[k] = t := ⟨_, rfl⟩
        rw [htt] at c1 I1 hl4 hl1 l3 HN
        clear htt hdim
        obtain ⟨sv, L, sp, sf, so, sn1, sn2⟩ := HY.out
        have hkl := sklK_len zz d k
        obtain ⟨z, hz⟩ : ∃ z, (sklK zz d k).length = z := ⟨_, rfl⟩
        have HZ := Lib.hid hz
        rw [hz] at hkl
        obtain ⟨va, vc, rfl⟩ := so.slice
        rw [hz] at sp so sn1
        have SP := Lib.hid sp
        have SF := Lib.hid sf
        have SO := Lib.hid so
        have SN1 := Lib.hid sn1
        have SN2 := Lib.hid sn2
        have c2 := sp.2
        have hlk := sp.1
        have hwb : w.heap.size + 1 ≤ wr.heap.size := by have := HLK.out; omega
        clear hz sp so sn1 sn2
        go_wp2_with fail
        go_region_law
          (first
            | (go_simp; go_at_call 81; refine (l00Own_any (I1.out.on (by repeat (first | with_reducible exact Below.refl _ _ | with_reducible refine drew_below ?_ | with_reducible refine al1 ?_ _))) (by omega)).mono ?_; rintro e w6 ⟨v6, rfl, ho6, hb6'⟩; have hb6 : Below wr.heap.size wr w6 := (by first | exact hb6' | exact undrew hb6'); obtain ⟨xa, xc, rfl⟩ := ho6.slice; have k6 := (SP.out.on hb6).2; have k6a := (SP.out.on (al1 hb6 (.cells #[.slice xa t.length xc] 38))).2; have HX6 : Hid (OwnI wr.heap.size w6 (.slice xa t.length xc) t) := ho6; dsimp only)
            | (refine step_append_lies _ (by rfl) _ _ _ (by rfl) (w.heap.size + 1) 38 i0 (.slice none 0 0) 1 24 Tryd.underlying22 hi0 iz0 iz1 iz2 (by rfl) (by omega) (.slice va z vc) z L (by rfl) (OwnR.rowZ SO.out HZ.out (by repeat (first | with_reducible exact hb6 | with_reducible refine drew_below ?_ | with_reducible refine al1 ?_ _))) ⟨w6.heap.size, 0, none⟩ 1 1 [.slice xa t.length xc] (by rfl) (by rfl) (by first | with_reducible exact row_oneJ _ _ _ _ (by simp) | exact row_oneJ _ _ _ _ (by simp)) (by simp [Value.oneCell']) (by omega) (by unfold maxLen; omega) (by omega) (by have := hb6.size; simp; omega) (w6.heap.size + 1) (by simp) ?_; intro gg cap w7 hown7 hgrow hat hlt7; have HGB := Lib.hid (sk_cell hgrow SP.out SF.out SN1.out (by repeat (first | with_reducible exact hb6 | with_reducible refine drew_below ?_ | with_reducible refine al1 ?_ _))); obtain ⟨c7, f7⟩ := HGB.out))
        all_goals
          have HS7 := Lib.hid (SkS.push HZ.out SP.out SF.out SO.out SN1.out SN2.out hwb (by repeat (first | with_reducible exact hb6 | with_reducible refine drew_below ?_ | with_reducible refine al1 ?_ _)) (HX6.out.on (by repeat (first | with_reducible exact Below.refl _ _ | with_reducible refine drew_below ?_ | with_reducible refine al1 ?_ _))) hown7 hgrow (hat.imp_right fun e => by rw [e]; simp))
          have HB7 := Lib.hid (sk_below (Lk := Lk) (x := .slice (some ⟨gg, 0, none⟩) (z + 1) cap) HB.out (by repeat (first | with_reducible exact hb6 | with_reducible refine drew_below ?_ | with_reducible refine al1 ?_ _)) hgrow hsz (by have := HLK.out; omega) SO.out.row (by omega))
          have HR7 : Hid (ResC (w7.setCell ⟨Lk, 0, none⟩ (.slice (some ⟨gg, 0, none⟩) (z + 1) cap)) w.heap.size) := sk_res HR.out (by repeat (first | with_reducible exact hb6 | with_reducible refine drew_below ?_ | with_reducible refine al1 ?_ _)) hgrow SO.out.row (by omega) (by have := HLK.out; omega)
          clear hown7 hgrow hat c7 f7 HGB k6 k6a
          go_wp2_with fail
          go_roundw
          case rel =>
            refine ⟨k + 1, by omega, by go_num, ?_, ?_, ?_⟩
            · show SkS _ _ _ _
              rw [HN.out]
              first | with_reducible exact HS7.out | exact HS7.out
            · first | with_reducible exact HR7 | exact HR7
            · first | with_reducible exact HB7 | (show Below _ _ _; exact drew_below HB7.out)
          case measure => simp [intOf]; omega
      · have HN := Lib.hid (sklK_no hlt hdim)
        have l3 : ¬ (zz[k].length : Int) ≤ d + 1 := hdim
        generalize zz[k].length = n at c1 l3 hl4
        clear hdim I1 hl1
        go_wp2_with fail
        go_roundw
        case rel => exact ⟨k + 1, by omega, by go_num, by rw [HN.out]; exact HY, HR, by first | exact HB | (show Below _ _ _; exact drew_below HB.out)⟩
        case measure => simp [intOf]; omega
    · obtain rfl : k = zz.length := by omega
      obtain ⟨sv, L, sp, sf, so, sn1, sn2⟩ := HY.out
      obtain ⟨va, vc, rfl⟩ := so.slice
      have SO := Lib.hid so
      have c2 := sp.2
      obtain ⟨⟨_, r2⟩, z2⟩ := HR.out
      clear sp so sn1 sn2 sf
      go_wp2_with fail
      refine bodyPost_ret (v := .agg #[.slice va (sklK zz d zz.length).length vc]) (by simp [results, Tryd.results77, go_sem, r2]) rfl ⟨_, rfl, OwnRI.mono (OwnRI.setOut (B := w.heap.size + 1) ⟨L, SO.out⟩ (by omega) _) (by omega), HB.out.setCell (p := ⟨w.heap.size, 0, none⟩) (Nat.le_refl _) _⟩
set_option maxRecDepth 100000 in
set_option maxHeartbeats 12800000 in
theorem specSkl_is {u : Value} {zz : List (List Int)} {d : Int} {yy : List (List Int)} {c : Int} {w : World} (hu : RowsQ w u zz) (h : SklIs zz d yy c) :
    Calls Tryd.prog 41 #[.agg #[u], .int .i64 d] w fun e w' => RetClo yy c w e w' := by
  have HU := Lib.hid hu
  obtain ⟨a, cp, rfl, hl, k1⟩ := hu
  have K1 := Lib.hid k1
  have hW1 : Below w.heap.size w ((w.alloc (.cells #[.slice a zz.length cp] 27)).alloc (.cells #[.slice none 0 0] 27)) := al1 ((Below.refl _ w).alloc (Nat.le_refl _) _) _
  have hP1 : PtC ((w.alloc (.cells #[.slice a zz.length cp] 27)).alloc (.cells #[.slice none 0 0] 27)) w.heap.size (.slice a zz.length cp) := PtC.new1 w _ _ _
  have hR1 := ResC.new (w.alloc (.cells #[.slice a zz.length cp] 27))
  rw [World.size_alloc] at hR1
  have hU1 := HU.out.on hW1
  obtain ⟨LR, hLR⟩ : ∃ LR, w.heap.size + 1 = LR := ⟨_, rfl⟩
  rw [hLR] at hR1
  have hlr : w.heap.size < LR := by omega
  have HLR := Lib.hid hLR
  clear k1 hLR
  rcases h with ⟨ho, rfl, rfl⟩ | ⟨ho, hd, rfl, rfl⟩ | ⟨ho, hd, rfl, rfl⟩
  · go_enter Tryd.func41, Tryd.ntmps41
    go_wp2_with fail
    rw [HLR.out]
    generalize (w.alloc (.cells #[.slice a zz.length cp] 27)).alloc (.cells #[.slice none 0 0] 27) = W1 at hW1 hP1 hR1 hU1 ⊢
    have AL := Lib.hid hW1
    have P1 := Lib.hid hP1
    have R1 := Lib.hid hR1
    have U1 := Lib.hid hU1
    clear hW1 hP1 hR1 hU1
    refine (l05Ok_is P1.out U1.out (.inr ⟨rfl, ho⟩)).mono ?_
    rintro e w2 ⟨rfl, hb2⟩
    obtain ⟨⟨_, r2⟩, z2⟩ := R1.out.on hb2
    have R2 := Lib.hid (R1.out.on hb2)
    have P2 := Lib.hid (P1.out.on hb2)
    have U2 := Lib.hid (U1.out.on hb2)
    have HB2 := Lib.hid (AL.out.trans (hb2.mono AL.out.size))
    clear hb2
    go_wp2_with fail
    refine bodyPost_ret (v := .tuple #[.agg #[.slice none 0 0], .int .i64 1]) (by simp [results, Tryd.results41, go_sem, r2]) rfl ⟨_, rfl, OwnRI.nul _ _, HB2.out.setCell (p := ⟨LR, 0, none⟩) (Nat.le_of_lt hlr) _⟩
  · have hin : inB d 0 3 = false := inB_no (by omega)
    go_enter Tryd.func41, Tryd.ntmps41
    go_wp2_with fail
    rw [HLR.out]
    generalize (w.alloc (.cells #[.slice a zz.length cp] 27)).alloc (.cells #[.slice none 0 0] 27) = W1 at hW1 hP1 hR1 hU1 ⊢
    have AL := Lib.hid hW1
    have P1 := Lib.hid hP1
    have R1 := Lib.hid hR1
    have U1 := Lib.hid hU1
    clear hW1 hP1 hR1 hU1
    refine (l05Ok_is P1.out U1.out (.inl ⟨rfl, ho⟩)).mono ?_
    rintro e w2 ⟨rfl, hb2⟩
    obtain ⟨⟨_, r2⟩, z2⟩ := R1.out.on hb2
    have R2 := Lib.hid (R1.out.on hb2)
    have P2 := Lib.hid (P1.out.on hb2)
    have U2 := Lib.hid (U1.out.on hb2)
    have HB2 := Lib.hid (AL.out.trans (hb2.mono AL.out.size))
    clear hb2
    go_wp2_with fail
    refine (l05Dim_is _ hin).mono ?_
    rintro e w3 ⟨rfl, rfl⟩
    go_wp2_with fail
    refine bodyPost_ret (v := .tuple #[.agg #[.slice none 0 0], .int .i64 2]) (by simp [results, Tryd.results41, go_sem, r2]) rfl ⟨_, rfl, OwnRI.nul _ _, HB2.out.setCell (p := ⟨LR, 0, none⟩) (Nat.le_of_lt hlr) _⟩
  · have hin : inB d 0 3 = true := inB_yes hd.1 hd.2
    go_enter Tryd.func41, Tryd.ntmps41
    go_wp2_with fail
    rw [HLR.out]
    generalize (w.alloc (.cells #[.slice a zz.length cp] 27)).alloc (.cells #[.slice none 0 0] 27) = W1 at hW1 hP1 hR1 hU1 ⊢
    have AL := Lib.hid hW1
    have P1 := Lib.hid hP1
    have R1 := Lib.hid hR1
    have U1 := Lib.hid hU1
    clear hW1 hP1 hR1 hU1
    refine (l05Ok_is P1.out U1.out (.inl ⟨rfl, ho⟩)).mono ?_
    rintro e w2 ⟨rfl, hb2⟩
    obtain ⟨⟨_, r2⟩, z2⟩ := R1.out.on hb2
    have R2 := Lib.hid (R1.out.on hb2)
    have P2 := Lib.hid (P1.out.on hb2)
    have U2 := Lib.hid (U1.out.on hb2)
    have HB2 := Lib.hid (AL.out.trans (hb2.mono AL.out.size))
    clear hb2
    go_wp2_with fail
    refine (l05Dim_is _ hin).mono ?_
    rintro e w3 ⟨rfl, rfl⟩
    go_wp2_with fail
    refine (l05Skel_any P2.out U2.out ho hd).mono ?_
    rintro e w4 ⟨v4, rfl, ho4, hb4⟩
    obtain ⟨va, vc, rfl⟩ := ho4.slice
    have HO4 := Lib.hid ho4
    have HB4 := Lib.hid (HB2.out.trans (hb4.mono HB2.out.size))
    obtain ⟨⟨_, r4⟩, z4⟩ := R2.out.on hb4
    have hlw : LR < w2.heap.size := R2.out.1.1
    clear ho4 hb4 r2 z2
    go_wp2_with fail
    refine bodyPost_ret (v := .tuple #[.agg #[.slice va (sklK zz d zz.length).length vc], .int .i64 0]) (by simp [results, Tryd.results41, go_sem, r4]) rfl ⟨_, rfl, OwnRI.mono (OwnRI.setOut HO4.out hlw _) HB2.out.size, HB4.out.setCell (p := ⟨LR, 0, none⟩) (Nat.le_of_lt hlr) _⟩
end Go.Proofs.YtljmfpifhbfdcaaDoor
