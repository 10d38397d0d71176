/-
  FreePairs of the model and of the program.
-/
import Derived.Test.YtibdcejglkhcfaaDoorMpM
namespace Go.Proofs.YtibdcejglkhcfaaDoor
open Go.RowKit
set_option linter.unusedVariables false
set_option linter.unusedSimpArgs false

def FpIs (zz yy : List (List Int)) (c : Int) : Prop := (¬ OkC zz ∧ yy = [] ∧ c = 1) ∨ (OkC zz ∧ yy = frR zz zz.length ∧ c = 0)
theorem fp_has (zz : List (List Int)) : ∃ yy c, FpIs zz yy c := by
  by_cases h : OkC zz
  · exact ⟨_, _, .inr ⟨h, rfl, rfl⟩⟩
  · exact ⟨_, _, .inl ⟨h, rfl, rfl⟩⟩
theorem tot_pairs : ∀ L : List (Nat × Nat), tot (L.map fun p => [(p.1 : Int), (p.2 : Int)]) = 2 * L.length
  | [] => rfl
  | p :: L => by
    have := tot_pairs L
    simp only [List.map_cons, tot, List.length_cons, List.length_nil, this] at *; omega
theorem FpIs.fit {zz yy : List (List Int)} {c : Int} (h : FpIs zz yy c) : FitR yy := by
  rcases h with ⟨_, rfl, _⟩ | ⟨h, rfl, _⟩
  · exact ⟨by simp, by simp [tot]⟩
  · have h1 := frK_len zz zz.length
    have h2 := h.2
    refine ⟨by have := frR_len zz zz.length; omega, ?_⟩
    unfold frR; rw [tot_pairs]; omega
def RetRC8 (Z : List (List Int)) (c : Int) (w : World) (e : Ending) (w' : World) : Prop := ∃ v, e = .returned (.tuple #[v, .int .i64 c]) ∧ OwnRI w.heap.size w' v Z ∧ Below w.heap.size w w'
set_option maxRecDepth 100000 in
theorem specFP_is {u : Value} {zz yy : List (List Int)} {c : Int} {w : World} (hu : RowsQ w u zz) (h : FpIs zz yy c) :
    Calls Tryd.prog 24 #[.agg #[u]] w fun e w' => RetRC8 yy c w e w' := by
  have HU := Lib.hid hu
  obtain ⟨a, cp, rfl, hl, k1⟩ := hu
  have al0 : Below w.heap.size w (w.alloc (.cells #[.slice a zz.length cp] 28)) := (Below.refl _ w).alloc (Nat.le_refl _) _
  have P0 := Lib.hid (PtC.new w (.slice a zz.length cp) 28)
  have U0 := Lib.hid (HU.out.on al0)
  have AL := Lib.hid al0
  clear al0 k1
  rcases h with ⟨ho, rfl, rfl⟩ | ⟨ho, rfl, rfl⟩
  · have hvv := l05Ok_is P0.out U0.out (.inr ⟨rfl, ho⟩)
    clear ho
    go_enter Tryd.func24, Tryd.ntmps24
    go_wp2_with (go_at_call 37; refine hvv.mono ?_; rintro e w2 ⟨rfl, hb2⟩)
    go_ret2
    exact ⟨_, rfl, OwnRI.nul _ _, AL.out.trans (hb2.mono AL.out.size)⟩
  · have hvv := l05Ok_is P0.out U0.out (.inl ⟨rfl, ho⟩)
    have HO := Lib.hid ho
    clear ho
    go_enter Tryd.func24, Tryd.ntmps24
    go_wp2_with (go_at_call 37; refine hvv.mono ?_; rintro e w2 ⟨rfl, hb2⟩; have HB2 := Lib.hid hb2; have HA2 := Lib.hid (AL.out.trans (hb2.mono AL.out.size)))
    refine (l08Free_any (P0.out.on HB2.out) (U0.out.on HB2.out).rows HO.out).mono ?_
    rintro e w4 ⟨v4, rfl, ho4, hb4⟩
    have HO4 := Lib.hid ho4
    have HB4 := Lib.hid hb4
    clear ho4 hb4 hvv
    go_wp2_with fail
    go_ret2
    exact ⟨_, rfl, OwnRI.mono HO4.out HA2.out.size, HA2.out.trans (HB4.out.mono HA2.out.size)⟩
theorem frR_take {zz : List (List Int)} {k : Nat} (h : k < (frK zz zz.length).length) : (frR zz zz.length).take (k + 1) = (frR zz zz.length).take k ++ [[((frK zz zz.length)[k].1 : Int), ((frK zz zz.length)[k].2 : Int)]] := by
  have h' : k < (frR zz zz.length).length := by unfold frR; rw [List.length_map]; exact h
  rw [List.take_succ_eq_append_getElem h']
  congr 2
  simp [frR]
set_option maxRecDepth 100000 in
set_option maxHeartbeats 6400000 in
theorem implFP_is {u : Value} {zz yy : List (List Int)} {c : Int} {w : World} (hu : RowsAt w u zz) (h : FpIs zz yy c) (hTz : Tz w) :
    Calls Tryd.prog 25 #[.agg #[u]] w fun e w' => RetRC8 yy c w e w' := by
  have HU := Lib.hid hu
  obtain ⟨a, cp, rfl⟩ := hu.slice
  have al0 : Below w.heap.size w (w.alloc (.cells #[.slice a zz.length cp] 28)) := (Below.refl _ w).alloc (Nat.le_refl _) _
  have P0 := Lib.hid (PtC.new w (.slice a zz.length cp) 28)
  have U0 := Lib.hid (HU.out.on al0)
  have TZ := Lib.hid (hTz.on al0)
  have AL := Lib.hid al0
  have p0 := P0.out.2
  clear al0 hu hTz
  rcases h with ⟨ho, rfl, rfl⟩ | ⟨ho, rfl, rfl⟩
  · have hvv := implVal_is U0.out (.inr ⟨rfl, ho⟩) TZ.out
    clear ho
    go_enter Tryd.func25, Tryd.ntmps25
    go_wp2_with (go_at_call 50; refine hvv.mono ?_; rintro e w2 ⟨rfl, hb2⟩)
    go_ret2
    exact ⟨_, rfl, OwnRI.nul _ _, AL.out.trans (hb2.mono AL.out.size)⟩
  · obtain ⟨i0, hi0, iz0, iz1, iz2⟩ := info_parts info_r
    have hvv := implVal_is U0.out (.inl ⟨rfl, ho⟩) TZ.out
    have HO := Lib.hid ho
    have h48 := ho.2
    clear ho
    go_enter Tryd.func25, Tryd.ntmps25
    go_wp2_with fail
    refine hvv.mono ?_
    rintro e w2 ⟨rfl, hb2⟩
    have p2 := (P0.out.on hb2).2
    have HB2 := Lib.hid (AL.out.trans (hb2.mono AL.out.size))
    have HU2 := Lib.hid (U0.out.on hb2)
    clear hvv p0 hb2
    go_wp2_with fail
    refine (list_any HU2.out HO.out).mono ?_
    rintro e w3 ⟨v3, rfl, ho3, hb3⟩
    obtain ⟨la, lc, rfl, hk3⟩ := ho3.sims
    have HB3 := Lib.hid (HB2.out.trans (hb3.mono HB2.out.size))
    have HK3 := Lib.hid hk3
    clear ho3 hb3 hk3 p2
    go_wp2_with fail
    refine (freePairs_any HO.out HK3.out).mono ?_
    rintro e w4 ⟨v4, rfl, ho4, hb4⟩
    have HB4 := Lib.hid (HB3.out.trans (hb4.mono HB3.out.size))
    have HO4 := Lib.hid ho4
    have HTK : Hid (∀ k (h : k < (frK zz zz.length).length), (frR zz zz.length).take (k + 1) = (frR zz zz.length).take k ++ [[((frK zz zz.length)[k].1 : Int), ((frK zz zz.length)[k].2 : Int)]]) := fun k h => frR_take h
    have HRL : Hid ((frR zz zz.length).length = (frK zz zz.length).length) := by show _ = _; unfold frR; rw [List.length_map]
    have hfl := frK_len zz zz.length
    obtain ⟨fr, hfr⟩ : ∃ fr, frR zz zz.length = fr := ⟨_, rfl⟩
    have HFR := Lib.hid hfr
    rw [hfr] at HTK HRL
    generalize frK zz zz.length = fk at HO4 ho4 HTK HRL hfl
    obtain ⟨pa, pc, rfl⟩ := ho4.slice
    have hO0 : OwnRI w4.heap.size w4 (.slice none 0 0) (fr.take 0) := by rw [List.take_zero]; exact OwnRI.nul _ _
    have HO0 := Lib.hid hO0
    clear ho4 hb4 hfr hO0
    go_wp2_with fail
    go_loopw [4, 14] (fun so si wr => ∃ (k : Nat), k ≤ fk.length ∧ si = .int .i64 (k : Int) ∧ Hid (OwnRI w4.heap.size wr so (fr.take k)) ∧ Hid (Below w4.heap.size w4 wr)) (fun _ si _ => fk.length - (intOf si).toNat)
    case atStart => exact ⟨0, Nat.zero_le _, rfl, HO0, Below.refl _ _⟩
    case round =>
      clear HO0
      obtain ⟨k, hk, rfl, HY, HB⟩ := hrel
      have i0' : 0 ≤ (k : Int) := by omega
      have hs := HB.out.size
      by_cases hlt : k < fk.length
      · have i1' : (k : Int) < (fk.length : Int) := by omega
        obtain ⟨g, cap, e, hg, ks⟩ := HO4.out.at1 (by omega)
        injection e with e1 _ e3
        subst e1 e3
        obtain ⟨ka, kb⟩ := ks k hlt
        rw [Nat.mul_comm 2 k] at ka kb
        have ca := (HB.out.cell (p := ⟨g, k * 2, none⟩) hg).trans ka
        have cb := (HB.out.cell (p := ⟨g, k * 2 + 1, none⟩) hg).trans kb
        have HN := Lib.hid (HTK.out k hlt)
        generalize (fk[k].1 : Int) = x at ca HN
        generalize (fk[k].2 : Int) = y at cb HN
        obtain ⟨Lv, hL⟩ := HY.out
        have hzl : (fr.take k).length = k := by rw [List.length_take]; have := HRL.out; omega
        obtain ⟨oa, oc, rfl⟩ := hL.slice
        have HL2 := Lib.hid hL
        rw [hzl] at HL2 ⊢
        have HZL := Lib.hid hzl
        have HU : Hid (OwnI wr.heap.size ((wr.alloc (.cells #[.int .i64 x, .int .i64 y] 82)).alloc (.cells #[.int .i64 x, .int .i64 y] 2)) (.slice (some ⟨wr.heap.size + 1, 0, none⟩) 2 2) [x, y]) := by
          have h := ownI_twoM (wr.alloc (.cells #[.int .i64 x, .int .i64 y] 82)) x y
          rw [World.size_alloc] at h
          exact OwnI.mono h (Nat.le_succ _)
        have HBU : Hid (Below wr.heap.size wr ((wr.alloc (.cells #[.int .i64 x, .int .i64 y] 82)).alloc (.cells #[.int .i64 x, .int .i64 y] 2))) := al1 (al1 (Below.refl _ _) _) _
        clear hL ka kb ks HY hzl
        go_wp2_with (at_builtin; go_loud (refine wpList_append_place _ rfl _ _ 22 rfl w4.heap.size 25 i0 (.slice none 0 0) 24 Tryd.underlying22 hi0 iz0 iz1 iz2 rfl _ k Lv rfl (by have h := (HL2.out.on (HBU.out.alloc HBU.out.size (.cells #[.slice (some ⟨wr.heap.size + 1, 0, none⟩) 2 2] 25))).row; rw [HZL.out] at h; exact h) ⟨wr.heap.size + 2, 0, none⟩ _ (.slice (some ⟨wr.heap.size + 1, 0, none⟩) 2 2) rfl (row_oneS _ _ _ _ (by simp)) (fun y hy => by simp at hy; rw [hy]; rfl) (by unfold maxLen; omega) (by omega) (by simp; omega) ?_); intro v3 w3 hr3 hg3 hv3)
        have hp3 := OwnRI.push HL2.out HU.out HBU.out hs (by rw [HZL.out]; exact hr3) hg3 (fun g hg => (hv3 g hg).imp id (fun h => by simp at h ⊢; omega))
        have hb3 : Below w4.heap.size w4 w3 := (HB.out.trans ((HBU.out.alloc HBU.out.size _).mono hs)).grown hg3 (by simp; omega) (fun k hk => (HL2.out.row.lt k hk).1)
        have HX : Hid (OwnRI w4.heap.size w3 v3 (fr.take (k + 1))) := by
          show OwnRI _ _ _ _
          rw [HN.out]; exact hp3
        have HB3' := Lib.hid hb3
        clear hp3 hb3 hr3 hg3 hv3
        go_wp2_with fail
        go_roundw
        case rel => exact ⟨k + 1, by omega, by go_num, HX, HB3'⟩
        case measure => simp [intOf]; omega
      · obtain rfl : k = fk.length := by omega
        rw [List.take_of_length_le (by have := HRL.out; omega)] at HY
        go_wp2_with fail
        go_ret2
        exact ⟨_, rfl, by rw [HFR.out]; exact OwnRI.mono HY.out HB4.out.size, HB4.out.trans (HB.out.mono HB4.out.size)⟩
end Go.Proofs.YtibdcejglkhcfaaDoor
