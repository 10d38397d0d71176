/-
  FacesOf of the model and of the program.
-/
import Derived.Test.YtljmfpifhbfdcaaDoorCzA
import Derived.Test.YtljmfpifhbfdcaaDoorCyL
import Derived.Test.YtljmfpifhbfdcaaDoorCyN
import Derived.Maps.OwnOps
namespace Go.Proofs.YtljmfpifhbfdcaaDoor
open Go.RowKit Go.Maps
set_option linter.unusedVariables false
set_option linter.unusedSimpArgs false

/-- The places of the sides that leave out one of the first k vertices. -/
def faceL (zz : List (List Int)) (s : List Int) (k : Nat) : List Int := if s.length ≤ 1 then [] else (List.range k).map fun i => fndI (dropAt s i) zz 0
theorem faceL_len (zz : List (List Int)) (s : List Int) (k : Nat) : (faceL zz s k).length ≤ k := by unfold faceL; split <;> simp
theorem faceL_next {zz : List (List Int)} {s : List Int} {k : Nat} (h : 1 < s.length) : faceL zz s (k + 1) = faceL zz s k ++ [fndI (dropAt s k) zz 0] := by
  unfold faceL; rw [if_neg (by omega), if_neg (by omega), List.range_succ, List.map_append]; rfl
theorem faceL_one {zz : List (List Int)} {s : List Int} {k : Nat} (h : s.length ≤ 1) : faceL zz s k = [] := by unfold faceL; rw [if_pos h]
theorem faceL_zero (zz : List (List Int)) (s : List Int) : faceL zz s 0 = [] := by unfold faceL; split <;> rfl
def FacIs (zz : List (List Int)) (k : Int) (yy : List Int) (c : Int) : Prop :=
  (¬ OkC zz ∧ yy = [] ∧ c = 1) ∨ (OkC zz ∧ ¬ (0 ≤ k ∧ k ≤ (zz.length : Int) - 1) ∧ yy = [] ∧ c = 2) ∨ (OkC zz ∧ (∃ i : Nat, ∃ h : i < zz.length, k = (i : Int) ∧ yy = faceL zz zz[i] zz[i].length) ∧ c = 0)
theorem fac_has (zz : List (List Int)) (k : Int) : ∃ yy c, FacIs zz k yy c := by
  by_cases h : OkC zz
  · by_cases h1 : 0 ≤ k ∧ k ≤ (zz.length : Int) - 1
    · exact ⟨_, _, .inr (.inr ⟨h, ⟨k.toNat, by omega, by omega, rfl⟩, rfl⟩)⟩
    · exact ⟨_, _, .inr (.inl ⟨h, h1, rfl, rfl⟩)⟩
  · exact ⟨_, _, .inl ⟨h, rfl, rfl⟩⟩
theorem FacIs.fit {zz : List (List Int)} {k : Int} {yy : List Int} {c : Int} (h : FacIs zz k yy c) : yy.length ≤ 1048576 := by
  rcases h with ⟨_, rfl, _⟩ | ⟨_, _, rfl, _⟩ | ⟨h, ⟨i, hi, _, rfl⟩, _⟩
  · simp
  · simp
  · have := faceL_len zz zz[i] zz[i].length; have := (h.sim hi).le; omega
theorem fnd_bd (s : List Int) : ∀ (zz : List (List Int)) (i : Int), -1 ≤ i → i ≤ 1048576 → zz.length ≤ 48 → -1 ≤ fndI s zz i ∧ fndI s zz i ≤ i + 48
  | [], i, h, h', _ => by unfold fndI; omega
  | z :: zz, i, h, h', hl => by
    unfold fndI
    split
    · omega
    · rename_i hne
      clear hne
      by_cases hm : s ∈ zz
      · obtain ⟨k, hk, e, _⟩ := fndI_yes (i := i + 1) hm
        simp at hl
        rw [e]; omega
      · rw [fndI_no hm]; omega
set_option maxRecDepth 100000 in
set_option maxHeartbeats 3200000 in
theorem l05Faces_any {L i : Nat} {v : Value} {zz : List (List Int)} {w : World} (p : PtC w L v) (hq : RowsQ w v zz) (ho : OkC zz) (hi : i < zz.length) :
    Calls Tryd.prog 70 #[.pointer (some ⟨L, 0, none⟩), .int .i64 (i : Int)] w fun e w' => RetN (faceL zz zz[i] zz[i].length) w e w' := by
  obtain ⟨i0, hi0, iz0, iz1, iz2⟩ := info_parts info2
  have HQ := Lib.hid hq
  obtain ⟨a, c, rfl, hl, k1⟩ := hq
  have P := Lib.hid p
  have p2 := p.2
  have hsk := ho.sim hi
  have hbq := ho.2
  obtain ⟨b, o, u, rfl, hb, c1, hC⟩ := k1 i hi
  obtain ⟨s, hs⟩ : ∃ s, zz[i] = s := ⟨_, rfl⟩
  rw [hs] at hsk hC ⊢
  have HSK := Lib.hid hsk
  have HC := Lib.hid hC
  obtain ⟨ua, uc, rfl⟩ := hC.1.slice
  have hs4 := hsk.le
  have hs1 := hsk.pos
  have j0 : 0 ≤ (i : Int) := by omega
  have j1 : (i : Int) < (zz.length : Int) := by omega
  have hm : OwnI w.heap.size (w.alloc (.cells #[] 2)) (.slice (some ⟨w.heap.size, 0, none⟩) 0 0) [] := World.ownsRow_made (base := w.heap.size) (e := 2) (size := 1) w #[] 0 (Nat.le_refl _) (Nat.zero_le _) rfl
  have HM := Lib.hid hm
  have AL : Hid (Below w.heap.size w (w.alloc (.cells #[] 2))) := (Below.refl _ w).alloc (Nat.le_refl _) _
  clear k1 p hm hsk hC hs
  go_enter Tryd.func70, Tryd.ntmps70
  go_wp2_with fail
  clear p2 c1
  go_loopw [6, 7] (fun sv si wr => ∃ (k : Nat), k ≤ s.length ∧ si = .int .i64 (k : Int) ∧ Hid (OwnI w.heap.size wr sv (faceL zz s k)) ∧ Hid (Below w.heap.size w wr)) (fun _ i _ => s.length - (intOf i).toNat)
  case atStart => exact ⟨0, Nat.zero_le _, rfl, by show OwnI _ _ _ _; rw [faceL_zero]; exact HM.out, AL⟩
  case round =>
    clear HM AL
    obtain ⟨k, hk, rfl, HY, HB⟩ := hrel
    have hs := HB.out.size
    have i0' : 0 ≤ (k : Int) := by omega
    by_cases hlt : k < s.length
    · have i1 : (k : Int) < (s.length : Int) := by omega
      rcases Nat.lt_or_ge 1 s.length with h1 | h1
      · have g1 : (1 : Int) < (s.length : Int) := by omega
        have g2 : (s.length : Int) > 1 := g1
        have HN := Lib.hid (faceL_next (zz := zz) (k := k) h1)
        have hbd := fnd_bd (dropAt s k) zz 0 (by omega) (by omega) hbq
        have hkl := faceL_len zz s k
        go_wp2_with fail
        refine (l05Drop_any (HC.out.on HB.out) (by omega) hlt).mono ?_
        rintro e w5 ⟨v5, rfl, ho5, hb5⟩
        have HD5 : Hid (IntsAt w5 v5 (dropAt s k)) := OwnI.at ho5 (by have := dropAt_len hlt; show (dropAt s k).length ≤ _; omega)
        have HB5 := Lib.hid hb5
        have HP5 := Lib.hid ((P.out.on HB.out).on hb5)
        have HQ5 := Lib.hid ((HQ.out.on HB.out).on hb5).rows
        have HY5 : Hid (OwnI w.heap.size w5 u6 (faceL zz s k)) := HY.out.on hb5
        clear ho5 hb5
        obtain ⟨da, dc, rfl⟩ := HD5.out.slice
        go_wp2_with fail
        refine (l05Find_is HP5.out HQ5.out HD5.out rfl).mono ?_
        rintro e w6 ⟨rfl, n6, rfl⟩
        obtain ⟨f, hf⟩ : ∃ f, fndI (dropAt s k) zz 0 = f := ⟨_, rfl⟩
        rw [hf] at HN hbd ⊢
        have HF := Lib.hid hf
        clear hf
        have hs5 := HB5.out.size
        go_wp2_with (at_builtin; refine wpList_append_own _ rfl _ _ 38 rfl w.heap.size 2 i0 (.int .i64 0) 1 8 Tryd.underlying38 hi0 iz0 iz1 iz2 rfl (by decide) _ _ _ rfl (World.ownsRow.alloc (show OwnI w.heap.size (w5.drewN n6) _ _ from HY5.out).out (.cells #[.int .i64 f] 2)) ⟨w5.heap.size, 0, none⟩ 1 1 [.int .i64 f] rfl rfl (row_oneS _ _ _ _ (by first | rfl | simp)) (by first | rfl | (intro u hu; simp at hu; subst hu; rfl)) (by unfold maxLen; omega) (by omega) (by first | omega | (simp; omega)) ?_; intro v2 w10 hown3 hgrow _)
        have HO2 : Hid (OwnI w.heap.size w10 v2 (faceL zz s (k + 1))) := by
          show OwnI _ _ _ _
          rw [HN.out]; exact pushU hown3
        have HB2 := Lib.hid (below_pushU (below_drewX (HB.out.trans (HB5.out.mono hs)) n6) (Nat.le_refl _) (by first | omega | (simp; omega)) (show OwnI w.heap.size (w5.drewN n6) _ _ from HY5.out) hgrow)
        go_roundw
        case rel => exact ⟨k + 1, by omega, by go_num, HO2, HB2⟩
        case measure => simp [intOf]; omega
      · have g1 : ¬ (1 : Int) < (s.length : Int) := by omega
        have g2 : ¬ (s.length : Int) > 1 := g1
        have HE : Hid (faceL zz s k = faceL zz s s.length) := by show _ = _; rw [faceL_one h1, faceL_one h1]
        go_wp2_with fail
        go_ret
        exact ⟨_, rfl, by rw [← HE.out]; exact HY.out, HB.out⟩
    · obtain rfl : k = s.length := by omega
      go_wp2_with fail
      go_ret
      exact ⟨_, rfl, HY.out, HB.out⟩
set_option maxRecDepth 100000 in
theorem specFac_is {u : Value} {zz : List (List Int)} {k : Int} {yy : List Int} {c : Int} {w : World} (hu : RowsQ w u zz) (h : FacIs zz k yy c) :
    Calls Tryd.prog 35 #[.agg #[u], .int .i64 k] w fun e w' => RetSI5 yy c w e w' := by
  have HU := Lib.hid hu
  obtain ⟨a, cp, rfl, hl, k1⟩ := hu
  have al0 : Below w.heap.size w (w.alloc (.cells #[.slice a zz.length cp] 27)) := (Below.refl _ w).alloc (Nat.le_refl _) _
  have P0 := Lib.hid (PtC.new w (.slice a zz.length cp) 27)
  have U0 := Lib.hid (HU.out.on al0)
  have AL := Lib.hid al0
  clear al0 k1
  rcases h with ⟨ho, rfl, rfl⟩ | ⟨ho, hd, rfl, rfl⟩ | ⟨ho, ⟨i, hi, rfl, rfl⟩, rfl⟩
  · have hvv := l05Ask_is (k := k) P0.out U0.out (.inl ⟨ho, rfl⟩)
    clear ho
    go_enter Tryd.func35, Tryd.ntmps35
    go_wp2_with (go_at_call 69; refine hvv.mono ?_; rintro e w2 ⟨rfl, hb2⟩)
    go_ret2
    exact ⟨_, rfl, World.ownsRow_nil _ _ _ _, AL.out.trans (hb2.mono AL.out.size)⟩
  · have hvv := l05Ask_is (k := k) P0.out U0.out (.inr (.inl ⟨ho, hd, rfl⟩))
    clear ho
    go_enter Tryd.func35, Tryd.ntmps35
    go_wp2_with (go_at_call 69; refine hvv.mono ?_; rintro e w2 ⟨rfl, hb2⟩)
    go_ret2
    exact ⟨_, rfl, World.ownsRow_nil _ _ _ _, AL.out.trans (hb2.mono AL.out.size)⟩
  · have hvv := l05Ask_is (k := (i : Int)) P0.out U0.out (.inr (.inr ⟨ho, by omega, rfl⟩))
    have HO := Lib.hid ho
    clear ho
    go_enter Tryd.func35, Tryd.ntmps35
    go_wp2_with (go_at_call 69; refine hvv.mono ?_; rintro e w2 ⟨rfl, hb2⟩; have HB2 := Lib.hid hb2; have HA2 := Lib.hid (AL.out.trans (hb2.mono AL.out.size)))
    refine (l05Faces_any (P0.out.on HB2.out) (U0.out.on HB2.out) HO.out hi).mono ?_
    rintro e w4 ⟨v4, rfl, ho4, hb4⟩
    have HO4 := Lib.hid ho4
    have HB4 := Lib.hid hb4
    clear ho4 hb4 hvv
    go_wp2_with fail
    go_ret2
    exact ⟨_, rfl, OwnI.mono HO4.out HA2.out.size, HA2.out.trans (HB4.out.mono HA2.out.size)⟩
/-- The place of a simplex that is there, by the map of indices. -/
theorem idx_look {zz : List (List Int)} {D : DataW Unit} (hc : Cpx zz) (hD : IdxD zz zz.length D) {d : List Int} (hd : d ∈ zz) {c : Int} (hat : D.atKey (.int .u16 ((maskOf d : Nat) : Int)) (.lit (.int .i64 0)) = .lit (.int .i64 c)) : c = fndI d zz 0 := by
  obtain ⟨k, hk, e1, e2⟩ := fndI_yes (i := 0) hd
  have := hD.2.2 k hk hk (.lit (.int .i64 0))
  rw [e2, hat] at this
  injection this with this
  injection this with _ this
  rw [e1]; omega
set_option maxRecDepth 100000 in
set_option maxHeartbeats 3200000 in
theorem implFac_is {u : Value} {zz : List (List Int)} {k : Int} {yy : List Int} {c : Int} {w : World} (hu : RowsAt w u zz) (h : FacIs zz k yy c) (hTz : Tz w) :
    Calls Tryd.prog 36 #[.agg #[u], .int .i64 k] w fun e w' => RetSI5 yy c w e w' := by
  obtain ⟨i0, hi0, iz0, iz1, iz2⟩ := info_parts info2
  have HU := Lib.hid hu
  obtain ⟨a, cp, rfl, hl, k1⟩ := hu.any
  have K1 := Lib.hid k1
  have al0 : Below w.heap.size w (w.alloc (.cells #[.slice a zz.length cp] 27)) := (Below.refl _ w).alloc (Nat.le_refl _) _
  have P0 := Lib.hid (PtC.new w (.slice a zz.length cp) 27)
  have U0 := Lib.hid (HU.out.on al0)
  have AL := Lib.hid al0
  have TZ := Lib.hid (hTz.on al0)
  clear al0 k1 hTz
  rcases h with ⟨ho, rfl, rfl⟩ | ⟨ho, hd, rfl, rfl⟩ | ⟨ho, ⟨i, hi, rfl, rfl⟩, rfl⟩
  · have hvv := indexCode_is (k := k) U0.out (.inl ⟨ho, rfl⟩) TZ.out
    clear ho
    go_enter Tryd.func36, Tryd.ntmps36
    have p1 := P0.out.2
    go_wp2_with (go_at_call 71; refine hvv.mono ?_; rintro e w2 ⟨rfl, hb2⟩)
    go_ret2
    exact ⟨_, rfl, World.ownsRow_nil _ _ _ _, AL.out.trans (hb2.mono AL.out.size)⟩
  · have hvv := indexCode_is (k := k) U0.out (.inr (.inl ⟨ho, hd, rfl⟩)) TZ.out
    clear ho
    go_enter Tryd.func36, Tryd.ntmps36
    have p1 := P0.out.2
    go_wp2_with (go_at_call 71; refine hvv.mono ?_; rintro e w2 ⟨rfl, hb2⟩)
    go_ret2
    exact ⟨_, rfl, World.ownsRow_nil _ _ _ _, AL.out.trans (hb2.mono AL.out.size)⟩
  · have hvv := indexCode_is (k := (i : Int)) U0.out (.inr (.inr ⟨ho, by omega, rfl⟩)) TZ.out
    have hsk := ho.sim hi
    have HO := Lib.hid ho
    obtain ⟨b, o, x, rfl, hb, c1', i1'⟩ := K1.out i hi
    have j0' : 0 ≤ (i : Int) := by omega
    have j1 : (i : Int) < (zz.length : Int) := by omega
    have C1 := Lib.hid c1'
    obtain ⟨tb, tq, tc, rfl, htb, k1t⟩ := i1'.at1 hsk.pos
    have HS := Lib.hid hsk
    have KT := Lib.hid k1t
    have hz : Hid (zz[i] ∈ zz) := List.getElem_mem hi
    clear ho i1' c1' k1t hsk
    generalize zz[i] = s at C1 HS KT hz
    have hs4 := HS.out.le
    have hm := maskOf_lt s (fun v hv => HS.out.bd v hv)
    go_enter Tryd.func36, Tryd.ntmps36
    have p1 := P0.out.2
    go_wp2_with (go_at_call 71; refine hvv.mono ?_; rintro e w2 ⟨rfl, hb2⟩; have HB2 := Lib.hid hb2; have HA2 := Lib.hid (AL.out.trans (hb2.mono AL.out.size)); have q2 := (P0.out.on hb2).2; clear hb2)
    refine (indices_any (U0.out.on HB2.out) HO.out).mono ?_
    rintro e w3 ⟨mb, D, rfl, hm3, hd3, hb3⟩
    have HM3 := Lib.hid hm3
    have HD3 := Lib.hid hd3
    have HB3 := Lib.hid hb3
    have HA3 := Lib.hid (HA2.out.trans (hb3.mono HA2.out.size))
    have q3 := ((P0.out.on HB2.out).on hb3).2
    have c3 := (HA3.out.cell (p := ⟨b, o + i, none⟩) hb).trans C1.out
    have kt3 : ∀ j (h : j < s.length), w3.cell? ⟨tb, tq + j, none⟩ = some (.int .i64 s[j]) := fun j h => (HA3.out.cell (p := ⟨tb, tq + j, none⟩) htb).trans (KT.out j h)
    have hset := setOf_some (c := tc) (by omega) HS.out.bd kt3
    have hsd := sides_any HS.out ((TZ.out.on HB2.out).on HB3.out)
    clear hm3 hd3 hb3 kt3 hvv q2
    go_wp2_with (first | (go_at_call 55; refine hset.mono ?_; rintro e w4 ⟨rfl, rfl⟩))
    refine hsd.mono ?_
    rintro e w5 ⟨u5, rfl, ho5, hb5⟩
    have hsl := sideM_len s s.length
    have HO5 := Lib.hid ho5
    obtain ⟨va, vc, rfl⟩ := ho5.slice
    have HM5 := Lib.hid (HM3.out.on hb5)
    have HA5 := Lib.hid (HA3.out.trans (hb5.mono HA3.out.size))
    clear hset hsd ho5 hb5 q3 c3
    go_wp2_with fail
    go_loopw [8, 27] (fun sv si wr => ∃ (k : Nat), k ≤ (sideM s s.length).length ∧ si = .int .i64 (k : Int) ∧ Hid (OwnI w5.heap.size wr sv (faceL zz s k)) ∧ Hid (Below w5.heap.size w5 wr)) (fun _ i _ => (sideM s s.length).length - (intOf i).toNat)
    case atStart => exact ⟨0, Nat.zero_le _, rfl, by show OwnI _ _ _ _; rw [faceL_zero]; exact World.ownsRow_nil _ _ _ _, Below.refl _ _⟩
    case round =>
      obtain ⟨k, hk, rfl, HY, HB⟩ := hrel
      have hs := HB.out.size
      have i0' : 0 ≤ (k : Int) := by omega
      by_cases hlt : k < (sideM s s.length).length
      · have i1 : (k : Int) < ((sideM s s.length).length : Int) := by omega
        have h1 : 1 < s.length := by
          rcases Nat.lt_or_ge 1 s.length with h1 | h1
          · exact h1
          · rw [sideM_one h1] at hlt; exact absurd hlt (Nat.not_lt_zero _)
        have hks : k < s.length := by omega
        have hel : (sideM s s.length)[k] = maskOf (dropAt s k) := by
          have e : sideM s s.length = (List.range s.length).map fun i => maskOf (dropAt s i) := by unfold sideM; rw [if_neg (by omega)]
          simp [e]
        obtain ⟨va', vc', e, hgB⟩ := HO5.out.at1 (Nat.lt_of_le_of_lt (Nat.zero_le k) hlt)
        injection e with e1 e2 e3
        subst e1 e3
        have hgl : va' < w5.heap.size := (HO5.out.out.lt va' rfl).2
        have c5 : wr.cell? ⟨va', k, none⟩ = some (.int .u16 ((maskOf (dropAt s k) : Nat) : Int)) := by
          rw [← hel]; exact (HB.out.cell (p := ⟨va', k, none⟩) hgl).trans (HO5.out.cell rfl hlt)
        have hdm : dropAt s k ∈ zz := HO.out.drop hz.out hks h1
        have hdl := maskOf_lt (dropAt s k) (fun v hv => (HO.out.1.sim _ hdm).bd v hv)
        have HLK : Hid (∀ c, D.atKey (.int .u16 ((maskOf (dropAt s k) : Nat) : Int)) (.lit (.int .i64 0)) = .lit (.int .i64 c) → c = fndI (dropAt s k) zz 0) := fun c hc => idx_look HO.out.1 HD3.out hdm hc
        have HN := Lib.hid (faceL_next (zz := zz) (k := k) h1)
        have hkl := faceL_len zz s k
        have HMr := Lib.hid (HM5.out.on HB.out)
        generalize maskOf (dropAt s k) = d at c5 hdl HLK
        clear hel hdm
        obtain ⟨ya, yc, rfl⟩ := HY.out.slice
        go_wp2_with (first | (at_lookup; refine wpList_lookup_own_int _ rfl _ _ 68 rfl 58 2 .i64 (int_keyed Tryd.underlying58) Tryd.underlying68 Tryd.underlying2 (zero_i64 _) mb zz.length D rfl HMr.out.out _ _ rfl (key_u16 hdl) ?_; intro c hat hwc; have HCF := Lib.hid (HLK.out c hat); clear hat hwc) | (at_builtin; refine wpList_append_own _ rfl _ _ 38 rfl w5.heap.size 2 i0 (.int .i64 0) 1 8 Tryd.underlying38 hi0 iz0 iz1 iz2 rfl (by decide) _ _ _ rfl (World.ownsRow.alloc HY.out.out (.cells #[.int .i64 c] 2)) ⟨wr.heap.size, 0, none⟩ 1 1 [.int .i64 c] rfl rfl (row_oneS _ _ _ _ (by first | rfl | simp)) (by first | rfl | (intro u hu; simp at hu; subst hu; rfl)) (by unfold maxLen; omega) (by omega) (by first | omega | (simp; omega)) ?_; intro v2 w10 hown3 hgrow _))
        have HO2 : Hid (OwnI w5.heap.size w10 v2 (faceL zz s (k + 1))) := by
          show OwnI _ _ _ _
          rw [HN.out, ← HCF.out]; exact pushU hown3
        have HB2 := Lib.hid (below_pushU HB.out (Nat.le_refl _) (by first | omega | (simp; omega)) HY.out hgrow)
        clear hown3 hgrow
        go_wp2_with fail
        go_roundw
        case rel => exact ⟨k + 1, by omega, by go_num, HO2, HB2⟩
        case measure => simp [intOf]; omega
      · have he : faceL zz s k = faceL zz s s.length := by
          rcases Nat.lt_or_ge 1 s.length with h1 | h1
          · have e : (sideM s s.length).length = s.length := by unfold sideM; rw [if_neg (by omega)]; simp
            rw [show k = s.length by omega]
          · rw [faceL_one h1, faceL_one h1]
        have HE := Lib.hid he
        clear he
        go_wp2_with fail
        go_ret2
        exact ⟨_, rfl, by rw [← HE.out]; exact OwnI.mono HY.out HA5.out.size, HA5.out.trans (HB.out.mono HA5.out.size)⟩
end Go.Proofs.YtljmfpifhbfdcaaDoor
