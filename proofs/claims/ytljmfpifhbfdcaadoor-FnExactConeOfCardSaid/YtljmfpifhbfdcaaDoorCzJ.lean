/-
  ConeOf of the program.
-/
import Derived.Test.YtljmfpifhbfdcaaDoorCzH
namespace Go.Proofs.YtljmfpifhbfdcaaDoor
open Go.RowKit Go.Maps
set_option linter.unusedVariables false
set_option linter.unusedSimpArgs false

theorem row_twoU (w : World) (a b : Value) (t : TypeId) (n : Nat) (hn : w.heap.size = n) : ∀ (j : Nat) (x : Value), [a, b][j]? = some x → (w.alloc (.cells #[a, b] t)).cell? ((⟨n, 0, none⟩ : Addr).add j) = some x := by
  subst hn
  intro j x hx
  rw [Addr.add_lit, World.cell?_alloc_at _ _ _ _ rfl]
  simpa using hx
theorem own_oneU (w : World) (f : Nat) : OwnU w.heap.size (w.alloc (.cells #[.int .u16 (f : Int)] 58)) (.slice (some ⟨w.heap.size, 0, none⟩) 1 1) [f] :=
  ⟨by simp [uv], .inr ⟨w.heap.size, 1, _, rfl, Nat.le_refl _, heap_alloc_new w _, Nat.le_refl _, by unfold maxLen; omega, rfl, by simp [uv]⟩⟩
theorem pushUv2 {B : Nat} {w : World} {v : Value} {fs : List Nat} {f g : Nat} (h : w.ownsRow B 58 1 v (fs.length + 2) (uv fs ++ [.int .u16 (f : Int), .int .u16 (g : Int)])) : OwnU B w v (fs ++ [f, g]) := by
  unfold OwnU uv at *; rw [List.length_append, List.map_append]; exact h
theorem apex_has {zz : List (List Int)} {D : DataW Unit} (ho : OkC zz) (hD : IdxD zz zz.length D) {v : Int} (hv : 0 ≤ v ∧ v ≤ 9) : has D (.int .u16 ((maskOf [v] : Nat) : Int)) = decide ([v] ∈ zz) := by
  rw [Bool.eq_iff_iff, hD.2.1, decide_eq_true_eq]
  constructor
  · rintro ⟨i, hi, _, e⟩
    have e' : maskOf zz[i] = maskOf [v] := by omega
    rw [← (one_sim hv).verts, ← e', (ho.sim hi).verts]; exact List.getElem_mem hi
  · intro h
    obtain ⟨i, hi, e⟩ := List.getElem_of_mem h
    exact ⟨i, hi, hi, by rw [e]⟩
set_option maxRecDepth 100000 in
set_option maxHeartbeats 12800000 in
theorem implCon_is {u : Value} {zz : List (List Int)} {v : Int} {yy : List (List Int)} {c : Int} {w : World} (hu : RowsAt w u zz) (h : ConIs zz v yy c) (hTz : Tz w) :
    Calls Tryd.prog 44 #[.agg #[u], .int .i64 v] w fun e w' => RetClo yy c w e w' := by
  obtain ⟨i0, hi0, iz0, iz1, iz2⟩ := info_parts info_u
  have HU := Lib.hid hu
  obtain ⟨a, cp, rfl, hl, k1⟩ := hu.any
  have K1 := Lib.hid k1
  have hW1 : Below w.heap.size w ((w.alloc (.cells #[.slice a zz.length cp] 27)).alloc (.cells #[.slice none 0 0] 27)) := al1 ((Below.refl _ w).alloc (Nat.le_refl _) _) _
  have hP1 : PtC ((w.alloc (.cells #[.slice a zz.length cp] 27)).alloc (.cells #[.slice none 0 0] 27)) w.heap.size (.slice a zz.length cp) := PtC.new1 w _ _ _
  have hR1 := ResC.new (w.alloc (.cells #[.slice a zz.length cp] 27))
  rw [World.size_alloc] at hR1
  have hU1 := HU.out.on hW1
  have hT1 := hTz.on hW1
  obtain ⟨LR, hLR⟩ : ∃ LR, w.heap.size + 1 = LR := ⟨_, rfl⟩
  rw [hLR] at hR1
  have hlr : w.heap.size < LR := by omega
  have HLR := Lib.hid hLR
  clear k1 hLR hTz hu
  rcases h with ⟨ho, rfl, rfl⟩ | ⟨ho, hd, rfl, rfl⟩ | ⟨ho, hd, hz, rfl, rfl⟩ | ⟨ho, hd, hz, hR⟩
  · go_enter Tryd.func44, Tryd.ntmps44
    have p1 := hP1.2
    go_wp2_with fail
    rw [HLR.out]
    generalize (w.alloc (.cells #[.slice a zz.length cp] 27)).alloc (.cells #[.slice none 0 0] 27) = W1 at hW1 hP1 hR1 hU1 hT1 p1 ⊢
    have AL := Lib.hid hW1
    have P1 := Lib.hid hP1
    have R1 := Lib.hid hR1
    have U1 := Lib.hid hU1
    have T1 := Lib.hid hT1
    clear hT1
    clear hW1 hP1 hR1 hU1
    refine (implVal_is U1.out (.inr ⟨rfl, ho⟩) T1.out).mono ?_
    rintro e w2 ⟨rfl, hb2⟩
    obtain ⟨⟨_, r2⟩, z2⟩ := R1.out.on hb2
    have R2 := Lib.hid (R1.out.on hb2)
    have P2 := Lib.hid (P1.out.on hb2)
    have U2 := Lib.hid (U1.out.on hb2)
    have T2 := Lib.hid (T1.out.on hb2)
    have HB2 := Lib.hid (AL.out.trans (hb2.mono AL.out.size))
    have p2 := P2.out.2
    clear hb2
    go_wp2_with fail
    refine bodyPost_ret (v := .tuple #[.agg #[.slice none 0 0], .int .i64 1]) (by simp [results, Tryd.results44, go_sem, r2]) rfl ⟨_, rfl, OwnRI.nul _ _, HB2.out.setCell (p := ⟨LR, 0, none⟩) (Nat.le_of_lt hlr) _⟩
  · have hin : inB v 0 9 = false := inB_no (by omega)
    go_enter Tryd.func44, Tryd.ntmps44
    have p1 := hP1.2
    go_wp2_with fail
    rw [HLR.out]
    generalize (w.alloc (.cells #[.slice a zz.length cp] 27)).alloc (.cells #[.slice none 0 0] 27) = W1 at hW1 hP1 hR1 hU1 hT1 p1 ⊢
    have AL := Lib.hid hW1
    have P1 := Lib.hid hP1
    have R1 := Lib.hid hR1
    have U1 := Lib.hid hU1
    have T1 := Lib.hid hT1
    clear hT1
    clear hW1 hP1 hR1 hU1
    refine (implVal_is U1.out (.inl ⟨rfl, ho⟩) T1.out).mono ?_
    rintro e w2 ⟨rfl, hb2⟩
    obtain ⟨⟨_, r2⟩, z2⟩ := R1.out.on hb2
    have R2 := Lib.hid (R1.out.on hb2)
    have P2 := Lib.hid (P1.out.on hb2)
    have U2 := Lib.hid (U1.out.on hb2)
    have T2 := Lib.hid (T1.out.on hb2)
    have HB2 := Lib.hid (AL.out.trans (hb2.mono AL.out.size))
    have p2 := P2.out.2
    clear hb2
    go_wp2_with fail
    refine (within64_is _ hin).mono ?_
    rintro e w3 ⟨rfl, rfl⟩
    go_wp2_with fail
    refine bodyPost_ret (v := .tuple #[.agg #[.slice none 0 0], .int .i64 2]) (by simp [results, Tryd.results44, go_sem, r2]) rfl ⟨_, rfl, OwnRI.nul _ _, HB2.out.setCell (p := ⟨LR, 0, none⟩) (Nat.le_of_lt hlr) _⟩
  · have hin : inB v 0 9 = true := inB_yes hd.1 hd.2
    have HO := Lib.hid ho
    go_enter Tryd.func44, Tryd.ntmps44
    have p1 := hP1.2
    go_wp2_with fail
    rw [HLR.out]
    generalize (w.alloc (.cells #[.slice a zz.length cp] 27)).alloc (.cells #[.slice none 0 0] 27) = W1 at hW1 hP1 hR1 hU1 hT1 p1 ⊢
    have AL := Lib.hid hW1
    have P1 := Lib.hid hP1
    have R1 := Lib.hid hR1
    have U1 := Lib.hid hU1
    have T1 := Lib.hid hT1
    clear hT1
    clear hW1 hP1 hR1 hU1
    refine (implVal_is U1.out (.inl ⟨rfl, ho⟩) T1.out).mono ?_
    rintro e w2 ⟨rfl, hb2⟩
    obtain ⟨⟨_, r2⟩, z2⟩ := R1.out.on hb2
    have R2 := Lib.hid (R1.out.on hb2)
    have P2 := Lib.hid (P1.out.on hb2)
    have U2 := Lib.hid (U1.out.on hb2)
    have T2 := Lib.hid (T1.out.on hb2)
    have HB2 := Lib.hid (AL.out.trans (hb2.mono AL.out.size))
    have p2 := P2.out.2
    clear hb2
    go_wp2_with fail
    refine (within64_is _ hin).mono ?_
    rintro e w3 ⟨rfl, rfl⟩
    have hset : Calls Tryd.prog 55 #[.slice (some ⟨w2.heap.size, 0, none⟩) 1 1] (w2.alloc (.cells #[.int .i64 v] 2)) fun e w' => e = .returned (.int .u16 ((maskOf [v] : Nat) : Int)) ∧ (w2.alloc (.cells #[.int .i64 v] 2)) = w' :=
      setOf_some (l := [v]) (by simp) (fun x hx => by simp at hx; omega) (fun j hj => by
        have hj0 : j = 0 := by simp at hj; exact hj
        subst hj0
        rw [World.cell?_alloc_at _ _ _ _ rfl]; rfl)
    go_wp2_with fail
    refine hset.mono ?_
    rintro e w3 ⟨rfl, rfl⟩
    have hb3 : Below w2.heap.size w2 (w2.alloc (.cells #[.int .i64 v] 2)) := (Below.refl _ w2).alloc (Nat.le_refl _) _
    have p3 := (P2.out.on hb3).2
    clear p2
    go_wp2_with fail
    refine (indices_any (U2.out.on hb3) HO.out).mono ?_
    rintro e w4 ⟨mb, D, rfl, hm4, hd4, hb4⟩
    have hk4 := key_u16 (maskOf_lt [v] (fun x hx => by simp at hx; omega))
    have hb4' := hb3.trans (hb4.mono hb3.size)
    have R4 := Lib.hid (R2.out.on hb4')
    have P4 := Lib.hid (P2.out.on hb4')
    have U4 := Lib.hid (U2.out.on hb4')
    have T4 := Lib.hid (T2.out.on hb4')
    have HB4 := Lib.hid (HB2.out.trans (hb4'.mono HB2.out.size))
    obtain ⟨x, ps, hrun, _⟩ := World.ownsMap.look_ok hm4.out (int_keyed Tryd.underlying58) Tryd.underlying68 (zero_i64 w4) (plainElem_int Tryd.underlying2 (wf_i64 (k := 0) (by omega))) hk4
    rw [apex_has HO.out hd4 hd] at hrun
    clear r2 z2 hb3 hb4 hb4' p3 hset hm4 hd4
    rw [decide_eq_true hz] at hrun
    obtain ⟨⟨_, r2⟩, z2⟩ := R4.out
    go_wp2_with fail
    refine bodyPost_ret (v := .tuple #[.agg #[.slice none 0 0], .int .i64 4]) (by simp [results, Tryd.results44, go_sem, r2]) rfl ⟨_, rfl, OwnRI.nul _ _, HB4.out.setCell (p := ⟨LR, 0, none⟩) (Nat.le_of_lt hlr) _⟩
  · have hin : inB v 0 9 = true := inB_yes hd.1 hd.2
    have HO := Lib.hid ho
    have HZ := Lib.hid hz
    have HD := Lib.hid hd
    have HRR := Lib.hid hR
    have h48 := ho.2
    clear hR
    go_enter Tryd.func44, Tryd.ntmps44
    have p1 := hP1.2
    go_wp2_with fail
    rw [HLR.out]
    generalize (w.alloc (.cells #[.slice a zz.length cp] 27)).alloc (.cells #[.slice none 0 0] 27) = W1 at hW1 hP1 hR1 hU1 hT1 p1 ⊢
    have AL := Lib.hid hW1
    have P1 := Lib.hid hP1
    have R1 := Lib.hid hR1
    have U1 := Lib.hid hU1
    have T1 := Lib.hid hT1
    clear hT1
    clear hW1 hP1 hR1 hU1
    refine (implVal_is U1.out (.inl ⟨rfl, ho⟩) T1.out).mono ?_
    rintro e w2 ⟨rfl, hb2⟩
    obtain ⟨⟨_, r2⟩, z2⟩ := R1.out.on hb2
    have R2 := Lib.hid (R1.out.on hb2)
    have P2 := Lib.hid (P1.out.on hb2)
    have U2 := Lib.hid (U1.out.on hb2)
    have T2 := Lib.hid (T1.out.on hb2)
    have HB2 := Lib.hid (AL.out.trans (hb2.mono AL.out.size))
    have p2 := P2.out.2
    clear hb2
    go_wp2_with fail
    refine (within64_is _ hin).mono ?_
    rintro e w3 ⟨rfl, rfl⟩
    have hset : Calls Tryd.prog 55 #[.slice (some ⟨w2.heap.size, 0, none⟩) 1 1] (w2.alloc (.cells #[.int .i64 v] 2)) fun e w' => e = .returned (.int .u16 ((maskOf [v] : Nat) : Int)) ∧ (w2.alloc (.cells #[.int .i64 v] 2)) = w' :=
      setOf_some (l := [v]) (by simp) (fun x hx => by simp at hx; omega) (fun j hj => by
        have hj0 : j = 0 := by simp at hj; exact hj
        subst hj0
        rw [World.cell?_alloc_at _ _ _ _ rfl]; rfl)
    go_wp2_with fail
    refine hset.mono ?_
    rintro e w3 ⟨rfl, rfl⟩
    have hb3 : Below w2.heap.size w2 (w2.alloc (.cells #[.int .i64 v] 2)) := (Below.refl _ w2).alloc (Nat.le_refl _) _
    have p3 := (P2.out.on hb3).2
    clear p2
    go_wp2_with fail
    refine (indices_any (U2.out.on hb3) HO.out).mono ?_
    rintro e w4 ⟨mb, D, rfl, hm4, hd4, hb4⟩
    have hk4 := key_u16 (maskOf_lt [v] (fun x hx => by simp at hx; omega))
    have hb4' := hb3.trans (hb4.mono hb3.size)
    have R4 := Lib.hid (R2.out.on hb4')
    have P4 := Lib.hid (P2.out.on hb4')
    have U4 := Lib.hid (U2.out.on hb4')
    have T4 := Lib.hid (T2.out.on hb4')
    have HB4 := Lib.hid (HB2.out.trans (hb4'.mono HB2.out.size))
    obtain ⟨x, ps, hrun, _⟩ := World.ownsMap.look_ok hm4.out (int_keyed Tryd.underlying58) Tryd.underlying68 (zero_i64 w4) (plainElem_int Tryd.underlying2 (wf_i64 (k := 0) (by omega))) hk4
    rw [apex_has HO.out hd4 hd] at hrun
    clear r2 z2 hb3 hb4 hb4' p3 hset hm4 hd4
    rw [decide_eq_false hz] at hrun
    clear hz ho
    have hma := maskOf_lt [v] (fun x hx => by simp at hx; omega)
    obtain ⟨am, ham⟩ : ∃ am, maskOf [v] = am := ⟨_, rfl⟩
    rw [ham] at hma hrun hk4 ⊢
    have HAM := Lib.hid ham
    have hO5 := own_oneU w4 am
    have hA5 : Below w4.heap.size w4 (w4.alloc (.cells #[.int .u16 (am : Int)] 58)) := (Below.refl _ w4).alloc (Nat.le_refl _) _
    have q4 := (P4.out.on hA5).2
    clear ham
    go_wp2_with fail
    generalize w4.alloc (.cells #[.int .u16 (am : Int)] 58) = W5 at hO5 hA5 q4 ⊢
    have HO5 := Lib.hid hO5
    have HA5 := Lib.hid hA5
    clear hO5 hA5 q4 hrun hk4
    go_loopw [9, 38] (fun sv si wr => ∃ (k : Nat), k ≤ zz.length ∧ si = .int .i64 (k : Int) ∧ Hid (OwnU w4.heap.size wr sv ((coneR (zz.take k) v).map maskOf)) ∧ Hid (∀ j (h : j < zz.length), j < k → zz[j].length ≤ 3) ∧ Hid (Below w4.heap.size w4 wr)) (fun _ i _ => zz.length - (intOf i).toNat)
    case atStart => exact ⟨0, Nat.zero_le _, rfl, by show OwnU _ _ _ _; simp only [List.take_zero, coneR, List.flatMap_nil, List.map_cons, List.map_nil, HAM.out]; exact HO5.out, fun j _ hj => absurd hj (Nat.not_lt_zero j), HA5⟩
    case round =>
      clear HO5 HA5
      obtain ⟨k, hk, rfl, HY, H3, HB⟩ := hrel
      have i0' : 0 ≤ (k : Int) := by omega
      have hsz := HB.out.size
      have HBW := Lib.hid (HB4.out.trans (HB.out.mono HB4.out.size))
      by_cases hlt : k < zz.length
      · have i1 : (k : Int) < (zz.length : Int) := by omega
        obtain ⟨b, o, y, rfl, hb, c1', i1'⟩ := K1.out k hlt
        have c1 := (HBW.out.cell (p := ⟨b, o + k, none⟩) hb).trans c1'
        have hst := HO.out.sim hlt
        obtain ⟨ub, uq, uc, rfl, hub, kt⟩ := (i1'.on HBW.out).at1 hst.pos
        have hset := setOf_some (c := uc) (by have := hst.le; omega) hst.bd kt
        have HST := Lib.hid hst
        have hl4 := hst.le
        clear c1' i1' hst kt
        rcases Nat.lt_or_ge 3 zz[k].length with h3 | h3
        · have hyc : yy = [] ∧ c = 5 := by
            rcases HRR.out with ⟨_, r⟩ | ⟨h, _⟩
            · exact r
            · have := h _ (List.getElem_mem hlt); omega
          obtain ⟨rfl, rfl⟩ := hyc
          have l3 : (((zz[k].length : Int) - 1) == 3) = true := by simp; omega
          obtain ⟨⟨_, r2⟩, z2⟩ := R4.out.on HB.out
          clear hset
          generalize zz[k].length = n at c1 l3 hl4
          go_wp2_with (go_at_call 68; refine (dimOf_any _ _ _ _ (by omega)).mono ?_; rintro e w' ⟨rfl, rfl⟩)
          refine bodyPost_ret (v := .tuple #[.agg #[.slice none 0 0], .int .i64 5]) (by simp [results, Tryd.results44, go_sem, r2]) rfl ⟨_, rfl, OwnRI.nul _ _, by first | exact HBW.out.setCell (p := ⟨LR, 0, none⟩) (Nat.le_of_lt hlr) _ | exact (drew_below HBW.out).setCell (p := ⟨LR, 0, none⟩) (Nat.le_of_lt hlr) _⟩
        · have l3 : (((zz[k].length : Int) - 1) == 3) = false := by simp; omega
          have HN := Lib.hid (coneR_next (v := v) hlt)
          have H3' : Hid (∀ j (h : j < zz.length), j < k + 1 → zz[j].length ≤ 3) := fun j hj hjk => by
            by_cases e : j = k
            · subst e; exact h3
            · exact H3.out j hj (by omega)
          have hmt := maskOf_lt zz[k] (fun v hv => HST.out.bd v hv)
          have hor : bits BinOp.or IntKind.u16 ((maskOf zz[k] : Nat) : Int) (am : Int) = ((maskOf (insL v zz[k]) : Nat) : Int) := by
            rw [or_u16n (by omega) (by omega), ← HAM.out, ins_mask HST.out HD.out]
          have hcl : ((coneR (zz.take k) v).map maskOf).length ≤ 97 := by rw [List.length_map, coneR_len, List.length_take]; omega
          obtain ⟨t, htt⟩ : ∃ t, zz[k] = t := ⟨_, rfl⟩
          rw [htt] at c1 hset hl4 h3 l3 HN hmt hor
          generalize hm1 : maskOf t = m1 at hset hmt hor
          generalize hm2 : maskOf (insL v t) = m2 at hor
          have HM1 := Lib.hid hm1
          have HM2 := Lib.hid hm2
          generalize t.length = n at c1 l3 hl4 hset h3
          clear htt hm1 hm2
          go_wp2_with (first | (go_at_call 68; refine (dimOf_any _ _ _ _ (by omega)).mono ?_; rintro e w' ⟨rfl, rfl⟩) | (go_at_call 55; refine hset.mono ?_; rintro e w4 ⟨rfl, rfl⟩) | (at_builtin; refine wpList_append_own _ rfl _ _ 56 rfl w4.heap.size 58 i0 (.int .u16 0) 1 2 Tryd.underlying56 hi0 iz0 iz1 iz2 rfl (by decide) _ _ _ rfl (World.ownsRow.alloc HY.out.out (.cells #[.int .u16 (m1 : Int), .int .u16 (m2 : Int)] 58)) ⟨wr.heap.size, 0, none⟩ 2 2 [.int .u16 (m1 : Int), .int .u16 (m2 : Int)] rfl rfl (row_twoU _ _ _ _ _ (by first | rfl | simp)) (by intro u hu; simp at hu; rcases hu with rfl | rfl <;> rfl) (by unfold maxLen; omega) (by omega) (by first | omega | (simp; omega)) ?_; intro v2 w10 hown3 hgrow _))
          have HO3 : Hid (OwnU w4.heap.size w10 v2 ((coneR (zz.take (k + 1)) v).map maskOf)) := by
            show OwnU _ _ _ _
            rw [HN.out, List.map_append, List.map_cons, List.map_singleton, HM1.out, HM2.out]; exact pushUv2 hown3
          have HB3 := Lib.hid (below_pushUv HB.out (Nat.le_refl _) (by first | omega | (simp; omega)) HY.out hgrow)
          clear hown3 hgrow
          go_wp2_with fail
          go_roundw
          case rel => exact ⟨k + 1, by omega, by go_num, HO3, H3', HB3⟩
          case measure => simp [intOf]; omega
      · obtain rfl : k = zz.length := by omega
        have hall : ∀ t ∈ zz, t.length ≤ 3 := fun t ht => by obtain ⟨j, hj, rfl⟩ := List.getElem_of_mem ht; exact H3.out j hj hj
        have HALL := Lib.hid hall
        have hy := HY.out
        rw [List.take_length] at hy
        have hcs := coneR_sim HO.out.1 HD.out hall
        have hco := complexOf_any hy (masks_fit hcs) (by rw [List.length_map, coneR_len]; omega) (T4.out.on HB.out)
        clear hy hall
        go_wp2_with fail
        refine hco.mono ?_
        rintro e w7 ⟨v7, y7, c7, rfl, ho7, hb7, hc7⟩
        have hyc : y7 = yy ∧ c7 = c := by
          rcases hc7 with ⟨h1, h2, h3⟩ | ⟨h1, h2, hp, hs⟩
          · rw [List.length_map, coneR_len] at h1
            rcases HRR.out with ⟨_, r1, r2⟩ | ⟨_, h, _⟩
            · exact ⟨by rw [h2, r1], by rw [h3, r2]⟩
            · omega
          · rw [List.length_map, coneR_len] at h1
            rw [verts_masks hcs] at hp
            rcases HRR.out with ⟨⟨t, ht, h⟩ | h, _⟩ | ⟨_, _, r1, r2⟩
            · have := HALL.out t ht; omega
            · omega
            · exact ⟨by rw [r1]; exact conL_sorted HO.out.1 HD.out HZ.out HALL.out hp hs, by rw [h2, r2]⟩
        obtain ⟨rfl, rfl⟩ := hyc
        obtain ⟨⟨_, r7⟩, z7⟩ := (R4.out.on HB.out).on hb7
        have HO7 := Lib.hid ho7
        have HB7 := Lib.hid (HB4.out.trans ((HB.out.trans (hb7.mono hsz)).mono HB4.out.size))
        obtain ⟨va, vc, rfl⟩ := ho7.slice
        clear ho7 hc7 hb7 hco
        have hlw : LR < w4.heap.size := R4.out.1.1
        go_wp2_with fail
        refine bodyPost_ret (v := .tuple #[.agg #[.slice va y7.length vc], .int .i64 c7]) (by simp [results, Tryd.results44, go_sem, r7]) rfl ⟨_, rfl, OwnRI.mono (OwnRI.setOut HO7.out (by omega) _) (Nat.le_trans HB4.out.size hsz), HB7.out.setCell (p := ⟨LR, 0, none⟩) (Nat.le_of_lt hlr) _⟩
end Go.Proofs.YtljmfpifhbfdcaaDoor
