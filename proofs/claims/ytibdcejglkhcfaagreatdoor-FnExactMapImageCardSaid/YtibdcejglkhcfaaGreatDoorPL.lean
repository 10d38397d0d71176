/-
  The model's order of simplices, its search, and a list without one number.
  The model's search for a simplex; a list without the number at a place.
  Lists of simplices that have all faces: one more simplex; a complex of the model's own in memory, and one more row in it at its place.
-/
import Derived.Test.YtibdcejglkhcfaaGreatDoorPJ
import Derived.Test.YtibdcejglkhcfaaGreatDoorCxD
import Derived.Test.YtibdcejglkhcfaaGreatDoorCyB
import Derived.Test.YtibdcejglkhcfaaGreatDoorPE
namespace Go.Proofs.YtibdcejglkhcfaaGreatDoor
open Go.RowKit
set_option linter.unusedVariables false
set_option linter.unusedSimpArgs false

theorem IntsAt.any {w : World} {v : Value} {l : List Int} (h : IntsAt w v l) : ∃ a c, v = .slice a l.length c ∧ l.length ≤ 1048576 ∧ ∀ j (h : j < l.length), ∃ b o, a = some ⟨b, o, none⟩ ∧ b < w.heap.size ∧ w.cell? ⟨b, o + j, none⟩ = some (.int .i64 l[j]) := by
  obtain ⟨a, c, rfl, hl, ha⟩ := h
  rcases ha with h' | ⟨b, o, rfl, hb, k1⟩
  · subst h'; exact ⟨a, c, rfl, hl, fun j hj => absurd hj (Nat.not_lt_zero j)⟩
  · exact ⟨_, c, rfl, hl, fun j hj => ⟨b, o, rfl, hb, k1 j hj⟩⟩
theorem RowsAt.any {w : World} {v : Value} {zz : List (List Int)} (h : RowsAt w v zz) : ∃ a c, v = .slice a zz.length c ∧ zz.length ≤ 1048576 ∧ ∀ i (h : i < zz.length), ∃ b o u, a = some ⟨b, o, none⟩ ∧ b < w.heap.size ∧ w.cell? ⟨b, o + i, none⟩ = some u ∧ IntsAt w u zz[i] := by
  obtain ⟨a, c, rfl, hl, rfl | ⟨b, off, rfl, hbk, hc⟩⟩ := h
  · exact ⟨a, c, rfl, hl, fun j hj => absurd hj (Nat.not_lt_zero j)⟩
  · exact ⟨_, c, rfl, hl, fun i hi => by obtain ⟨u, h1, h2⟩ := hc i hi; exact ⟨b, off, u, rfl, hbk, h1, h2⟩⟩
theorem implClo_is {v : Value} {zz yy : List (List Int)} {cc : Int} {w : World} (hv : RowsAt w v zz) (hC : CloIs zz yy cc) (hTz : Tz w) :
    Calls Tryz.prog 121 #[v] w fun e w' => RetClo yy cc w e w' := by
  obtain ⟨a, c, rfl, hl, h⟩ := hv.any
  exact implClo_any hl h hC hTz
theorem cmpL_same {x y : List Int} {k : Nat} (h1 : k < x.length) (h2 : k < y.length) (e : x[k] = y[k]) : cmpL (x.drop k) (y.drop k) = cmpL (x.drop (k + 1)) (y.drop (k + 1)) := by
  rw [List.drop_eq_getElem_cons h1, List.drop_eq_getElem_cons h2]
  rw [cmpL, e]; simp
theorem cmpL_diff {x y : List Int} {k : Nat} (h1 : k < x.length) (h2 : k < y.length) (e : x[k] ≠ y[k]) : decide (cmpL (x.drop k) (y.drop k) < 0) = decide (x[k] < y[k]) := by
  rw [List.drop_eq_getElem_cons h1, List.drop_eq_getElem_cons h2]
  unfold cmpL
  by_cases h : x[k] < y[k]
  · simp [h]
  · have : y[k] < x[k] := by omega
    simp [h, this]
set_option maxRecDepth 100000 in
set_option maxHeartbeats 3200000 in
theorem l05Bef_is {u v : Value} {x y : List Int} {w : World} (hu : IntsAt w u x) (hv : IntsAt w v y) :
    Calls Tryz.prog 117 #[u, v] w fun e w' => e = .returned (.bool (befB x y)) ∧ ∃ n, w' = w.drewN n := by
  obtain ⟨a1, c1, rfl, hl1, k1⟩ := hu.any
  obtain ⟨a2, c2, rfl, hl2, k2⟩ := hv.any
  have K1 := Lib.hid k1
  have K2 := Lib.hid k2
  clear k1 k2 hu hv
  by_cases hl : x.length = y.length
  · have e3 : ((x.length : Int) != (y.length : Int)) = false := by simp; omega
    have hT : befB x y = decide (cmpL x y < 0) := by unfold befB; rw [Bool.eq_iff_iff, decide_eq_true_eq, decide_eq_true_eq]; constructor
                                                     · rintro (h | h)
                                                       · omega
                                                       · exact h.2
                                                     · exact fun h => .inr ⟨hl, h⟩
    rw [hT]
    generalize hTT : decide (cmpL x y < 0) = T
    have HT : Hid (decide (cmpL (x.drop 0) (y.drop 0) < 0) = T) := by show _ = _; rw [List.drop_zero, List.drop_zero]; exact hTT
    clear hT hTT
    go_enter Tryz.func117, Tryz.ntmps117
    go_wp2_with fail
    go_loopw [5] (fun i wr => ∃ k : Nat, k ≤ x.length ∧ i = .int .i64 (k : Int) ∧ Hid (decide (cmpL (x.drop k) (y.drop k) < 0) = T) ∧ Hid (∃ n, wr = w.drewN n)) (fun i _ => x.length - (intOf i).toNat)
    case atStart => exact ⟨0, Nat.zero_le _, rfl, HT, 0, rfl⟩
    case round =>
      clear HT
      obtain ⟨k, hk, rfl, HC, HN⟩ := hrel
      by_cases hlt : k < x.length
      · have hlt2 : k < y.length := by omega
        obtain ⟨b1, o1, rfl, hb1, g1'⟩ := K1.out k hlt
        obtain ⟨b2, o2, rfl, hb2, g2'⟩ := K2.out k hlt2
        have g1 : wr.cell? ⟨b1, o1 + k, none⟩ = some (.int .i64 x[k]) := by obtain ⟨n, e⟩ := HN.out; rw [e]; exact g1'
        have g2 : wr.cell? ⟨b2, o2 + k, none⟩ = some (.int .i64 y[k]) := by obtain ⟨n, e⟩ := HN.out; rw [e]; exact g2'
        clear g1' g2'
        have i0 : 0 ≤ (k : Int) := by omega
        have i1 : (k : Int) < (x.length : Int) := by omega
        have i2 : (k : Int) < (y.length : Int) := by omega
        by_cases he : x[k] = y[k]
        · have hc := HC.out
          rw [cmpL_same hlt hlt2 he] at hc
          have HC2 := Lib.hid hc
          have hne : (x[k] != y[k]) = false := by simp [he]
          generalize x[k] = p at g1 he hne
          generalize y[k] = q at g2 he hne
          clear HC hc he
          go_wp2_with fail
          go_quiet (fail)
          go_wp2_with fail
          go_roundw
          case rel => exact ⟨k + 1, by omega, by go_num, HC2, by obtain ⟨n, e⟩ := HN.out; exact ⟨_, by rw [e, World.drewN_drewN]⟩⟩
          case measure => simp [intOf]; omega
        · have hc := HC.out
          rw [cmpL_diff hlt hlt2 he] at hc
          have hne : (x[k] != y[k]) = true := by simp [he]
          generalize x[k] = p at g1 he hne hc
          generalize y[k] = q at g2 he hne hc
          clear HC he
          by_cases hpq : p < q
          · have hT : T = true := by rw [← hc]; exact decide_eq_true hpq
            have hd := decide_eq_true hpq
            subst hT
            clear hc
            go_wp2_with fail
            go_quiet (fail)
            go_wp2_with fail
            go_quiet (fail)
            go_wp2_with fail
            go_ret
            exact ⟨rfl, by obtain ⟨n, e⟩ := HN.out; exact ⟨_, by rw [e, World.drewN_drewN, World.drewN_drewN]⟩⟩
          · have hT : T = false := by rw [← hc]; exact decide_eq_false hpq
            have hd := decide_eq_false hpq
            subst hT
            clear hc
            go_wp2_with fail
            go_quiet (fail)
            go_wp2_with fail
            go_quiet (fail)
            go_wp2_with fail
            go_ret
            exact ⟨rfl, by obtain ⟨n, e⟩ := HN.out; exact ⟨_, by rw [e, World.drewN_drewN, World.drewN_drewN]⟩⟩
      · have hT : T = false := by rw [← HC.out, List.drop_eq_nil_of_le (by omega), List.drop_eq_nil_of_le (by omega)]; rfl
        subst hT
        go_wp2
        go_ret
        exact ⟨rfl, HN.out⟩
  · have e3 : ((x.length : Int) != (y.length : Int)) = true := by simp; omega
    have hT : befB x y = decide ((x.length : Int) < (y.length : Int)) := by unfold befB; rw [Bool.eq_iff_iff, decide_eq_true_eq, decide_eq_true_eq]; omega
    rw [hT]
    by_cases h : (x.length : Int) < (y.length : Int)
    · rw [decide_eq_true h]
      go_enter Tryz.func117, Tryz.ntmps117
      go_wp2_with fail
      go_ret
      exact ⟨rfl, 0, rfl⟩
    · rw [decide_eq_false h]
      go_enter Tryz.func117, Tryz.ntmps117
      go_wp2_with fail
      go_ret
      exact ⟨rfl, 0, rfl⟩
end Go.Proofs.YtibdcejglkhcfaaGreatDoor

namespace Go.Proofs.YtibdcejglkhcfaaGreatDoor
open Go.RowKit
set_option linter.unusedVariables false
set_option linter.unusedSimpArgs false

/-- The place of a simplex from place i on, or -1. -/
def fndI (s : List Int) : List (List Int) → Int → Int
  | [], _ => -1
  | z :: zz, i => if z = s then i else fndI s zz (i + 1)
theorem fndI_no {s : List Int} : ∀ {zz : List (List Int)} {i : Int}, s ∉ zz → fndI s zz i = -1
  | [], _, _ => rfl
  | z :: zz, i, h => by
    have h1 : ¬ z = s := fun e => h (by simp [e])
    rw [fndI, if_neg h1]
    exact fndI_no fun hm => h (by simp [hm])
theorem fndI_yes {s : List Int} : ∀ {zz : List (List Int)} {i : Int}, s ∈ zz → ∃ k, ∃ h : k < zz.length, fndI s zz i = i + (k : Int) ∧ zz[k] = s
  | [], _, h => by simp at h
  | z :: zz, i, h => by
    by_cases h1 : z = s
    · exact ⟨0, by simp, by simp [fndI, h1], by simp [h1]⟩
    · have h2 : s ∈ zz := by
        rcases List.mem_cons.1 h with e | e
        · exact absurd e.symm h1
        · exact e
      obtain ⟨k, hk, e1, e2⟩ := fndI_yes (i := i + 1) h2
      exact ⟨k + 1, by simp; exact hk, by rw [fndI, if_neg h1, e1]; push_cast; omega, by simpa using e2⟩
set_option maxRecDepth 100000 in
set_option maxHeartbeats 3200000 in
theorem l05Find_is {L : Nat} {u v : Value} {yy : List (List Int)} {s : List Int} {N : Int} {w : World} (p : PtC w L u) (hu : RowsAt w u yy) (hv : IntsAt w v s) (hN : fndI s yy 0 = N) :
    Calls Tryz.prog 83 #[.pointer (some ⟨L, 0, none⟩), v] w fun e w' => e = .returned (.int .i64 N) ∧ ∃ n, w' = w.drewN n := by
  obtain ⟨a1, c1, rfl, hl1, k1⟩ := hu.any
  have K1 := Lib.hid k1
  have P := Lib.hid p
  have HV := Lib.hid hv
  obtain ⟨a2, c2, rfl, hl2, _⟩ := hv.any
  clear k1 p hv hu
  have HN : Hid (fndI s (yy.drop 0) ((0 : Nat) : Int) = N) := hN
  clear hN
  go_enter Tryz.func83, Tryz.ntmps83
  go_wp2_with fail
  go_loopw [5] (fun i wr => ∃ k : Nat, k ≤ yy.length ∧ i = .int .i64 (k : Int) ∧ Hid (fndI s (yy.drop k) (k : Int) = N) ∧ Hid (∃ n, wr = w.drewN n)) (fun i _ => yy.length - (intOf i).toNat)
  case atStart => exact ⟨0, Nat.zero_le _, rfl, HN, 0, rfl⟩
  case round =>
    clear HN
    obtain ⟨k, hk, rfl, HC, HW⟩ := hrel
    have q1 : wr.cell? ⟨L, 0, none⟩ = some (.slice a1 yy.length c1) := by obtain ⟨n, e⟩ := HW.out; rw [e]; exact P.out.2
    by_cases hlt : k < yy.length
    · obtain ⟨b1, o1, x, rfl, hb1, g1', j1⟩ := K1.out k hlt
      have g1 : wr.cell? ⟨b1, o1 + k, none⟩ = some x := by obtain ⟨n, e⟩ := HW.out; rw [e]; exact g1'
      have I1 : Hid (IntsAt wr x yy[k]) := by obtain ⟨n, e⟩ := HW.out; show IntsAt _ _ _; rw [e]; exact j1.drewN n
      have I2 : Hid (IntsAt wr (.slice a2 s.length c2) s) := by obtain ⟨n, e⟩ := HW.out; show IntsAt _ _ _; rw [e]; exact HV.out.drewN n
      clear g1' j1
      have i0 : 0 ≤ (k : Int) := by omega
      have i1 : (k : Int) < (yy.length : Int) := by omega
      have hc := HC.out
      rw [List.drop_eq_getElem_cons hlt, fndI] at hc
      by_cases he : yy[k] = s
      · have HE := Lib.hid (eqB_yes he)
        rw [if_pos he] at hc
        obtain rfl := hc
        generalize yy[k] = z at I1 HE
        clear HC he
        go_wp2_with (go_at_call 129; refine (same00_is I1.out I2.out HE.out).mono ?_; rintro e w' ⟨rfl, n2, rfl⟩)
        go_ret
        exact ⟨rfl, by obtain ⟨n, e⟩ := HW.out; exact ⟨_, by rw [e, World.drewN_drewN]⟩⟩
      · have HE := Lib.hid (eqB_no he)
        rw [if_neg he] at hc
        have HC2 : Hid (fndI s (yy.drop (k + 1)) ((k + 1 : Nat) : Int) = N) := hc
        generalize yy[k] = z at I1 HE
        clear HC hc he
        go_wp2_with (go_at_call 129; refine (same00_is I1.out I2.out HE.out).mono ?_; rintro e w' ⟨rfl, n2, rfl⟩)
        go_roundw
        case rel => exact ⟨k + 1, by omega, by go_num, HC2, by obtain ⟨n, e⟩ := HW.out; exact ⟨_, by rw [e, World.drewN_drewN]⟩⟩
        case measure => simp [intOf]; omega
    · have hN : N = -1 := by rw [← HC.out, List.drop_eq_nil_of_le (by omega)]; rfl
      subst hN
      go_wp2
      go_ret
      exact ⟨rfl, HW.out⟩
set_option maxRecDepth 100000 in
set_option maxHeartbeats 3200000 in
theorem l05Drop_any {v : Value} {s : List Int} {k : Nat} {w : World} (hv : IntsC w v s) (hl : s.length ≤ 1048576) (hk : k < s.length) :
    Calls Tryz.prog 118 #[v, .int .i64 (k : Int)] w fun e w' => RetL (s.take k ++ s.drop (k + 1)) w e w' := by
  obtain ⟨i0, hi, hz0, hz1, hz2⟩ := info_parts info2
  obtain ⟨h1, a, c, rfl, hlc, hcm, h2⟩ := hv
  obtain ⟨b, o, c', e, hb, k1⟩ := h1.at1 (by omega)
  injection e with e1 e2 e3
  subst e1 e3
  have HT : Hid (IntsC w (.slice (some ⟨b, o, none⟩) k c) (s.take k)) := by
    have hlk : (s.take k).length = k := by rw [List.length_take]; omega
    refine ⟨⟨_, c, by rw [hlk], by omega, .inr ⟨b, o, rfl, hb, fun j hj => ?_⟩⟩, _, c, by rw [hlk], by omega, hcm, .inr ⟨b, o, rfl⟩⟩
    rw [hlk] at hj
    rw [List.getElem_take]; exact k1 j (by omega)
  by_cases hck : c = k + 1
  · subst hck
    have HD : Hid (IntsC w (.slice (some ⟨b, o, none⟩) 0 0) (s.drop (k + 1))) := by
      have hlk : (s.drop (k + 1)).length = 0 := by rw [List.length_drop]; omega
      exact ⟨⟨_, 0, by rw [hlk], by omega, .inl (List.drop_eq_nil_of_le (by omega))⟩, _, 0, by rw [hlk], by omega, by omega, .inr ⟨b, o, rfl⟩⟩
    have i0' : 0 ≤ (k : Int) := by omega
    have i1 : (k : Int) < (s.length : Int) := by omega
    go_enter Tryz.func118, Tryz.ntmps118
    go_wp2_with (first
      | (go_at_call 35; refine (l00Own_any HT.out (by rw [List.length_take]; omega)).mono ?_; rintro e wa ⟨va, rfl, hoa, hba⟩; have HSD := Lib.hid ((HD.out.on hba).src (by rw [List.length_drop]; omega)))
      | (at_builtin; refine wp_append_src rfl _ _ 25 rfl w.heap.size 2 i0 (.int .i64 0) 8 Tryz.underlying25 hi hz0 hz1 hz2 rfl _ (s.take k).length (iv (s.take k)) rfl hoa _ (iv (s.drop (k + 1))) rfl HSD.out iv_one (by rw [List.length_take]; omega) (by omega) hba.size ?_; intro v2 w2 hv2 hg2))
    have HB := Lib.hid (hba.grown hg2 hba.size (fun q hq => (hoa.out.lt q hq).1))
    have HV : Hid (OwnI w.heap.size w2 v2 (s.take k ++ s.drop (k + 1))) := by
      show World.ownsRow _ _ _ _ _ _ _
      simpa [iv, List.length_append] using hv2
    clear hv2 hg2
    go_wp2
    go_ret
    exact ⟨_, rfl, HV.out, HB.out⟩
  · have HD : Hid (IntsC w (.slice (some ⟨b, o + (k + 1), none⟩) (s.length - (k + 1)) (c - (k + 1))) (s.drop (k + 1))) := by
      have hlk : (s.drop (k + 1)).length = s.length - (k + 1) := List.length_drop
      refine ⟨⟨_, c - (k + 1), by rw [hlk], by omega, .inr ⟨b, o + (k + 1), rfl, hb, fun j hj => ?_⟩⟩, _, c - (k + 1), by rw [hlk], by omega, by omega, .inr ⟨b, o + (k + 1), rfl⟩⟩
      rw [hlk] at hj
      rw [List.getElem_drop]; have := k1 (k + 1 + j) (by omega); rwa [← Nat.add_assoc] at this
    have i0' : 0 ≤ (k : Int) := by omega
    have i1 : (k : Int) < (s.length : Int) := by omega
    go_enter Tryz.func118, Tryz.ntmps118
    go_wp2_with (first
      | (go_at_call 35; refine (l00Own_any HT.out (by rw [List.length_take]; omega)).mono ?_; rintro e wa ⟨va, rfl, hoa, hba⟩; have HSD := Lib.hid ((HD.out.on hba).src (by rw [List.length_drop]; omega)))
      | (at_builtin; refine wp_append_src rfl _ _ 25 rfl w.heap.size 2 i0 (.int .i64 0) 8 Tryz.underlying25 hi hz0 hz1 hz2 rfl _ (s.take k).length (iv (s.take k)) rfl hoa _ (iv (s.drop (k + 1))) rfl HSD.out iv_one (by rw [List.length_take]; omega) (by omega) hba.size ?_; intro v2 w2 hv2 hg2))
    have HB := Lib.hid (hba.grown hg2 hba.size (fun q hq => (hoa.out.lt q hq).1))
    have HV : Hid (OwnI w.heap.size w2 v2 (s.take k ++ s.drop (k + 1))) := by
      show World.ownsRow _ _ _ _ _ _ _
      simpa [iv, List.length_append] using hv2
    clear hv2 hg2
    go_wp2
    go_ret
    exact ⟨_, rfl, HV.out, HB.out⟩
end Go.Proofs.YtibdcejglkhcfaaGreatDoor

namespace Go.Proofs.YtibdcejglkhcfaaGreatDoor
open Go.RowKit
set_option linter.unusedVariables false
set_option linter.unusedSimpArgs false

/-- In order, simplices all, and with all faces. -/
structure Cpx (L : List (List Int)) : Prop where
  ord : Ord L
  sim : ∀ z ∈ L, Sim z
  clo : ∀ z ∈ L, ∀ x, Face x z → x ∈ L
theorem Cpx.nil : Cpx [] := ⟨List.Pairwise.nil, fun z hz => by simp at hz, fun z hz => by simp at hz⟩
theorem Cpx.len {L : List (List Int)} (h : Cpx L) : L.length ≤ 1024 := by
  have hn : (L.map maskOf).Nodup := by
    refine List.pairwise_map.2 (List.Pairwise.imp_of_mem (fun {a b} ha hb hab e => hab ?_) h.ord.nodup)
    rw [← (h.sim a ha).verts, ← (h.sim b hb).verts, e]
  have := List.Nodup.length_le_of_subset (l₂ := List.range 1024) hn (fun f hf => by
    obtain ⟨z, hz, rfl⟩ := List.mem_map.1 hf
    exact List.mem_range.2 (maskOf_lt z (fun v hv => (h.sim z hz).bd v hv)))
  simpa using this
theorem sub_erase : ∀ {x s : List Int}, x.Sublist s → x = s ∨ ∃ j, j < s.length ∧ x.Sublist (s.eraseIdx j)
  | _, _, .slnil => .inl rfl
  | _, _, .cons a h => .inr ⟨0, by simp, by simpa using h⟩
  | _, _, .cons_cons a h => by
    rcases sub_erase h with e | ⟨j, hj, h'⟩
    · exact .inl (by rw [e])
    · exact .inr ⟨j + 1, by simpa using hj, by simpa using h'.cons_cons a⟩
/-- A list without the number at a place. -/
def dropAt (s : List Int) (j : Nat) : List Int := s.take j ++ s.drop (j + 1)
theorem dropAt_is (s : List Int) (j : Nat) : dropAt s j = s.eraseIdx j := by unfold dropAt; rw [List.eraseIdx_eq_take_drop_succ]
theorem face_drop {x s : List Int} : Face x s ↔ x ≠ [] ∧ (x = s ∨ ∃ j, j < s.length ∧ Face x (dropAt s j)) := by
  unfold Face
  constructor
  · rintro ⟨h0, h⟩
    refine ⟨h0, ?_⟩
    rcases sub_erase h with e | ⟨j, hj, h'⟩
    · exact .inl e
    · exact .inr ⟨j, hj, h0, by rw [dropAt_is]; exact h'⟩
  · rintro ⟨h0, rfl | ⟨j, hj, _, h'⟩⟩
    · exact ⟨h0, List.Sublist.refl _⟩
    · rw [dropAt_is] at h'; exact ⟨h0, h'.trans (List.eraseIdx_sublist s j)⟩
theorem Sim.drop {s : List Int} (h : Sim s) (h1 : 1 < s.length) {j : Nat} (hj : j < s.length) : Sim (dropAt s j) := by
  refine h.face ⟨fun e => ?_, by rw [dropAt_is]; exact List.eraseIdx_sublist s j⟩
  have : (dropAt s j).length = 0 := by rw [e]; rfl
  unfold dropAt at this
  rw [List.length_append, List.length_take, List.length_drop] at this
  omega
theorem dropAt_len {s : List Int} {j : Nat} (hj : j < s.length) : (dropAt s j).length + 1 = s.length := by
  unfold dropAt; rw [List.length_append, List.length_take, List.length_drop]; omega
/-- The faces of some simplices' sides, and then the simplex itself. -/
theorem Cpx.put {L : List (List Int)} {s : List Int} (h : Cpx L) (hs : Sim s) (hf : ∀ j, j < s.length → 1 < s.length → ∀ x, Face x (dropAt s j) → x ∈ L) (hn : s ∉ L) {k : Nat} (hk : k ≤ L.length) (h1 : ∀ i (hi : i < k), befB (L[i]'(by omega)) s = true) (h2 : ∀ hk' : k < L.length, befB L[k] s = false) :
    Cpx (L.take k ++ s :: L.drop k) := by
  have hm : ∀ x, x ∈ L.take k ++ s :: L.drop k ↔ x ∈ L ∨ x = s := fun x => by
    have : x ∈ L ↔ x ∈ L.take k ∨ x ∈ L.drop k := by rw [← List.mem_append, List.take_append_drop]
    rw [List.mem_append, List.mem_cons, this]
    constructor
    · rintro (h | h | h)
      · exact .inl (.inl h)
      · exact .inr h
      · exact .inl (.inr h)
    · rintro ((h | h) | h)
      · exact .inl h
      · exact .inr (.inr h)
      · exact .inr (.inl h)
  refine ⟨h.ord.place hn hk h1 h2, fun z hz => ?_, fun z hz x hx => ?_⟩
  · rcases (hm z).1 hz with e | rfl
    · exact h.sim z e
    · exact hs
  · rcases (hm z).1 hz with e | rfl
    · exact (hm x).2 (.inl (h.clo z e x hx))
    · obtain ⟨h0, rfl | ⟨j, hj, hx'⟩⟩ := face_drop.1 hx
      · exact (hm _).2 (.inr rfl)
      · refine (hm x).2 (.inl (hf j hj ?_ x hx'))
        have := dropAt_len hj
        cases hd : dropAt z j with
        | nil => rw [hd] at hx'; exact absurd (List.sublist_nil.1 hx'.2) hx'.1
        | cons a t => rw [hd] at this; simp at this; omega
theorem put_mem {L : List (List Int)} {s x : List Int} {k : Nat} : x ∈ L.take k ++ s :: L.drop k ↔ x ∈ L ∨ x = s := by
  have : x ∈ L ↔ x ∈ L.take k ∨ x ∈ L.drop k := by rw [← List.mem_append, List.take_append_drop]
  rw [List.mem_append, List.mem_cons, this]
  constructor
  · rintro (h | h | h)
    · exact .inl (.inl h)
    · exact .inr h
    · exact .inl (.inr h)
  · rintro ((h | h) | h)
    · exact .inl h
    · exact .inr (.inr h)
    · exact .inr (.inl h)
theorem ins_at {α : Type} {l : List α} {k : Nat} (hk : k ≤ l.length) (x : α) (i : Nat) : (l.take k ++ x :: l.drop k)[i]? = if i < k then l[i]? else if i = k then some x else l[i - 1]? := by
  have hlk : (l.take k).length = k := by rw [List.length_take]; omega
  by_cases h1 : i < k
  · rw [if_pos h1, List.getElem?_append_left (by omega), List.getElem?_take, if_pos h1]
  · rw [if_neg h1, List.getElem?_append_right (by omega), hlk]
    by_cases h2 : i = k
    · subst h2; simp
    · rw [if_neg h2]
      obtain ⟨d, hd⟩ : ∃ d, i - k = d + 1 := ⟨i - k - 1, by omega⟩
      rw [hd, List.getElem?_cons_succ, List.getElem?_drop]
      congr 1; omega
theorem OwnR.insert {B k : Nat} {w w' : World} {u v a : Value} {L : List Value} {zz : List (List Int)} {s : List Int} (h : OwnR B w.heap.size w u L zz) (hb : Below w.heap.size w w') (hk : k ≤ zz.length) (hB : B ≤ w.heap.size)
    (hr : w'.ownsRow w.heap.size 25 1 v (zz.length + 1) (L.take k ++ a :: L.drop k)) (ha : OwnI w.heap.size w' a s) (hne : ∀ g, a.ownBlock = some g → v.ownBlock ≠ some g) :
    OwnR B w'.heap.size w' v (L.take k ++ a :: L.drop k) (zz.take k ++ s :: zz.drop k) := by
  have hkL : k ≤ L.length := by rw [h.len]; exact hk
  have hlen : (zz.take k ++ s :: zz.drop k).length = zz.length + 1 := by rw [List.length_append, List.length_cons, List.length_take, List.length_drop]; omega
  have hlenL : (L.take k ++ a :: L.drop k).length = L.length + 1 := by rw [List.length_append, List.length_cons, List.length_take, List.length_drop]; omega
  have spl : ∀ (i : Nat) (x : Value), (L.take k ++ a :: L.drop k)[i]? = some x → (i = k ∧ x = a) ∨ ∃ i0, L[i0]? = some x ∧ (zz.take k ++ s :: zz.drop k)[i]? = zz[i0]? ∧ ((i < k ∧ i0 = i) ∨ (k < i ∧ i0 + 1 = i)) := fun i x hx => by
    rw [ins_at hkL] at hx
    rw [ins_at hk]
    by_cases h1 : i < k
    · rw [if_pos h1] at hx ⊢; exact .inr ⟨i, hx, rfl, .inl ⟨h1, rfl⟩⟩
    · rw [if_neg h1] at hx ⊢
      by_cases h2 : i = k
      · rw [if_pos h2] at hx; exact .inl ⟨h2, by injection hx with e; exact e.symm⟩
      · rw [if_neg h2] at hx ⊢; exact .inr ⟨i - 1, hx, rfl, .inr ⟨by omega, by omega⟩⟩
  have hag : ∀ g, a.ownBlock = some g → w.heap.size ≤ g ∧ g < w'.heap.size := fun g hg => ha.out.lt g hg
  refine ⟨by rw [hlenL, hlen, h.len], by rw [hlen]; exact ownsRow_mono hr hB, fun i x ys h1 h2 => ?_, fun i x g h1 h2 h3 => ?_, fun i j x y g h1 h2 h3 h4 => ?_, Nat.le_refl _, fun g hg => (hr.lt g hg).2, fun i x g h1 h2 => ?_⟩
  · rcases spl i x h1 with ⟨rfl, rfl⟩ | ⟨i0, hx, hz, _⟩
    · rw [ins_at hk, if_neg (by omega), if_pos rfl] at h2
      injection h2 with e; subst e
      exact ha.mono hB
    · rw [hz] at h2
      exact (h.own i0 x ys hx h2).on hb
  · rcases spl i x h1 with ⟨rfl, rfl⟩ | ⟨i0, hx, hz, _⟩
    · exact hne g h2 h3
    · have := h.tops i0 x g hx h2; have := (hr.lt g h3).1; omega
  · rcases spl i x h1 with ⟨rfl, rfl⟩ | ⟨i0, hx, _, hi⟩
    · rcases spl j y h2 with ⟨rfl, rfl⟩ | ⟨j0, hy, _, hj⟩
      · rfl
      · have := h.tops j0 y g hy h4; have := hag g h3; omega
    · rcases spl j y h2 with ⟨rfl, rfl⟩ | ⟨j0, hy, _, hj⟩
      · have := h.tops i0 x g hx h3; have := hag g h4; omega
      · have := h.sep i0 j0 x y g hx hy h3 h4; omega
  · rcases spl i x h1 with ⟨rfl, rfl⟩ | ⟨i0, hx, _, _⟩
    · exact (hag g h2).2
    · have := h.tops i0 x g hx h2; have := hb.size; omega
/-- A complex of the model's own: its cell, and the rows in blocks of their own. -/
def CpS (B cb : Nat) (w : World) (yy : List (List Int)) : Prop :=
  ∃ g cap L, PtC w cb (.slice (some ⟨g, 0, none⟩) yy.length cap) ∧ w.frozen? ⟨cb, 0, none⟩ = false ∧ OwnR B w.heap.size w (.slice (some ⟨g, 0, none⟩) yy.length cap) L yy ∧ yy.length ≤ cap ∧ cap ≤ maxLen ∧ g ≠ cb ∧ ∀ u ∈ L, u.ownBlock ≠ some cb
theorem CpS.on {B cb : Nat} {w w' : World} {yy : List (List Int)} (h : CpS B cb w yy) (hb : Below w.heap.size w w') : CpS B cb w' yy := by
  obtain ⟨g, cap, L, p, f, o, r⟩ := h
  exact ⟨g, cap, L, p.on hb, (hb.frozen (p := ⟨cb, 0, none⟩) p.1).trans f, (o.on hb).wide hb.size (Nat.le_refl _), r⟩
theorem OwnR.rowsAt {B : Nat} {w : World} {v : Value} {L : List Value} {zz : List (List Int)} (h : OwnR B w.heap.size w v L zz) (hc : Cpx zz) : RowsAt w v zz :=
  h.at (by have := hc.len; omega) fun z hz => by have := (hc.sim z hz).le; omega
theorem OwnR.ones {B E : Nat} {w : World} {v : Value} {L : List Value} {zz : List (List Int)} (h : OwnR B E w v L zz) : ∀ u ∈ L, u.oneCell' = true := fun u hu => by
  obtain ⟨i, hi, rfl⟩ := List.getElem_of_mem hu
  have hz : i < zz.length := by rw [← h.len]; exact hi
  obtain ⟨a, c, e⟩ := (h.own i L[i] zz[i] (List.getElem?_eq_getElem hi) (List.getElem?_eq_getElem hz)).slice
  rw [e]; rfl
theorem OwnR.srcTake {B g n cap k : Nat} {w : World} {L : List Value} {zz : List (List Int)} (h : OwnR B w.heap.size w (.slice (some ⟨g, 0, none⟩) n cap) L zz) (hn : n = zz.length) (hl : zz.length ≤ 1048576) (hk : k ≤ n) : SrcAt w (.slice (some ⟨g, 0, none⟩) k cap) (L.take k) := by
  subst hn
  have hL := h.len
  refine ⟨_, cap, by rw [List.length_take]; congr 1; omega, by rw [List.length_take]; omega, .inr ⟨g, 0, rfl, .inr (h.row.lt g rfl).2, fun j u hj => ?_⟩⟩
  rw [List.getElem?_take] at hj
  split at hj
  · rw [Nat.zero_add, World.ownsRow.cellAt h.row j (by have := (List.getElem?_eq_some_iff.1 hj).1; omega)]; exact hj
  · cases hj
theorem OwnR.srcDrop {B g n cap k : Nat} {w : World} {L : List Value} {zz : List (List Int)} (h : OwnR B w.heap.size w (.slice (some ⟨g, 0, none⟩) n cap) L zz) (hn : n = zz.length) (hl : zz.length ≤ 1048576) (hk : k ≤ n) : SrcAt w (.slice (some ⟨g, k, none⟩) (n - k) (cap - k)) (L.drop k) := by
  subst hn
  have hL := h.len
  refine ⟨_, cap - k, by rw [List.length_drop, hL], by rw [List.length_drop]; omega, .inr ⟨g, k, rfl, .inr (h.row.lt g rfl).2, fun j u hj => ?_⟩⟩
  rw [List.getElem?_drop] at hj
  rw [World.ownsRow.cellAt h.row (k + j) (by have := (List.getElem?_eq_some_iff.1 hj).1; omega)]; exact hj
end Go.Proofs.YtibdcejglkhcfaaGreatDoor
