/-
  SimplicesOf of the model and of the program.
-/
import Derived.Test.YtljmfpifhbfdcaaDoorPM
namespace Go.Proofs.YtljmfpifhbfdcaaDoor
open Go.RowKit
set_option linter.unusedVariables false
set_option linter.unusedSimpArgs false

/-- The indices below k of the simplices of a dimension. -/
def ofK (zz : List (List Int)) (d : Int) (k : Nat) : List Int := ((List.range k).filter fun i => decide (((zz.getD i []).length : Int) = d + 1)).map fun (i : Nat) => (i : Int)
theorem ofK_yes {zz : List (List Int)} {d : Int} {k : Nat} (hk : k < zz.length) (h : (zz[k].length : Int) = d + 1) : ofK zz d (k + 1) = ofK zz d k ++ [(k : Int)] := by
  simp [ofK, List.range_succ, List.filter_append, List.getD, hk, h]
theorem ofK_no {zz : List (List Int)} {d : Int} {k : Nat} (hk : k < zz.length) (h : ¬ (zz[k].length : Int) = d + 1) : ofK zz d (k + 1) = ofK zz d k := by
  simp [ofK, List.range_succ, List.filter_append, List.getD, hk, h]
theorem ofK_len (zz : List (List Int)) (d : Int) (k : Nat) : (ofK zz d k).length ≤ k := by
  unfold ofK
  rw [List.length_map]
  exact Nat.le_trans (List.length_filter_le _ _) (by simp)
def SpxIs (zz : List (List Int)) (d : Int) (yy : List Int) (c : Int) : Prop :=
  (¬ OkC zz ∧ yy = [] ∧ c = 1) ∨ (OkC zz ∧ ¬ (0 ≤ d ∧ d ≤ 3) ∧ yy = [] ∧ c = 2) ∨ (OkC zz ∧ (0 ≤ d ∧ d ≤ 3) ∧ yy = ofK zz d zz.length ∧ c = 0)
theorem spx_has (zz : List (List Int)) (d : Int) : ∃ yy c, SpxIs zz d yy c := by
  by_cases h : OkC zz
  · by_cases h1 : 0 ≤ d ∧ d ≤ 3
    · exact ⟨_, _, .inr (.inr ⟨h, h1, rfl, rfl⟩)⟩
    · exact ⟨_, _, .inr (.inl ⟨h, h1, rfl, rfl⟩)⟩
  · exact ⟨_, _, .inl ⟨h, rfl, rfl⟩⟩
theorem SpxIs.fit {zz : List (List Int)} {d : Int} {yy : List Int} {c : Int} (h : SpxIs zz d yy c) : yy.length ≤ 1048576 := by
  rcases h with ⟨_, rfl, _⟩ | ⟨_, _, rfl, _⟩ | ⟨h, _, rfl, _⟩
  · simp
  · simp
  · have := ofK_len zz d zz.length; have := h.2; omega
def RetSI (yy : List Int) (c : Int) (w : World) (e : Ending) (w' : World) : Prop := ∃ v, e = .returned (.tuple #[v, .int .i64 c]) ∧ OwnI w.heap.size w' v yy ∧ Below w.heap.size w w'
theorem l05Dim_is {d : Int} {b : Bool} (w : World) (h : inB d 0 3 = b) : Calls Tryd.prog 63 #[.int .i64 d] w fun e w' => e = .returned (.bool b) ∧ w = w' := by
  go_enter Tryd.func63, Tryd.ntmps63
  go_wp2_with (go_at_call 79; refine (l00In_is _ h).mono ?_; rintro e w' ⟨rfl, rfl⟩)
  go_ret
  exact ⟨rfl, rfl⟩
theorem row_oneK (w : World) (u : Value) (t : TypeId) (n : Nat) (hn : w.heap.size = n) : ∀ (j : Nat) (x : Value), [u][j]? = some x → (w.alloc (.cells #[u] t)).cell? ((⟨n, 0, none⟩ : Addr).add j) = some x := by subst hn; exact row_val w u t
set_option maxRecDepth 100000 in
set_option maxHeartbeats 3200000 in
theorem l05Of_any {L : Nat} {v : Value} {zz : List (List Int)} {d : Int} {w : World} (p : PtC w L v) (hq : RowsAt w v zz) (ho : OkC zz) (hd : 0 ≤ d ∧ d ≤ 3) :
    Calls Tryd.prog 64 #[.pointer (some ⟨L, 0, none⟩), .int .i64 d] w fun e w' => RetN (ofK zz d zz.length) w e w' := by
  obtain ⟨i0, hi, iz0, iz1, iz2⟩ := info_parts info2
  obtain ⟨a, c, rfl, hl, k1⟩ := hq.any
  have K1 := Lib.hid k1
  have P := Lib.hid p
  have h48 := ho.2
  have HO := Lib.hid ho
  obtain ⟨hd0, hd3⟩ := hd
  have hm : OwnI w.heap.size (w.alloc (.cells #[] 2)) (.slice (some ⟨w.heap.size, 0, none⟩) 0 0) [] := World.ownsRow_made (base := w.heap.size) (e := 2) (size := 1) w #[] 0 (Nat.le_refl _) (Nat.zero_le _) rfl
  have HM := Lib.hid hm
  have AL : Hid (Below w.heap.size w (w.alloc (.cells #[] 2))) := (Below.refl _ w).alloc (Nat.le_refl _) _
  clear k1 p hq ho hm
  go_enter Tryd.func64, Tryd.ntmps64
  go_wp2_with fail
  go_loopw [5, 6] (fun sv si wr => ∃ (k : Nat), k ≤ zz.length ∧ si = .int .i64 (k : Int) ∧ Hid (OwnI w.heap.size wr sv (ofK zz d k)) ∧ Hid (Below w.heap.size w wr)) (fun _ i _ => zz.length - (intOf i).toNat)
  case atStart => exact ⟨0, Nat.zero_le _, rfl, HM, AL⟩
  case round =>
    clear HM AL
    obtain ⟨k, hk, rfl, HY, HB⟩ := hrel
    have q1 := (P.out.on HB.out).2
    have hs := HB.out.size
    by_cases hlt : k < zz.length
    · obtain ⟨b, o, u, rfl, hb, c1', i1'⟩ := K1.out k hlt
      have c1 : wr.cell? ⟨b, o + k, none⟩ = some u := (HB.out.cell (p := ⟨b, o + k, none⟩) hb).trans c1'
      obtain ⟨ua, uc, rfl⟩ := i1'.slice
      have i0' : 0 ≤ (k : Int) := by omega
      have i1 : (k : Int) < (zz.length : Int) := by omega
      have hkl := ofK_len zz d k
      clear c1' i1'
      by_cases he : (zz[k].length : Int) = d + 1
      · have HN := Lib.hid (ofK_yes hlt he)
        generalize zz[k].length = n at c1 he
        have hee : ((n : Int) == d + 1) = true := by simp [he]
        clear he
        go_wp2_with (at_builtin; refine wpList_append_own _ rfl _ _ 38 rfl w.heap.size 2 i0 (.int .i64 0) 1 8 Tryd.underlying38 hi iz0 iz1 iz2 rfl (by decide) _ _ _ rfl (World.ownsRow.alloc HY.out.out (.cells #[.int .i64 (k : Int)] 2)) ⟨wr.heap.size, 0, none⟩ 1 1 [.int .i64 (k : Int)] rfl rfl (row_oneK _ _ _ _ (by first | rfl | simp)) (by first | rfl | (intro u hu; simp at hu; subst hu; rfl)) (by unfold maxLen; omega) (by omega) (by first | omega | (simp; omega)) ?_; intro v2 w10 hown3 hgrow _)
        have HO2 : Hid (OwnI w.heap.size w10 v2 (ofK zz d (k + 1))) := by
          show OwnI _ _ _ _
          rw [HN.out]; exact pushU hown3
        have HB2 := Lib.hid (below_pushU HB.out (Nat.le_refl _) (by first | omega | (simp; omega)) HY.out hgrow)
        go_roundw
        case rel => exact ⟨k + 1, by omega, by go_num, HO2, HB2⟩
        case measure => simp [intOf]; omega
      · have HN := Lib.hid (ofK_no hlt he)
        generalize zz[k].length = n at c1 he
        have hee : ((n : Int) == d + 1) = false := by simp [he]
        clear he
        go_wp2_with fail
        go_roundw
        case rel => exact ⟨k + 1, by omega, by go_num, by rw [HN.out]; exact HY, HB⟩
        case measure => simp [intOf]; omega
    · obtain rfl : k = zz.length := by omega
      go_wp2_with fail
      go_ret
      exact ⟨_, rfl, HY.out, HB.out⟩
set_option maxRecDepth 100000 in
theorem specSpx_is {u : Value} {zz : List (List Int)} {d : Int} {yy : List Int} {c : Int} {w : World} (hu : RowsQ w u zz) (h : SpxIs zz d yy c) :
    Calls Tryd.prog 31 #[.agg #[u], .int .i64 d] w fun e w' => RetSI yy c w e w' := by
  have HU := Lib.hid hu
  obtain ⟨a, cp, rfl, hl, _⟩ := hu
  have al0 : Below w.heap.size w (w.alloc (.cells #[.slice a zz.length cp] 27)) := (Below.refl _ w).alloc (Nat.le_refl _) _
  have P0 := Lib.hid (PtC.new w (.slice a zz.length cp) 27)
  have U0 := Lib.hid (HU.out.on al0)
  have AL := Lib.hid al0
  clear al0
  rcases h with ⟨ho, rfl, rfl⟩ | ⟨ho, hd, rfl, rfl⟩ | ⟨ho, hd, rfl, rfl⟩
  · have hvv := l05Ok_is P0.out U0.out (.inr ⟨rfl, ho⟩)
    clear ho
    go_enter Tryd.func31, Tryd.ntmps31
    go_wp2_with (go_at_call 49; refine hvv.mono ?_; rintro e w2 ⟨rfl, hb2⟩)
    go_ret2
    exact ⟨_, rfl, World.ownsRow_nil _ _ _ _, AL.out.trans (hb2.mono AL.out.size)⟩
  · have hvv := l05Ok_is P0.out U0.out (.inl ⟨rfl, ho⟩)
    have hin : inB d 0 3 = false := inB_no (by omega)
    clear ho
    go_enter Tryd.func31, Tryd.ntmps31
    go_wp2_with (first | (go_at_call 49; refine hvv.mono ?_; rintro e w2 ⟨rfl, hb2⟩) | (go_at_call 63; refine (l05Dim_is _ hin).mono ?_; rintro e w3 ⟨rfl, rfl⟩))
    go_ret2
    exact ⟨_, rfl, World.ownsRow_nil _ _ _ _, AL.out.trans (hb2.mono AL.out.size)⟩
  · have hvv := l05Ok_is P0.out U0.out (.inl ⟨rfl, ho⟩)
    have hin : inB d 0 3 = true := inB_yes hd.1 hd.2
    have HO := Lib.hid ho
    have HD := Lib.hid hd
    clear ho hd
    go_enter Tryd.func31, Tryd.ntmps31
    go_wp2_with (first | (go_at_call 49; refine hvv.mono ?_; rintro e w2 ⟨rfl, hb2⟩; have HB2 := Lib.hid hb2) | (go_at_call 63; refine (l05Dim_is _ hin).mono ?_; rintro e w3 ⟨rfl, rfl⟩))
    refine (l05Of_any (P0.out.on HB2.out) (U0.out.on HB2.out).rows HO.out HD.out).mono ?_
    rintro e w4 ⟨v4, rfl, ho4, hb4⟩
    have HO4 := Lib.hid ho4
    have HB4 := Lib.hid hb4
    clear ho4 hb4 hvv
    go_wp2_with fail
    go_ret2
    exact ⟨_, rfl, OwnI.mono HO4.out (Nat.le_trans AL.out.size HB2.out.size), (AL.out.trans (HB2.out.mono AL.out.size)).trans (HB4.out.mono (Nat.le_trans AL.out.size HB2.out.size))⟩
set_option maxRecDepth 100000 in
theorem dimHas_yes {a : Option Addr} {n c dp : Nat} {d : Int} {w : World} (hn : n ≤ 1048576) (h : (n : Int) - 1 = d) (hc : w.cell? ⟨dp, 0, none⟩ = some (.int .i64 d)) :
    Calls Tryd.prog 67 #[.slice a n c, .pointer (some ⟨dp, 0, none⟩)] w fun e w' => e = .returned (.bool true) ∧ ∃ n, w' = w.drewN n := by
  have he : ((n : Int) - 1 == d) = true := by simp [h]
  clear h
  go_enter Tryd.func67, Tryd.ntmps67
  go_wp2_with fail
  go_quiet ((go_at_call 68; exact Calls.quiet_of_same ((dimOf_any _ _ _ _ (by omega)).mono fun _ _ ⟨a, b⟩ => ⟨a, b.symm⟩)))
  go_wp2_with fail
  go_ret
  exact ⟨rfl, _, rfl⟩
set_option maxRecDepth 100000 in
theorem dimHas_no {a : Option Addr} {n c dp : Nat} {d : Int} {w : World} (hn : n ≤ 1048576) (h : ¬ (n : Int) - 1 = d) (hc : w.cell? ⟨dp, 0, none⟩ = some (.int .i64 d)) :
    Calls Tryd.prog 67 #[.slice a n c, .pointer (some ⟨dp, 0, none⟩)] w fun e w' => e = .returned (.bool false) ∧ ∃ n, w' = w.drewN n := by
  have he : ((n : Int) - 1 == d) = false := by simp [h]
  clear h
  go_enter Tryd.func67, Tryd.ntmps67
  go_wp2_with fail
  go_quiet ((go_at_call 68; exact Calls.quiet_of_same ((dimOf_any _ _ _ _ (by omega)).mono fun _ _ ⟨a, b⟩ => ⟨a, b.symm⟩)))
  go_wp2_with fail
  go_ret
  exact ⟨rfl, _, rfl⟩
set_option maxRecDepth 100000 in
theorem dimCode_is {u : Value} {zz : List (List Int)} {d c : Int} {w : World} (hu : RowsAt w u zz) (h : (¬ OkC zz ∧ c = 1) ∨ (OkC zz ∧ ¬ (0 ≤ d ∧ d ≤ 3) ∧ c = 2) ∨ (OkC zz ∧ (0 ≤ d ∧ d ≤ 3) ∧ c = 0)) (hTz : Tz w) :
    Calls Tryd.prog 65 #[.agg #[u], .int .i64 d] w fun e w' => e = .returned (.int .i64 c) ∧ Below w.heap.size w w' := by
  have HU := Lib.hid hu
  obtain ⟨a, cp, rfl⟩ := hu.slice
  have al0 : Below w.heap.size w (w.alloc (.cells #[.slice a zz.length cp] 27)) := (Below.refl _ w).alloc (Nat.le_refl _) _
  have P0 := Lib.hid (PtC.new w (.slice a zz.length cp) 27)
  have U0 := Lib.hid (HU.out.on al0)
  have AL := Lib.hid al0
  clear al0
  rcases h with ⟨ho, rfl⟩ | ⟨ho, hd, rfl⟩ | ⟨ho, hd, rfl⟩
  · have hvv := implVal_is U0.out (.inr ⟨rfl, ho⟩) (hTz.on AL.out)
    clear ho
    go_enter Tryd.func65, Tryd.ntmps65
    go_wp2_with (go_at_call 17; refine hvv.mono ?_; rintro e w2 ⟨rfl, hb2⟩)
    go_ret
    exact ⟨rfl, AL.out.trans (hb2.mono AL.out.size)⟩
  · have hvv := implVal_is U0.out (.inl ⟨rfl, ho⟩) (hTz.on AL.out)
    have hin : inB d 0 3 = false := inB_no (by omega)
    clear ho
    go_enter Tryd.func65, Tryd.ntmps65
    go_wp2_with (first | (go_at_call 17; refine hvv.mono ?_; rintro e w2 ⟨rfl, hb2⟩) | (go_at_call 82; refine (within64_is _ hin).mono ?_; rintro e w3 ⟨rfl, rfl⟩))
    go_ret
    exact ⟨rfl, AL.out.trans (hb2.mono AL.out.size)⟩
  · have hvv := implVal_is U0.out (.inl ⟨rfl, ho⟩) (hTz.on AL.out)
    have hin : inB d 0 3 = true := inB_yes hd.1 hd.2
    clear ho
    go_enter Tryd.func65, Tryd.ntmps65
    go_wp2_with (first | (go_at_call 17; refine hvv.mono ?_; rintro e w2 ⟨rfl, hb2⟩) | (go_at_call 82; refine (within64_is _ hin).mono ?_; rintro e w3 ⟨rfl, rfl⟩))
    go_ret
    exact ⟨rfl, AL.out.trans (hb2.mono AL.out.size)⟩
set_option maxRecDepth 100000 in
set_option maxHeartbeats 3200000 in
theorem selDim_any {dp : Nat} {u : Value} {zz : List (List Int)} {d : Int} {w : World} (hu : RowsAt w u zz) (ho : OkC zz) (hd : 0 ≤ d ∧ d ≤ 3) (hdp : dp < w.heap.size) (hc : w.cell? ⟨dp, 0, none⟩ = some (.int .i64 d)) :
    Calls Tryd.prog 66 #[.agg #[u], .func (.func 67) #[] #[.pointer (some ⟨dp, 0, none⟩)]] w fun e w' => RetN (ofK zz d zz.length) w e w' := by
  obtain ⟨i0, hi, iz0, iz1, iz2⟩ := info_parts info2
  obtain ⟨a, cp, rfl, hl, k1⟩ := hu.any
  have K1 := Lib.hid k1
  have h48 := ho.2
  have HO := Lib.hid ho
  have HDC := Lib.hid hc
  have AL : Hid (Below w.heap.size w (w.alloc (.cells #[.slice a zz.length cp] 27))) := (Below.refl _ w).alloc (Nat.le_refl _) _
  clear k1 hu ho hc
  go_enter Tryd.func66, Tryd.ntmps66
  go_wp2_with fail
  go_loopw [5, 11] (fun sv si wr => ∃ (k : Nat), k ≤ zz.length ∧ si = .int .i64 (k : Int) ∧ Hid (OwnI w.heap.size wr sv (ofK zz d k)) ∧ Hid (Below w.heap.size w wr)) (fun _ i _ => zz.length - (intOf i).toNat)
  case atStart => exact ⟨0, Nat.zero_le _, rfl, World.ownsRow_nil _ _ _ _, AL⟩
  case round =>
    clear AL
    obtain ⟨k, hk, rfl, HY, HB⟩ := hrel
    have hs := HB.out.size
    by_cases hlt : k < zz.length
    · obtain ⟨b, o, u, rfl, hb, c1', i1'⟩ := K1.out k hlt
      have c1 : wr.cell? ⟨b, o + k, none⟩ = some u := (HB.out.cell (p := ⟨b, o + k, none⟩) hb).trans c1'
      have cd : wr.cell? ⟨dp, 0, none⟩ = some (.int .i64 d) := (HB.out.cell (p := ⟨dp, 0, none⟩) hdp).trans HDC.out
      obtain ⟨ua, uc, rfl⟩ := i1'.slice
      have i0' : 0 ≤ (k : Int) := by omega
      have i1 : (k : Int) < (zz.length : Int) := by omega
      have hkl := ofK_len zz d k
      have hs4 := (HO.out.sim hlt).le
      clear c1' i1'
      by_cases he : (zz[k].length : Int) = d + 1
      · have HN := Lib.hid (ofK_yes hlt he)
        generalize zz[k].length = n at c1 he hs4
        have hh := dimHas_yes (a := ua) (n := n) (c := uc) (dp := dp) (d := d) (w := wr) (by omega) (by omega) cd
        clear he
        go_wp2_with fail
        refine hh.mono ?_
        rintro e w5 ⟨rfl, n5, rfl⟩
        go_wp2_with (at_builtin; refine wpList_append_own _ rfl _ _ 38 rfl w.heap.size 2 i0 (.int .i64 0) 1 8 Tryd.underlying38 hi iz0 iz1 iz2 rfl (by decide) _ _ _ rfl (World.ownsRow.alloc (show OwnI w.heap.size (wr.drewN n5) _ _ from HY.out).out (.cells #[.int .i64 (k : Int)] 2)) ⟨wr.heap.size, 0, none⟩ 1 1 [.int .i64 (k : Int)] rfl rfl (row_oneK _ _ _ _ (by first | rfl | simp)) (by first | rfl | (intro u hu; simp at hu; subst hu; rfl)) (by unfold maxLen; omega) (by omega) (by first | omega | (simp; omega)) ?_; intro v2 w10 hown3 hgrow _)
        have HO2 : Hid (OwnI w.heap.size w10 v2 (ofK zz d (k + 1))) := by
          show OwnI _ _ _ _
          rw [HN.out]; exact pushU hown3
        have HB2 := Lib.hid (below_pushU (below_drewX HB.out n5) (Nat.le_refl _) (by first | omega | (simp; omega)) (show OwnI w.heap.size (wr.drewN n5) _ _ from HY.out) hgrow)
        go_roundw
        case rel => exact ⟨k + 1, by omega, by go_num, HO2, HB2⟩
        case measure => simp [intOf]; omega
      · have HN := Lib.hid (ofK_no hlt he)
        generalize zz[k].length = n at c1 he hs4
        have hh := dimHas_no (a := ua) (n := n) (c := uc) (dp := dp) (d := d) (w := wr) (by omega) (by omega) cd
        clear he
        go_wp2_with fail
        refine hh.mono ?_
        rintro e w5 ⟨rfl, n5, rfl⟩
        go_wp2_with fail
        go_roundw
        case rel => exact ⟨k + 1, by omega, by go_num, by rw [HN.out]; exact HY, below_drewX HB.out n5⟩
        case measure => simp [intOf]; omega
    · obtain rfl : k = zz.length := by omega
      go_wp2_with fail
      go_ret
      exact ⟨_, rfl, HY.out, HB.out⟩
set_option maxRecDepth 100000 in
set_option maxHeartbeats 3200000 in
theorem implSpx_is {u : Value} {zz : List (List Int)} {d : Int} {yy : List Int} {c : Int} {w : World} (hu : RowsAt w u zz) (h : SpxIs zz d yy c) (hTz : Tz w) :
    Calls Tryd.prog 32 #[.agg #[u], .int .i64 d] w fun e w' => RetSI yy c w e w' := by
  have HU := Lib.hid hu
  obtain ⟨a, cp, rfl⟩ := hu.slice
  have al0 : Below w.heap.size w ((w.alloc (.cells #[.slice a zz.length cp] 27)).alloc (.cells #[.int .i64 d] 2)) := al1 ((Below.refl _ w).alloc (Nat.le_refl _) _) _
  have P0 := Lib.hid (PtC.new1 w (.slice a zz.length cp) 27 (.cells #[.int .i64 d] 2))
  have pd := PtC.new (w.alloc (.cells #[.slice a zz.length cp] 27)) (.int .i64 d) 2
  rw [World.size_alloc] at pd
  have PD := Lib.hid pd
  have U0 := Lib.hid (HU.out.on al0)
  have AL := Lib.hid al0
  clear al0 pd
  rcases h with ⟨ho, rfl, rfl⟩ | ⟨ho, hd, rfl, rfl⟩ | ⟨ho, hd, rfl, rfl⟩
  · have hvv := dimCode_is (d := d) U0.out (.inl ⟨ho, rfl⟩) (hTz.on AL.out)
    clear ho
    go_enter Tryd.func32, Tryd.ntmps32
    have p1 := P0.out.2
    have p2 := PD.out.2
    go_wp2_with (go_at_call 65; refine hvv.mono ?_; rintro e w2 ⟨rfl, hb2⟩)
    go_ret2
    exact ⟨_, rfl, World.ownsRow_nil _ _ _ _, AL.out.trans (hb2.mono AL.out.size)⟩
  · have hvv := dimCode_is (d := d) U0.out (.inr (.inl ⟨ho, hd, rfl⟩)) (hTz.on AL.out)
    clear ho
    go_enter Tryd.func32, Tryd.ntmps32
    have p1 := P0.out.2
    have p2 := PD.out.2
    go_wp2_with (go_at_call 65; refine hvv.mono ?_; rintro e w2 ⟨rfl, hb2⟩)
    go_ret2
    exact ⟨_, rfl, World.ownsRow_nil _ _ _ _, AL.out.trans (hb2.mono AL.out.size)⟩
  · have hvv := dimCode_is (d := d) U0.out (.inr (.inr ⟨ho, hd, rfl⟩)) (hTz.on AL.out)
    have HO := Lib.hid ho
    have HD := Lib.hid hd
    clear ho hd
    go_enter Tryd.func32, Tryd.ntmps32
    have p1 := P0.out.2
    have p2 := PD.out.2
    go_wp2_with (go_at_call 65; refine hvv.mono ?_; rintro e w2 ⟨rfl, hb2⟩; have HB2 := Lib.hid hb2; have q1 := (P0.out.on hb2).2)
    refine (selDim_any (U0.out.on HB2.out) HO.out HD.out (PD.out.on HB2.out).1 (PD.out.on HB2.out).2).mono ?_
    rintro e w4 ⟨v4, rfl, ho4, hb4⟩
    have HO4 := Lib.hid ho4
    have HB4 := Lib.hid hb4
    clear ho4 hb4 hvv
    go_wp2_with fail
    go_ret2
    exact ⟨_, rfl, OwnI.mono HO4.out (Nat.le_trans AL.out.size HB2.out.size), (AL.out.trans (HB2.out.mono AL.out.size)).trans (HB4.out.mono (Nat.le_trans AL.out.size HB2.out.size))⟩
end Go.Proofs.YtljmfpifhbfdcaaDoor
