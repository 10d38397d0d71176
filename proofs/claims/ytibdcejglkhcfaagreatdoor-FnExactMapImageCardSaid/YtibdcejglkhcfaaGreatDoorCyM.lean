/-
  SimplicesOf of the model and of the program.
-/
import Derived.Test.YtibdcejglkhcfaaGreatDoorPM
namespace Go.Proofs.YtibdcejglkhcfaaGreatDoor
open Go.RowKit
set_option linter.unusedVariables false
set_option linter.unusedSimpArgs false

/-- The indices below k of the simplices of a dimension. -/
def ofK (zz : List (List Int)) (d : Int) (k : Nat) : List Int := ((List.range k).filter fun i => decide (((zz.getD i []).length : Int) = d + 1)).map fun (i : Nat) => (i : Int)
theorem ofK_yes {zz : List (List Int)} {d : Int} {k : Nat} (hk : k < zz.length) (h : (zz[k].length : Int) = d + 1) : ofK zz d (k + 1) = ofK zz d k ++ [(k : Int)] := by
  simp [ofK, List.range_succ, List.filter_append, List.getD, hk, h]
theorem ofK_no {zz : List (List Int)} {d : Int} {k : Nat} (hk : k < zz.length) (h : ¬ (zz[k].length : Int) = d + 1) : ofK zz d (k + 1) = ofK zz d k := by
  simp [ofK, List.range_succ, List.filter_append, List.getD, hk, h]
theorem ofK_len (zz : List (List Int)) (d : Int) (k : Nat) : (ofK zz d k).length ≤ k := by
  unfold ofK
  rw [List.length_map]
  exact Nat.le_trans (List.length_filter_le _ _) (by simp)
def SpxIs (zz : List (List Int)) (d : Int) (yy : List Int) (c : Int) : Prop :=
  (¬ OkC zz ∧ yy = [] ∧ c = 1) ∨ (OkC zz ∧ ¬ (0 ≤ d ∧ d ≤ 3) ∧ yy = [] ∧ c = 2) ∨ (OkC zz ∧ (0 ≤ d ∧ d ≤ 3) ∧ yy = ofK zz d zz.length ∧ c = 0)
theorem spx_has (zz : List (List Int)) (d : Int) : ∃ yy c, SpxIs zz d yy c := by
  by_cases h : OkC zz
  · by_cases h1 : 0 ≤ d ∧ d ≤ 3
    · exact ⟨_, _, .inr (.inr ⟨h, h1, rfl, rfl⟩)⟩
    · exact ⟨_, _, .inr (.inl ⟨h, h1, rfl, rfl⟩)⟩
  · exact ⟨_, _, .inl ⟨h, rfl, rfl⟩⟩
theorem SpxIs.fit {zz : List (List Int)} {d : Int} {yy : List Int} {c : Int} (h : SpxIs zz d yy c) : yy.length ≤ 1048576 := by
  rcases h with ⟨_, rfl, _⟩ | ⟨_, _, rfl, _⟩ | ⟨h, _, rfl, _⟩
  · simp
  · simp
  · have := ofK_len zz d zz.length; have := h.2; omega
def RetSI (yy : List Int) (c : Int) (w : World) (e : Ending) (w' : World) : Prop := ∃ v, e = .returned (.tuple #[v, .int .i64 c]) ∧ OwnI w.heap.size w' v yy ∧ Below w.heap.size w w'
theorem l05Dim_is {d : Int} {b : Bool} (w : World) (h : inB d 0 3 = b) : Calls Tryz.prog 51 #[.int .i64 d] w fun e w' => e = .returned (.bool b) ∧ w = w' := by
  go_enter Tryz.func51, Tryz.ntmps51
  go_wp2_with (go_at_call 45; refine (l00In_is _ h).mono ?_; rintro e w' ⟨rfl, rfl⟩)
  go_ret
  exact ⟨rfl, rfl⟩
theorem row_oneK (w : World) (u : Value) (t : TypeId) (n : Nat) (hn : w.heap.size = n) : ∀ (j : Nat) (x : Value), [u][j]? = some x → (w.alloc (.cells #[u] t)).cell? ((⟨n, 0, none⟩ : Addr).add j) = some x := by subst hn; exact row_val w u t
set_option maxRecDepth 100000 in
set_option maxHeartbeats 3200000 in
theorem l05Of_any {L : Nat} {v : Value} {zz : List (List Int)} {d : Int} {w : World} (p : PtC w L v) (hq : RowsAt w v zz) (ho : OkC zz) (hd : 0 ≤ d ∧ d ≤ 3) :
    Calls Tryz.prog 52 #[.pointer (some ⟨L, 0, none⟩), .int .i64 d] w fun e w' => RetN (ofK zz d zz.length) w e w' := by
  obtain ⟨i0, hi, iz0, iz1, iz2⟩ := info_parts info2
  obtain ⟨a, c, rfl, hl, k1⟩ := hq.any
  have K1 := Lib.hid k1
  have P := Lib.hid p
  have h48 := ho.2
  have HO := Lib.hid ho
  obtain ⟨hd0, hd3⟩ := hd
  have hm : OwnI w.heap.size (w.alloc (.cells #[] 2)) (.slice (some ⟨w.heap.size, 0, none⟩) 0 0) [] := World.ownsRow_made (base := w.heap.size) (e := 2) (size := 1) w #[] 0 (Nat.le_refl _) (Nat.zero_le _) rfl
  have HM := Lib.hid hm
  have AL : Hid (Below w.heap.size w (w.alloc (.cells #[] 2))) := (Below.refl _ w).alloc (Nat.le_refl _) _
  clear k1 p hq ho hm
  go_enter Tryz.func52, Tryz.ntmps52
  go_wp2_with fail
  go_loopw [5, 6] (fun sv si wr => ∃ (k : Nat), k ≤ zz.length ∧ si = .int .i64 (k : Int) ∧ Hid (OwnI w.heap.size wr sv (ofK zz d k)) ∧ Hid (Below w.heap.size w wr)) (fun _ i _ => zz.length - (intOf i).toNat)
  case atStart => exact ⟨0, Nat.zero_le _, rfl, HM, AL⟩
  case round =>
    clear HM AL
    obtain ⟨k, hk, rfl, HY, HB⟩ := hrel
    have q1 := (P.out.on HB.out).2
    have hs := HB.out.size
    by_cases hlt : k < zz.length
    · obtain ⟨b, o, u, rfl, hb, c1', i1'⟩ := K1.out k hlt
      have c1 : wr.cell? ⟨b, o + k, none⟩ = some u := (HB.out.cell (p := ⟨b, o + k, none⟩) hb).trans c1'
      obtain ⟨ua, uc, rfl⟩ := i1'.slice
      have i0' : 0 ≤ (k : Int) := by omega
      have i1 : (k : Int) < (zz.length : Int) := by omega
      have hkl := ofK_len zz d k
      clear c1' i1'
      by_cases he : (zz[k].length : Int) = d + 1
      · have HN := Lib.hid (ofK_yes hlt he)
        generalize zz[k].length = n at c1 he
        have hee : ((n : Int) == d + 1) = true := by simp [he]
        clear he
        go_wp2_with (at_builtin; refine wpList_append_own _ rfl _ _ 25 rfl w.heap.size 2 i0 (.int .i64 0) 1 8 Tryz.underlying25 hi iz0 iz1 iz2 rfl (by decide) _ _ _ rfl (World.ownsRow.alloc HY.out.out (.cells #[.int .i64 (k : Int)] 2)) ⟨wr.heap.size, 0, none⟩ 1 1 [.int .i64 (k : Int)] rfl rfl (row_oneK _ _ _ _ (by first | rfl | simp)) (by first | rfl | (intro u hu; simp at hu; subst hu; rfl)) (by unfold maxLen; omega) (by omega) (by first | omega | (simp; omega)) ?_; intro v2 w10 hown3 hgrow _)
        have HO2 : Hid (OwnI w.heap.size w10 v2 (ofK zz d (k + 1))) := by
          show OwnI _ _ _ _
          rw [HN.out]; exact pushU hown3
        have HB2 := Lib.hid (below_pushU HB.out (Nat.le_refl _) (by first | omega | (simp; omega)) HY.out hgrow)
        go_roundw
        case rel => exact ⟨k + 1, by omega, by go_num, HO2, HB2⟩
        case measure => simp [intOf]; omega
      · have HN := Lib.hid (ofK_no hlt he)
        generalize zz[k].length = n at c1 he
        have hee : ((n : Int) == d + 1) = false := by simp [he]
        clear he
        go_wp2_with fail
        go_roundw
        case rel => exact ⟨k + 1, by omega, by go_num, by rw [HN.out]; exact HY, HB⟩
        case measure => simp [intOf]; omega
    · obtain rfl : k = zz.length := by omega
      go_wp2_with fail
      go_ret
      exact ⟨_, rfl, HY.out, HB.out⟩
set_option maxRecDepth 100000 in
theorem dimCode_is {u : Value} {zz : List (List Int)} {d c : Int} {w : World} (hu : RowsAt w u zz) (h : (¬ OkC zz ∧ c = 1) ∨ (OkC zz ∧ ¬ (0 ≤ d ∧ d ≤ 3) ∧ c = 2) ∨ (OkC zz ∧ (0 ≤ d ∧ d ≤ 3) ∧ c = 0)) (hTz : Tz w) :
    Calls Tryz.prog 55 #[.agg #[u], .int .i64 d] w fun e w' => e = .returned (.int .i64 c) ∧ Below w.heap.size w w' := by
  have HU := Lib.hid hu
  obtain ⟨a, cp, rfl⟩ := hu.slice
  have al0 : Below w.heap.size w (w.alloc (.cells #[.slice a zz.length cp] 27)) := (Below.refl _ w).alloc (Nat.le_refl _) _
  have P0 := Lib.hid (PtC.new w (.slice a zz.length cp) 27)
  have U0 := Lib.hid (HU.out.on al0)
  have AL := Lib.hid al0
  clear al0
  rcases h with ⟨ho, rfl⟩ | ⟨ho, hd, rfl⟩ | ⟨ho, hd, rfl⟩
  · have hvv := implVal_is U0.out (.inr ⟨rfl, ho⟩) (hTz.on AL.out)
    clear ho
    go_enter Tryz.func55, Tryz.ntmps55
    go_wp2_with (go_at_call 75; refine hvv.mono ?_; rintro e w2 ⟨rfl, hb2⟩)
    go_ret
    exact ⟨rfl, AL.out.trans (hb2.mono AL.out.size)⟩
  · have hvv := implVal_is U0.out (.inl ⟨rfl, ho⟩) (hTz.on AL.out)
    have hin : inB d 0 3 = false := inB_no (by omega)
    clear ho
    go_enter Tryz.func55, Tryz.ntmps55
    go_wp2_with (first | (go_at_call 75; refine hvv.mono ?_; rintro e w2 ⟨rfl, hb2⟩) | (go_at_call 86; refine (within64_is _ hin).mono ?_; rintro e w3 ⟨rfl, rfl⟩))
    go_ret
    exact ⟨rfl, AL.out.trans (hb2.mono AL.out.size)⟩
  · have hvv := implVal_is U0.out (.inl ⟨rfl, ho⟩) (hTz.on AL.out)
    have hin : inB d 0 3 = true := inB_yes hd.1 hd.2
    clear ho
    go_enter Tryz.func55, Tryz.ntmps55
    go_wp2_with (first | (go_at_call 75; refine hvv.mono ?_; rintro e w2 ⟨rfl, hb2⟩) | (go_at_call 86; refine (within64_is _ hin).mono ?_; rintro e w3 ⟨rfl, rfl⟩))
    go_ret
    exact ⟨rfl, AL.out.trans (hb2.mono AL.out.size)⟩
end Go.Proofs.YtibdcejglkhcfaaGreatDoor
