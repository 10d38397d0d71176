/-
  Dividing a line at blanks: the model's and the program's.
-/
import Derived.Test.YtjgajnhefhgpkaaDoorMarkT
namespace Go.Proofs.YtjgajnhefhgpkaaDoor
open Go.RowKit
set_option linter.unusedVariables false

/-- The pieces that are not empty. -/
def wordsOf (ls : List (List UInt8)) : List (List UInt8) := ls.filter fun p => !p.isEmpty
theorem words_take (ls : List (List UInt8)) (k : Nat) (h : k < ls.length) : wordsOf (ls.take (k + 1)) = wordsOf (ls.take k) ++ wordsOf [ls[k]] := by
  unfold wordsOf; rw [List.take_succ_eq_append_getElem h, List.filter_append]
theorem words_some (p : List UInt8) (h : p ≠ []) : wordsOf [p] = [p] := by cases p <;> simp_all [wordsOf]
theorem words_none : wordsOf [[]] = [] := rfl
theorem words_le (ls : List (List UInt8)) (k : Nat) : (wordsOf (ls.take k)).length ≤ k :=
  Nat.le_trans (List.length_filter_le _ _) (List.length_take_le _ _)
theorem words_all (ls : List (List UInt8)) : (wordsOf ls).length ≤ ls.length := List.length_filter_le _ _
theorem empty_yes (t : ByteArray) (h : t.data.toList = []) : t.toList.isEmpty = true ∧ t.toList = [] ∧ (t.toList == []) = true := by
  rw [ByteArray.toList_eq, h]; exact ⟨rfl, rfl, rfl⟩
theorem empty_no (t : ByteArray) (h : t.data.toList ≠ []) : t.toList.isEmpty = false ∧ ¬ t.toList = [] ∧ (t.toList == []) = false := by
  rw [ByteArray.toList_eq]
  cases hl : t.data.toList with
  | nil => exact absurd hl h
  | cons a r => exact ⟨rfl, fun x => (by cases x), rfl⟩
/-- How a call ends that hands back the words. -/
def RetW (w : World) (ls : List (List UInt8)) (e : Ending) (w' : World) : Prop := ∃ v, e = .returned v ∧ OwnT w.heap.size w' v ls ∧ Below w.heap.size w w'
theorem OwnT.lower {B B' : Nat} {w : World} {v : Value} {ls : List (List UInt8)} (h : OwnT B w v ls) (hB : B' ≤ B) : OwnT B' w v ls := by
  obtain ⟨hx, ⟨rfl, hn⟩ | ⟨g, cap, cur, rfl, hg, r⟩⟩ := h
  · exact ⟨hx, .inl ⟨rfl, hn⟩⟩
  · exact ⟨hx, .inr ⟨g, cap, cur, rfl, Nat.le_trans hB hg, r⟩⟩
theorem OwnT.nil (w : World) (B : Nat) : OwnT B w (.slice none 0 0) [] := World.ownsRow_nil w B 9 1

set_option maxHeartbeats 800000 in
set_option maxRecDepth 100000 in
theorem specWords_any (s : ByteArray) (w : World) (hs : s.size ≤ 1048576) :
    Calls Tryd.prog 23 #[.string s] w fun e w' => RetW w (wordsOf (spl 32 s.data.toList)) e w' := by
  obtain ⟨i0, hi, hz0, hz1, hz2⟩ := info_parts info9s
  obtain ⟨ls, hls⟩ : ∃ ls, spl 32 s.data.toList = ls := ⟨_, rfl⟩
  have hsl : ls.length ≤ s.size + 1 := by
    rw [← hls, spl_len]
    have := List.count_le_length (a := (32 : UInt8)) (l := s.data.toList)
    have e : s.data.toList.length = s.size := by rw [Array.length_toList]; rfl
    omega
  have HLS := Lib.hid hls
  rw [hls]
  go_enter Tryd.func23, Tryd.ntmps23
  go_wp2_with fail
  refine (l01Split_any s 32 _ hs).mono ?_
  rintro e w1 ⟨v, rfl, ho, hb, hsz⟩
  rw [hls] at ho
  have O1 := Lib.hid ho
  have B1 := Lib.hid hb
  clear ho hb hls
  rcases O1.out.form with ⟨hnil, _⟩ | ⟨g, cap, hve, hgB, hgs, hcell, _⟩
  · exact absurd (HLS.out.trans hnil) (spl_ne _ _)
  have HC := Lib.hid hcell
  rw [hve]
  clear hcell hve
  go_wp2
  go_loopw [4, 5] (fun o i wr => ∃ (k : Nat), k ≤ ls.length ∧ i = .int .i64 (k : Int) ∧ OwnT w1.heap.size wr o (wordsOf (ls.take k)) ∧ Below w1.heap.size w1 wr ∧ w1.heap.size ≤ wr.heap.size) (fun _ i _ => ls.length - (intOf i).toNat)
  case atStart => exact ⟨0, Nat.zero_le _, rfl, OwnT.made w1 _ (Nat.le_refl _), (Below.refl _ _).alloc (Nat.le_refl _) _, by simp⟩
  case round =>
    obtain ⟨k, hk, rfl, hown, hbw, hsw⟩ := hrel
    by_cases hlt : k < ls.length
    · have c1 : wr.cell? ⟨g, k, none⟩ = some (.string ⟨ls[k].toArray⟩) := (hbw.cell (p := ⟨g, k, none⟩) hgs).trans (HC.out k hlt)
      obtain ⟨t, ht⟩ : ∃ t : ByteArray, (⟨ls[k].toArray⟩ : ByteArray) = t := ⟨_, rfl⟩
      have htl : t.data.toList = ls[k] := by rw [← ht]
      rw [ht] at c1
      by_cases he : ls[k] = []
      · have HW : Hid (wordsOf (ls.take (k + 1)) = wordsOf (ls.take k)) := by
          show _ = _
          rw [words_take ls k hlt, he, words_none, List.append_nil]
        obtain ⟨e1, e2, e3⟩ := empty_yes t (by rw [htl]; exact he)
        rw [← HW.out] at hown
        have HO := Lib.hid hown
        have HB := Lib.hid hbw
        clear ht htl he hown hbw
        go_wp2
        go_roundw
        case rel => exact ⟨k + 1, by omega, by go_num, HO.out, HB.out, hsw⟩
        case measure => simp [intOf]; omega
      · have HW : Hid (wordsOf (ls.take (k + 1)) = wordsOf (ls.take k) ++ [ls[k]]) := by
          show _ = _
          rw [words_take ls k hlt, words_some _ he]
        obtain ⟨e1, e2, e3⟩ := empty_no t (by rw [htl]; exact he)
        have HT := Lib.hid htl
        have hlen : (wordsOf (ls.take k)).length + 1 ≤ 1048578 := by have := words_le ls k; omega
        obtain ⟨ys, hys⟩ : ∃ ys, wordsOf (ls.take k) = ys := ⟨_, rfl⟩
        rw [hys] at hown hlen HW
        clear ht htl he hys
        go_wp2_with (at_builtin; refine wpList_append_own _ rfl _ _ 40 rfl w1.heap.size 9 i0 (.string ⟨#[]⟩) 1 16 Tryd.underlying40 hi hz0 hz1 hz2 rfl (by decide) _ _ _ rfl (hown.out.alloc _) ⟨wr.heap.size, 0, none⟩ 1 1 [.string t] rfl rfl ?ah1 ?ah2 ?ah3 ?ah4 ?ah5 ?_)
        try (case ah1 => exact one_cell_t _ _ _)
        case ah2 => first | rfl | (intro u hu; simp at hu; subst hu; rfl)
        case ah3 => unfold maxLen; omega
        case ah4 => omega
        case ah5 => first | omega | (simp; omega)
        intro v2 w2 hown2 hgrow _
        have hO := OwnT.push HT.out hown2
        rw [← HW.out] at hO
        have hB2 := below_pushT hbw (Nat.le_refl _) (by omega) hown hgrow
        have hS2 : wr.heap.size ≤ w2.heap.size := size_pushT hgrow
        have hS3 : w1.heap.size ≤ w2.heap.size := by omega
        clear hown2 hgrow hown hbw HW HT
        go_wp2
        go_roundw
        case rel => exact ⟨k + 1, by omega, by go_num, hO, hB2, hS3⟩
        case measure => simp [intOf]; omega
    · obtain rfl : k = ls.length := by omega
      rw [List.take_length] at hown
      have HO : Hid (OwnT w1.heap.size wr _ (wordsOf ls)) := hown
      have HB := Lib.hid hbw
      clear hown hbw
      go_wp2_with fail
      go_ret
      exact ⟨_, rfl, HO.out.lower B1.out.size, B1.out.trans (HB.out.mono B1.out.size)⟩

set_option maxHeartbeats 800000 in
set_option maxRecDepth 100000 in
theorem implWords_any (s : ByteArray) (w : World) (hs : s.size ≤ 1048576) :
    Calls Tryd.prog 24 #[.string s] w fun e w' => RetW w (wordsOf (spl 32 s.data.toList)) e w' := by
  obtain ⟨i0, hi, hz0, hz1, hz2⟩ := info_parts info9s
  obtain ⟨ls, hls⟩ : ∃ ls, spl 32 s.data.toList = ls := ⟨_, rfl⟩
  have hsl : ls.length ≤ s.size + 1 := by
    rw [← hls, spl_len]
    have := List.count_le_length (a := (32 : UInt8)) (l := s.data.toList)
    have e : s.data.toList.length = s.size := by rw [Array.length_toList]; rfl
    omega
  have HLS := Lib.hid hls
  rw [hls]
  go_enter Tryd.func24, Tryd.ntmps24
  go_wp2_with fail
  refine (split_any s 32 _ hs).mono ?_
  rintro e w1 ⟨cap, rfl, ho, hb, hsz⟩
  rw [hls] at ho
  rw [hls]
  have O1 := Lib.hid ho
  have B1 := Lib.hid hb
  clear ho hb hls
  obtain ⟨g, hg⟩ : ∃ g, w.heap.size = g := ⟨_, rfl⟩
  rw [hg]
  rcases O1.out.form with ⟨hnil, _⟩ | ⟨g', cap', hve, hgB, hgs, hcell, _⟩
  · exact absurd (HLS.out.trans hnil) (spl_ne _ _)
  obtain rfl : g' = g := by rw [← hg]; injection hve with e1 _ _; injection e1 with e1; injection e1 with e1; exact e1.symm
  have HC := Lib.hid hcell
  have HG0 := Lib.hid hg
  clear hcell hve hg
  go_wp2_with fail
  go_loopw [3, 9] (fun o i wr => ∃ (k : Nat), k ≤ ls.length ∧ i = .int .i64 (k : Int) ∧ OwnT w1.heap.size wr o (wordsOf (ls.take k)) ∧ Below w1.heap.size w1 wr ∧ w1.heap.size ≤ wr.heap.size) (fun _ i _ => ls.length - (intOf i).toNat)
  case atStart => exact ⟨0, Nat.zero_le _, rfl, OwnT.nil _ _, Below.refl _ _, Nat.le_refl _⟩
  case round =>
    obtain ⟨k, hk, rfl, hown, hbw, hsw⟩ := hrel
    by_cases hlt : k < ls.length
    · have c1 : wr.cell? ⟨g', k, none⟩ = some (.string ⟨ls[k].toArray⟩) := (hbw.cell (p := ⟨g', k, none⟩) hgs).trans (HC.out k hlt)
      obtain ⟨t, ht⟩ : ∃ t : ByteArray, (⟨ls[k].toArray⟩ : ByteArray) = t := ⟨_, rfl⟩
      have htl : t.data.toList = ls[k] := by rw [← ht]
      rw [ht] at c1
      by_cases he : ls[k] = []
      · have HW : Hid (wordsOf (ls.take (k + 1)) = wordsOf (ls.take k)) := by
          show _ = _
          rw [words_take ls k hlt, he, words_none, List.append_nil]
        obtain ⟨e1, e2, e3⟩ := empty_yes t (by rw [htl]; exact he)
        rw [← HW.out] at hown
        have HO := Lib.hid hown
        have HB := Lib.hid hbw
        clear ht htl he hown hbw
        go_wp2
        go_roundw
        case rel => exact ⟨k + 1, by omega, by go_num, HO.out, HB.out, hsw⟩
        case measure => simp [intOf]; omega
      · have HW : Hid (wordsOf (ls.take (k + 1)) = wordsOf (ls.take k) ++ [ls[k]]) := by
          show _ = _
          rw [words_take ls k hlt, words_some _ he]
        obtain ⟨e1, e2, e3⟩ := empty_no t (by rw [htl]; exact he)
        have HT := Lib.hid htl
        have hlen : (wordsOf (ls.take k)).length + 1 ≤ 1048578 := by have := words_le ls k; omega
        obtain ⟨ys, hys⟩ : ∃ ys, wordsOf (ls.take k) = ys := ⟨_, rfl⟩
        rw [hys] at hown hlen HW
        clear ht htl he hys
        go_wp2_with (at_builtin; refine wpList_append_own _ rfl _ _ 40 rfl w1.heap.size 9 i0 (.string ⟨#[]⟩) 1 16 Tryd.underlying40 hi hz0 hz1 hz2 rfl (by decide) _ _ _ rfl (hown.out.alloc _) ⟨wr.heap.size, 0, none⟩ 1 1 [.string t] rfl rfl ?bh1 ?bh2 ?bh3 ?bh4 ?bh5 ?_)
        try (case bh1 => exact one_cell_t _ _ _)
        case bh2 => first | rfl | (intro u hu; simp at hu; subst hu; rfl)
        case bh3 => unfold maxLen; omega
        case bh4 => omega
        case bh5 => first | omega | (simp; omega)
        intro v2 w2 hown2 hgrow _
        have hO := OwnT.push HT.out hown2
        rw [← HW.out] at hO
        have hB2 := below_pushT hbw (Nat.le_refl _) (by omega) hown hgrow
        have hS2 : wr.heap.size ≤ w2.heap.size := size_pushT hgrow
        have hS3 : w1.heap.size ≤ w2.heap.size := by omega
        clear hown2 hgrow hown hbw HW HT
        go_wp2
        go_roundw
        case rel => exact ⟨k + 1, by omega, by go_num, hO, hB2, hS3⟩
        case measure => simp [intOf]; omega
    · obtain rfl : k = ls.length := by omega
      rw [List.take_length] at hown
      have HO : Hid (OwnT w1.heap.size wr _ (wordsOf ls)) := hown
      have HB := Lib.hid hbw
      clear hown hbw
      go_wp2_with fail
      go_ret
      exact ⟨_, rfl, HO.out.lower B1.out.size, B1.out.trans (HB.out.mono B1.out.size)⟩

theorem TextsAt.out {w : World} {v : Value} {k n : Nat} (h : TextsAt w v (marksT k n)) (hk0 : 1 ≤ k) (hk1 : k ≤ 1048576) :
    Calls Tryd.prog 27 #[v, .int .i64 (k : Int)] w fun e w' => RetH w (k + n) e w' := by
  obtain ⟨a, c, rfl, hl, h⟩ := h
  rw [marksT_len] at hl ⊢
  rcases h with h | ⟨g, rfl, hg, h⟩
  · have : n = 0 := by have := congrArg List.length h; rw [marksT_len] at this; simpa using this
    subst this
    exact heldT_none a c k w
  · refine heldT_some g c n k w hl hk0 hk1 hg (fun j hj => ?_)
    have hj' : j < (marksT k n).length := by rw [marksT_len]; exact hj
    rw [h j hj']
    have := marksT_at k n j hj
    rw [List.getElem?_eq_getElem hj'] at this
    injection this with this
    rw [this]
theorem OwnT.grown {B : Nat} {w w' : World} {v : Value} {ls : List (List UInt8)} {r : Option Nat} (h : OwnT B w v ls) (hg : w.grownBy w' r) (hr : v.ownBlock = none ∨ v.ownBlock ≠ r) : OwnT B w' v ls := h.out.kept hg hr
theorem ownT_apart {B C : Nat} {w w' : World} {u v : Value} {ls ks : List (List UInt8)} (h : OwnT B w u ls) (g : OwnT C w' v ks) (hC : w.heap.size ≤ C) : u.ownBlock = none ∨ u.ownBlock ≠ v.ownBlock := by
  cases hu : u.ownBlock with
  | none => exact .inl rfl
  | some k =>
    right
    intro hv
    have h1 := (h.out.lt k hu).2
    have h2 := (g.out.lt k hv.symm).1
    omega
set_option maxHeartbeats 800000 in
set_option maxRecDepth 100000 in
theorem splitWords_walk (s : ByteArray) (w : World) (hs : s.size ≤ maxLen) :
    Calls Tryd.prog 6 #[.string s] w fun e w' => e = .returned (.bool true) ∧ Below w.heap.size w w' := by
  unfold maxLen at hs
  by_cases hbig : 1048576 < s.size
  · go_enter Tryd.func6, Tryd.ntmps6
    go_wp2
    go_ret
    exact ⟨rfl, Below.refl _ _⟩
  · have hs1 : s.size ≤ 1048576 := by omega
    obtain ⟨ls, hls⟩ : ∃ ls, wordsOf (spl 32 s.data.toList) = ls := ⟨_, rfl⟩
    have hl : ls.length ≤ 1048577 := by
      rw [← hls]
      have h1 := words_all (spl 32 s.data.toList)
      rw [spl_len] at h1
      have := List.count_le_length (a := (32 : UInt8)) (l := s.data.toList)
      have e : s.data.toList.length = s.size := by rw [Array.length_toList]; rfl
      omega
    have HLS := Lib.hid hls
    clear hls
    go_enter Tryd.func6, Tryd.ntmps6
    go_wp2_with fail
    refine (specWords_any s _ hs1).mono ?_
    rintro e w1 ⟨v0, rfl, ho0, hb1⟩
    rw [HLS.out] at ho0
    have B1 := Lib.hid hb1
    have O0 := Lib.hid ho0
    clear ho0 hb1
    go_wp2_with fail
    refine (implWords_any s _ hs1).mono ?_
    rintro e w2 ⟨v1, rfl, ho1, hb2⟩
    rw [HLS.out] at ho1
    have O1 := Lib.hid ho1
    have B2 : Hid (Below w.heap.size w w2) := B1.out.trans (hb2.mono B1.out.size)
    have O02 : Hid (OwnT w.heap.size w2 v0 ls) := O0.out.on hb2
    have A01 := Lib.hid (ownT_apart O0.out ho1 (Nat.le_refl _))
    clear ho1 hb2
    go_wp2_with fail
    refine (eqT_any (O1.out.at hl) (O02.out.at hl)).mono ?_
    rintro e w3 ⟨rfl, n3, rfl⟩
    have O13 : Hid (OwnT w1.heap.size (w2.drewN n3) v1 ls) := O1.out
    have O03 : Hid (OwnT w.heap.size (w2.drewN n3) v0 ls) := O02.out
    have B3 : Hid (Below w.heap.size w (w2.drewN n3)) := below_drewN B2.out n3
    clear O1 O02 B2
    go_wp2_with fail
    refine (markT_any 1 O13.out hl (by omega) (by omega)).mono ?_
    rintro e w4 ⟨rfl, ho4, hb4, hg4⟩
    have O4 := Lib.hid ho4
    have O04 : Hid (OwnT w.heap.size w4 v0 ls) := O03.out.grown hg4 A01.out
    have B4 : Hid (Below w.heap.size w w4) := B3.out.trans (hb4.mono B1.out.size)
    clear ho4 hb4 hg4 O13 O03
    obtain ⟨m, hm⟩ : ∃ m : Int, ((1 + ls.length : Nat) : Int) = m := ⟨_, rfl⟩
    have hm0 : 0 ≤ m := by omega
    have eq1 : (m != m) = false := by simp
    rw [hm]
    have HM := Lib.hid hm
    clear hm
    go_wp2_with fail
    refine (TextsAt.out (O4.out.at (by rw [marksT_len]; exact hl)) (by omega) (by omega)).mono ?_
    rintro e w5 ⟨rfl, hb5⟩
    have O5 : Hid (OwnT w1.heap.size w5 v1 (marksT 1 ls.length)) := O4.out.on hb5
    have O05 : Hid (OwnT w.heap.size w5 v0 ls) := O04.out.on hb5
    have B5 : Hid (Below w.heap.size w w5) := B4.out.trans (hb5.mono B4.out.size)
    clear hb5 O4 O04
    rw [HM.out]
    go_wp2_with fail
    refine (implWords_any s _ hs1).mono ?_
    rintro e w6 ⟨v6, rfl, ho6, hb6⟩
    rw [HLS.out] at ho6
    have O6 := Lib.hid ho6
    have O56 : Hid (OwnT w1.heap.size w6 v1 (marksT 1 ls.length)) := O5.out.on hb6
    have O06 : Hid (OwnT w.heap.size w6 v0 ls) := O05.out.on hb6
    have B6 : Hid (Below w.heap.size w w6) := B5.out.trans (hb6.mono B5.out.size)
    clear ho6 hb6 O5 O05
    go_wp2_with fail
    refine (eqT_any (O6.out.at hl) (O06.out.at hl)).mono ?_
    rintro e w7 ⟨rfl, n7, rfl⟩
    have O57 : Hid (OwnT w1.heap.size (w6.drewN n7) v1 (marksT 1 ls.length)) := O56.out
    go_wp2_with fail
    refine (TextsAt.out (O57.out.at (by rw [marksT_len]; exact hl)) (by omega) (by omega)).mono ?_
    rintro e w8 ⟨rfl, hb8⟩
    have B8 : Hid (Below w.heap.size w w8) := (below_drewN B6.out n7).trans (hb8.mono (below_drewN B6.out n7).size)
    clear hb8
    rw [HM.out]
    go_wp2_with fail
    go_ret
    exact ⟨rfl, B8.out⟩
end Go.Proofs.YtjgajnhefhgpkaaDoor
