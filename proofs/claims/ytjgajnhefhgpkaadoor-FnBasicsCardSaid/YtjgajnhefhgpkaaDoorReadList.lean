/-
  Reading a list of numbers: the model's and the program's.
-/
import Derived.Test.YtjgajnhefhgpkaaDoorSpecSplit
import Derived.Test.YtjgajnhefhgpkaaDoorReadDec
import Derived.Test.YtjgajnhefhgpkaaDoorListText
namespace Go.Proofs.YtjgajnhefhgpkaaDoor
open Go.RowKit
set_option linter.unusedVariables false

/-- Texts that are numbers within the limits, at most 64. -/
def Good (ls : List (List UInt8)) : Prop := ls.length ≤ 64 ∧ ∀ p ∈ ls, IsNum p ∧ -1000000000000 ≤ numOf p ∧ numOf p ≤ 1000000000000
/-- The list of a text. -/
def RL (l : List UInt8) (zs : List Int) (ok : Bool) : Prop :=
  (l = [45] ∧ zs = [] ∧ ok = true) ∨ (l ≠ [45] ∧ Good (spl 44 l) ∧ zs = (spl 44 l).map numOf ∧ ok = true) ∨ (l ≠ [45] ∧ ¬ Good (spl 44 l) ∧ zs = [] ∧ ok = false)
theorem RL.one {l : List UInt8} {zs ys : List Int} {ok yk : Bool} (h : RL l zs ok) (g : RL l ys yk) : zs = ys ∧ ok = yk := by
  rcases h with ⟨a, rfl, rfl⟩ | ⟨a, b, rfl, rfl⟩ | ⟨a, b, rfl, rfl⟩ <;> rcases g with ⟨c, rfl, rfl⟩ | ⟨c, d, rfl, rfl⟩ | ⟨c, d, rfl, rfl⟩ <;> first | exact ⟨rfl, rfl⟩ | contradiction
/-- How a call ends that hands back a list and whether there is one. -/
def RetL (w : World) (l : List UInt8) (e : Ending) (w' : World) : Prop := ∃ v zs ok, e = .returned (.tuple #[v, .bool ok]) ∧ OwnI w.heap.size w' v zs ∧ RL l zs ok ∧ zs.length ≤ 64 ∧ Below w.heap.size w w'
theorem piece_le (c : UInt8) (l : List UInt8) : ∀ p ∈ spl c l, p.length ≤ l.length := by
  induction l with
  | nil => intro p hp; simp [spl] at hp; subst hp; exact Nat.le_refl _
  | cons x r ih =>
    intro p hp
    unfold spl at hp
    split at hp
    · rcases List.mem_cons.mp hp with rfl | hp
      · exact Nat.zero_le _
      · have := ih p hp; simp only [List.length_cons]; omega
    · cases hs : spl c r with
      | nil => exact absurd hs (spl_ne c r)
      | cons a t =>
        rw [hs] at hp ih
        simp only [glue] at hp
        rcases List.mem_cons.mp hp with rfl | hp
        · have := ih a (List.mem_cons_self ..)
          simp only [List.length_append, List.length_cons, List.length_nil]; omega
        · have := ih p (List.mem_cons_of_mem _ hp); simp only [List.length_cons]; omega
theorem map_take_next (ls : List (List UInt8)) (k : Nat) (h : k < ls.length) : (ls.take (k + 1)).map numOf = (ls.take k).map numOf ++ [numOf ls[k]] := by
  rw [List.take_succ_eq_append_getElem h, List.map_append]; rfl
theorem OwnI.push {B : Nat} {w : World} {v : Value} {zs : List Int} {z : Int} (h : w.ownsRow B 2 1 v (zs.length + 1) (iv zs ++ [.int .i64 z])) : OwnI B w v (zs ++ [z]) := by
  unfold OwnI iv at *; rw [List.length_append, List.map_append]; exact h
theorem OwnI.made (w : World) (B : Nat) (hB : B ≤ w.heap.size) : OwnI B (w.alloc (.cells #[] 2)) (.slice (some ⟨w.heap.size, 0, none⟩) 0 0) [] :=
  World.ownsRow_made w #[] 0 hB (by unfold maxLen; omega) rfl
theorem OwnI.nil (w : World) (B : Nat) : OwnI B w (.slice none 0 0) [] := World.ownsRow_nil w B 2 1
theorem OwnI.lower {B B' : Nat} {w : World} {v : Value} {zs : List Int} (h : OwnI B w v zs) (hB : B' ≤ B) : OwnI B' w v zs := by
  obtain ⟨hx, ⟨rfl, hn⟩ | ⟨g, cap, cur, rfl, hg, r⟩⟩ := h
  · exact ⟨hx, .inl ⟨rfl, hn⟩⟩
  · exact ⟨hx, .inr ⟨g, cap, cur, rfl, Nat.le_trans hB hg, r⟩⟩
theorem below_pushI {B0 B : Nat} {w0 w w1 : World} {v : Value} {zs : List Int} {o : Obj} (hb : Below B0 w0 w) (hle : B0 ≤ B) (hB : B ≤ w.heap.size) (h : OwnI B w v zs) (hg : (w.alloc o).grownBy w1 v.ownBlock) : Below B0 w0 w1 :=
  (hb.alloc (by omega) o).grown hg (by simp; omega) (fun k hk => by have := (h.out.lt k hk).1; omega)
theorem good_len {ls : List (List UInt8)} (h : Good ls) : (ls.map numOf).length ≤ 64 := by rw [List.length_map]; exact h.1
theorem rl_dash {s : ByteArray} (h : (s.toList == [45]) = true) : s.data.toList = [45] := by
  rw [ByteArray.toList_eq, beq_iff_eq] at h; exact h
theorem rl_nodash {s : ByteArray} (h : (s.toList == [45]) = false) : s.data.toList ≠ [45] := by
  rw [ByteArray.toList_eq, beq_eq_false_iff_ne] at h; exact h
theorem size_mk (l : List UInt8) : (⟨l.toArray⟩ : ByteArray).size = l.length := by simp [ByteArray.size]

theorem Env.up {B B' : Nat} {w : World} (h : Env B w) (hB : B ≤ B') : Env B' w := by
  obtain ⟨tp, p, tq, q, hh⟩ := h
  exact ⟨tp, p, tq, q, fun w' hb => hh w' (hb.mono hB)⟩
set_option maxHeartbeats 1000000 in
set_option maxRecDepth 100000 in
theorem specReadList_any (s : ByteArray) (w : World) (hs : s.size ≤ 1048576) :
    Calls Tryd.prog 31 #[.string s] w fun e w' => RetL w s.data.toList e w' := by
  obtain ⟨i0, hi, hz0, hz1, hz2⟩ := info_parts info2
  cases hq : (s.toList == [45])
  · have HD := Lib.hid (rl_nodash hq)
    have hpc : ∀ p ∈ spl 44 s.data.toList, p.length ≤ 1048576 := fun p hp => by
      have := piece_le 44 s.data.toList p hp
      have e : s.data.toList.length = s.size := by rw [Array.length_toList]; rfl
      omega
    have HP := Lib.hid hpc
    clear hpc
    obtain ⟨ls, hls⟩ : ∃ ls, spl 44 s.data.toList = ls := ⟨_, rfl⟩
    have hsl : ls.length ≤ s.size + 1 := by
      rw [← hls, spl_len]
      have := List.count_le_length (a := (44 : UInt8)) (l := s.data.toList)
      have e : s.data.toList.length = s.size := by rw [Array.length_toList]; rfl
      omega
    rw [hls] at HP
    have HLS := Lib.hid hls
    go_enter Tryd.func31, Tryd.ntmps31
    go_wp2_with fail
    refine (l01Split_any s 44 _ hs).mono ?_
    rintro e w1 ⟨v, rfl, ho, hb, hsz⟩
    rw [hls] at ho
    have O1 := Lib.hid ho
    have B1 := Lib.hid hb
    clear ho hb hls
    rcases O1.out.form with ⟨hnil, _⟩ | ⟨g, cap, hve, hgB, hgs, hcell, _⟩
    · exact absurd (HLS.out.trans hnil) (spl_ne _ _)
    have HC := Lib.hid hcell
    rw [hve]
    clear hcell hve
    by_cases h64 : 64 < ls.length
    · have HG : Hid (¬ Good (spl 44 s.data.toList)) := by
        intro h
        have := h.1
        rw [HLS.out] at this
        omega
      go_wp2
      go_ret2
      exact ⟨_, [], false, rfl, OwnI.nil _ _, .inr (.inr ⟨HD.out, HG.out, rfl, rfl⟩), Nat.zero_le _, B1.out⟩
    go_wp2
    go_loopw [5, 6] (fun o i wr => ∃ (k : Nat), k ≤ ls.length ∧ i = .int .i64 (k : Int) ∧ OwnI w1.heap.size wr o ((ls.take k).map numOf) ∧ Below w1.heap.size w1 wr ∧ w1.heap.size < wr.heap.size ∧ Hid (∀ j (h : j < ls.length), j < k → IsNum ls[j] ∧ -1000000000000 ≤ numOf ls[j] ∧ numOf ls[j] ≤ 1000000000000)) (fun _ i _ => ls.length - (intOf i).toNat)
    case atStart => exact ⟨0, Nat.zero_le _, rfl, OwnI.made w1 _ (Nat.le_refl _), (Below.refl _ _).alloc (Nat.le_refl _) _, by simp, fun j h h' => absurd h' (by omega)⟩
    case round =>
      obtain ⟨k, hk, rfl, hown, hbw, hsw, hall⟩ := hrel
      by_cases hlt : k < ls.length
      · have c1 : wr.cell? ⟨g, k, none⟩ = some (.string ⟨ls[k].toArray⟩) := (hbw.cell (p := ⟨g, k, none⟩) hgs).trans (HC.out k hlt)
        have hpl := HP.out ls[k] (List.getElem_mem hlt)
        go_wp2_with fail
        refine (number_any ⟨ls[k].toArray⟩ _ (by rw [size_mk]; unfold maxLen; omega)).mono ?_
        rintro e w3 ⟨hr, rfl⟩
        rcases hr with ⟨hn, rfl⟩ | ⟨hn, rfl⟩
        · have hn' : IsNum ls[k] := hn
          obtain ⟨n, hnn⟩ : ∃ n, numOf ls[k] = n := ⟨_, rfl⟩
          have hnn' : numOf (⟨ls[k].toArray⟩ : ByteArray).data.toList = n := hnn
          rw [hnn']
          have HN := Lib.hid hn'
          have HV := Lib.hid hnn
          clear hn hn' hnn hnn'
          by_cases hin : -1000000000000 ≤ n ∧ n ≤ 1000000000000
          · obtain ⟨n0, n1⟩ := hin
            have HA : Hid (∀ j (h : j < ls.length), j < k + 1 → IsNum ls[j] ∧ -1000000000000 ≤ numOf ls[j] ∧ numOf ls[j] ≤ 1000000000000) := by
              intro j h h'
              by_cases e : j = k
              · subst e; rw [HV.out]; exact ⟨HN.out, n0, n1⟩
              · exact hall.out j h (by omega)
            have HM : Hid ((ls.take (k + 1)).map numOf = (ls.take k).map numOf ++ [n]) := by show _ = _; rw [map_take_next ls k hlt, HV.out]
            have hlen : ((ls.take k).map numOf).length + 1 ≤ 65 := by rw [List.length_map, List.length_take]; omega
            clear hall c1 hpl
            obtain ⟨ys, hys⟩ : ∃ ys, (ls.take k).map numOf = ys := ⟨_, rfl⟩
            rw [hys] at hown hlen HM
            clear hys
            go_wp2_with (first | (go_at_call 53; refine (l00In_yes _ _ _ _ n0 n1).mono ?_; rintro e w' ⟨rfl, rfl⟩) | (at_builtin; refine wpList_append_own _ rfl _ _ 30 rfl w1.heap.size 2 i0 (.int .i64 0) 1 8 Tryd.underlying30 hi hz0 hz1 hz2 rfl (by decide) _ _ _ rfl (hown.out.alloc _) ⟨wr.heap.size, 0, none⟩ 1 1 [.int .i64 n] rfl rfl ?ah1 ?ah2 ?ah3 ?ah4 ?ah5 ?_))
            try (case ah1 => exact one_cell_t _ _ _)
            case ah2 => first | rfl | (intro u hu; simp at hu; subst hu; rfl)
            case ah3 => unfold maxLen; omega
            case ah4 => omega
            case ah5 => first | omega | (simp; omega)
            intro v2 w2 hown2 hgrow _
            have hO := OwnI.push hown2
            rw [← HM.out] at hO
            have hB2 := below_pushI hbw (Nat.le_refl _) (by omega) hown hgrow
            have hS2 : wr.heap.size ≤ w2.heap.size := size_pushT hgrow
            have hS3 : w1.heap.size < w2.heap.size := by omega
            clear hown2 hgrow hown hbw HM
            go_wp2
            go_roundw
            case rel => exact ⟨k + 1, by omega, by go_num, hO, hB2, hS3, HA⟩
            case measure => simp [intOf]; omega
          · have HG : Hid (¬ Good (spl 44 s.data.toList)) := by
              intro h
              rw [HLS.out] at h
              have := (h.2 ls[k] (List.getElem_mem hlt)).2
              rw [HV.out] at this
              exact hin this
            have HI : Hid (n < -1000000000000 ∨ 1000000000000 < n) := by show _ ∨ _; omega
            have HB := Lib.hid hbw
            clear hin hall hown hbw
            go_wp2_with (go_at_call 53; refine (l00In_no _ _ _ _ HI.out).mono ?_; rintro e w' ⟨rfl, rfl⟩)
            go_ret2
            exact ⟨_, [], false, rfl, OwnI.nil _ _, .inr (.inr ⟨HD.out, HG.out, rfl, rfl⟩), Nat.zero_le _, B1.out.trans (HB.out.mono B1.out.size)⟩
        · have hn' : ¬ IsNum ls[k] := hn
          have HG : Hid (¬ Good (spl 44 s.data.toList)) := by
            intro h
            rw [HLS.out] at h
            exact hn' (h.2 ls[k] (List.getElem_mem hlt)).1
          have HB := Lib.hid hbw
          clear hn hn' hall hown hbw
          go_wp2_with fail
          go_ret2
          exact ⟨_, [], false, rfl, OwnI.nil _ _, .inr (.inr ⟨HD.out, HG.out, rfl, rfl⟩), Nat.zero_le _, B1.out.trans (HB.out.mono B1.out.size)⟩
      · obtain rfl : k = ls.length := by omega
        have HG : Hid (Good (spl 44 s.data.toList)) := by
          rw [HLS.out]
          refine ⟨by omega, fun p hp => ?_⟩
          obtain ⟨j, hj, rfl⟩ := List.mem_iff_getElem.mp hp
          exact hall.out j hj hj
        rw [List.take_length] at hown
        have HO : Hid (OwnI w1.heap.size wr _ (ls.map numOf)) := hown
        have HB := Lib.hid hbw
        clear hall hown hbw
        go_wp2_with fail
        go_ret2
        exact ⟨_, _, true, rfl, HO.out.lower B1.out.size, .inr (.inl ⟨HD.out, HG.out, by rw [HLS.out], rfl⟩), by rw [List.length_map]; omega, B1.out.trans (HB.out.mono B1.out.size)⟩
  · have HD := Lib.hid (rl_dash hq)
    go_enter Tryd.func31, Tryd.ntmps31
    go_wp2_with fail
    go_ret2
    exact ⟨_, [], true, rfl, OwnI.made w _ (Nat.le_refl _), .inl ⟨HD.out, rfl, rfl⟩, Nat.zero_le _, (Below.refl _ _).alloc (Nat.le_refl _) _⟩

set_option maxHeartbeats 1000000 in
set_option maxRecDepth 100000 in
theorem implReadList_any (s : ByteArray) (w : World) (hs : s.size ≤ 1048576) {B : Nat} (hE : Env B w) (hBw : B ≤ w.heap.size) :
    Calls Tryd.prog 16 #[.string s] w fun e w' => RetL w s.data.toList e w' := by
  obtain ⟨i0, hi, hz0, hz1, hz2⟩ := info_parts info2
  have HEnv := Lib.hid hE
  have HBw := Lib.hid hBw
  clear hE hBw
  cases hq : (s.toList == [45])
  · have HD := Lib.hid (rl_nodash hq)
    have hpc : ∀ p ∈ spl 44 s.data.toList, p.length ≤ 1048576 := fun p hp => by
      have := piece_le 44 s.data.toList p hp
      have e : s.data.toList.length = s.size := by rw [Array.length_toList]; rfl
      omega
    have HP := Lib.hid hpc
    clear hpc
    obtain ⟨ls, hls⟩ : ∃ ls, spl 44 s.data.toList = ls := ⟨_, rfl⟩
    have hsl : ls.length ≤ s.size + 1 := by
      rw [← hls, spl_len]
      have := List.count_le_length (a := (44 : UInt8)) (l := s.data.toList)
      have e : s.data.toList.length = s.size := by rw [Array.length_toList]; rfl
      omega
    rw [hls] at HP
    have HLS := Lib.hid hls
    go_enter Tryd.func16, Tryd.ntmps16
    go_wp2_with fail
    refine (Tryd.strings_Count_one s 44 _).mono ?_
    rintro e w' ⟨rfl, hw⟩
    subst hw
    have hcn : Lib.countByte s.data.toList 44 + 1 = ls.length := by rw [← hls, spl_len]; rfl
    obtain ⟨cn, hcn2⟩ : ∃ cn, Lib.countByte s.data.toList 44 = cn := ⟨_, rfl⟩
    rw [hcn2] at hcn
    rw [hcn2]
    clear hcn2
    by_cases h64 : 64 < ls.length
    · have HG : Hid (¬ Good (spl 44 s.data.toList)) := by
        intro h
        have := h.1
        rw [HLS.out] at this
        omega
      have hc64 : 64 ≤ (cn : Int) := by omega
      clear hls hcn
      go_wp2_with fail
      go_ret2
      exact ⟨_, [], false, rfl, OwnI.nil _ _, .inr (.inr ⟨HD.out, HG.out, rfl, rfl⟩), Nat.zero_le _, Below.refl _ _⟩
    have hc64 : ¬ 64 ≤ (cn : Int) := by omega
    clear hcn
    go_wp2_with fail
    refine (split_any s 44 _ hs).mono ?_
    rintro e w1 ⟨cap, rfl, ho, hb, hsz⟩
    rw [hls] at ho
    rw [hls]
    have O1 := Lib.hid ho
    have B1 := Lib.hid hb
    clear ho hb hls
    obtain ⟨g, hg⟩ : ∃ g, w'.heap.size = g := ⟨_, rfl⟩
    rw [hg]
    rcases O1.out.form with ⟨hnil, _⟩ | ⟨g', cap', hve, hgB, hgs, hcell, _⟩
    · exact absurd (HLS.out.trans hnil) (spl_ne _ _)
    obtain rfl : g' = g := by rw [← hg]; injection hve with e1 _ _; injection e1 with e1; injection e1 with e1; exact e1.symm
    have HC := Lib.hid hcell
    have HG0 := Lib.hid hg
    clear hcell hve hg
    go_wp2_with fail
    go_loopw [4, 17] (fun o i wr => ∃ (k : Nat), k ≤ ls.length ∧ i = .int .i64 (k : Int) ∧ OwnI w1.heap.size wr o ((ls.take k).map numOf) ∧ Below w1.heap.size w1 wr ∧ w1.heap.size ≤ wr.heap.size ∧ Hid (∀ j (h : j < ls.length), j < k → IsNum ls[j] ∧ -1000000000000 ≤ numOf ls[j] ∧ numOf ls[j] ≤ 1000000000000)) (fun _ i _ => ls.length - (intOf i).toNat)
    case atStart => exact ⟨0, Nat.zero_le _, rfl, OwnI.nil _ _, Below.refl _ _, Nat.le_refl _, fun j h h' => absurd h' (by omega)⟩
    case round =>
      obtain ⟨k, hk, rfl, hown, hbw, hsw, hall⟩ := hrel
      by_cases hlt : k < ls.length
      · have c1 : wr.cell? ⟨g', k, none⟩ = some (.string ⟨ls[k].toArray⟩) := (hbw.cell (p := ⟨g', k, none⟩) hgs).trans (HC.out k hlt)
        have hpl := HP.out ls[k] (List.getElem_mem hlt)
        have HE3 : Hid (Env wr.heap.size wr) := (HEnv.out.on ((B1.out.trans (hbw.mono B1.out.size)).mono HBw.out)).up (Nat.le_trans HBw.out (Nat.le_trans B1.out.size hsw))
        go_wp2_with fail
        refine (implRead_err ⟨ls[k].toArray⟩ _ (by rw [size_mk]; omega) (HE3.out)).mono ?_
        rintro e w3 ⟨hr, hb3⟩
        have HO3 : Hid (OwnI w1.heap.size w3 _ ((ls.take k).map numOf)) := hown.on hb3
        have HB3 : Hid (Below w1.heap.size w1 w3) := hbw.trans (hb3.mono hsw)
        have hs3 : w1.heap.size ≤ w3.heap.size := Nat.le_trans hsw hb3.size
        clear hown hbw hsw hb3
        have hown := HO3.out
        have hbw := HB3.out
        have hsw := hs3
        clear HO3 HB3 hs3
        rcases hr with ⟨hn, rfl⟩ | ⟨hn, rfl⟩
        · have hn' : IsNum ls[k] := hn
          obtain ⟨n, hnn⟩ : ∃ n, numOf ls[k] = n := ⟨_, rfl⟩
          have hnn' : numOf (⟨ls[k].toArray⟩ : ByteArray).data.toList = n := hnn
          rw [hnn']
          have HN := Lib.hid hn'
          have HV := Lib.hid hnn
          clear hn hn' hnn hnn'
          by_cases hin : -1000000000000 ≤ n ∧ n ≤ 1000000000000
          · obtain ⟨n0, n1⟩ := hin
            have HA : Hid (∀ j (h : j < ls.length), j < k + 1 → IsNum ls[j] ∧ -1000000000000 ≤ numOf ls[j] ∧ numOf ls[j] ≤ 1000000000000) := by
              intro j h h'
              by_cases e : j = k
              · subst e; rw [HV.out]; exact ⟨HN.out, n0, n1⟩
              · exact hall.out j h (by omega)
            have HM : Hid ((ls.take (k + 1)).map numOf = (ls.take k).map numOf ++ [n]) := by show _ = _; rw [map_take_next ls k hlt, HV.out]
            have hlen : ((ls.take k).map numOf).length + 1 ≤ 65 := by rw [List.length_map, List.length_take]; omega
            clear hall c1 hpl
            obtain ⟨ys, hys⟩ : ∃ ys, (ls.take k).map numOf = ys := ⟨_, rfl⟩
            rw [hys] at hown hlen HM
            clear hys
            go_wp2_with (first | (go_at_call 37; refine (within64t_yes _ _ _ _ n0 n1).mono ?_; rintro e w4 ⟨rfl, rfl⟩) | (at_builtin; refine wpList_append_own _ rfl _ _ 30 rfl w1.heap.size 2 i0 (.int .i64 0) 1 8 Tryd.underlying30 hi hz0 hz1 hz2 rfl (by decide) _ _ _ rfl (hown.out.alloc _) ⟨w3.heap.size, 0, none⟩ 1 1 [.int .i64 n] rfl rfl ?bh1 ?bh2 ?bh3 ?bh4 ?bh5 ?_))
            try (case bh1 => exact one_cell_t _ _ _)
            case bh2 => first | rfl | (intro u hu; simp at hu; subst hu; rfl)
            case bh3 => unfold maxLen; omega
            case bh4 => omega
            case bh5 => first | omega | (simp; omega)
            intro v2 w2 hown2 hgrow _
            have hO := OwnI.push hown2
            rw [← HM.out] at hO
            have hB2 := below_pushI hbw (Nat.le_refl _) (by omega) hown hgrow
            have hS2 : w3.heap.size ≤ w2.heap.size := size_pushT hgrow
            have hS3 : w1.heap.size ≤ w2.heap.size := by omega
            clear hown2 hgrow hown hbw HM
            go_wp2
            go_roundw
            case rel => exact ⟨k + 1, by omega, by go_num, hO, hB2, hS3, HA⟩
            case measure => simp [intOf]; omega
          · have HG : Hid (¬ Good (spl 44 s.data.toList)) := by
              intro h
              rw [HLS.out] at h
              have := (h.2 ls[k] (List.getElem_mem hlt)).2
              rw [HV.out] at this
              exact hin this
            have HI : Hid (n < -1000000000000 ∨ 1000000000000 < n) := by show _ ∨ _; omega
            have HB := Lib.hid hbw
            clear hin hall hown hbw
            go_wp2_with (go_at_call 37; refine (within64t_no _ _ _ _ HI.out).mono ?_; rintro e w4 ⟨rfl, rfl⟩)
            go_ret2
            exact ⟨_, [], false, rfl, OwnI.nil _ _, .inr (.inr ⟨HD.out, HG.out, rfl, rfl⟩), Nat.zero_le _, B1.out.trans (HB.out.mono B1.out.size)⟩
        · have hn' : ¬ IsNum ls[k] := hn
          have HG : Hid (¬ Good (spl 44 s.data.toList)) := by
            intro h
            rw [HLS.out] at h
            exact hn' (h.2 ls[k] (List.getElem_mem hlt)).1
          have HB := Lib.hid hbw
          clear hn hn' hall hown hbw
          go_wp2_with fail
          go_ret2
          exact ⟨_, [], false, rfl, OwnI.nil _ _, .inr (.inr ⟨HD.out, HG.out, rfl, rfl⟩), Nat.zero_le _, B1.out.trans (HB.out.mono B1.out.size)⟩
      · obtain rfl : k = ls.length := by omega
        have HG : Hid (Good (spl 44 s.data.toList)) := by
          rw [HLS.out]
          refine ⟨by omega, fun p hp => ?_⟩
          obtain ⟨j, hj, rfl⟩ := List.mem_iff_getElem.mp hp
          exact hall.out j hj hj
        rw [List.take_length] at hown
        have HO : Hid (OwnI w1.heap.size wr _ (ls.map numOf)) := hown
        have HB := Lib.hid hbw
        clear hall hown hbw
        go_wp2_with fail
        go_ret2
        exact ⟨_, _, true, rfl, HO.out.lower B1.out.size, .inr (.inl ⟨HD.out, HG.out, by rw [HLS.out], rfl⟩), by rw [List.length_map]; omega, B1.out.trans (HB.out.mono B1.out.size)⟩
  · have HD := Lib.hid (rl_dash hq)
    go_enter Tryd.func16, Tryd.ntmps16
    go_wp2_with fail
    go_ret2
    exact ⟨_, [], true, rfl, OwnI.nil _ _, .inl ⟨HD.out, rfl, rfl⟩, Nat.zero_le _, Below.refl _ _⟩
end Go.Proofs.YtjgajnhefhgpkaaDoor
