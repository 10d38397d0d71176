/-
  Free pairs, plainly, and those of the model.
-/
import Derived.Test.YtibdcejglkhcfaaDoorPR
import Derived.Test.YtibdcejglkhcfaaDoorCyN
import Derived.Test.YtibdcejglkhcfaaDoorPN
namespace Go.Proofs.YtibdcejglkhcfaaDoor
open Go.RowKit
set_option linter.unusedVariables false
set_option linter.unusedSimpArgs false

/-- The places behind k, below m, of the simplices of which s is a part. -/
def gtK (zz : List (List Int)) (s : List Int) (k m : Nat) : List Nat := (List.range m).filter fun i => decide (k < i) && parB s (zz.getD i [])
theorem gtK_yes {zz : List (List Int)} {s : List Int} {k m : Nat} (hk : k < m) (hm : m < zz.length) (h : parB s zz[m] = true) : gtK zz s k (m + 1) = gtK zz s k m ++ [m] := by
  simp [gtK, List.range_succ, List.filter_append, List.getD, hk, hm, h]
theorem gtK_no {zz : List (List Int)} {s : List Int} {k m : Nat} (hm : m < zz.length) (h : parB s zz[m] = false) : gtK zz s k (m + 1) = gtK zz s k m := by
  simp [gtK, List.range_succ, List.filter_append, List.getD, hm, h]
theorem gtK_start (zz : List (List Int)) (s : List Int) (k : Nat) : gtK zz s k (k + 1) = [] := by
  unfold gtK
  rw [List.filter_eq_nil_iff]
  intro i hi
  have := List.mem_range.1 hi
  simp; omega
theorem mem_gtK {zz : List (List Int)} {s : List Int} {k m i : Nat} (h : i ∈ gtK zz s k m) : k < i ∧ i < m := by
  unfold gtK at h
  rw [List.mem_filter, List.mem_range, Bool.and_eq_true, decide_eq_true_eq] at h
  exact ⟨h.2.1, h.1⟩
theorem filt_first {p : Nat → Bool} {k : Nat} (h1 : ∀ i, i < k → p i = false) (h2 : p k = true) : ∀ n, (List.range n).filter p = if k < n then k :: (List.range n).filter (fun i => decide (k < i) && p i) else []
  | 0 => by simp
  | n + 1 => by
    rw [List.range_succ, List.filter_append, List.filter_append, filt_first h1 h2 n]
    rcases Nat.lt_trichotomy n k with h | h | h
    · rw [if_neg (by omega), if_neg (by omega)]; simp [h1 n h]
    · subst h
      have e : (List.range n).filter (fun i => decide (n < i) && p i) = [] := by
        rw [List.filter_eq_nil_iff]
        intro i hi
        have := List.mem_range.1 hi
        simp; omega
      rw [if_neg (by omega), if_pos (by omega), e]; simp [h2]
    · rw [if_pos h, if_pos (by omega)]
      cases hp : p n <;> simp [hp, h]
theorem par_before {zz : List (List Int)} (ho : OkC zz) {i k : Nat} (hik : i < k) (hk : k < zz.length) : parB zz[k] (zz[i]'(by omega)) = false := by
  rw [← Bool.not_eq_true, parB_iff]
  intro h
  have hi : i < zz.length := by omega
  have hs := rise_sub (ho.sim hk).rise (ho.sim hi).rise h
  have he := hs.eq_of_length_le (ho.lens hik hk)
  have := ho.1.inj hk hi he
  omega
theorem par_self (s : List Int) : parB s s = true := parB_iff.2 fun v hv => hv
theorem sta_gt {zz : List (List Int)} (ho : OkC zz) {k : Nat} (hk : k < zz.length) : staK zz zz[k] zz.length = (k : Int) :: (gtK zz zz[k] k zz.length).map fun (i : Nat) => (i : Int) := by
  unfold staK gtK
  rw [filt_first (k := k) (fun i hi => by
    have hi' : i < zz.length := by omega
    rw [List.getD_eq_getElem?_getD, List.getElem?_eq_getElem hi', Option.getD_some]
    exact par_before ho hi hk) (by
    rw [List.getD_eq_getElem?_getD, List.getElem?_eq_getElem hk, Option.getD_some]
    exact par_self _), if_pos hk]
  rfl
/-- The free pair of a face, if it is one. -/
def frP (zz : List (List Int)) (k : Nat) : List (Nat × Nat) :=
  match gtK zz (zz.getD k []) k zz.length with
  | [j] => [(k, j)]
  | _ => []
def frK (zz : List (List Int)) (m : Nat) : List (Nat × Nat) := (List.range m).flatMap (frP zz)
theorem frK_zero (zz : List (List Int)) : frK zz 0 = [] := rfl
theorem frK_next (zz : List (List Int)) (m : Nat) : frK zz (m + 1) = frK zz m ++ frP zz m := by simp [frK, List.range_succ]
theorem frP_yes {zz : List (List Int)} {k j : Nat} (hk : k < zz.length) (h : gtK zz zz[k] k zz.length = [j]) : frP zz k = [(k, j)] := by
  unfold frP
  rw [List.getD_eq_getElem?_getD, List.getElem?_eq_getElem hk, Option.getD_some, h]
theorem frP_no {zz : List (List Int)} {k : Nat} (hk : k < zz.length) (h : (gtK zz zz[k] k zz.length).length ≠ 1) : frP zz k = [] := by
  unfold frP
  rw [List.getD_eq_getElem?_getD, List.getElem?_eq_getElem hk, Option.getD_some]
  split
  · rename_i j e; rw [e] at h; exact absurd rfl h
  · rfl
theorem frP_len (zz : List (List Int)) (k : Nat) : (frP zz k).length ≤ 1 := by
  unfold frP
  split <;> simp
theorem frK_len (zz : List (List Int)) : ∀ m, (frK zz m).length ≤ m
  | 0 => by simp [frK_zero]
  | m + 1 => by rw [frK_next, List.length_append]; have := frK_len zz m; have := frP_len zz m; omega
def frR (zz : List (List Int)) (m : Nat) : List (List Int) := (frK zz m).map fun p => [(p.1 : Int), (p.2 : Int)]
theorem frR_len (zz : List (List Int)) (m : Nat) : (frR zz m).length ≤ m := by unfold frR; rw [List.length_map]; exact frK_len zz m
theorem frR_yes {zz : List (List Int)} {k j : Nat} (hk : k < zz.length) (h : gtK zz zz[k] k zz.length = [j]) : frR zz (k + 1) = frR zz k ++ [[(k : Int), (j : Int)]] := by
  unfold frR; rw [frK_next, frP_yes hk h, List.map_append]; rfl
theorem frR_no {zz : List (List Int)} {k : Nat} (hk : k < zz.length) (h : (gtK zz zz[k] k zz.length).length ≠ 1) : frR zz (k + 1) = frR zz k := by
  unfold frR; rw [frK_next, frP_no hk h, List.append_nil]
theorem ownRI_madeM (w : World) (B : Nat) (hB : B ≤ w.heap.size) : OwnRI B (w.alloc (.cells #[] 25)) (.slice (some ⟨w.heap.size, 0, none⟩) 0 0) [] :=
  ⟨[], rfl, World.ownsRow_made w #[] 0 hB (Nat.zero_le _) rfl, fun i u zs h _ => by simp at h, fun i u g h _ => by simp at h, fun i j u x g h _ _ _ => by simp at h, Nat.le_refl _, fun g h => by simp only [Value.ownBlock, Option.some.injEq] at h; rw [World.size_alloc]; omega, fun i u g h _ => by simp at h⟩
theorem ownI_twoM (w : World) (x y : Int) : OwnI w.heap.size (w.alloc (.cells #[.int .i64 x, .int .i64 y] 2)) (.slice (some ⟨w.heap.size, 0, none⟩) 2 2) [x, y] :=
  ⟨by simp [iv], .inr ⟨w.heap.size, 2, #[.int .i64 x, .int .i64 y], rfl, Nat.le_refl _, heap_alloc_new w _, Nat.le_refl _, by unfold maxLen; omega, by simp, by simp [iv]⟩⟩
def RetRI (Z : List (List Int)) (w : World) (e : Ending) (w' : World) : Prop := ∃ v, e = .returned v ∧ OwnRI w.heap.size w' v Z ∧ Below w.heap.size w w'
set_option maxRecDepth 100000 in
set_option maxHeartbeats 6400000 in
theorem l08Free_any {L : Nat} {v : Value} {zz : List (List Int)} {w : World} (p : PtC w L v) (hq : RowsAt w v zz) (ho : OkC zz) :
    Calls Tryd.prog 51 #[.pointer (some ⟨L, 0, none⟩)] w fun e w' => RetRI (frR zz zz.length) w e w' := by
  obtain ⟨i0, hi0, iz0, iz1, iz2⟩ := info_parts info_r
  have HQ := Lib.hid hq
  obtain ⟨a, c, rfl, hl, k1⟩ := hq.any
  have K1 := Lib.hid k1
  have P := Lib.hid p
  have HO := Lib.hid ho
  have h48 := ho.2
  have HM : Hid (OwnRI w.heap.size (w.alloc (.cells #[] 25)) (.slice (some ⟨w.heap.size, 0, none⟩) 0 0) (frR zz 0)) := ownRI_madeM w _ (Nat.le_refl _)
  have AL : Hid (Below w.heap.size w (w.alloc (.cells #[] 25))) := (Below.refl _ w).alloc (Nat.le_refl _) _
  clear k1 p hq ho
  go_enter Tryd.func51, Tryd.ntmps51
  go_wp2_with fail
  go_loopw [3, 4] (fun sv si wr => ∃ (k : Nat), k ≤ zz.length ∧ si = .int .i64 (k : Int) ∧ Hid (OwnRI w.heap.size wr sv (frR zz k)) ∧ Hid (Below w.heap.size w wr)) (fun _ i _ => zz.length - (intOf i).toNat)
  case atStart => exact ⟨0, Nat.zero_le _, rfl, HM, AL⟩
  case round =>
    clear HM AL
    obtain ⟨k, hk, rfl, HY, HB⟩ := hrel
    have q1 := (P.out.on HB.out).2
    have hs := HB.out.size
    have i0' : 0 ≤ (k : Int) := by omega
    by_cases hlt : k < zz.length
    · obtain ⟨b, o, u, rfl, hb, c1', i1'⟩ := K1.out k hlt
      have c1 : wr.cell? ⟨b, o + k, none⟩ = some u := (HB.out.cell (p := ⟨b, o + k, none⟩) hb).trans c1'
      have I1 := Lib.hid (i1'.on HB.out)
      have i1 : (k : Int) < (zz.length : Int) := by omega
      have hkl := frR_len zz k
      have hsg := sta_gt HO.out hlt
      have hgb : ∀ j ∈ gtK zz zz[k] k zz.length, k < j ∧ j < zz.length := fun j hj => mem_gtK hj
      have HNO : Hid ((gtK zz zz[k] k zz.length).length ≠ 1 → frR zz (k + 1) = frR zz k) := frR_no hlt
      have HYES : Hid (∀ j, gtK zz zz[k] k zz.length = [j] → frR zz (k + 1) = frR zz k ++ [[(k : Int), (j : Int)]]) := fun j => frR_yes hlt
      have HST : Hid (∀ (w1 : World) (x : Value), Below w.heap.size w w1 → IntsAt w1 x zz[k] → Calls Tryd.prog 55 #[.pointer (some ⟨L, 0, none⟩), x] w1 fun e w' => RetN ((k : Int) :: (gtK zz zz[k] k zz.length).map fun (i : Nat) => (i : Int)) w1 e w') := fun w1 x hb hx => by
        rw [← hsg]; exact l05Star_any (P.out.on hb) (HQ.out.on hb) hx HO.out
      generalize gtK zz zz[k] k zz.length = gs at HNO HYES HST hgb
      generalize zz[k] = t at I1 HST
      have HOR := Lib.hid HY.out
      clear c1' i1' hsg
      go_wp2_with fail
      refine (HST.out _ _ HB.out I1.out).mono ?_
      rintro e w5 ⟨v5, rfl, ho5, hb5⟩
      have HB5 := Lib.hid (HB.out.trans (hb5.mono HB.out.size))
      have HO5 := Lib.hid (OwnRI.on HOR.out hb5)
      by_cases hg : gs.length = 1
      · obtain ⟨j, rfl⟩ : ∃ j, gs = [j] := by
          match gs, hg with
          | [j], _ => exact ⟨j, rfl⟩
        obtain ⟨g5, o5, c5, rfl, hg5, k5⟩ := (ho5.at (by simp)).at1 (by simp)
        have k51 := k5 1 (by simp)
        simp only [List.map_cons, List.map_nil, List.length_cons, List.length_nil, Nat.zero_add, Nat.reduceAdd, List.getElem_cons_succ, List.getElem_cons_zero] at k51 ⊢
        obtain ⟨Lv, hL⟩ := HO5.out
        obtain ⟨z, hz⟩ : ∃ z, (frR zz k).length = z := ⟨_, rfl⟩
        have hzl : z ≤ 48 := by omega
        have HZL := Lib.hid hz
        obtain ⟨oa, oc, rfl⟩ := hL.slice
        have HL2 := Lib.hid hL
        rw [hz] at HL2 ⊢
        have HU := Lib.hid (ownI_twoM w5 (k : Int) (j : Int))
        have HBU : Hid (Below w5.heap.size w5 (w5.alloc (.cells #[.int .i64 (k : Int), .int .i64 (j : Int)] 2))) := (Below.refl _ _).alloc (Nat.le_refl _) _
        have hbs := HB5.out.size
        have HYJ := Lib.hid (HYES.out j rfl)
        clear hL hz HO5 HOR HY HNO HYES HST ho5 hb5 k5 hgb
        go_wp2_with (at_builtin; go_loud (refine wpList_append_place _ rfl _ _ 22 rfl w.heap.size 25 i0 (.slice none 0 0) 24 Tryd.underlying22 hi0 iz0 iz1 iz2 rfl _ z Lv rfl (by have h := (HL2.out.on (HBU.out.alloc HBU.out.size (.cells #[.slice (some ⟨w5.heap.size, 0, none⟩) 2 2] 25))).row; rw [HZL.out] at h; exact h) ⟨w5.heap.size + 1, 0, none⟩ _ (.slice (some ⟨w5.heap.size, 0, none⟩) 2 2) rfl (row_oneS _ _ _ _ (by simp)) (fun y hy => by simp at hy; rw [hy]; rfl) (by unfold maxLen; omega) (by omega) (by rw [World.size_alloc, World.size_alloc]; omega) ?_); intro v3 w3 hr3 hg3 hv3)
        have hp3 := OwnRI.push HL2.out HU.out HBU.out hbs (by rw [HZL.out]; exact hr3) hg3 (fun g hg => (hv3 g hg).imp id (fun h => by rw [World.size_alloc, World.size_alloc] at h; rw [World.size_alloc]; omega))
        have hb3 : Below w.heap.size w w3 := ((HB5.out.alloc hbs _).alloc (by rw [World.size_alloc]; omega) _).grown hg3 (by rw [World.size_alloc, World.size_alloc]; omega) (fun k hk => (HL2.out.row.lt k hk).1)
        have HX : Hid (OwnRI w.heap.size w3 v3 (frR zz (k + 1))) := by
          show OwnRI _ _ _ _
          rw [HYJ.out]; exact hp3
        have HB3 := Lib.hid hb3
        clear hp3 hb3 hr3 hg3 hv3
        go_wp2_with fail
        go_roundw
        case rel => exact ⟨k + 1, by omega, by go_num, HX, HB3⟩
        case measure => simp [intOf]; omega
      · have he2 : ((((k : Int) :: gs.map fun (i : Nat) => (i : Int)).length : Int) == 2) = false := by
          rw [beq_eq_false_iff_ne]; simp; omega
        have HX : Hid (OwnRI w.heap.size w5 u3 (frR zz (k + 1))) := by
          show OwnRI _ _ _ _
          rw [HNO.out hg]; exact HO5.out
        obtain ⟨va, vc, rfl⟩ := ho5.slice
        generalize ((k : Int) :: gs.map fun (i : Nat) => (i : Int)).length = n5 at he2
        clear ho5 hb5 HO5 HOR HY HNO HYES HST
        go_wp2_with fail
        go_roundw
        case rel => exact ⟨k + 1, by omega, by go_num, HX, HB5⟩
        case measure => simp [intOf]; omega
    · obtain rfl : k = zz.length := by omega
      go_wp2_with fail
      go_ret
      exact ⟨_, rfl, HY.out, HB.out⟩
end Go.Proofs.YtibdcejglkhcfaaDoor
