/-
  Free pairs, plainly, and those of the model.
  Free pairs of the program.
  FreePairs of the model and of the program.
-/
import Derived.Test.YtibdcejglkhcfaaDoorPR
import Derived.Test.YtibdcejglkhcfaaDoorCyN
import Derived.Test.YtibdcejglkhcfaaDoorPN
import Derived.Test.YtibdcejglkhcfaaDoorPO
namespace Go.Proofs.YtibdcejglkhcfaaDoor
open Go.RowKit
set_option linter.unusedVariables false
set_option linter.unusedSimpArgs false

/-- The places behind k, below m, of the simplices of which s is a part. -/
def gtK (zz : List (List Int)) (s : List Int) (k m : Nat) : List Nat := (List.range m).filter fun i => decide (k < i) && parB s (zz.getD i [])
theorem gtK_yes {zz : List (List Int)} {s : List Int} {k m : Nat} (hk : k < m) (hm : m < zz.length) (h : parB s zz[m] = true) : gtK zz s k (m + 1) = gtK zz s k m ++ [m] := by
  simp [gtK, List.range_succ, List.filter_append, List.getD, hk, hm, h]
theorem gtK_no {zz : List (List Int)} {s : List Int} {k m : Nat} (hm : m < zz.length) (h : parB s zz[m] = false) : gtK zz s k (m + 1) = gtK zz s k m := by
  simp [gtK, List.range_succ, List.filter_append, List.getD, hm, h]
theorem gtK_start (zz : List (List Int)) (s : List Int) (k : Nat) : gtK zz s k (k + 1) = [] := by
  unfold gtK
  rw [List.filter_eq_nil_iff]
  intro i hi
  have := List.mem_range.1 hi
  simp; omega
theorem mem_gtK {zz : List (List Int)} {s : List Int} {k m i : Nat} (h : i ∈ gtK zz s k m) : k < i ∧ i < m := by
  unfold gtK at h
  rw [List.mem_filter, List.mem_range, Bool.and_eq_true, decide_eq_true_eq] at h
  exact ⟨h.2.1, h.1⟩
theorem filt_first {p : Nat → Bool} {k : Nat} (h1 : ∀ i, i < k → p i = false) (h2 : p k = true) : ∀ n, (List.range n).filter p = if k < n then k :: (List.range n).filter (fun i => decide (k < i) && p i) else []
  | 0 => by simp
  | n + 1 => by
    rw [List.range_succ, List.filter_append, List.filter_append, filt_first h1 h2 n]
    rcases Nat.lt_trichotomy n k with h | h | h
    · rw [if_neg (by omega), if_neg (by omega)]; simp [h1 n h]
    · subst h
      have e : (List.range n).filter (fun i => decide (n < i) && p i) = [] := by
        rw [List.filter_eq_nil_iff]
        intro i hi
        have := List.mem_range.1 hi
        simp; omega
      rw [if_neg (by omega), if_pos (by omega), e]; simp [h2]
    · rw [if_pos h, if_pos (by omega)]
      cases hp : p n <;> simp [hp, h]
theorem par_before {zz : List (List Int)} (ho : OkC zz) {i k : Nat} (hik : i < k) (hk : k < zz.length) : parB zz[k] (zz[i]'(by omega)) = false := by
  rw [← Bool.not_eq_true, parB_iff]
  intro h
  have hi : i < zz.length := by omega
  have hs := rise_sub (ho.sim hk).rise (ho.sim hi).rise h
  have he := hs.eq_of_length_le (ho.lens hik hk)
  have := ho.1.inj hk hi he
  omega
theorem par_self (s : List Int) : parB s s = true := parB_iff.2 fun v hv => hv
theorem sta_gt {zz : List (List Int)} (ho : OkC zz) {k : Nat} (hk : k < zz.length) : staK zz zz[k] zz.length = (k : Int) :: (gtK zz zz[k] k zz.length).map fun (i : Nat) => (i : Int) := by
  unfold staK gtK
  rw [filt_first (k := k) (fun i hi => by
    have hi' : i < zz.length := by omega
    rw [List.getD_eq_getElem?_getD, List.getElem?_eq_getElem hi', Option.getD_some]
    exact par_before ho hi hk) (by
    rw [List.getD_eq_getElem?_getD, List.getElem?_eq_getElem hk, Option.getD_some]
    exact par_self _), if_pos hk]
  rfl
/-- The free pair of a face, if it is one. -/
def frP (zz : List (List Int)) (k : Nat) : List (Nat × Nat) :=
  match gtK zz (zz.getD k []) k zz.length with
  | [j] => [(k, j)]
  | _ => []
def frK (zz : List (List Int)) (m : Nat) : List (Nat × Nat) := (List.range m).flatMap (frP zz)
theorem frK_zero (zz : List (List Int)) : frK zz 0 = [] := rfl
theorem frK_next (zz : List (List Int)) (m : Nat) : frK zz (m + 1) = frK zz m ++ frP zz m := by simp [frK, List.range_succ]
theorem frP_yes {zz : List (List Int)} {k j : Nat} (hk : k < zz.length) (h : gtK zz zz[k] k zz.length = [j]) : frP zz k = [(k, j)] := by
  unfold frP
  rw [List.getD_eq_getElem?_getD, List.getElem?_eq_getElem hk, Option.getD_some, h]
theorem frP_no {zz : List (List Int)} {k : Nat} (hk : k < zz.length) (h : (gtK zz zz[k] k zz.length).length ≠ 1) : frP zz k = [] := by
  unfold frP
  rw [List.getD_eq_getElem?_getD, List.getElem?_eq_getElem hk, Option.getD_some]
  split
  · rename_i j e; rw [e] at h; exact absurd rfl h
  · rfl
theorem frP_len (zz : List (List Int)) (k : Nat) : (frP zz k).length ≤ 1 := by
  unfold frP
  split <;> simp
theorem frK_len (zz : List (List Int)) : ∀ m, (frK zz m).length ≤ m
  | 0 => by simp [frK_zero]
  | m + 1 => by rw [frK_next, List.length_append]; have := frK_len zz m; have := frP_len zz m; omega
def frR (zz : List (List Int)) (m : Nat) : List (List Int) := (frK zz m).map fun p => [(p.1 : Int), (p.2 : Int)]
theorem frR_len (zz : List (List Int)) (m : Nat) : (frR zz m).length ≤ m := by unfold frR; rw [List.length_map]; exact frK_len zz m
theorem frR_yes {zz : List (List Int)} {k j : Nat} (hk : k < zz.length) (h : gtK zz zz[k] k zz.length = [j]) : frR zz (k + 1) = frR zz k ++ [[(k : Int), (j : Int)]] := by
  unfold frR; rw [frK_next, frP_yes hk h, List.map_append]; rfl
theorem frR_no {zz : List (List Int)} {k : Nat} (hk : k < zz.length) (h : (gtK zz zz[k] k zz.length).length ≠ 1) : frR zz (k + 1) = frR zz k := by
  unfold frR; rw [frK_next, frP_no hk h, List.append_nil]
theorem ownRI_madeM (w : World) (B : Nat) (hB : B ≤ w.heap.size) : OwnRI B (w.alloc (.cells #[] 25)) (.slice (some ⟨w.heap.size, 0, none⟩) 0 0) [] :=
  ⟨[], rfl, World.ownsRow_made w #[] 0 hB (Nat.zero_le _) rfl, fun i u zs h _ => by simp at h, fun i u g h _ => by simp at h, fun i j u x g h _ _ _ => by simp at h, Nat.le_refl _, fun g h => by simp only [Value.ownBlock, Option.some.injEq] at h; rw [World.size_alloc]; omega, fun i u g h _ => by simp at h⟩
theorem ownI_twoM (w : World) (x y : Int) : OwnI w.heap.size (w.alloc (.cells #[.int .i64 x, .int .i64 y] 2)) (.slice (some ⟨w.heap.size, 0, none⟩) 2 2) [x, y] :=
  ⟨by simp [iv], .inr ⟨w.heap.size, 2, #[.int .i64 x, .int .i64 y], rfl, Nat.le_refl _, heap_alloc_new w _, Nat.le_refl _, by unfold maxLen; omega, by simp, by simp [iv]⟩⟩
def RetRI (Z : List (List Int)) (w : World) (e : Ending) (w' : World) : Prop := ∃ v, e = .returned v ∧ OwnRI w.heap.size w' v Z ∧ Below w.heap.size w w'
set_option maxRecDepth 100000 in
set_option maxHeartbeats 6400000 in
theorem l08Free_any {L : Nat} {v : Value} {zz : List (List Int)} {w : World} (p : PtC w L v) (hq : RowsAt w v zz) (ho : OkC zz) :
    Calls Tryd.prog 51 #[.pointer (some ⟨L, 0, none⟩)] w fun e w' => RetRI (frR zz zz.length) w e w' := by
  obtain ⟨i0, hi0, iz0, iz1, iz2⟩ := info_parts info_r
  have HQ := Lib.hid hq
  obtain ⟨a, c, rfl, hl, k1⟩ := hq.any
  have K1 := Lib.hid k1
  have P := Lib.hid p
  have HO := Lib.hid ho
  have h48 := ho.2
  have HM : Hid (OwnRI w.heap.size (w.alloc (.cells #[] 25)) (.slice (some ⟨w.heap.size, 0, none⟩) 0 0) (frR zz 0)) := ownRI_madeM w _ (Nat.le_refl _)
  have AL : Hid (Below w.heap.size w (w.alloc (.cells #[] 25))) := (Below.refl _ w).alloc (Nat.le_refl _) _
  clear k1 p hq ho
  go_enter Tryd.func51, Tryd.ntmps51
  go_wp2_with fail
  go_loopw [3, 4] (fun sv si wr => ∃ (k : Nat), k ≤ zz.length ∧ si = .int .i64 (k : Int) ∧ Hid (OwnRI w.heap.size wr sv (frR zz k)) ∧ Hid (Below w.heap.size w wr)) (fun _ i _ => zz.length - (intOf i).toNat)
  case atStart => exact ⟨0, Nat.zero_le _, rfl, HM, AL⟩
  case round =>
    clear HM AL
    obtain ⟨k, hk, rfl, HY, HB⟩ := hrel
    have q1 := (P.out.on HB.out).2
    have hs := HB.out.size
    have i0' : 0 ≤ (k : Int) := by omega
    by_cases hlt : k < zz.length
    · obtain ⟨b, o, u, rfl, hb, c1', i1'⟩ := K1.out k hlt
      have c1 : wr.cell? ⟨b, o + k, none⟩ = some u := (HB.out.cell (p := ⟨b, o + k, none⟩) hb).trans c1'
      have I1 := Lib.hid (i1'.on HB.out)
      have i1 : (k : Int) < (zz.length : Int) := by omega
      have hkl := frR_len zz k
      have hsg := sta_gt HO.out hlt
      have hgb : ∀ j ∈ gtK zz zz[k] k zz.length, k < j ∧ j < zz.length := fun j hj => mem_gtK hj
      have HNO : Hid ((gtK zz zz[k] k zz.length).length ≠ 1 → frR zz (k + 1) = frR zz k) := frR_no hlt
      have HYES : Hid (∀ j, gtK zz zz[k] k zz.length = [j] → frR zz (k + 1) = frR zz k ++ [[(k : Int), (j : Int)]]) := fun j => frR_yes hlt
      have HST : Hid (∀ (w1 : World) (x : Value), Below w.heap.size w w1 → IntsAt w1 x zz[k] → Calls Tryd.prog 55 #[.pointer (some ⟨L, 0, none⟩), x] w1 fun e w' => RetN ((k : Int) :: (gtK zz zz[k] k zz.length).map fun (i : Nat) => (i : Int)) w1 e w') := fun w1 x hb hx => by
        rw [← hsg]; exact l05Star_any (P.out.on hb) (HQ.out.on hb) hx HO.out
      generalize gtK zz zz[k] k zz.length = gs at HNO HYES HST hgb
      generalize zz[k] = t at I1 HST
      have HOR := Lib.hid HY.out
      clear c1' i1' hsg
      go_wp2_with fail
      refine (HST.out _ _ HB.out I1.out).mono ?_
      rintro e w5 ⟨v5, rfl, ho5, hb5⟩
      have HB5 := Lib.hid (HB.out.trans (hb5.mono HB.out.size))
      have HO5 := Lib.hid (OwnRI.on HOR.out hb5)
      by_cases hg : gs.length = 1
      · obtain ⟨j, rfl⟩ : ∃ j, gs = [j] := by
          match gs, hg with
          | [j], _ => exact ⟨j, rfl⟩
        obtain ⟨g5, o5, c5, rfl, hg5, k5⟩ := (ho5.at (by simp)).at1 (by simp)
        have k51 := k5 1 (by simp)
        simp only [List.map_cons, List.map_nil, List.length_cons, List.length_nil, Nat.zero_add, Nat.reduceAdd, List.getElem_cons_succ, List.getElem_cons_zero] at k51 ⊢
        obtain ⟨Lv, hL⟩ := HO5.out
        obtain ⟨z, hz⟩ : ∃ z, (frR zz k).length = z := ⟨_, rfl⟩
        have hzl : z ≤ 48 := by omega
        have HZL := Lib.hid hz
        obtain ⟨oa, oc, rfl⟩ := hL.slice
        have HL2 := Lib.hid hL
        rw [hz] at HL2 ⊢
        have HU := Lib.hid (ownI_twoM w5 (k : Int) (j : Int))
        have HBU : Hid (Below w5.heap.size w5 (w5.alloc (.cells #[.int .i64 (k : Int), .int .i64 (j : Int)] 2))) := (Below.refl _ _).alloc (Nat.le_refl _) _
        have hbs := HB5.out.size
        have HYJ := Lib.hid (HYES.out j rfl)
        clear hL hz HO5 HOR HY HNO HYES HST ho5 hb5 k5 hgb
        go_wp2_with (at_builtin; go_loud (refine wpList_append_place _ rfl _ _ 22 rfl w.heap.size 25 i0 (.slice none 0 0) 24 Tryd.underlying22 hi0 iz0 iz1 iz2 rfl _ z Lv rfl (by have h := (HL2.out.on (HBU.out.alloc HBU.out.size (.cells #[.slice (some ⟨w5.heap.size, 0, none⟩) 2 2] 25))).row; rw [HZL.out] at h; exact h) ⟨w5.heap.size + 1, 0, none⟩ _ (.slice (some ⟨w5.heap.size, 0, none⟩) 2 2) rfl (row_oneS _ _ _ _ (by simp)) (fun y hy => by simp at hy; rw [hy]; rfl) (by unfold maxLen; omega) (by omega) (by rw [World.size_alloc, World.size_alloc]; omega) ?_); intro v3 w3 hr3 hg3 hv3)
        have hp3 := OwnRI.push HL2.out HU.out HBU.out hbs (by rw [HZL.out]; exact hr3) hg3 (fun g hg => (hv3 g hg).imp id (fun h => by rw [World.size_alloc, World.size_alloc] at h; rw [World.size_alloc]; omega))
        have hb3 : Below w.heap.size w w3 := ((HB5.out.alloc hbs _).alloc (by rw [World.size_alloc]; omega) _).grown hg3 (by rw [World.size_alloc, World.size_alloc]; omega) (fun k hk => (HL2.out.row.lt k hk).1)
        have HX : Hid (OwnRI w.heap.size w3 v3 (frR zz (k + 1))) := by
          show OwnRI _ _ _ _
          rw [HYJ.out]; exact hp3
        have HB3 := Lib.hid hb3
        clear hp3 hb3 hr3 hg3 hv3
        go_wp2_with fail
        go_roundw
        case rel => exact ⟨k + 1, by omega, by go_num, HX, HB3⟩
        case measure => simp [intOf]; omega
      · have he2 : ((((k : Int) :: gs.map fun (i : Nat) => (i : Int)).length : Int) == 2) = false := by
          rw [beq_eq_false_iff_ne]; simp; omega
        have HX : Hid (OwnRI w.heap.size w5 u3 (frR zz (k + 1))) := by
          show OwnRI _ _ _ _
          rw [HNO.out hg]; exact HO5.out
        obtain ⟨va, vc, rfl⟩ := ho5.slice
        generalize ((k : Int) :: gs.map fun (i : Nat) => (i : Int)).length = n5 at he2
        clear ho5 hb5 HO5 HOR HY HNO HYES HST
        go_wp2_with fail
        go_roundw
        case rel => exact ⟨k + 1, by omega, by go_num, HX, HB5⟩
        case measure => simp [intOf]; omega
    · obtain rfl : k = zz.length := by omega
      go_wp2_with fail
      go_ret
      exact ⟨_, rfl, HY.out, HB.out⟩
end Go.Proofs.YtibdcejglkhcfaaDoor

namespace Go.Proofs.YtibdcejglkhcfaaDoor
open Go.RowKit
set_option linter.unusedVariables false
set_option linter.unusedSimpArgs false

/-- The cells of a list of pairs. -/
def prC (L : List (Nat × Nat)) : List Value := L.flatMap fun p => [.int .i64 (p.1 : Int), .int .i64 (p.2 : Int)]
theorem prC_len (L : List (Nat × Nat)) : (prC L).length = L.length * 2 := by
  induction L with
  | nil => rfl
  | cons p L ih => simp only [prC, List.flatMap_cons, List.length_append, List.length_cons, List.length_nil] at ih ⊢; omega
theorem prC_snoc (L : List (Nat × Nat)) (i j : Nat) : prC (L ++ [(i, j)]) = prC L ++ [.int .i64 (i : Int), .int .i64 (j : Int)] := by simp [prC]
def OwnP (B : Nat) (w : World) (v : Value) (L : List (Nat × Nat)) : Prop := w.ownsRow B 82 2 v L.length (prC L)
theorem OwnP.out {B : Nat} {w : World} {v : Value} {L : List (Nat × Nat)} (h : OwnP B w v L) : w.ownsRow B 82 2 v L.length (prC L) := h
theorem OwnP.on {B : Nat} {w w' : World} {v : Value} {L : List (Nat × Nat)} (h : OwnP B w v L) (hb : Below w.heap.size w w') : OwnP B w' v L := by
  obtain ⟨hx, ⟨h1, hn⟩ | ⟨g, cap, cur, h1, hg, hcur, r⟩⟩ := h
  · exact ⟨hx, .inl ⟨h1, hn⟩⟩
  · refine ⟨hx, .inr ⟨g, cap, cur, h1, hg, ?_, r⟩⟩
    have : g < w.heap.size := by
      rcases Nat.lt_or_ge g w.heap.size with h | h
      · exact h
      · simp [Array.getElem?_eq_none h] at hcur
    rw [hb.block g this]; exact hcur
theorem OwnP.slice {B : Nat} {w : World} {v : Value} {L : List (Nat × Nat)} (h : OwnP B w v L) : ∃ a cap, v = .slice a L.length cap := by
  obtain ⟨hx, ⟨h1, hn⟩ | ⟨g, cap, cur, h1, _⟩⟩ := h
  · exact ⟨none, 0, by rw [h1, hn]⟩
  · exact ⟨_, cap, h1⟩
theorem OwnP.mono {B C : Nat} {w : World} {v : Value} {L : List (Nat × Nat)} (h : OwnP B w v L) (hC : C ≤ B) : OwnP C w v L := by
  obtain ⟨hx, ⟨h1, hn⟩ | ⟨g, cap, cur, h1, hg, hcur, r⟩⟩ := h
  · exact ⟨hx, .inl ⟨h1, hn⟩⟩
  · exact ⟨hx, .inr ⟨g, cap, cur, h1, Nat.le_trans hC hg, hcur, r⟩⟩
theorem prC_at {L : List (Nat × Nat)} {k : Nat} (hk : k < L.length) : (prC L)[2 * k]? = some (.int .i64 (L[k].1 : Int)) ∧ (prC L)[2 * k + 1]? = some (.int .i64 (L[k].2 : Int)) := by
  induction L generalizing k with
  | nil => simp at hk
  | cons p L ih =>
    cases k with
    | zero => simp [prC]
    | succ k =>
      have h := ih (k := k) (by simpa using hk)
      have e1 : 2 * (k + 1) = 2 * k + 2 := by omega
      have e2 : 2 * (k + 1) + 1 = (2 * k + 1) + 2 := by omega
      rw [e2, e1]
      simp only [prC, List.flatMap_cons, List.cons_append, List.nil_append, List.getElem?_cons_succ, List.getElem_cons_succ] at h ⊢
      exact h
/-- Its cells in memory. -/
theorem OwnP.at1 {B : Nat} {w : World} {v : Value} {L : List (Nat × Nat)} (h : OwnP B w v L) (h0 : 0 < L.length) : ∃ g cap, v = .slice (some ⟨g, 0, none⟩) L.length cap ∧ g < w.heap.size ∧ ∀ k (hk : k < L.length), w.cell? ⟨g, 2 * k, none⟩ = some (.int .i64 (L[k].1 : Int)) ∧ w.cell? ⟨g, 2 * k + 1, none⟩ = some (.int .i64 (L[k].2 : Int)) := by
  have hlt := h.out.lt
  obtain ⟨hx, ⟨h1, hn⟩ | ⟨g, cap, cur, h1, hg, hcur, hn, _, hsz, htk⟩⟩ := h
  · omega
  · refine ⟨g, cap, h1, (hlt g (by rw [h1]; rfl)).2, fun k hk => ?_⟩
    have hp := prC_at hk
    have get : ∀ j x, (prC L)[j]? = some x → w.cell? ⟨g, j, none⟩ = some x := fun j x hj => by
      rw [← htk] at hj
      have hj2 : cur.toList[j]? = some x := by
        rw [List.getElem?_take] at hj
        split at hj
        · exact hj
        · cases hj
      rw [Array.getElem?_toList] at hj2
      simp [World.cell?, hcur, hj2]
    exact ⟨get _ _ hp.1, get _ _ hp.2⟩
theorem info_p : (Tryd.prog.info? 82).map (fun i => (i.zero, i.size, i.bytes)) = some (some (.agg #[.int .i64 0, .int .i64 0]), 2, 16) := by kernel_rfl
theorem row_twoM (w : World) (u x : Value) (t : TypeId) (n : Nat) (hn : w.heap.size = n) : ∀ (j : Nat) (y : Value), [u, x][j]? = some y → (w.alloc (.cells #[u, x] t)).cell? ((⟨n, 0, none⟩ : Addr).add j) = some y := fun j y h => by
  subst hn
  rw [Addr.add_mid, World.cell?_alloc_at _ _ _ _ rfl]
  simpa using h
theorem gtK_mono {zz : List (List Int)} {s : List Int} {k m n : Nat} (h : m ≤ n) : (gtK zz s k m).length ≤ (gtK zz s k n).length :=
  ((List.range_sublist.2 h).filter _).length_le
theorem and_par {s t : List Int} (hs : Sim s) (ht : Sim t) : bits BinOp.and IntKind.u16 (maskOf t : Int) (maskOf s : Int) = ((maskOf t &&& maskOf s : Nat) : Int) ∧ (((maskOf t &&& maskOf s : Nat) : Int) != (maskOf s : Int)) = !parB s t := by
  have h1 := maskOf_lt s (fun v hv => hs.bd v hv)
  have h2 := maskOf_lt t (fun v hv => ht.bd v hv)
  refine ⟨and_u16 (by omega) (by omega), ?_⟩
  rw [parB_mask hs ht]
  by_cases e : maskOf t &&& maskOf s = maskOf s
  · simp [e]
  · rw [decide_eq_false e, Bool.not_false, bne_iff_ne]
    intro h; exact e (by omega)
set_option maxRecDepth 100000 in
set_option maxHeartbeats 6400000 in
theorem freePairs_any {a : Option Addr} {c : Nat} {zz : List (List Int)} {w : World} (ho : OkC zz) (k1 : ∀ j (hj : j < zz.length), ∃ b o, a = some ⟨b, o, none⟩ ∧ b < w.heap.size ∧ w.cell? ⟨b, o + j, none⟩ = some (.int .u16 (maskOf zz[j] : Int))) :
    Calls Tryd.prog 53 #[.slice a zz.length c] w fun e w' => ∃ v, e = .returned v ∧ OwnP w.heap.size w' v (frK zz zz.length) ∧ Below w.heap.size w w' := by
  obtain ⟨i0, hi, iz0, iz1, iz2⟩ := info_parts info_p
  have K1 := Lib.hid k1
  have HO := Lib.hid ho
  have h48 := ho.2
  obtain ⟨n, hn⟩ : ∃ n, zz.length = n := ⟨_, rfl⟩
  have HN := Lib.hid hn
  rw [hn] at h48 ⊢
  clear k1 ho hn
  go_enter Tryd.func53, Tryd.ntmps53
  go_wp2
  go_step3
  go_wp2
  go_step3
  go_wp2
  go_loopg [10, 3] n (fun g si so wr => ∃ k : Nat, k + g = n ∧ si = .int .i64 (k : Int) ∧ Hid (OwnP w.heap.size wr so (frK zz k)) ∧ Hid (Below w.heap.size w wr))
  case atStart => exact ⟨0, by omega, rfl, World.ownsRow_nil _ _ _ _, Below.refl _ _⟩
  case round =>
    obtain ⟨k, hkg, rfl, HOP, HB⟩ := hrel
    cases gk with
    | zero =>
      have hkz : ¬ ((k : Int) < (n : Int)) := by omega
      obtain rfl : k = n := by omega
      go_wp2
      (try rw [Exit.noGoto_ret])
      go_ret
      exact ⟨_, rfl, HOP.out, HB.out⟩
    | succ g =>
      have hkz : (k : Int) < (n : Int) := by omega
      have k0 : 0 ≤ (k : Int) := by omega
      have hkn : k < zz.length := by have := HN.out; omega
      obtain ⟨b, o, rfl, hb, c1'⟩ := K1.out k hkn
      have c1 := (HB.out.cell (p := ⟨b, o + k, none⟩) hb).trans c1'
      obtain ⟨ms, hms⟩ : ∃ ms, maskOf zz[k] = ms := ⟨_, rfl⟩
      have HMS := Lib.hid hms
      rw [hms] at c1
      clear hms c1'
      have HYES : Hid (∀ j, gtK zz zz[k] k n = [j] → frK zz (k + 1) = frK zz k ++ [(k, j)]) := fun j h => by
        rw [frK_next, frP_yes hkn (by rw [HN.out]; exact h)]
      have HNO : Hid ((gtK zz zz[k] k n).length ≠ 1 → frK zz (k + 1) = frK zz k) := fun h => by
        rw [frK_next, frP_no hkn (by rw [HN.out]; exact h), List.append_nil]
      have HG0 : Hid (gtK zz zz[k] k (k + 1) = []) := gtK_start zz zz[k] k
      have HGY : Hid (∀ p (hp : p < zz.length), k < p → parB zz[k] zz[p] = true → gtK zz zz[k] k (p + 1) = gtK zz zz[k] k p ++ [p]) := fun p hp h1 h2 => gtK_yes h1 hp h2
      have HGN : Hid (∀ p (hp : p < zz.length), parB zz[k] zz[p] = false → gtK zz zz[k] k (p + 1) = gtK zz zz[k] k p) := fun p hp h => gtK_no hp h
      have HGM : Hid (∀ p, p ≤ n → (gtK zz zz[k] k p).length ≤ (gtK zz zz[k] k n).length) := fun p hp => gtK_mono hp
      have HAP : Hid (∀ p (hp : p < zz.length), bits BinOp.and IntKind.u16 (maskOf zz[p] : Int) (ms : Int) = ((maskOf zz[p] &&& ms : Nat) : Int) ∧ (((maskOf zz[p] &&& ms : Nat) : Int) != (ms : Int)) = !parB zz[k] zz[p]) := fun p hp => by
        rw [← HMS.out]; exact and_par (HO.out.sim hkn) (HO.out.sim hp)
      generalize zz[k] = sk at HYES HNO HG0 HGY HGN HGM HAP
      have sB := HB.out.size
      go_wp2
      have F0 : Hid ((wr.alloc (.cells #[.int .i64 (k : Int), .int .i64 0] 82)).cell? ⟨wr.heap.size, 0, none⟩ = some (.int .i64 (k : Int))) := by show _ = _; rw [World.cell?_alloc_at _ _ _ _ rfl]; rfl
      have F1 : Hid ((wr.alloc (.cells #[.int .i64 (k : Int), .int .i64 0] 82)).cell? ⟨wr.heap.size, 1, none⟩ = some (.int .i64 ((0 : Nat) : Int))) := by show _ = _; rw [World.cell?_alloc_at _ _ _ _ rfl]; rfl
      have F2 : Hid ((wr.alloc (.cells #[.int .i64 (k : Int), .int .i64 0] 82)).frozen? ⟨wr.heap.size, 1, none⟩ = false) := World.frozen?_alloc_at _ _ _ _ rfl
      have F3 : Hid (Below wr.heap.size wr (wr.alloc (.cells #[.int .i64 (k : Int), .int .i64 0] 82))) := al1 (Below.refl _ _) _
      obtain ⟨P, hP⟩ : ∃ P, wr.heap.size = P := ⟨_, rfl⟩
      have HP := Lib.hid hP
      rw [hP] at F0 F1 F2 ⊢
      generalize (wr.alloc (.cells #[.int .i64 (k : Int), .int .i64 0] 82)) = wi at F0 F1 F2 F3 ⊢
      clear hP c1
      obtain ⟨wo, rfl⟩ : ∃ wo, wo = wr := ⟨_, rfl⟩
      go_loopg [7] (n - (k + 1)) (fun g2 sp wy => ∃ p q : Nat, p + g2 = n ∧ k < p ∧ sp = .int .i64 (p : Int) ∧ Hid (gtK zz sk k p = (if q = 0 then [] else [q])) ∧ Hid (wy.cell? ⟨P, 0, none⟩ = some (.int .i64 (k : Int))) ∧ Hid (wy.cell? ⟨P, 1, none⟩ = some (.int .i64 (q : Int))) ∧ Hid (wy.frozen? ⟨P, 1, none⟩ = false) ∧ Hid (Below wo.heap.size wo wy))
      case atStart => exact ⟨k + 1, 0, by omega, by omega, by go_num, by show _ = _; rw [HG0.out]; rfl, F0, F1, F2, F3⟩
      case round =>
        clear F0 F1 F2 F3
        obtain ⟨p, q, hpg, hkp, rfl, HQ, F0, F1, F2, F3⟩ := hrel
        have hc0 := F0.out
        have hc1 := F1.out
        have hfz := F2.out
        have p0 : 0 ≤ (p : Int) := by omega
        cases gk with
        | zero =>
          have hpz : ¬ ((p : Int) < (n : Int)) := by omega
          obtain rfl : p = n := by omega
          rcases Nat.eq_zero_or_pos q with hq | hq
          · subst hq
            have HX : Hid (frK zz (k + 1) = frK zz k) := HNO.out (by rw [HQ.out]; simp)
            have q1 : ¬ (((0 : Nat) : Int) > 0) := by omega
            have HB2 := Lib.hid (HB.out.trans (F3.out.mono sB))
            have HO2 := Lib.hid (HOP.out.on F3.out)
            go_wp2
            go_roundg g
            case measure => omega
            case rel => exact ⟨k + 1, by omega, by go_num, by rw [HX.out]; exact HO2, HB2⟩
          · have HX : Hid (frK zz (k + 1) = frK zz k ++ [(k, q)]) := HYES.out q (by rw [HQ.out, if_neg (by omega)])
            have q1 : ((q : Int) > 0) := by omega
            have HB2 := Lib.hid (HB.out.trans (F3.out.mono sB))
            have HO2 := Lib.hid (HOP.out.on F3.out)
            obtain ⟨z, hz⟩ : ∃ z, (frK zz k).length = z := ⟨_, rfl⟩
            have hz9 : z ≤ 48 := by have := frK_len zz k; omega
            obtain ⟨oa, oc, rfl⟩ := HO2.out.slice
            have hrow : wr.ownsRow w.heap.size 82 2 (.slice oa z oc) z (prC (frK zz k)) := by
              have h := HO2.out.out
              rw [hz] at h; exact h
            have HROW := Lib.hid hrow
            have HZ := Lib.hid hz
            have sy := HB2.out.size
            rw [hz]
            clear hrow hz HO2 HOP
            go_wp2_with (at_builtin; refine wpList_append_own _ rfl _ _ 76 rfl w.heap.size 82 i0 (.agg #[.int .i64 0, .int .i64 0]) 2 16 Tryd.underlying76 hi iz0 iz1 iz2 rfl (by decide) _ _ _ rfl (HROW.out.alloc (.cells #[.int .i64 (k : Int), .int .i64 (q : Int)] 82)) ⟨wr.heap.size, 0, none⟩ 1 1 [.int .i64 (k : Int), .int .i64 (q : Int)] rfl rfl (row_twoM _ _ _ _ _ rfl) (by intro u hu; simp at hu; rcases hu with rfl | rfl <;> rfl) (by unfold maxLen; omega) (by omega) (by first | omega | (simp; omega)) ?_; intro v2 w10 hown3 hgrow _)
            have HO3 : Hid (OwnP w.heap.size w10 v2 (frK zz (k + 1))) := by
              show OwnP _ _ _ _
              rw [HX.out]
              unfold OwnP
              rw [prC_snoc, List.length_append, HZ.out]
              exact hown3
            have HB3 : Hid (Below w.heap.size w w10) := (HB2.out.alloc sy _).grown hgrow (by simp; omega) (fun q hq => (HROW.out.lt q hq).1)
            go_wp2
            go_roundg g
            case measure => omega
            case rel => exact ⟨k + 1, by omega, by go_num, HO3, HB3⟩
        | succ g2 =>
          have hpz : (p : Int) < (n : Int) := by omega
          have hpn : p < zz.length := by have := HN.out; omega
          obtain ⟨b2, o2, e, hb2, c2'⟩ := K1.out p hpn
          injection e with e
          injection e with e1 e2
          subst e1 e2
          have c2 := (F3.out.cell (p := ⟨b, o + p, none⟩) (Nat.lt_of_lt_of_le hb sB)).trans ((HB.out.cell (p := ⟨b, o + p, none⟩) hb).trans c2')
          obtain ⟨a1, a2⟩ := HAP.out p hpn
          obtain ⟨mp, hmp⟩ : ∃ mp, maskOf zz[p] = mp := ⟨_, rfl⟩
          rw [hmp] at c2 a1 a2
          obtain ⟨T, hT⟩ : ∃ T, parB sk zz[p] = T := ⟨_, rfl⟩
          rw [hT] at a2
          cases T with
          | false =>
            have HQ2 : Hid (gtK zz sk k (p + 1) = (if q = 0 then [] else [q])) := by show _ = _; rw [HGN.out p hpn hT]; exact HQ.out
            rw [Bool.not_false] at a2
            clear c2' hmp hT HQ
            go_wp2
            go_roundg g2
            case measure => omega
            case rel => exact ⟨p + 1, q, by omega, by omega, by go_num, HQ2, F0, F1, F2, F3⟩
          | true =>
            have hgy := HGY.out p hpn hkp hT
            rw [Bool.not_true] at a2
            rcases Nat.eq_zero_or_pos q with hq | hq
            · subst hq
              have HQ2 : Hid (gtK zz sk k (p + 1) = (if p = 0 then [] else [p])) := by
                show _ = _
                rw [hgy, HQ.out, if_pos rfl, if_neg (by omega)]; rfl
              have q1 : ¬ (((0 : Nat) : Int) > 0) := by omega
              have G0 : Hid ((wr.setCell ⟨P, 1, none⟩ (.int .i64 (p : Int))).cell? ⟨P, 0, none⟩ = some (.int .i64 (k : Int))) := by
                show _ = _
                rw [World.cell?_setCell_other _ _ _ _ (by intro e; injection e with _ e; cases e)]; exact F0.out
              have G1 : Hid ((wr.setCell ⟨P, 1, none⟩ (.int .i64 (p : Int))).cell? ⟨P, 1, none⟩ = some (.int .i64 (p : Int))) := World.cell?_setCell_same' _ _ _ (by rw [F1.out]; rfl)
              have G2 : Hid ((wr.setCell ⟨P, 1, none⟩ (.int .i64 (p : Int))).frozen? ⟨P, 1, none⟩ = false) := (World.frozen?_setCell _ _ _ _).trans F2.out
              have G3 : Hid (Below wo.heap.size wo (wr.setCell ⟨P, 1, none⟩ (.int .i64 (p : Int)))) := F3.out.setCell (p := ⟨P, 1, none⟩) (by rw [HP.out]; exact Nat.le_refl _) _
              clear c2' hmp hT HQ hgy
              go_wp2
              go_roundg g2
              case measure => omega
              case rel => exact ⟨p + 1, p, by omega, by omega, by go_num, HQ2, G0, G1, G2, G3⟩
            · have HX : Hid (frK zz (k + 1) = frK zz k) := HNO.out (by
                have h := HGM.out (p + 1) (by omega)
                rw [hgy, HQ.out, if_neg (by omega)] at h
                simp at h; omega)
              have q1 : ((q : Int) > 0) := by omega
              have HB2 := Lib.hid (HB.out.trans (F3.out.mono sB))
              have HO2 := Lib.hid (HOP.out.on F3.out)
              clear c2' hmp hT HQ hgy
              go_wp2
              go_roundg g
              case measure => omega
              case rel => exact ⟨k + 1, by omega, by go_num, by rw [HX.out]; exact HO2, HB2⟩
end Go.Proofs.YtibdcejglkhcfaaDoor

namespace Go.Proofs.YtibdcejglkhcfaaDoor
open Go.RowKit
set_option linter.unusedVariables false
set_option linter.unusedSimpArgs false

def FpIs (zz yy : List (List Int)) (c : Int) : Prop := (¬ OkC zz ∧ yy = [] ∧ c = 1) ∨ (OkC zz ∧ yy = frR zz zz.length ∧ c = 0)
theorem fp_has (zz : List (List Int)) : ∃ yy c, FpIs zz yy c := by
  by_cases h : OkC zz
  · exact ⟨_, _, .inr ⟨h, rfl, rfl⟩⟩
  · exact ⟨_, _, .inl ⟨h, rfl, rfl⟩⟩
theorem tot_pairs : ∀ L : List (Nat × Nat), tot (L.map fun p => [(p.1 : Int), (p.2 : Int)]) = 2 * L.length
  | [] => rfl
  | p :: L => by
    have := tot_pairs L
    simp only [List.map_cons, tot, List.length_cons, List.length_nil, this] at *; omega
theorem FpIs.fit {zz yy : List (List Int)} {c : Int} (h : FpIs zz yy c) : FitR yy := by
  rcases h with ⟨_, rfl, _⟩ | ⟨h, rfl, _⟩
  · exact ⟨by simp, by simp [tot]⟩
  · have h1 := frK_len zz zz.length
    have h2 := h.2
    refine ⟨by have := frR_len zz zz.length; omega, ?_⟩
    unfold frR; rw [tot_pairs]; omega
def RetRC8 (Z : List (List Int)) (c : Int) (w : World) (e : Ending) (w' : World) : Prop := ∃ v, e = .returned (.tuple #[v, .int .i64 c]) ∧ OwnRI w.heap.size w' v Z ∧ Below w.heap.size w w'
set_option maxRecDepth 100000 in
theorem specFP_is {u : Value} {zz yy : List (List Int)} {c : Int} {w : World} (hu : RowsQ w u zz) (h : FpIs zz yy c) :
    Calls Tryd.prog 24 #[.agg #[u]] w fun e w' => RetRC8 yy c w e w' := by
  have HU := Lib.hid hu
  obtain ⟨a, cp, rfl, hl, k1⟩ := hu
  have al0 : Below w.heap.size w (w.alloc (.cells #[.slice a zz.length cp] 28)) := (Below.refl _ w).alloc (Nat.le_refl _) _
  have P0 := Lib.hid (PtC.new w (.slice a zz.length cp) 28)
  have U0 := Lib.hid (HU.out.on al0)
  have AL := Lib.hid al0
  clear al0 k1
  rcases h with ⟨ho, rfl, rfl⟩ | ⟨ho, rfl, rfl⟩
  · have hvv := l05Ok_is P0.out U0.out (.inr ⟨rfl, ho⟩)
    clear ho
    go_enter Tryd.func24, Tryd.ntmps24
    go_wp2_with (go_at_call 37; refine hvv.mono ?_; rintro e w2 ⟨rfl, hb2⟩)
    go_ret2
    exact ⟨_, rfl, OwnRI.nul _ _, AL.out.trans (hb2.mono AL.out.size)⟩
  · have hvv := l05Ok_is P0.out U0.out (.inl ⟨rfl, ho⟩)
    have HO := Lib.hid ho
    clear ho
    go_enter Tryd.func24, Tryd.ntmps24
    go_wp2_with (go_at_call 37; refine hvv.mono ?_; rintro e w2 ⟨rfl, hb2⟩; have HB2 := Lib.hid hb2; have HA2 := Lib.hid (AL.out.trans (hb2.mono AL.out.size)))
    refine (l08Free_any (P0.out.on HB2.out) (U0.out.on HB2.out).rows HO.out).mono ?_
    rintro e w4 ⟨v4, rfl, ho4, hb4⟩
    have HO4 := Lib.hid ho4
    have HB4 := Lib.hid hb4
    clear ho4 hb4 hvv
    go_wp2_with fail
    go_ret2
    exact ⟨_, rfl, OwnRI.mono HO4.out HA2.out.size, HA2.out.trans (HB4.out.mono HA2.out.size)⟩
theorem frR_take {zz : List (List Int)} {k : Nat} (h : k < (frK zz zz.length).length) : (frR zz zz.length).take (k + 1) = (frR zz zz.length).take k ++ [[((frK zz zz.length)[k].1 : Int), ((frK zz zz.length)[k].2 : Int)]] := by
  have h' : k < (frR zz zz.length).length := by unfold frR; rw [List.length_map]; exact h
  rw [List.take_succ_eq_append_getElem h']
  congr 2
  simp [frR]
set_option maxRecDepth 100000 in
set_option maxHeartbeats 6400000 in
theorem implFP_is {u : Value} {zz yy : List (List Int)} {c : Int} {w : World} (hu : RowsAt w u zz) (h : FpIs zz yy c) (hTz : Tz w) :
    Calls Tryd.prog 25 #[.agg #[u]] w fun e w' => RetRC8 yy c w e w' := by
  have HU := Lib.hid hu
  obtain ⟨a, cp, rfl⟩ := hu.slice
  have al0 : Below w.heap.size w (w.alloc (.cells #[.slice a zz.length cp] 28)) := (Below.refl _ w).alloc (Nat.le_refl _) _
  have P0 := Lib.hid (PtC.new w (.slice a zz.length cp) 28)
  have U0 := Lib.hid (HU.out.on al0)
  have TZ := Lib.hid (hTz.on al0)
  have AL := Lib.hid al0
  have p0 := P0.out.2
  clear al0 hu hTz
  rcases h with ⟨ho, rfl, rfl⟩ | ⟨ho, rfl, rfl⟩
  · have hvv := implVal_is U0.out (.inr ⟨rfl, ho⟩) TZ.out
    clear ho
    go_enter Tryd.func25, Tryd.ntmps25
    go_wp2_with (go_at_call 50; refine hvv.mono ?_; rintro e w2 ⟨rfl, hb2⟩)
    go_ret2
    exact ⟨_, rfl, OwnRI.nul _ _, AL.out.trans (hb2.mono AL.out.size)⟩
  · obtain ⟨i0, hi0, iz0, iz1, iz2⟩ := info_parts info_r
    have hvv := implVal_is U0.out (.inl ⟨rfl, ho⟩) TZ.out
    have HO := Lib.hid ho
    have h48 := ho.2
    clear ho
    go_enter Tryd.func25, Tryd.ntmps25
    go_wp2_with fail
    refine hvv.mono ?_
    rintro e w2 ⟨rfl, hb2⟩
    have p2 := (P0.out.on hb2).2
    have HB2 := Lib.hid (AL.out.trans (hb2.mono AL.out.size))
    have HU2 := Lib.hid (U0.out.on hb2)
    clear hvv p0 hb2
    go_wp2_with fail
    refine (list_any HU2.out HO.out).mono ?_
    rintro e w3 ⟨v3, rfl, ho3, hb3⟩
    obtain ⟨la, lc, rfl, hk3⟩ := ho3.sims
    have HB3 := Lib.hid (HB2.out.trans (hb3.mono HB2.out.size))
    have HK3 := Lib.hid hk3
    clear ho3 hb3 hk3 p2
    go_wp2_with fail
    refine (freePairs_any HO.out HK3.out).mono ?_
    rintro e w4 ⟨v4, rfl, ho4, hb4⟩
    have HB4 := Lib.hid (HB3.out.trans (hb4.mono HB3.out.size))
    have HO4 := Lib.hid ho4
    have HTK : Hid (∀ k (h : k < (frK zz zz.length).length), (frR zz zz.length).take (k + 1) = (frR zz zz.length).take k ++ [[((frK zz zz.length)[k].1 : Int), ((frK zz zz.length)[k].2 : Int)]]) := fun k h => frR_take h
    have HRL : Hid ((frR zz zz.length).length = (frK zz zz.length).length) := by show _ = _; unfold frR; rw [List.length_map]
    have hfl := frK_len zz zz.length
    obtain ⟨fr, hfr⟩ : ∃ fr, frR zz zz.length = fr := ⟨_, rfl⟩
    have HFR := Lib.hid hfr
    rw [hfr] at HTK HRL
    generalize frK zz zz.length = fk at HO4 ho4 HTK HRL hfl
    obtain ⟨pa, pc, rfl⟩ := ho4.slice
    have hO0 : OwnRI w4.heap.size w4 (.slice none 0 0) (fr.take 0) := by rw [List.take_zero]; exact OwnRI.nul _ _
    have HO0 := Lib.hid hO0
    clear ho4 hb4 hfr hO0
    go_wp2_with fail
    go_loopw [4, 14] (fun so si wr => ∃ (k : Nat), k ≤ fk.length ∧ si = .int .i64 (k : Int) ∧ Hid (OwnRI w4.heap.size wr so (fr.take k)) ∧ Hid (Below w4.heap.size w4 wr)) (fun _ si _ => fk.length - (intOf si).toNat)
    case atStart => exact ⟨0, Nat.zero_le _, rfl, HO0, Below.refl _ _⟩
    case round =>
      clear HO0
      obtain ⟨k, hk, rfl, HY, HB⟩ := hrel
      have i0' : 0 ≤ (k : Int) := by omega
      have hs := HB.out.size
      by_cases hlt : k < fk.length
      · have i1' : (k : Int) < (fk.length : Int) := by omega
        obtain ⟨g, cap, e, hg, ks⟩ := HO4.out.at1 (by omega)
        injection e with e1 _ e3
        subst e1 e3
        obtain ⟨ka, kb⟩ := ks k hlt
        rw [Nat.mul_comm 2 k] at ka kb
        have ca := (HB.out.cell (p := ⟨g, k * 2, none⟩) hg).trans ka
        have cb := (HB.out.cell (p := ⟨g, k * 2 + 1, none⟩) hg).trans kb
        have HN := Lib.hid (HTK.out k hlt)
        generalize (fk[k].1 : Int) = x at ca HN
        generalize (fk[k].2 : Int) = y at cb HN
        obtain ⟨Lv, hL⟩ := HY.out
        have hzl : (fr.take k).length = k := by rw [List.length_take]; have := HRL.out; omega
        obtain ⟨oa, oc, rfl⟩ := hL.slice
        have HL2 := Lib.hid hL
        rw [hzl] at HL2 ⊢
        have HZL := Lib.hid hzl
        have HU : Hid (OwnI wr.heap.size ((wr.alloc (.cells #[.int .i64 x, .int .i64 y] 82)).alloc (.cells #[.int .i64 x, .int .i64 y] 2)) (.slice (some ⟨wr.heap.size + 1, 0, none⟩) 2 2) [x, y]) := by
          have h := ownI_twoM (wr.alloc (.cells #[.int .i64 x, .int .i64 y] 82)) x y
          rw [World.size_alloc] at h
          exact OwnI.mono h (Nat.le_succ _)
        have HBU : Hid (Below wr.heap.size wr ((wr.alloc (.cells #[.int .i64 x, .int .i64 y] 82)).alloc (.cells #[.int .i64 x, .int .i64 y] 2))) := al1 (al1 (Below.refl _ _) _) _
        clear hL ka kb ks HY hzl
        go_wp2_with (at_builtin; go_loud (refine wpList_append_place _ rfl _ _ 22 rfl w4.heap.size 25 i0 (.slice none 0 0) 24 Tryd.underlying22 hi0 iz0 iz1 iz2 rfl _ k Lv rfl (by have h := (HL2.out.on (HBU.out.alloc HBU.out.size (.cells #[.slice (some ⟨wr.heap.size + 1, 0, none⟩) 2 2] 25))).row; rw [HZL.out] at h; exact h) ⟨wr.heap.size + 2, 0, none⟩ _ (.slice (some ⟨wr.heap.size + 1, 0, none⟩) 2 2) rfl (row_oneS _ _ _ _ (by simp)) (fun y hy => by simp at hy; rw [hy]; rfl) (by unfold maxLen; omega) (by omega) (by simp; omega) ?_); intro v3 w3 hr3 hg3 hv3)
        have hp3 := OwnRI.push HL2.out HU.out HBU.out hs (by rw [HZL.out]; exact hr3) hg3 (fun g hg => (hv3 g hg).imp id (fun h => by simp at h ⊢; omega))
        have hb3 : Below w4.heap.size w4 w3 := (HB.out.trans ((HBU.out.alloc HBU.out.size _).mono hs)).grown hg3 (by simp; omega) (fun k hk => (HL2.out.row.lt k hk).1)
        have HX : Hid (OwnRI w4.heap.size w3 v3 (fr.take (k + 1))) := by
          show OwnRI _ _ _ _
          rw [HN.out]; exact hp3
        have HB3' := Lib.hid hb3
        clear hp3 hb3 hr3 hg3 hv3
        go_wp2_with fail
        go_roundw
        case rel => exact ⟨k + 1, by omega, by go_num, HX, HB3'⟩
        case measure => simp [intOf]; omega
      · obtain rfl : k = fk.length := by omega
        rw [List.take_of_length_le (by have := HRL.out; omega)] at HY
        go_wp2_with fail
        go_ret2
        exact ⟨_, rfl, by rw [HFR.out]; exact OwnRI.mono HY.out HB4.out.size, HB4.out.trans (HB.out.mono HB4.out.size)⟩
end Go.Proofs.YtibdcejglkhcfaaDoor
