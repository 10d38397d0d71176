/-
  Free pairs of the program.
-/
import Derived.Test.YtibdcejglkhcfaaDoorMpL
import Derived.Test.YtibdcejglkhcfaaDoorPO
namespace Go.Proofs.YtibdcejglkhcfaaDoor
open Go.RowKit
set_option linter.unusedVariables false
set_option linter.unusedSimpArgs false

/-- The cells of a list of pairs. -/
def prC (L : List (Nat × Nat)) : List Value := L.flatMap fun p => [.int .i64 (p.1 : Int), .int .i64 (p.2 : Int)]
theorem prC_len (L : List (Nat × Nat)) : (prC L).length = L.length * 2 := by
  induction L with
  | nil => rfl
  | cons p L ih => simp only [prC, List.flatMap_cons, List.length_append, List.length_cons, List.length_nil] at ih ⊢; omega
theorem prC_snoc (L : List (Nat × Nat)) (i j : Nat) : prC (L ++ [(i, j)]) = prC L ++ [.int .i64 (i : Int), .int .i64 (j : Int)] := by simp [prC]
def OwnP (B : Nat) (w : World) (v : Value) (L : List (Nat × Nat)) : Prop := w.ownsRow B 82 2 v L.length (prC L)
theorem OwnP.out {B : Nat} {w : World} {v : Value} {L : List (Nat × Nat)} (h : OwnP B w v L) : w.ownsRow B 82 2 v L.length (prC L) := h
theorem OwnP.on {B : Nat} {w w' : World} {v : Value} {L : List (Nat × Nat)} (h : OwnP B w v L) (hb : Below w.heap.size w w') : OwnP B w' v L := by
  obtain ⟨hx, ⟨h1, hn⟩ | ⟨g, cap, cur, h1, hg, hcur, r⟩⟩ := h
  · exact ⟨hx, .inl ⟨h1, hn⟩⟩
  · refine ⟨hx, .inr ⟨g, cap, cur, h1, hg, ?_, r⟩⟩
    have : g < w.heap.size := by
      rcases Nat.lt_or_ge g w.heap.size with h | h
      · exact h
      · simp [Array.getElem?_eq_none h] at hcur
    rw [hb.block g this]; exact hcur
theorem OwnP.slice {B : Nat} {w : World} {v : Value} {L : List (Nat × Nat)} (h : OwnP B w v L) : ∃ a cap, v = .slice a L.length cap := by
  obtain ⟨hx, ⟨h1, hn⟩ | ⟨g, cap, cur, h1, _⟩⟩ := h
  · exact ⟨none, 0, by rw [h1, hn]⟩
  · exact ⟨_, cap, h1⟩
theorem OwnP.mono {B C : Nat} {w : World} {v : Value} {L : List (Nat × Nat)} (h : OwnP B w v L) (hC : C ≤ B) : OwnP C w v L := by
  obtain ⟨hx, ⟨h1, hn⟩ | ⟨g, cap, cur, h1, hg, hcur, r⟩⟩ := h
  · exact ⟨hx, .inl ⟨h1, hn⟩⟩
  · exact ⟨hx, .inr ⟨g, cap, cur, h1, Nat.le_trans hC hg, hcur, r⟩⟩
theorem prC_at {L : List (Nat × Nat)} {k : Nat} (hk : k < L.length) : (prC L)[2 * k]? = some (.int .i64 (L[k].1 : Int)) ∧ (prC L)[2 * k + 1]? = some (.int .i64 (L[k].2 : Int)) := by
  induction L generalizing k with
  | nil => simp at hk
  | cons p L ih =>
    cases k with
    | zero => simp [prC]
    | succ k =>
      have h := ih (k := k) (by simpa using hk)
      have e1 : 2 * (k + 1) = 2 * k + 2 := by omega
      have e2 : 2 * (k + 1) + 1 = (2 * k + 1) + 2 := by omega
      rw [e2, e1]
      simp only [prC, List.flatMap_cons, List.cons_append, List.nil_append, List.getElem?_cons_succ, List.getElem_cons_succ] at h ⊢
      exact h
/-- Its cells in memory. -/
theorem OwnP.at1 {B : Nat} {w : World} {v : Value} {L : List (Nat × Nat)} (h : OwnP B w v L) (h0 : 0 < L.length) : ∃ g cap, v = .slice (some ⟨g, 0, none⟩) L.length cap ∧ g < w.heap.size ∧ ∀ k (hk : k < L.length), w.cell? ⟨g, 2 * k, none⟩ = some (.int .i64 (L[k].1 : Int)) ∧ w.cell? ⟨g, 2 * k + 1, none⟩ = some (.int .i64 (L[k].2 : Int)) := by
  have hlt := h.out.lt
  obtain ⟨hx, ⟨h1, hn⟩ | ⟨g, cap, cur, h1, hg, hcur, hn, _, hsz, htk⟩⟩ := h
  · omega
  · refine ⟨g, cap, h1, (hlt g (by rw [h1]; rfl)).2, fun k hk => ?_⟩
    have hp := prC_at hk
    have get : ∀ j x, (prC L)[j]? = some x → w.cell? ⟨g, j, none⟩ = some x := fun j x hj => by
      rw [← htk] at hj
      have hj2 : cur.toList[j]? = some x := by
        rw [List.getElem?_take] at hj
        split at hj
        · exact hj
        · cases hj
      rw [Array.getElem?_toList] at hj2
      simp [World.cell?, hcur, hj2]
    exact ⟨get _ _ hp.1, get _ _ hp.2⟩
theorem info_p : (Tryd.prog.info? 82).map (fun i => (i.zero, i.size, i.bytes)) = some (some (.agg #[.int .i64 0, .int .i64 0]), 2, 16) := by kernel_rfl
theorem row_twoM (w : World) (u x : Value) (t : TypeId) (n : Nat) (hn : w.heap.size = n) : ∀ (j : Nat) (y : Value), [u, x][j]? = some y → (w.alloc (.cells #[u, x] t)).cell? ((⟨n, 0, none⟩ : Addr).add j) = some y := fun j y h => by
  subst hn
  rw [Addr.add_mid, World.cell?_alloc_at _ _ _ _ rfl]
  simpa using h
theorem gtK_mono {zz : List (List Int)} {s : List Int} {k m n : Nat} (h : m ≤ n) : (gtK zz s k m).length ≤ (gtK zz s k n).length :=
  ((List.range_sublist.2 h).filter _).length_le
theorem and_par {s t : List Int} (hs : Sim s) (ht : Sim t) : bits BinOp.and IntKind.u16 (maskOf t : Int) (maskOf s : Int) = ((maskOf t &&& maskOf s : Nat) : Int) ∧ (((maskOf t &&& maskOf s : Nat) : Int) != (maskOf s : Int)) = !parB s t := by
  have h1 := maskOf_lt s (fun v hv => hs.bd v hv)
  have h2 := maskOf_lt t (fun v hv => ht.bd v hv)
  refine ⟨and_u16 (by omega) (by omega), ?_⟩
  rw [parB_mask hs ht]
  by_cases e : maskOf t &&& maskOf s = maskOf s
  · simp [e]
  · rw [decide_eq_false e, Bool.not_false, bne_iff_ne]
    intro h; exact e (by omega)
set_option maxRecDepth 100000 in
set_option maxHeartbeats 6400000 in
theorem freePairs_any {a : Option Addr} {c : Nat} {zz : List (List Int)} {w : World} (ho : OkC zz) (k1 : ∀ j (hj : j < zz.length), ∃ b o, a = some ⟨b, o, none⟩ ∧ b < w.heap.size ∧ w.cell? ⟨b, o + j, none⟩ = some (.int .u16 (maskOf zz[j] : Int))) :
    Calls Tryd.prog 53 #[.slice a zz.length c] w fun e w' => ∃ v, e = .returned v ∧ OwnP w.heap.size w' v (frK zz zz.length) ∧ Below w.heap.size w w' := by
  obtain ⟨i0, hi, iz0, iz1, iz2⟩ := info_parts info_p
  have K1 := Lib.hid k1
  have HO := Lib.hid ho
  have h48 := ho.2
  obtain ⟨n, hn⟩ : ∃ n, zz.length = n := ⟨_, rfl⟩
  have HN := Lib.hid hn
  rw [hn] at h48 ⊢
  clear k1 ho hn
  go_enter Tryd.func53, Tryd.ntmps53
  go_wp2
  go_step3
  go_wp2
  go_step3
  go_wp2
  go_loopg [10, 3] n (fun g si so wr => ∃ k : Nat, k + g = n ∧ si = .int .i64 (k : Int) ∧ Hid (OwnP w.heap.size wr so (frK zz k)) ∧ Hid (Below w.heap.size w wr))
  case atStart => exact ⟨0, by omega, rfl, World.ownsRow_nil _ _ _ _, Below.refl _ _⟩
  case round =>
    obtain ⟨k, hkg, rfl, HOP, HB⟩ := hrel
    cases gk with
    | zero =>
      have hkz : ¬ ((k : Int) < (n : Int)) := by omega
      obtain rfl : k = n := by omega
      go_wp2
      (try rw [Exit.noGoto_ret])
      go_ret
      exact ⟨_, rfl, HOP.out, HB.out⟩
    | succ g =>
      have hkz : (k : Int) < (n : Int) := by omega
      have k0 : 0 ≤ (k : Int) := by omega
      have hkn : k < zz.length := by have := HN.out; omega
      obtain ⟨b, o, rfl, hb, c1'⟩ := K1.out k hkn
      have c1 := (HB.out.cell (p := ⟨b, o + k, none⟩) hb).trans c1'
      obtain ⟨ms, hms⟩ : ∃ ms, maskOf zz[k] = ms := ⟨_, rfl⟩
      have HMS := Lib.hid hms
      rw [hms] at c1
      clear hms c1'
      have HYES : Hid (∀ j, gtK zz zz[k] k n = [j] → frK zz (k + 1) = frK zz k ++ [(k, j)]) := fun j h => by
        rw [frK_next, frP_yes hkn (by rw [HN.out]; exact h)]
      have HNO : Hid ((gtK zz zz[k] k n).length ≠ 1 → frK zz (k + 1) = frK zz k) := fun h => by
        rw [frK_next, frP_no hkn (by rw [HN.out]; exact h), List.append_nil]
      have HG0 : Hid (gtK zz zz[k] k (k + 1) = []) := gtK_start zz zz[k] k
      have HGY : Hid (∀ p (hp : p < zz.length), k < p → parB zz[k] zz[p] = true → gtK zz zz[k] k (p + 1) = gtK zz zz[k] k p ++ [p]) := fun p hp h1 h2 => gtK_yes h1 hp h2
      have HGN : Hid (∀ p (hp : p < zz.length), parB zz[k] zz[p] = false → gtK zz zz[k] k (p + 1) = gtK zz zz[k] k p) := fun p hp h => gtK_no hp h
      have HGM : Hid (∀ p, p ≤ n → (gtK zz zz[k] k p).length ≤ (gtK zz zz[k] k n).length) := fun p hp => gtK_mono hp
      have HAP : Hid (∀ p (hp : p < zz.length), bits BinOp.and IntKind.u16 (maskOf zz[p] : Int) (ms : Int) = ((maskOf zz[p] &&& ms : Nat) : Int) ∧ (((maskOf zz[p] &&& ms : Nat) : Int) != (ms : Int)) = !parB zz[k] zz[p]) := fun p hp => by
        rw [← HMS.out]; exact and_par (HO.out.sim hkn) (HO.out.sim hp)
      generalize zz[k] = sk at HYES HNO HG0 HGY HGN HGM HAP
      have sB := HB.out.size
      go_wp2
      have F0 : Hid ((wr.alloc (.cells #[.int .i64 (k : Int), .int .i64 0] 82)).cell? ⟨wr.heap.size, 0, none⟩ = some (.int .i64 (k : Int))) := by show _ = _; rw [World.cell?_alloc_at _ _ _ _ rfl]; rfl
      have F1 : Hid ((wr.alloc (.cells #[.int .i64 (k : Int), .int .i64 0] 82)).cell? ⟨wr.heap.size, 1, none⟩ = some (.int .i64 ((0 : Nat) : Int))) := by show _ = _; rw [World.cell?_alloc_at _ _ _ _ rfl]; rfl
      have F2 : Hid ((wr.alloc (.cells #[.int .i64 (k : Int), .int .i64 0] 82)).frozen? ⟨wr.heap.size, 1, none⟩ = false) := World.frozen?_alloc_at _ _ _ _ rfl
      have F3 : Hid (Below wr.heap.size wr (wr.alloc (.cells #[.int .i64 (k : Int), .int .i64 0] 82))) := al1 (Below.refl _ _) _
      obtain ⟨P, hP⟩ : ∃ P, wr.heap.size = P := ⟨_, rfl⟩
      have HP := Lib.hid hP
      rw [hP] at F0 F1 F2 ⊢
      generalize (wr.alloc (.cells #[.int .i64 (k : Int), .int .i64 0] 82)) = wi at F0 F1 F2 F3 ⊢
      clear hP c1
      obtain ⟨wo, rfl⟩ : ∃ wo, wo = wr := ⟨_, rfl⟩
      go_loopg [7] (n - (k + 1)) (fun g2 sp wy => ∃ p q : Nat, p + g2 = n ∧ k < p ∧ sp = .int .i64 (p : Int) ∧ Hid (gtK zz sk k p = (if q = 0 then [] else [q])) ∧ Hid (wy.cell? ⟨P, 0, none⟩ = some (.int .i64 (k : Int))) ∧ Hid (wy.cell? ⟨P, 1, none⟩ = some (.int .i64 (q : Int))) ∧ Hid (wy.frozen? ⟨P, 1, none⟩ = false) ∧ Hid (Below wo.heap.size wo wy))
      case atStart => exact ⟨k + 1, 0, by omega, by omega, by go_num, by show _ = _; rw [HG0.out]; rfl, F0, F1, F2, F3⟩
      case round =>
        clear F0 F1 F2 F3
        obtain ⟨p, q, hpg, hkp, rfl, HQ, F0, F1, F2, F3⟩ := hrel
        have hc0 := F0.out
        have hc1 := F1.out
        have hfz := F2.out
        have p0 : 0 ≤ (p : Int) := by omega
        cases gk with
        | zero =>
          have hpz : ¬ ((p : Int) < (n : Int)) := by omega
          obtain rfl : p = n := by omega
          rcases Nat.eq_zero_or_pos q with hq | hq
          · subst hq
            have HX : Hid (frK zz (k + 1) = frK zz k) := HNO.out (by rw [HQ.out]; simp)
            have q1 : ¬ (((0 : Nat) : Int) > 0) := by omega
            have HB2 := Lib.hid (HB.out.trans (F3.out.mono sB))
            have HO2 := Lib.hid (HOP.out.on F3.out)
            go_wp2
            go_roundg g
            case measure => omega
            case rel => exact ⟨k + 1, by omega, by go_num, by rw [HX.out]; exact HO2, HB2⟩
          · have HX : Hid (frK zz (k + 1) = frK zz k ++ [(k, q)]) := HYES.out q (by rw [HQ.out, if_neg (by omega)])
            have q1 : ((q : Int) > 0) := by omega
            have HB2 := Lib.hid (HB.out.trans (F3.out.mono sB))
            have HO2 := Lib.hid (HOP.out.on F3.out)
            obtain ⟨z, hz⟩ : ∃ z, (frK zz k).length = z := ⟨_, rfl⟩
            have hz9 : z ≤ 48 := by have := frK_len zz k; omega
            obtain ⟨oa, oc, rfl⟩ := HO2.out.slice
            have hrow : wr.ownsRow w.heap.size 82 2 (.slice oa z oc) z (prC (frK zz k)) := by
              have h := HO2.out.out
              rw [hz] at h; exact h
            have HROW := Lib.hid hrow
            have HZ := Lib.hid hz
            have sy := HB2.out.size
            rw [hz]
            clear hrow hz HO2 HOP
            go_wp2_with (at_builtin; refine wpList_append_own _ rfl _ _ 76 rfl w.heap.size 82 i0 (.agg #[.int .i64 0, .int .i64 0]) 2 16 Tryd.underlying76 hi iz0 iz1 iz2 rfl (by decide) _ _ _ rfl (HROW.out.alloc (.cells #[.int .i64 (k : Int), .int .i64 (q : Int)] 82)) ⟨wr.heap.size, 0, none⟩ 1 1 [.int .i64 (k : Int), .int .i64 (q : Int)] rfl rfl (row_twoM _ _ _ _ _ rfl) (by intro u hu; simp at hu; rcases hu with rfl | rfl <;> rfl) (by unfold maxLen; omega) (by omega) (by first | omega | (simp; omega)) ?_; intro v2 w10 hown3 hgrow _)
            have HO3 : Hid (OwnP w.heap.size w10 v2 (frK zz (k + 1))) := by
              show OwnP _ _ _ _
              rw [HX.out]
              unfold OwnP
              rw [prC_snoc, List.length_append, HZ.out]
              exact hown3
            have HB3 : Hid (Below w.heap.size w w10) := (HB2.out.alloc sy _).grown hgrow (by simp; omega) (fun q hq => (HROW.out.lt q hq).1)
            go_wp2
            go_roundg g
            case measure => omega
            case rel => exact ⟨k + 1, by omega, by go_num, HO3, HB3⟩
        | succ g2 =>
          have hpz : (p : Int) < (n : Int) := by omega
          have hpn : p < zz.length := by have := HN.out; omega
          obtain ⟨b2, o2, e, hb2, c2'⟩ := K1.out p hpn
          injection e with e
          injection e with e1 e2
          subst e1 e2
          have c2 := (F3.out.cell (p := ⟨b, o + p, none⟩) (Nat.lt_of_lt_of_le hb sB)).trans ((HB.out.cell (p := ⟨b, o + p, none⟩) hb).trans c2')
          obtain ⟨a1, a2⟩ := HAP.out p hpn
          obtain ⟨mp, hmp⟩ : ∃ mp, maskOf zz[p] = mp := ⟨_, rfl⟩
          rw [hmp] at c2 a1 a2
          obtain ⟨T, hT⟩ : ∃ T, parB sk zz[p] = T := ⟨_, rfl⟩
          rw [hT] at a2
          cases T with
          | false =>
            have HQ2 : Hid (gtK zz sk k (p + 1) = (if q = 0 then [] else [q])) := by show _ = _; rw [HGN.out p hpn hT]; exact HQ.out
            rw [Bool.not_false] at a2
            clear c2' hmp hT HQ
            go_wp2
            go_roundg g2
            case measure => omega
            case rel => exact ⟨p + 1, q, by omega, by omega, by go_num, HQ2, F0, F1, F2, F3⟩
          | true =>
            have hgy := HGY.out p hpn hkp hT
            rw [Bool.not_true] at a2
            rcases Nat.eq_zero_or_pos q with hq | hq
            · subst hq
              have HQ2 : Hid (gtK zz sk k (p + 1) = (if p = 0 then [] else [p])) := by
                show _ = _
                rw [hgy, HQ.out, if_pos rfl, if_neg (by omega)]; rfl
              have q1 : ¬ (((0 : Nat) : Int) > 0) := by omega
              have G0 : Hid ((wr.setCell ⟨P, 1, none⟩ (.int .i64 (p : Int))).cell? ⟨P, 0, none⟩ = some (.int .i64 (k : Int))) := by
                show _ = _
                rw [World.cell?_setCell_other _ _ _ _ (by intro e; injection e with _ e; cases e)]; exact F0.out
              have G1 : Hid ((wr.setCell ⟨P, 1, none⟩ (.int .i64 (p : Int))).cell? ⟨P, 1, none⟩ = some (.int .i64 (p : Int))) := World.cell?_setCell_same' _ _ _ (by rw [F1.out]; rfl)
              have G2 : Hid ((wr.setCell ⟨P, 1, none⟩ (.int .i64 (p : Int))).frozen? ⟨P, 1, none⟩ = false) := (World.frozen?_setCell _ _ _ _).trans F2.out
              have G3 : Hid (Below wo.heap.size wo (wr.setCell ⟨P, 1, none⟩ (.int .i64 (p : Int)))) := F3.out.setCell (p := ⟨P, 1, none⟩) (by rw [HP.out]; exact Nat.le_refl _) _
              clear c2' hmp hT HQ hgy
              go_wp2
              go_roundg g2
              case measure => omega
              case rel => exact ⟨p + 1, p, by omega, by omega, by go_num, HQ2, G0, G1, G2, G3⟩
            · have HX : Hid (frK zz (k + 1) = frK zz k) := HNO.out (by
                have h := HGM.out (p + 1) (by omega)
                rw [hgy, HQ.out, if_neg (by omega)] at h
                simp at h; omega)
              have q1 : ((q : Int) > 0) := by omega
              have HB2 := Lib.hid (HB.out.trans (F3.out.mono sB))
              have HO2 := Lib.hid (HOP.out.on F3.out)
              clear c2' hmp hT HQ hgy
              go_wp2
              go_roundg g
              case measure => omega
              case rel => exact ⟨k + 1, by omega, by go_num, by rw [HX.out]; exact HO2, HB2⟩
end Go.Proofs.YtibdcejglkhcfaaDoor
