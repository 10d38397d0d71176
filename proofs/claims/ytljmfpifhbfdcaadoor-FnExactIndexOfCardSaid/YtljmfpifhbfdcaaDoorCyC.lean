/-
  The model's order of simplices, its search, and a list without one number.
-/
import Derived.Test.YtljmfpifhbfdcaaDoorCxN
import Derived.Test.YtljmfpifhbfdcaaDoorCxD
import Derived.Test.YtljmfpifhbfdcaaDoorCyB
import Derived.Test.YtljmfpifhbfdcaaDoorPE
namespace Go.Proofs.YtljmfpifhbfdcaaDoor
open Go.RowKit
set_option linter.unusedVariables false
set_option linter.unusedSimpArgs false

theorem IntsAt.any {w : World} {v : Value} {l : List Int} (h : IntsAt w v l) : ∃ a c, v = .slice a l.length c ∧ l.length ≤ 1048576 ∧ ∀ j (h : j < l.length), ∃ b o, a = some ⟨b, o, none⟩ ∧ b < w.heap.size ∧ w.cell? ⟨b, o + j, none⟩ = some (.int .i64 l[j]) := by
  obtain ⟨a, c, rfl, hl, ha⟩ := h
  rcases ha with h' | ⟨b, o, rfl, hb, k1⟩
  · subst h'; exact ⟨a, c, rfl, hl, fun j hj => absurd hj (Nat.not_lt_zero j)⟩
  · exact ⟨_, c, rfl, hl, fun j hj => ⟨b, o, rfl, hb, k1 j hj⟩⟩
theorem RowsAt.any {w : World} {v : Value} {zz : List (List Int)} (h : RowsAt w v zz) : ∃ a c, v = .slice a zz.length c ∧ zz.length ≤ 1048576 ∧ ∀ i (h : i < zz.length), ∃ b o u, a = some ⟨b, o, none⟩ ∧ b < w.heap.size ∧ w.cell? ⟨b, o + i, none⟩ = some u ∧ IntsAt w u zz[i] := by
  obtain ⟨a, c, rfl, hl, rfl | ⟨b, off, rfl, hbk, hc⟩⟩ := h
  · exact ⟨a, c, rfl, hl, fun j hj => absurd hj (Nat.not_lt_zero j)⟩
  · exact ⟨_, c, rfl, hl, fun i hi => by obtain ⟨u, h1, h2⟩ := hc i hi; exact ⟨b, off, u, rfl, hbk, h1, h2⟩⟩
theorem implClo_is {v : Value} {zz yy : List (List Int)} {cc : Int} {w : World} (hv : RowsAt w v zz) (hC : CloIs zz yy cc) (hTz : Tz w) :
    Calls Tryd.prog 22 #[v] w fun e w' => RetClo yy cc w e w' := by
  obtain ⟨a, c, rfl, hl, h⟩ := hv.any
  exact implClo_any hl h hC hTz
theorem cmpL_same {x y : List Int} {k : Nat} (h1 : k < x.length) (h2 : k < y.length) (e : x[k] = y[k]) : cmpL (x.drop k) (y.drop k) = cmpL (x.drop (k + 1)) (y.drop (k + 1)) := by
  rw [List.drop_eq_getElem_cons h1, List.drop_eq_getElem_cons h2]
  rw [cmpL, e]; simp
theorem cmpL_diff {x y : List Int} {k : Nat} (h1 : k < x.length) (h2 : k < y.length) (e : x[k] ≠ y[k]) : decide (cmpL (x.drop k) (y.drop k) < 0) = decide (x[k] < y[k]) := by
  rw [List.drop_eq_getElem_cons h1, List.drop_eq_getElem_cons h2]
  unfold cmpL
  by_cases h : x[k] < y[k]
  · simp [h]
  · have : y[k] < x[k] := by omega
    simp [h, this]
set_option maxRecDepth 100000 in
set_option maxHeartbeats 3200000 in
theorem l05Bef_is {u v : Value} {x y : List Int} {w : World} (hu : IntsAt w u x) (hv : IntsAt w v y) :
    Calls Tryd.prog 86 #[u, v] w fun e w' => e = .returned (.bool (befB x y)) ∧ ∃ n, w' = w.drewN n := by
  obtain ⟨a1, c1, rfl, hl1, k1⟩ := hu.any
  obtain ⟨a2, c2, rfl, hl2, k2⟩ := hv.any
  have K1 := Lib.hid k1
  have K2 := Lib.hid k2
  clear k1 k2 hu hv
  by_cases hl : x.length = y.length
  · have e3 : ((x.length : Int) != (y.length : Int)) = false := by simp; omega
    have hT : befB x y = decide (cmpL x y < 0) := by unfold befB; rw [Bool.eq_iff_iff, decide_eq_true_eq, decide_eq_true_eq]; constructor
                                                     · rintro (h | h)
                                                       · omega
                                                       · exact h.2
                                                     · exact fun h => .inr ⟨hl, h⟩
    rw [hT]
    generalize hTT : decide (cmpL x y < 0) = T
    have HT : Hid (decide (cmpL (x.drop 0) (y.drop 0) < 0) = T) := by show _ = _; rw [List.drop_zero, List.drop_zero]; exact hTT
    clear hT hTT
    go_enter Tryd.func86, Tryd.ntmps86
    go_wp2_with fail
    go_loopw [5] (fun i wr => ∃ k : Nat, k ≤ x.length ∧ i = .int .i64 (k : Int) ∧ Hid (decide (cmpL (x.drop k) (y.drop k) < 0) = T) ∧ Hid (∃ n, wr = w.drewN n)) (fun i _ => x.length - (intOf i).toNat)
    case atStart => exact ⟨0, Nat.zero_le _, rfl, HT, 0, rfl⟩
    case round =>
      clear HT
      obtain ⟨k, hk, rfl, HC, HN⟩ := hrel
      by_cases hlt : k < x.length
      · have hlt2 : k < y.length := by omega
        obtain ⟨b1, o1, rfl, hb1, g1'⟩ := K1.out k hlt
        obtain ⟨b2, o2, rfl, hb2, g2'⟩ := K2.out k hlt2
        have g1 : wr.cell? ⟨b1, o1 + k, none⟩ = some (.int .i64 x[k]) := by obtain ⟨n, e⟩ := HN.out; rw [e]; exact g1'
        have g2 : wr.cell? ⟨b2, o2 + k, none⟩ = some (.int .i64 y[k]) := by obtain ⟨n, e⟩ := HN.out; rw [e]; exact g2'
        clear g1' g2'
        have i0 : 0 ≤ (k : Int) := by omega
        have i1 : (k : Int) < (x.length : Int) := by omega
        have i2 : (k : Int) < (y.length : Int) := by omega
        by_cases he : x[k] = y[k]
        · have hc := HC.out
          rw [cmpL_same hlt hlt2 he] at hc
          have HC2 := Lib.hid hc
          have hne : (x[k] != y[k]) = false := by simp [he]
          generalize x[k] = p at g1 he hne
          generalize y[k] = q at g2 he hne
          clear HC hc he
          go_wp2_with fail
          go_quiet (fail)
          go_wp2_with fail
          go_roundw
          case rel => exact ⟨k + 1, by omega, by go_num, HC2, by obtain ⟨n, e⟩ := HN.out; exact ⟨_, by rw [e, World.drewN_drewN]⟩⟩
          case measure => simp [intOf]; omega
        · have hc := HC.out
          rw [cmpL_diff hlt hlt2 he] at hc
          have hne : (x[k] != y[k]) = true := by simp [he]
          generalize x[k] = p at g1 he hne hc
          generalize y[k] = q at g2 he hne hc
          clear HC he
          by_cases hpq : p < q
          · have hT : T = true := by rw [← hc]; exact decide_eq_true hpq
            have hd := decide_eq_true hpq
            subst hT
            clear hc
            go_wp2_with fail
            go_quiet (fail)
            go_wp2_with fail
            go_quiet (fail)
            go_wp2_with fail
            go_ret
            exact ⟨rfl, by obtain ⟨n, e⟩ := HN.out; exact ⟨_, by rw [e, World.drewN_drewN, World.drewN_drewN]⟩⟩
          · have hT : T = false := by rw [← hc]; exact decide_eq_false hpq
            have hd := decide_eq_false hpq
            subst hT
            clear hc
            go_wp2_with fail
            go_quiet (fail)
            go_wp2_with fail
            go_quiet (fail)
            go_wp2_with fail
            go_ret
            exact ⟨rfl, by obtain ⟨n, e⟩ := HN.out; exact ⟨_, by rw [e, World.drewN_drewN, World.drewN_drewN]⟩⟩
      · have hT : T = false := by rw [← HC.out, List.drop_eq_nil_of_le (by omega), List.drop_eq_nil_of_le (by omega)]; rfl
        subst hT
        go_wp2
        go_ret
        exact ⟨rfl, HN.out⟩
  · have e3 : ((x.length : Int) != (y.length : Int)) = true := by simp; omega
    have hT : befB x y = decide ((x.length : Int) < (y.length : Int)) := by unfold befB; rw [Bool.eq_iff_iff, decide_eq_true_eq, decide_eq_true_eq]; omega
    rw [hT]
    by_cases h : (x.length : Int) < (y.length : Int)
    · rw [decide_eq_true h]
      go_enter Tryd.func86, Tryd.ntmps86
      go_wp2_with fail
      go_ret
      exact ⟨rfl, 0, rfl⟩
    · rw [decide_eq_false h]
      go_enter Tryd.func86, Tryd.ntmps86
      go_wp2_with fail
      go_ret
      exact ⟨rfl, 0, rfl⟩
end Go.Proofs.YtljmfpifhbfdcaaDoor
