/-
  SamePoset of the model and of the program.
-/
import Derived.Test.YtdihcmohpbgmmaaDoorPsA
import Derived.Test.YtdihcmohpbgmmaaDoorSpA
namespace Go.Proofs.YtdihcmohpbgmmaaDoor
open Go.RowKit
set_option linter.unusedVariables false

theorem samePairs_ne (a1 a2 : Option Addr) (n1 n2 c1 c2 : Nat) (w : World) (e : ((n1 : Int) != (n2 : Int)) = true) :
    Calls Tryd.prog 82 #[.slice a1 n1 c1, .slice a2 n2 c2] w fun e w' => e = .returned (.bool false) ∧ ∃ n, w' = w.drewN n := by
  go_enter Tryd.func82, Tryd.ntmps82
  go_wp2
  go_ret
  exact ⟨rfl, 0, rfl⟩
theorem samePairs_nil (a1 a2 : Option Addr) (c1 c2 : Nat) (w : World) :
    Calls Tryd.prog 82 #[.slice a1 0 c1, .slice a2 0 c2] w fun e w' => e = .returned (.bool true) ∧ ∃ n, w' = w.drewN n := by
  go_enter Tryd.func82, Tryd.ntmps82
  go_wp2
  refine wp_loop_rounds 1 ?_
  rw [rounds_succ]
  go_wp2
  go_ret
  exact ⟨rfl, 0, rfl⟩
set_option maxRecDepth 100000 in
set_option maxHeartbeats 1600000 in
theorem samePairs_some {b1 o1 c1 b2 o2 c2 : Nat} {xx yy : List (List Int)} {ok : Bool} {w : World} (hl : xx.length = yy.length) (hx : xx.length ≤ 1048576)
    (h1 : ∀ i (h : i < xx.length), ∃ u, w.cell? ⟨b1, o1 + i, none⟩ = some u ∧ IntsAt w u xx[i]) (h2 : ∀ i (h : i < yy.length), ∃ u, w.cell? ⟨b2, o2 + i, none⟩ = some u ∧ IntsAt w u yy[i]) (hok : (xx = yy ∧ ok = true) ∨ (xx ≠ yy ∧ ok = false)) :
    Calls Tryd.prog 82 #[.slice (some ⟨b1, o1, none⟩) xx.length c1, .slice (some ⟨b2, o2, none⟩) yy.length c2] w fun e w' => e = .returned (.bool ok) ∧ ∃ n, w' = w.drewN n := by
  have H1 := Lib.hid h1
  have H2 := Lib.hid h2
  have HK := Lib.hid hok
  have e3 : ((xx.length : Int) != (yy.length : Int)) = false := by simp; omega
  have HL := Lib.hid hl
  have hx2 : yy.length ≤ 1048576 := by omega
  clear h1 h2 hok hl
  go_enter Tryd.func82, Tryd.ntmps82
  go_wp2
  go_loopw [5] (fun i wr => ∃ k : Nat, k ≤ xx.length ∧ i = .int .i64 (k : Int) ∧ Hid (AgreeR xx yy k) ∧ Hid (∃ n, wr = w.drewN n)) (fun i _ => xx.length - (intOf i).toNat)
  case atStart => exact ⟨0, Nat.zero_le _, rfl, fun j hj => absurd hj (Nat.not_lt_zero j), 0, rfl⟩
  case round =>
    obtain ⟨k, hk, rfl, HA, HN⟩ := hrel
    by_cases hlt : k < xx.length
    · have hlt2 : k < yy.length := by have := HL.out; omega
      obtain ⟨x1, d1, i1⟩ : ∃ u, wr.cell? ⟨b1, o1 + k, none⟩ = some u ∧ IntsAt wr u xx[k] := by
        obtain ⟨n, e⟩ := HN.out
        obtain ⟨u, h1, h2⟩ := H1.out k hlt
        exact ⟨u, by rw [e]; exact h1, by rw [e]; exact h2⟩
      obtain ⟨x2, d2, i2⟩ : ∃ u, wr.cell? ⟨b2, o2 + k, none⟩ = some u ∧ IntsAt wr u yy[k] := by
        obtain ⟨n, e⟩ := HN.out
        obtain ⟨u, h1, h2⟩ := H2.out k hlt2
        exact ⟨u, by rw [e]; exact h1, by rw [e]; exact h2⟩
      have I1 := Lib.hid i1
      have I2 := Lib.hid i2
      obtain ⟨a1, q1, rfl⟩ := i1.slice
      obtain ⟨a2, q2, rfl⟩ := i2.slice
      obtain ⟨xk, hxk⟩ : ∃ z, xx[k] = z := ⟨_, rfl⟩
      obtain ⟨yk, hyk⟩ : ∃ z, yy[k] = z := ⟨_, rfl⟩
      have HX : Hid (xx.getD k [] = xk) := by show _ = _; rw [getD_row hlt]; exact hxk
      have HY : Hid (yy.getD k [] = yk) := by show _ = _; rw [getD_row hlt2]; exact hyk
      rw [hxk] at d1 I1
      rw [hyk] at d2 I2
      have j0 : 0 ≤ (k : Int) := by omega
      have j1 : (k : Int) < xx.length := by omega
      have j2 : (k : Int) < yy.length := by omega
      clear i1 i2 hxk hyk
      by_cases hxy : xk = yk
      · have HA2 : Hid (AgreeR xx yy (k + 1)) := by
          intro j hj
          by_cases e : j = k
          · rw [e, HX.out, HY.out, hxy]
          · exact HA.out j (by omega)
        have HE := Lib.hid (eqB_yes hxy)
        clear hxy
        go_wp2_with fail
        go_quiet ((go_at_call 101; exact Calls.quiet_of (same00_is (IntsAt.drewN I1.out _) (IntsAt.drewN I2.out _) HE.out)))
        go_wp2
        go_roundw
        case rel => exact ⟨k + 1, by omega, by go_num, HA2, by obtain ⟨n, e⟩ := HN.out; exact ⟨_, by rw [e, World.drewN_drewN]⟩⟩
        case measure => simp [intOf]; omega
      · have ek : ok = false := by
          rcases HK.out with ⟨h, _⟩ | ⟨_, h⟩
          · exfalso; apply hxy; rw [← HX.out, ← HY.out, h]
          · exact h
        subst ek
        have HE := Lib.hid (eqB_no hxy)
        clear hxy
        go_wp2_with fail
        go_quiet ((go_at_call 101; exact Calls.quiet_of (same00_is (IntsAt.drewN I1.out _) (IntsAt.drewN I2.out _) HE.out)))
        go_wp2
        go_ret
        exact ⟨rfl, by obtain ⟨n, e⟩ := HN.out; exact ⟨_, by rw [e, World.drewN_drewN]⟩⟩
    · have ek : ok = true := by
        rcases HK.out with ⟨_, h⟩ | ⟨h, _⟩
        · exact h
        · exact absurd (AgreeR.all (fun j hj => HA.out j (by omega)) HL.out) h
      subst ek
      go_wp2
      go_ret
      exact ⟨rfl, HN.out⟩
theorem samePairs_any {u v : Value} {xx yy : List (List Int)} {w : World} (hu : RowsAt w u xx) (hv : RowsAt w v yy) :
    Calls Tryd.prog 82 #[u, v] w fun e w' => e = .returned (.bool (eqRB xx yy)) ∧ ∃ n, w' = w.drewN n := by
  by_cases e3 : xx.length = yy.length
  · by_cases e4 : xx = []
    · subst e4
      obtain rfl : yy = [] := List.eq_nil_of_length_eq_zero (by simpa using e3.symm)
      obtain ⟨a1, c1, rfl⟩ := hu.slice
      obtain ⟨a2, c2, rfl⟩ := hv.slice
      exact samePairs_nil _ _ _ _ _
    · have h0 : 0 < xx.length := List.length_pos_iff.2 e4
      have hl : xx.length ≤ 1048576 := by obtain ⟨_, _, _, hl, _⟩ := hu; exact hl
      obtain ⟨b1, o1, c1, rfl, _, k1⟩ := hu.cells h0
      obtain ⟨b2, o2, c2, rfl, _, k2⟩ := hv.cells (by omega)
      refine samePairs_some e3 hl k1 k2 ?_
      by_cases e5 : xx = yy
      · exact .inl ⟨e5, by simp [eqRB, e5]⟩
      · exact .inr ⟨e5, by simp [eqRB, e5]⟩
  · have : eqRB xx yy = false := by simp only [eqRB, decide_eq_false_iff_not]; exact fun h => e3 (by rw [h])
    rw [this]
    have hl1 : xx.length ≤ 1048576 := by obtain ⟨_, _, _, hl, _⟩ := hu; exact hl
    have hl2 : yy.length ≤ 1048576 := by obtain ⟨_, _, _, hl, _⟩ := hv; exact hl
    obtain ⟨a1, c1, rfl⟩ := hu.slice
    obtain ⟨a2, c2, rfl⟩ := hv.slice
    exact samePairs_ne _ _ _ _ _ _ _ (by simp; omega)
theorem samePairs_is {u v : Value} {xx yy : List (List Int)} {T : Bool} {w : World} (hu : RowsAt w u xx) (hv : RowsAt w v yy) (h : eqRB xx yy = T) :
    Calls Tryd.prog 82 #[u, v] w fun e w' => e = .returned (.bool T) ∧ ∃ n, w' = w.drewN n := by subst h; exact samePairs_any hu hv
def samB (s1 : Int) (xx : List (List Int)) (s2 : Int) (yy : List (List Int)) : Bool := decide (s1 = s2) && eqRB xx yy
set_option maxRecDepth 100000 in
theorem implSP_is {s1 s2 : Int} {u v : Value} {xx yy : List (List Int)} {T : Bool} {w : World} (hu : RowsAt w u xx) (hv : RowsAt w v yy) (h : T = samB s1 xx s2 yy) :
    Calls Tryd.prog 53 #[.agg #[.int .i64 s1, u], .agg #[.int .i64 s2, v]] w fun e w' => e = .returned (.bool T) ∧ Below w.heap.size w w' := by
  have HU := Lib.hid hu
  have HV := Lib.hid hv
  obtain ⟨a1, c1, rfl⟩ := hu.slice
  obtain ⟨a2, c2, rfl⟩ := hv.slice
  clear hu hv
  by_cases e : s1 = s2
  · have hT : eqRB xx yy = T := by rw [h]; simp [samB, e]
    have he : (s1 == s2) = true := by simp [e]
    have HT := Lib.hid hT
    clear h hT e
    go_enter Tryd.func53, Tryd.ntmps53
    go_wp2_with fail
    refine (equalF_is (HU.out.al.al) (HV.out.al.al) HT.out).mono ?_
    rintro e w1 ⟨rfl, n, rfl⟩
    go_wp2_with fail
    go_ret
    exact ⟨rfl, below_drewX (al1 (al1 (Below.refl _ _) _) _) n⟩
  · have hT : T = false := by rw [h]; simp [samB, e]
    have he : (s1 == s2) = false := by simp [e]
    subst hT
    clear h e
    go_enter Tryd.func53, Tryd.ntmps53
    go_wp2_with fail
    go_ret
    exact ⟨rfl, al1 (al1 (Below.refl _ _) _) _⟩
end Go.Proofs.YtdihcmohpbgmmaaDoor
