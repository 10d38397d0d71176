/-
  Equality of lists and of rows, of the model and of the program.
-/
import Derived.Test.YtdihcmohpbgmmaaDoorSsC
import Derived.Test.YtdihcmohpbgmmaaDoorPB
namespace Go.Proofs.YtdihcmohpbgmmaaDoor
open Go.RowKit
set_option linter.unusedVariables false

theorem same00_ne (a1 a2 : Option Addr) (n1 n2 c1 c2 : Nat) (w : World) (e : ((n1 : Int) != (n2 : Int)) = true) :
    Calls Tryd.prog 101 #[.slice a1 n1 c1, .slice a2 n2 c2] w fun e w' => e = .returned (.bool false) ∧ ∃ n, w' = w.drewN n := by
  go_enter Tryd.func101, Tryd.ntmps101
  go_wp2
  go_ret
  exact ⟨rfl, 0, rfl⟩
theorem same00_nil (a1 a2 : Option Addr) (c1 c2 : Nat) (w : World) :
    Calls Tryd.prog 101 #[.slice a1 0 c1, .slice a2 0 c2] w fun e w' => e = .returned (.bool true) ∧ ∃ n, w' = w.drewN n := by
  go_enter Tryd.func101, Tryd.ntmps101
  go_wp2
  refine wp_loop_rounds 1 ?_
  rw [rounds_succ]
  go_wp2
  go_ret
  exact ⟨rfl, 0, rfl⟩
set_option maxHeartbeats 800000 in
theorem same00_some {b1 o1 c1 b2 o2 c2 : Nat} {xs ys : List Int} {ok : Bool} {w : World} (hl : xs.length = ys.length) (hx : xs.length ≤ 1048576)
    (k1 : ∀ j (h : j < xs.length), w.cell? ⟨b1, o1 + j, none⟩ = some (.int .i64 xs[j])) (k2 : ∀ j (h : j < ys.length), w.cell? ⟨b2, o2 + j, none⟩ = some (.int .i64 ys[j])) (hok : (xs = ys ∧ ok = true) ∨ (xs ≠ ys ∧ ok = false)) :
    Calls Tryd.prog 101 #[.slice (some ⟨b1, o1, none⟩) xs.length c1, .slice (some ⟨b2, o2, none⟩) ys.length c2] w fun e w' => e = .returned (.bool ok) ∧ ∃ n, w' = w.drewN n := by
  have K1 := Lib.hid k1
  have K2 := Lib.hid k2
  have HK := Lib.hid hok
  have e3 : ((xs.length : Int) != (ys.length : Int)) = false := by simp; omega
  have HL := Lib.hid hl
  have hx2 : ys.length ≤ 1048576 := by omega
  clear k1 k2 hok hl
  go_enter Tryd.func101, Tryd.ntmps101
  go_wp2
  go_loopw [5] (fun i wr => ∃ k n : Nat, k ≤ xs.length ∧ i = .int .i64 (k : Int) ∧ Hid (Agree xs ys k) ∧ wr = w.drewN n) (fun i _ => xs.length - (intOf i).toNat)
  case atStart => exact ⟨0, 0, Nat.zero_le _, rfl, fun j hj => absurd hj (Nat.not_lt_zero j), rfl⟩
  case round =>
    obtain ⟨k, n, hk, rfl, HA, rfl⟩ := hrel
    by_cases hlt : k < xs.length
    · have hlt2 : k < ys.length := by have := HL.out; omega
      have g1 := K1.out k hlt
      have g2 := K2.out k hlt2
      obtain ⟨x, hx⟩ : ∃ x, xs[k] = x := ⟨_, rfl⟩
      obtain ⟨y, hy⟩ : ∃ y, ys[k] = y := ⟨_, rfl⟩
      have HX : Hid (xs.getD k 0 = x) := by show _ = _; rw [getD_in hlt]; exact hx
      have HY : Hid (ys.getD k 0 = y) := by show _ = _; rw [getD_in hlt2]; exact hy
      rw [hx] at g1
      rw [hy] at g2
      clear hx hy
      have i0 : 0 ≤ (k : Int) := by omega
      have i1 : (k : Int) < xs.length := by omega
      have i2 : (k : Int) < ys.length := by omega
      by_cases hxy : x = y
      · have HA2 : Hid (Agree xs ys (k + 1)) := by
          intro j hj
          by_cases e : j = k
          · rw [e, HX.out, HY.out, hxy]
          · exact HA.out j (by omega)
        have eb : (x != y) = false := by simpa using hxy
        clear hxy
        go_wp2
        go_quiet (fail)
        go_wp2
        go_roundw
        case rel => exact ⟨k + 1, _, by omega, by go_num, HA2, rfl⟩
        case measure => simp [intOf]; omega
      · have ek : ok = false := by
          rcases HK.out with ⟨h, _⟩ | ⟨_, h⟩
          · exfalso; apply hxy; rw [← HX.out, ← HY.out, h]
          · exact h
        subst ek
        have eb : (x != y) = true := by simpa using hxy
        clear hxy
        go_wp2
        go_quiet (fail)
        go_wp2
        go_ret
        exact ⟨rfl, _, World.drewN_drewN _ _ _⟩
    · have ek : ok = true := by
        rcases HK.out with ⟨_, h⟩ | ⟨h, _⟩
        · exact h
        · exact absurd (Agree.all (fun j hj => HA.out j (by omega)) HL.out) h
      subst ek
      go_wp2
      go_ret
      exact ⟨rfl, _, rfl⟩
theorem same00_any {u v : Value} {xs ys : List Int} {w : World} (hu : IntsAt w u xs) (hv : IntsAt w v ys) :
    Calls Tryd.prog 101 #[u, v] w fun e w' => e = .returned (.bool (eqB xs ys)) ∧ ∃ n, w' = w.drewN n := by
  obtain ⟨a1, c1, rfl, hl1, ha1⟩ := hu
  obtain ⟨a2, c2, rfl, hl2, ha2⟩ := hv
  by_cases e3 : xs.length = ys.length
  · by_cases e4 : xs = []
    · subst e4
      obtain rfl : ys = [] := List.eq_nil_of_length_eq_zero (by simpa using e3.symm)
      exact same00_nil _ _ _ _ _
    · rcases ha1 with h | ⟨b1, o1, rfl, _, k1⟩
      · exact absurd h e4
      rcases ha2 with h | ⟨b2, o2, rfl, _, k2⟩
      · subst h; exact absurd (List.eq_nil_of_length_eq_zero (by simpa using e3)) e4
      refine same00_some e3 hl1 k1 k2 ?_
      by_cases e5 : xs = ys
      · exact .inl ⟨e5, by simp [eqB, e5]⟩
      · exact .inr ⟨e5, by simp [eqB, e5]⟩
  · have : eqB xs ys = false := by simp only [eqB, decide_eq_false_iff_not]; exact fun h => e3 (by rw [h])
    rw [this]
    exact same00_ne _ _ _ _ _ _ _ (by simp; omega)
theorem same00_is {u v : Value} {xs ys : List Int} {T : Bool} {w : World} (hu : IntsAt w u xs) (hv : IntsAt w v ys) (h : eqB xs ys = T) :
    Calls Tryd.prog 101 #[u, v] w fun e w' => e = .returned (.bool T) ∧ ∃ n, w' = w.drewN n := by subst h; exact same00_any hu hv
theorem equalI_is {u v : Value} {xs ys : List Int} {T : Bool} {w : World} (hu : IntsAt w u xs) (hv : IntsAt w v ys) (h : eqB xs ys = T) :
    Calls Tryd.prog 84 #[u, v] w fun e w' => e = .returned (.bool T) ∧ ∃ n, w' = w.drewN n := by subst h; exact equalI_any hu hv
/-! ### Rows -/
/-- Two lists of rows are equal, as a Bool. -/
def eqRB (xx yy : List (List Int)) : Bool := decide (xx = yy)
/-- The first k rows are the same. -/
def AgreeR (xx yy : List (List Int)) (k : Nat) : Prop := ∀ j, j < k → xx.getD j [] = yy.getD j []
theorem getD_row {xx : List (List Int)} {j : Nat} (h : j < xx.length) : xx.getD j [] = xx[j] := by simp [List.getD, List.getElem?_eq_getElem h]
theorem AgreeR.all {xx yy : List (List Int)} (h : AgreeR xx yy xx.length) (hl : xx.length = yy.length) : xx = yy := by
  refine List.ext_getElem hl fun j h1 h2 => ?_
  have := h j h1
  rwa [getD_row h1, getD_row h2] at this
theorem eqB_yes {xs ys : List Int} (h : xs = ys) : eqB xs ys = true := by simp [eqB, h]
theorem eqB_no {xs ys : List Int} (h : xs ≠ ys) : eqB xs ys = false := by simp [eqB, h]
theorem equalF_ne (a1 a2 : Option Addr) (n1 n2 c1 c2 : Nat) (w : World) (e : ((n1 : Int) != (n2 : Int)) = true) :
    Calls Tryd.prog 83 #[.slice a1 n1 c1, .slice a2 n2 c2, .func (.func 84) #[] #[]] w fun e w' => e = .returned (.bool false) ∧ ∃ n, w' = w.drewN n := by
  go_enter Tryd.func83, Tryd.ntmps83
  go_wp2
  go_ret
  exact ⟨rfl, 0, rfl⟩
theorem equalF_nil (a1 a2 : Option Addr) (c1 c2 : Nat) (w : World) :
    Calls Tryd.prog 83 #[.slice a1 0 c1, .slice a2 0 c2, .func (.func 84) #[] #[]] w fun e w' => e = .returned (.bool true) ∧ ∃ n, w' = w.drewN n := by
  go_enter Tryd.func83, Tryd.ntmps83
  go_wp2
  refine wp_loop_rounds 1 ?_
  rw [rounds_succ]
  go_wp2
  go_ret
  exact ⟨rfl, 0, rfl⟩
set_option maxRecDepth 100000 in
set_option maxHeartbeats 1600000 in
theorem equalF_some {b1 o1 c1 b2 o2 c2 : Nat} {xx yy : List (List Int)} {ok : Bool} {w : World} (hl : xx.length = yy.length) (hx : xx.length ≤ 1048576)
    (h1 : ∀ i (h : i < xx.length), ∃ u, w.cell? ⟨b1, o1 + i, none⟩ = some u ∧ IntsAt w u xx[i]) (h2 : ∀ i (h : i < yy.length), ∃ u, w.cell? ⟨b2, o2 + i, none⟩ = some u ∧ IntsAt w u yy[i]) (hok : (xx = yy ∧ ok = true) ∨ (xx ≠ yy ∧ ok = false)) :
    Calls Tryd.prog 83 #[.slice (some ⟨b1, o1, none⟩) xx.length c1, .slice (some ⟨b2, o2, none⟩) yy.length c2, .func (.func 84) #[] #[]] w fun e w' => e = .returned (.bool ok) ∧ ∃ n, w' = w.drewN n := by
  have H1 := Lib.hid h1
  have H2 := Lib.hid h2
  have HK := Lib.hid hok
  have e3 : ((xx.length : Int) != (yy.length : Int)) = false := by simp; omega
  have HL := Lib.hid hl
  have hx2 : yy.length ≤ 1048576 := by omega
  clear h1 h2 hok hl
  go_enter Tryd.func83, Tryd.ntmps83
  go_wp2
  go_loopw [17] (fun i wr => ∃ k : Nat, k ≤ xx.length ∧ i = .int .i64 (k : Int) ∧ Hid (AgreeR xx yy k) ∧ Hid (∃ n, wr = w.drewN n)) (fun i _ => xx.length - (intOf i).toNat)
  case atStart => exact ⟨0, Nat.zero_le _, rfl, fun j hj => absurd hj (Nat.not_lt_zero j), 0, rfl⟩
  case round =>
    obtain ⟨k, hk, rfl, HA, HN⟩ := hrel
    by_cases hlt : k < xx.length
    · have hlt2 : k < yy.length := by have := HL.out; omega
      obtain ⟨x1, d1, i1⟩ : ∃ u, wr.cell? ⟨b1, o1 + k, none⟩ = some u ∧ IntsAt wr u xx[k] := by
        obtain ⟨n, e⟩ := HN.out
        obtain ⟨u, h1, h2⟩ := H1.out k hlt
        exact ⟨u, by rw [e]; exact h1, by rw [e]; exact h2⟩
      obtain ⟨x2, d2, i2⟩ : ∃ u, wr.cell? ⟨b2, o2 + k, none⟩ = some u ∧ IntsAt wr u yy[k] := by
        obtain ⟨n, e⟩ := HN.out
        obtain ⟨u, h1, h2⟩ := H2.out k hlt2
        exact ⟨u, by rw [e]; exact h1, by rw [e]; exact h2⟩
      have I1 := Lib.hid i1
      have I2 := Lib.hid i2
      obtain ⟨a1, q1, rfl⟩ := i1.slice
      obtain ⟨a2, q2, rfl⟩ := i2.slice
      obtain ⟨xk, hxk⟩ : ∃ z, xx[k] = z := ⟨_, rfl⟩
      obtain ⟨yk, hyk⟩ : ∃ z, yy[k] = z := ⟨_, rfl⟩
      have HX : Hid (xx.getD k [] = xk) := by show _ = _; rw [getD_row hlt]; exact hxk
      have HY : Hid (yy.getD k [] = yk) := by show _ = _; rw [getD_row hlt2]; exact hyk
      rw [hxk] at d1 I1
      rw [hyk] at d2 I2
      have j0 : 0 ≤ (k : Int) := by omega
      have j1 : (k : Int) < xx.length := by omega
      have j2 : (k : Int) < yy.length := by omega
      clear i1 i2 hxk hyk
      by_cases hxy : xk = yk
      · have HA2 : Hid (AgreeR xx yy (k + 1)) := by
          intro j hj
          by_cases e : j = k
          · rw [e, HX.out, HY.out, hxy]
          · exact HA.out j (by omega)
        have HE := Lib.hid (eqB_yes hxy)
        clear hxy
        go_wp2_with fail
        refine (equalI_is I1.out I2.out HE.out).mono ?_
        rintro e w' ⟨rfl, nq, rfl⟩
        go_wp2
        go_roundw
        case rel => exact ⟨k + 1, by omega, by go_num, HA2, by obtain ⟨n, e⟩ := HN.out; exact ⟨_, by rw [e, World.drewN_drewN]⟩⟩
        case measure => simp [intOf]; omega
      · have ek : ok = false := by
          rcases HK.out with ⟨h, _⟩ | ⟨_, h⟩
          · exfalso; apply hxy; rw [← HX.out, ← HY.out, h]
          · exact h
        subst ek
        have HE := Lib.hid (eqB_no hxy)
        clear hxy
        go_wp2_with fail
        refine (equalI_is I1.out I2.out HE.out).mono ?_
        rintro e w' ⟨rfl, nq, rfl⟩
        go_wp2
        go_ret
        exact ⟨rfl, by obtain ⟨n, e⟩ := HN.out; exact ⟨_, by rw [e, World.drewN_drewN]⟩⟩
    · have ek : ok = true := by
        rcases HK.out with ⟨_, h⟩ | ⟨h, _⟩
        · exact h
        · exact absurd (AgreeR.all (fun j hj => HA.out j (by omega)) HL.out) h
      subst ek
      go_wp2
      go_ret
      exact ⟨rfl, HN.out⟩
theorem equalF_any {u v : Value} {xx yy : List (List Int)} {w : World} (hu : RowsAt w u xx) (hv : RowsAt w v yy) :
    Calls Tryd.prog 83 #[u, v, .func (.func 84) #[] #[]] w fun e w' => e = .returned (.bool (eqRB xx yy)) ∧ ∃ n, w' = w.drewN n := by
  by_cases e3 : xx.length = yy.length
  · by_cases e4 : xx = []
    · subst e4
      obtain rfl : yy = [] := List.eq_nil_of_length_eq_zero (by simpa using e3.symm)
      obtain ⟨a1, c1, rfl⟩ := hu.slice
      obtain ⟨a2, c2, rfl⟩ := hv.slice
      exact equalF_nil _ _ _ _ _
    · have h0 : 0 < xx.length := List.length_pos_iff.2 e4
      have hl : xx.length ≤ 1048576 := by obtain ⟨_, _, _, hl, _⟩ := hu; exact hl
      obtain ⟨b1, o1, c1, rfl, _, k1⟩ := hu.cells h0
      obtain ⟨b2, o2, c2, rfl, _, k2⟩ := hv.cells (by omega)
      refine equalF_some e3 hl k1 k2 ?_
      by_cases e5 : xx = yy
      · exact .inl ⟨e5, by simp [eqRB, e5]⟩
      · exact .inr ⟨e5, by simp [eqRB, e5]⟩
  · have : eqRB xx yy = false := by simp only [eqRB, decide_eq_false_iff_not]; exact fun h => e3 (by rw [h])
    rw [this]
    have hl1 : xx.length ≤ 1048576 := by obtain ⟨_, _, _, hl, _⟩ := hu; exact hl
    have hl2 : yy.length ≤ 1048576 := by obtain ⟨_, _, _, hl, _⟩ := hv; exact hl
    obtain ⟨a1, c1, rfl⟩ := hu.slice
    obtain ⟨a2, c2, rfl⟩ := hv.slice
    exact equalF_ne _ _ _ _ _ _ _ (by simp; omega)
theorem equalF_is {u v : Value} {xx yy : List (List Int)} {T : Bool} {w : World} (hu : RowsAt w u xx) (hv : RowsAt w v yy) (h : eqRB xx yy = T) :
    Calls Tryd.prog 83 #[u, v, .func (.func 84) #[] #[]] w fun e w' => e = .returned (.bool T) ∧ ∃ n, w' = w.drewN n := by subst h; exact equalF_any hu hv
end Go.Proofs.YtdihcmohpbgmmaaDoor
