/-
  Contracts of the equality of matrices, of the model and of the program.
-/
import Derived.Test.YtabanmaaagmeaaaMxV
import Derived.RegionTactic
namespace Go.Proofs.Ytabanmaaagmeaaa
open Go.RowKit
set_option linter.unusedVariables false

/-- Two matrices are equal, as a Bool. -/
def sameB (p r c : Int) (xs : List Int) (q s d : Int) (ys : List Int) : Bool := decide (p = q ∧ r = s ∧ c = d ∧ xs = ys)
theorem sameB_no {p r c q s d : Int} {xs ys : List Int} (h : ¬ (p = q ∧ r = s ∧ c = d ∧ xs = ys)) : sameB p r c xs q s d ys = false := by simp only [sameB, decide_eq_false_iff_not]; exact h
theorem sameB_yes (p r c : Int) (xs : List Int) : sameB p r c xs p r c xs = true := by simp [sameB]
/-- Two lists agree in their first k places. -/
def Agree (xs ys : List Int) (k : Nat) : Prop := ∀ j, j < k → xs.getD j 0 = ys.getD j 0
theorem Agree.all {xs ys : List Int} (h : Agree xs ys xs.length) (hl : xs.length = ys.length) : xs = ys := by
  refine List.ext_getElem hl fun j h1 h2 => ?_
  have := h j h1
  simpa [List.getD, List.getElem?_eq_getElem h1, List.getElem?_eq_getElem h2] using this
theorem getD_in {xs : List Int} {j : Nat} (h : j < xs.length) : xs.getD j 0 = xs[j] := by simp [List.getD, List.getElem?_eq_getElem h]
set_option maxRecDepth 100000 in
set_option maxHeartbeats 1600000 in
theorem specSame_p {p r c q s d : Int} {a1 a2 : Option Addr} {n1 n2 c1 c2 : Nat} {L M : Nat} {w : World} (h1 : PtM w L p r c (.slice a1 n1 c1)) (h2 : PtM w M q s d (.slice a2 n2 c2)) (e0 : (p != q) = true) :
    Calls Try.prog 76 #[.pointer (some ⟨L, 0, none⟩), .pointer (some ⟨M, 0, none⟩)] w fun e w' => e = .returned (.bool false) ∧ ∃ n, w' = w.drewN n := by
  obtain ⟨hL, x0, x1, x2, x3⟩ := h1
  obtain ⟨hM, y0, y1, y2, y3⟩ := h2
  go_enter Try.func76, Try.ntmps76
  go_wp2
  go_quiet (fail)
  go_wp2
  go_ret
  exact ⟨rfl, _, rfl⟩
set_option maxRecDepth 100000 in
set_option maxHeartbeats 1600000 in
theorem specSame_r {p r c q s d : Int} {a1 a2 : Option Addr} {n1 n2 c1 c2 : Nat} {L M : Nat} {w : World} (h1 : PtM w L p r c (.slice a1 n1 c1)) (h2 : PtM w M q s d (.slice a2 n2 c2)) (e0 : (p != q) = false) (e1 : (r != s) = true) :
    Calls Try.prog 76 #[.pointer (some ⟨L, 0, none⟩), .pointer (some ⟨M, 0, none⟩)] w fun e w' => e = .returned (.bool false) ∧ ∃ n, w' = w.drewN n := by
  obtain ⟨hL, x0, x1, x2, x3⟩ := h1
  obtain ⟨hM, y0, y1, y2, y3⟩ := h2
  go_enter Try.func76, Try.ntmps76
  go_wp2
  go_quiet (fail)
  go_wp2
  go_ret
  exact ⟨rfl, _, rfl⟩
set_option maxRecDepth 100000 in
set_option maxHeartbeats 1600000 in
theorem specSame_c {p r c q s d : Int} {a1 a2 : Option Addr} {n1 n2 c1 c2 : Nat} {L M : Nat} {w : World} (h1 : PtM w L p r c (.slice a1 n1 c1)) (h2 : PtM w M q s d (.slice a2 n2 c2)) (e0 : (p != q) = false) (e1 : (r != s) = false) (e2 : (c != d) = true) :
    Calls Try.prog 76 #[.pointer (some ⟨L, 0, none⟩), .pointer (some ⟨M, 0, none⟩)] w fun e w' => e = .returned (.bool false) ∧ ∃ n, w' = w.drewN n := by
  obtain ⟨hL, x0, x1, x2, x3⟩ := h1
  obtain ⟨hM, y0, y1, y2, y3⟩ := h2
  go_enter Try.func76, Try.ntmps76
  go_wp2
  go_quiet (fail)
  go_wp2
  go_ret
  exact ⟨rfl, _, rfl⟩
set_option maxRecDepth 100000 in
set_option maxHeartbeats 1600000 in
theorem specSame_n {p r c q s d : Int} {a1 a2 : Option Addr} {n1 n2 c1 c2 : Nat} {L M : Nat} {w : World} (h1 : PtM w L p r c (.slice a1 n1 c1)) (h2 : PtM w M q s d (.slice a2 n2 c2)) (e0 : (p != q) = false) (e1 : (r != s) = false) (e2 : (c != d) = false) (e3 : ((n1 : Int) != (n2 : Int)) = true) :
    Calls Try.prog 76 #[.pointer (some ⟨L, 0, none⟩), .pointer (some ⟨M, 0, none⟩)] w fun e w' => e = .returned (.bool false) ∧ ∃ n, w' = w.drewN n := by
  obtain ⟨hL, x0, x1, x2, x3⟩ := h1
  obtain ⟨hM, y0, y1, y2, y3⟩ := h2
  go_enter Try.func76, Try.ntmps76
  go_wp2
  go_quiet (fail)
  go_wp2
  go_ret
  exact ⟨rfl, _, rfl⟩
set_option maxRecDepth 100000 in
set_option maxHeartbeats 1600000 in
theorem specSame_0 {p r c q s d : Int} {a1 a2 : Option Addr} {n1 n2 c1 c2 : Nat} {L M : Nat} {w : World} (h1 : PtM w L p r c (.slice a1 n1 c1)) (h2 : PtM w M q s d (.slice a2 n2 c2)) (e0 : (p != q) = false) (e1 : (r != s) = false) (e2 : (c != d) = false) (e3 : n1 = 0) (e4 : n2 = 0) :
    Calls Try.prog 76 #[.pointer (some ⟨L, 0, none⟩), .pointer (some ⟨M, 0, none⟩)] w fun e w' => e = .returned (.bool true) ∧ ∃ n, w' = w.drewN n := by
  obtain ⟨hL, x0, x1, x2, x3⟩ := h1
  obtain ⟨hM, y0, y1, y2, y3⟩ := h2
  subst e3 e4
  go_enter Try.func76, Try.ntmps76
  go_wp2
  go_quiet (fail)
  go_wp2
  refine wp_loop_rounds 1 ?_
  rw [rounds_succ]
  go_wp2
  go_ret
  exact ⟨rfl, _, rfl⟩
set_option maxRecDepth 100000 in
set_option maxHeartbeats 1600000 in
theorem specSame_some {p r c q s d : Int} {b1 o1 c1 b2 o2 c2 : Nat} {xs ys : List Int} {ok : Bool} {L M : Nat} {w : World} (h1 : PtM w L p r c (.slice (some ⟨b1, o1, none⟩) xs.length c1)) (h2 : PtM w M q s d (.slice (some ⟨b2, o2, none⟩) ys.length c2))
    (e0 : (p != q) = false) (e1 : (r != s) = false) (e2 : (c != d) = false) (hl : xs.length = ys.length) (hx : xs.length ≤ 1048576)
    (k1 : ∀ j (h : j < xs.length), w.cell? ⟨b1, o1 + j, none⟩ = some (.int .i64 xs[j])) (k2 : ∀ j (h : j < ys.length), w.cell? ⟨b2, o2 + j, none⟩ = some (.int .i64 ys[j])) (hok : (xs = ys ∧ ok = true) ∨ (xs ≠ ys ∧ ok = false)) :
    Calls Try.prog 76 #[.pointer (some ⟨L, 0, none⟩), .pointer (some ⟨M, 0, none⟩)] w fun e w' => e = .returned (.bool ok) ∧ ∃ n, w' = w.drewN n := by
  obtain ⟨hL, x0, x1, x2, x3⟩ := h1
  obtain ⟨hM, y0, y1, y2, y3⟩ := h2
  have K1 := Lib.hid k1
  have K2 := Lib.hid k2
  have HK := Lib.hid hok
  have e3 : ((xs.length : Int) != (ys.length : Int)) = false := by simp; omega
  have HL := Lib.hid hl
  have hx2 : ys.length ≤ 1048576 := by omega
  clear k1 k2 hok hl
  go_enter Try.func76, Try.ntmps76
  go_wp2
  go_quiet (fail)
  go_wp2
  go_loopw [5] (fun i wr => ∃ k n : Nat, k ≤ xs.length ∧ i = .int .i64 (k : Int) ∧ Hid (Agree xs ys k) ∧ wr = w.drewN n) (fun i _ => xs.length - (intOf i).toNat)
  case atStart => exact ⟨0, _, Nat.zero_le _, rfl, fun j hj => absurd hj (Nat.not_lt_zero j), rfl⟩
  case round =>
    obtain ⟨k, n, hk, rfl, HA, rfl⟩ := hrel
    by_cases hlt : k < xs.length
    · have hlt2 : k < ys.length := by have := HL.out; omega
      have g1 := K1.out k hlt
      have g2 := K2.out k hlt2
      obtain ⟨x, hx⟩ : ∃ x, xs[k] = x := ⟨_, rfl⟩
      obtain ⟨y, hy⟩ : ∃ y, ys[k] = y := ⟨_, rfl⟩
      have HX : Hid (xs.getD k 0 = x) := by show _ = _; rw [getD_in hlt]; exact hx
      have HY : Hid (ys.getD k 0 = y) := by show _ = _; rw [getD_in hlt2]; exact hy
      rw [hx] at g1
      rw [hy] at g2
      clear hx hy
      have i0 : 0 ≤ (k : Int) := by omega
      have i1 : (k : Int) < xs.length := by omega
      have i2 : (k : Int) < ys.length := by omega
      by_cases hxy : x = y
      · have HA2 : Hid (Agree xs ys (k + 1)) := by
          intro j hj
          by_cases e : j = k
          · rw [e, HX.out, HY.out, hxy]
          · exact HA.out j (by omega)
        have eb : (x != y) = false := by simpa using hxy
        clear hxy
        go_wp2
        go_quiet (fail)
        go_wp2
        go_roundw
        case rel => exact ⟨k + 1, _, by omega, by go_num, HA2, rfl⟩
        case measure => simp [intOf]; omega
      · have ek : ok = false := by
          rcases HK.out with ⟨h, _⟩ | ⟨_, h⟩
          · exfalso; apply hxy; rw [← HX.out, ← HY.out, h]
          · exact h
        subst ek
        have eb : (x != y) = true := by simpa using hxy
        clear hxy
        go_wp2
        go_quiet (fail)
        go_wp2
        go_ret
        exact ⟨rfl, _, World.drewN_drewN _ _ _⟩
    · have ek : ok = true := by
        rcases HK.out with ⟨_, h⟩ | ⟨h, _⟩
        · exact h
        · exact absurd (Agree.all (fun j hj => HA.out j (by omega)) HL.out) h
      subst ek
      go_wp2
      go_ret
      exact ⟨rfl, _, rfl⟩
theorem specSame_any {p r c q s d : Int} {u v : Value} {xs ys : List Int} {L M : Nat} {w : World} (h1 : PtM w L p r c u) (h2 : PtM w M q s d v) (hu : IntsAt w u xs) (hv : IntsAt w v ys) :
    Calls Try.prog 76 #[.pointer (some ⟨L, 0, none⟩), .pointer (some ⟨M, 0, none⟩)] w fun e w' => e = .returned (.bool (sameB p r c xs q s d ys)) ∧ ∃ n, w' = w.drewN n := by
  obtain ⟨a1, c1, rfl, hl1, ha1⟩ := hu
  obtain ⟨a2, c2, rfl, hl2, ha2⟩ := hv
  by_cases e0 : p = q
  · by_cases e1 : r = s
    · by_cases e2 : c = d
      · subst e0 e1 e2
        have f0 : (p != p) = false := by simp
        have f1 : (r != r) = false := by simp
        have f2 : (c != c) = false := by simp
        by_cases e3 : xs.length = ys.length
        · by_cases e4 : xs = []
          · subst e4
            obtain rfl : ys = [] := List.eq_nil_of_length_eq_zero (by simpa using e3.symm)
            rw [sameB_yes]
            exact specSame_0 h1 h2 f0 f1 f2 rfl rfl
          · rcases ha1 with h | ⟨b1, o1, rfl, _, k1⟩
            · exact absurd h e4
            rcases ha2 with h | ⟨b2, o2, rfl, _, k2⟩
            · subst h; exact absurd (List.eq_nil_of_length_eq_zero (by simpa using e3)) e4
            by_cases e5 : xs = ys
            · subst e5; rw [sameB_yes]
              exact specSame_some h1 h2 f0 f1 f2 e3 hl1 k1 k2 (.inl ⟨rfl, rfl⟩)
            · rw [sameB_no fun h => e5 h.2.2.2]
              exact specSame_some h1 h2 f0 f1 f2 e3 hl1 k1 k2 (.inr ⟨e5, rfl⟩)
        · rw [sameB_no fun h => e3 (by rw [h.2.2.2])]
          exact specSame_n h1 h2 f0 f1 f2 (by simp; omega)
      · rw [sameB_no fun h => e2 h.2.2.1]
        exact specSame_c h1 h2 (by simpa using e0) (by simpa using e1) (by simpa using e2)
    · rw [sameB_no fun h => e1 h.2.1]
      exact specSame_r h1 h2 (by simpa using e0) (by simpa using e1)
  · rw [sameB_no fun h => e0 h.1]
    exact specSame_p h1 h2 (by simpa using e0)
set_option maxRecDepth 100000 in
theorem specSM_any {p r c q s d : Int} {u v : Value} {xs ys : List Int} {w : World} (hu : IntsAt w u xs) (hv : IntsAt w v ys) :
    Calls Try.prog 29 #[.agg #[.int .i64 p, .int .i64 r, .int .i64 c, u], .agg #[.int .i64 q, .int .i64 s, .int .i64 d, v]] w fun e w' => e = .returned (.bool (sameB p r c xs q s d ys)) ∧ Below w.heap.size w w' := by
  have HU := Lib.hid hu
  have HV := Lib.hid hv
  obtain ⟨a1, c1, rfl, hl1, _⟩ := hu
  obtain ⟨a2, c2, rfl, hl2, _⟩ := hv
  go_enter Try.func29, Try.ntmps29
  go_wp2_with fail
  refine (specSame_any (PtM.new1 _ _ _ _ _ _ _) (by simpa using PtM.new (w.alloc _) q s d (.slice a2 ys.length c2) _) (HU.out.on (al1 (al1 (Below.refl _ _) _) _)) (HV.out.on (al1 (al1 (Below.refl _ _) _) _))).mono ?_
  rintro e w1 ⟨rfl, n, rfl⟩
  go_wp2_with fail
  go_ret
  exact ⟨rfl, below_drewX (al1 (al1 (Below.refl _ _) _) _) n⟩
theorem specSM_r {p r c q s d : Int} {u v : Value} {xs ys : List Int} {T : Bool} {w : World} (hu : IntsAt w u xs) (hv : IntsAt w v ys) (h : T = sameB p r c xs q s d ys) :
    Calls Try.prog 29 #[.agg #[.int .i64 p, .int .i64 r, .int .i64 c, u], .agg #[.int .i64 q, .int .i64 s, .int .i64 d, v]] w fun e w' => e = .returned (.bool T) ∧ Below w.heap.size w w' := by subst h; exact specSM_any hu hv

/-! ### The program's -/
theorem equalI_ne (a1 a2 : Option Addr) (n1 n2 c1 c2 : Nat) (w : World) (e : ((n1 : Int) != (n2 : Int)) = true) :
    Calls Try.prog 83 #[.slice a1 n1 c1, .slice a2 n2 c2] w fun e w' => e = .returned (.bool false) ∧ ∃ n, w' = w.drewN n := by
  go_enter Try.func83, Try.ntmps83
  go_wp2
  go_ret
  exact ⟨rfl, 0, rfl⟩
theorem equalI_nil (a1 a2 : Option Addr) (c1 c2 : Nat) (w : World) :
    Calls Try.prog 83 #[.slice a1 0 c1, .slice a2 0 c2] w fun e w' => e = .returned (.bool true) ∧ ∃ n, w' = w.drewN n := by
  go_enter Try.func83, Try.ntmps83
  go_wp2
  refine wp_loop_rounds 1 ?_
  rw [rounds_succ]
  go_wp2
  go_ret
  exact ⟨rfl, 0, rfl⟩
set_option maxHeartbeats 800000 in
theorem equalI_some {b1 o1 c1 b2 o2 c2 : Nat} {xs ys : List Int} {ok : Bool} {w : World} (hl : xs.length = ys.length) (hx : xs.length ≤ 1048576)
    (k1 : ∀ j (h : j < xs.length), w.cell? ⟨b1, o1 + j, none⟩ = some (.int .i64 xs[j])) (k2 : ∀ j (h : j < ys.length), w.cell? ⟨b2, o2 + j, none⟩ = some (.int .i64 ys[j])) (hok : (xs = ys ∧ ok = true) ∨ (xs ≠ ys ∧ ok = false)) :
    Calls Try.prog 83 #[.slice (some ⟨b1, o1, none⟩) xs.length c1, .slice (some ⟨b2, o2, none⟩) ys.length c2] w fun e w' => e = .returned (.bool ok) ∧ ∃ n, w' = w.drewN n := by
  have K1 := Lib.hid k1
  have K2 := Lib.hid k2
  have HK := Lib.hid hok
  have e3 : ((xs.length : Int) != (ys.length : Int)) = false := by simp; omega
  have HL := Lib.hid hl
  have hx2 : ys.length ≤ 1048576 := by omega
  clear k1 k2 hok hl
  go_enter Try.func83, Try.ntmps83
  go_wp2
  go_loopw [13] (fun i wr => ∃ k n : Nat, k ≤ xs.length ∧ i = .int .i64 (k : Int) ∧ Hid (Agree xs ys k) ∧ wr = w.drewN n) (fun i _ => xs.length - (intOf i).toNat)
  case atStart => exact ⟨0, 0, Nat.zero_le _, rfl, fun j hj => absurd hj (Nat.not_lt_zero j), rfl⟩
  case round =>
    obtain ⟨k, n, hk, rfl, HA, rfl⟩ := hrel
    by_cases hlt : k < xs.length
    · have hlt2 : k < ys.length := by have := HL.out; omega
      have g1 := K1.out k hlt
      have g2 := K2.out k hlt2
      obtain ⟨x, hx⟩ : ∃ x, xs[k] = x := ⟨_, rfl⟩
      obtain ⟨y, hy⟩ : ∃ y, ys[k] = y := ⟨_, rfl⟩
      have HX : Hid (xs.getD k 0 = x) := by show _ = _; rw [getD_in hlt]; exact hx
      have HY : Hid (ys.getD k 0 = y) := by show _ = _; rw [getD_in hlt2]; exact hy
      rw [hx] at g1
      rw [hy] at g2
      clear hx hy
      have i0 : 0 ≤ (k : Int) := by omega
      have i1 : (k : Int) < xs.length := by omega
      have i2 : (k : Int) < ys.length := by omega
      by_cases hxy : x = y
      · have HA2 : Hid (Agree xs ys (k + 1)) := by
          intro j hj
          by_cases e : j = k
          · rw [e, HX.out, HY.out, hxy]
          · exact HA.out j (by omega)
        have eb : (x != y) = false := by simpa using hxy
        clear hxy
        go_wp2
        go_quiet (fail)
        go_wp2
        go_roundw
        case rel => exact ⟨k + 1, _, by omega, by go_num, HA2, rfl⟩
        case measure => simp [intOf]; omega
      · have ek : ok = false := by
          rcases HK.out with ⟨h, _⟩ | ⟨_, h⟩
          · exfalso; apply hxy; rw [← HX.out, ← HY.out, h]
          · exact h
        subst ek
        have eb : (x != y) = true := by simpa using hxy
        clear hxy
        go_wp2
        go_quiet (fail)
        go_wp2
        go_ret
        exact ⟨rfl, _, World.drewN_drewN _ _ _⟩
    · have ek : ok = true := by
        rcases HK.out with ⟨_, h⟩ | ⟨h, _⟩
        · exact h
        · exact absurd (Agree.all (fun j hj => HA.out j (by omega)) HL.out) h
      subst ek
      go_wp2
      go_ret
      exact ⟨rfl, _, rfl⟩
/-- Two lists are equal, as a Bool. -/
def eqB (xs ys : List Int) : Bool := decide (xs = ys)
theorem equalI_any {u v : Value} {xs ys : List Int} {w : World} (hu : IntsAt w u xs) (hv : IntsAt w v ys) :
    Calls Try.prog 83 #[u, v] w fun e w' => e = .returned (.bool (eqB xs ys)) ∧ ∃ n, w' = w.drewN n := by
  obtain ⟨a1, c1, rfl, hl1, ha1⟩ := hu
  obtain ⟨a2, c2, rfl, hl2, ha2⟩ := hv
  by_cases e3 : xs.length = ys.length
  · by_cases e4 : xs = []
    · subst e4
      obtain rfl : ys = [] := List.eq_nil_of_length_eq_zero (by simpa using e3.symm)
      exact equalI_nil _ _ _ _ _
    · rcases ha1 with h | ⟨b1, o1, rfl, _, k1⟩
      · exact absurd h e4
      rcases ha2 with h | ⟨b2, o2, rfl, _, k2⟩
      · subst h; exact absurd (List.eq_nil_of_length_eq_zero (by simpa using e3)) e4
      refine equalI_some e3 hl1 k1 k2 ?_
      by_cases e5 : xs = ys
      · exact .inl ⟨e5, by simp [eqB, e5]⟩
      · exact .inr ⟨e5, by simp [eqB, e5]⟩
  · have : eqB xs ys = false := by simp only [eqB, decide_eq_false_iff_not]; exact fun h => e3 (by rw [h])
    rw [this]
    exact equalI_ne _ _ _ _ _ _ _ (by simp; omega)
set_option maxRecDepth 100000 in
theorem implSame_p {p r c q s d : Int} {u v : Value} {xs ys : List Int} {w : World} (hu : IntsAt w u xs) (hv : IntsAt w v ys) (e0 : (p == q) = false) :
    Calls Try.prog 40 #[.agg #[.int .i64 p, .int .i64 r, .int .i64 c, u], .agg #[.int .i64 q, .int .i64 s, .int .i64 d, v]] w fun e w' => e = .returned (.bool false) ∧ Below w.heap.size w w' := by
  have HU := Lib.hid hu
  have HV := Lib.hid hv
  obtain ⟨a1, c1, rfl, hl1, _⟩ := hu
  obtain ⟨a2, c2, rfl, hl2, _⟩ := hv
  go_enter Try.func40, Try.ntmps40
  go_wp2_with fail
  go_ret
  exact ⟨rfl, al1 (al1 (Below.refl _ _) _) _⟩
set_option maxRecDepth 100000 in
theorem implSame_r {p r c q s d : Int} {u v : Value} {xs ys : List Int} {w : World} (hu : IntsAt w u xs) (hv : IntsAt w v ys) (e0 : (p == q) = true) (e1 : (r == s) = false) :
    Calls Try.prog 40 #[.agg #[.int .i64 p, .int .i64 r, .int .i64 c, u], .agg #[.int .i64 q, .int .i64 s, .int .i64 d, v]] w fun e w' => e = .returned (.bool false) ∧ Below w.heap.size w w' := by
  have HU := Lib.hid hu
  have HV := Lib.hid hv
  obtain ⟨a1, c1, rfl, hl1, _⟩ := hu
  obtain ⟨a2, c2, rfl, hl2, _⟩ := hv
  go_enter Try.func40, Try.ntmps40
  go_wp2_with fail
  go_ret
  exact ⟨rfl, al1 (al1 (Below.refl _ _) _) _⟩
set_option maxRecDepth 100000 in
theorem implSame_c {p r c q s d : Int} {u v : Value} {xs ys : List Int} {w : World} (hu : IntsAt w u xs) (hv : IntsAt w v ys) (e0 : (p == q) = true) (e1 : (r == s) = true) (e2 : (c == d) = false) :
    Calls Try.prog 40 #[.agg #[.int .i64 p, .int .i64 r, .int .i64 c, u], .agg #[.int .i64 q, .int .i64 s, .int .i64 d, v]] w fun e w' => e = .returned (.bool false) ∧ Below w.heap.size w w' := by
  have HU := Lib.hid hu
  have HV := Lib.hid hv
  obtain ⟨a1, c1, rfl, hl1, _⟩ := hu
  obtain ⟨a2, c2, rfl, hl2, _⟩ := hv
  go_enter Try.func40, Try.ntmps40
  go_wp2_with fail
  go_ret
  exact ⟨rfl, al1 (al1 (Below.refl _ _) _) _⟩
set_option maxRecDepth 100000 in
theorem implSame_a {p r c q s d : Int} {u v : Value} {xs ys : List Int} {w : World} (hu : IntsAt w u xs) (hv : IntsAt w v ys) (e0 : (p == q) = true) (e1 : (r == s) = true) (e2 : (c == d) = true) :
    Calls Try.prog 40 #[.agg #[.int .i64 p, .int .i64 r, .int .i64 c, u], .agg #[.int .i64 q, .int .i64 s, .int .i64 d, v]] w fun e w' => e = .returned (.bool (eqB xs ys)) ∧ Below w.heap.size w w' := by
  have HU := Lib.hid hu
  have HV := Lib.hid hv
  obtain ⟨a1, c1, rfl, hl1, _⟩ := hu
  obtain ⟨a2, c2, rfl, hl2, _⟩ := hv
  go_enter Try.func40, Try.ntmps40
  go_wp2_with fail
  refine (equalI_any (HU.out.on (al1 (al1 (Below.refl _ _) _) _)) (HV.out.on (al1 (al1 (Below.refl _ _) _) _))).mono ?_
  rintro e w1 ⟨rfl, n, rfl⟩
  go_wp2_with fail
  go_ret
  exact ⟨rfl, below_drewX (al1 (al1 (Below.refl _ _) _) _) n⟩
theorem implSM_r {p r c q s d : Int} {u v : Value} {xs ys : List Int} {T : Bool} {w : World} (hu : IntsAt w u xs) (hv : IntsAt w v ys) (h : T = sameB p r c xs q s d ys) :
    Calls Try.prog 40 #[.agg #[.int .i64 p, .int .i64 r, .int .i64 c, u], .agg #[.int .i64 q, .int .i64 s, .int .i64 d, v]] w fun e w' => e = .returned (.bool T) ∧ Below w.heap.size w w' := by
  subst h
  by_cases e0 : p = q
  · by_cases e1 : r = s
    · by_cases e2 : c = d
      · have e : sameB p r c xs q s d ys = eqB xs ys := by unfold sameB eqB; simp [e0, e1, e2]
        rw [e]
        exact implSame_a hu hv (by simpa using e0) (by simpa using e1) (by simpa using e2)
      · rw [sameB_no fun h => e2 h.2.2.1]
        exact implSame_c hu hv (by simpa using e0) (by simpa using e1) (by simpa using e2)
    · rw [sameB_no fun h => e1 h.2.1]
      exact implSame_r hu hv (by simpa using e0) (by simpa using e1)
  · rw [sameB_no fun h => e0 h.1]
    exact implSame_p hu hv (by simpa using e0)
end Go.Proofs.Ytabanmaaagmeaaa
