/-
  The order of simplices by the program: cmp.Compare, slices.Compare, cmp.Or, comesBefore.
-/
import Derived.Test.YtibdcejglkhcfaaGreatDoorPJ
import Derived.Test.YtibdcejglkhcfaaGreatDoorSrtH
import Derived.Deep.QuietTactic
import Derived.BigQuiet
import Derived.StillTactics
namespace Go.Proofs.YtibdcejglkhcfaaGreatDoor
open Go.RowKit Go.Sort Go.Shelf
set_option linter.unusedVariables false
set_option linter.unusedSimpArgs false

/-- Some draws on, some new blocks. -/
def GR (w w' : World) : Prop := ∃ q os, w' = grow (w.drewN q) os
theorem GR.refl (w : World) : GR w w := ⟨0, #[], by rw [grow_empty]; rfl⟩
theorem GR.trans {a b c : World} (h : GR a b) (g : GR b c) : GR a c := by
  obtain ⟨q, os, rfl⟩ := h
  obtain ⟨r, ot, rfl⟩ := g
  refine ⟨q + r, os ++ ot, ?_⟩
  show grow (grow ((a.drewN q).drewN r) os) ot = _
  rw [grow_grow, World.drewN_drewN]
theorem GR.alloc {a b : World} (h : GR a b) (o : Obj) : GR a (b.alloc o) := h.trans ⟨0, #[o], by rw [alloc_eq_grow]; rfl⟩
theorem GR.drewN {a b : World} (h : GR a b) (n : Nat) : GR a (b.drewN n) := h.trans ⟨n, #[], by rw [grow_empty]⟩
theorem GR.drew {a b : World} (h : GR a b) : GR a b.drew := h.drewN 1
theorem GR.below {a b : World} (h : GR a b) : Below a.heap.size a b := by
  obtain ⟨q, os, rfl⟩ := h
  exact ⟨rfl, rfl, rfl, by rw [size_grow]; exact Nat.le_add_right _ _, fun k hk => heap_grow_old _ _ hk⟩
theorem below_kb {a b : World} (blk : Nat) (h : Below a.heap.size a b) : KB blk a b :=
  ⟨h.size, fun i o _ hi => h.cell (p := ⟨i, o, none⟩) hi, fun i o _ hi => h.frozen (p := ⟨i, o, none⟩) hi⟩
/-- The comparison of two numbers. -/
def cmpI (x y : Int) : Int := if x < y then -1 else if y < x then 1 else 0
theorem nan64_any (x : Int) (w : World) : Calls Tryz.prog 204 #[.int .i64 x] w fun e w' => e = .returned (.bool false) ∧ w = w' := by
  have hx : (x != x) = false := by simp
  go_enter Tryz.func204, Tryz.ntmps204
  go_wp2
  go_ret
  exact ⟨rfl, rfl⟩
theorem nanI_any (x : Int) (w : World) : Calls Tryz.prog 185 #[.int .i64 x] w fun e w' => e = .returned (.bool false) ∧ w = w' := by
  have hx : (x != x) = false := by simp
  go_enter Tryz.func185, Tryz.ntmps185
  go_wp2
  go_ret
  exact ⟨rfl, rfl⟩
theorem cmp64_is {x y c : Int} (w : World) (hc : cmpI x y = c) : Calls Tryz.prog 186 #[.int .i64 x, .int .i64 y] w fun e w' => e = .returned (.int .i64 c) ∧ w = w' := by
  subst hc
  unfold cmpI
  by_cases h1 : x < y
  · rw [if_pos h1]
    go_enter Tryz.func186, Tryz.ntmps186
    go_wp2_with (go_at_call 204; refine (nan64_any _ _).mono ?_; rintro e w' ⟨rfl, rfl⟩)
    go_ret
    exact ⟨rfl, rfl⟩
  · rw [if_neg h1]
    by_cases h2 : y < x
    · rw [if_pos h2]
      go_enter Tryz.func186, Tryz.ntmps186
      go_wp2_with (go_at_call 204; refine (nan64_any _ _).mono ?_; rintro e w' ⟨rfl, rfl⟩)
      go_ret
      exact ⟨rfl, rfl⟩
    · rw [if_neg h2]
      go_enter Tryz.func186, Tryz.ntmps186
      go_wp2_with (go_at_call 204; refine (nan64_any _ _).mono ?_; rintro e w' ⟨rfl, rfl⟩)
      go_ret
      exact ⟨rfl, rfl⟩
theorem cmpInt_is {x y c : Int} (w : World) (hc : cmpI x y = c) : Calls Tryz.prog 137 #[.int .i64 x, .int .i64 y] w fun e w' => e = .returned (.int .i64 c) ∧ w = w' := by
  subst hc
  unfold cmpI
  by_cases h1 : x < y
  · rw [if_pos h1]
    go_enter Tryz.func137, Tryz.ntmps137
    go_wp2_with (go_at_call 185; refine (nanI_any _ _).mono ?_; rintro e w' ⟨rfl, rfl⟩)
    go_ret
    exact ⟨rfl, rfl⟩
  · rw [if_neg h1]
    by_cases h2 : y < x
    · rw [if_pos h2]
      go_enter Tryz.func137, Tryz.ntmps137
      go_wp2_with (go_at_call 185; refine (nanI_any _ _).mono ?_; rintro e w' ⟨rfl, rfl⟩)
      go_ret
      exact ⟨rfl, rfl⟩
    · rw [if_neg h2]
      go_enter Tryz.func137, Tryz.ntmps137
      go_wp2_with (go_at_call 185; refine (nanI_any _ _).mono ?_; rintro e w' ⟨rfl, rfl⟩)
      go_ret
      exact ⟨rfl, rfl⟩
theorem cmpL_drop {xs ys : List Int} {k : Nat} (h1 : k < xs.length) (h2 : k < ys.length) : cmpL (xs.drop k) (ys.drop k) = if cmpI xs[k] ys[k] = 0 then cmpL (xs.drop (k + 1)) (ys.drop (k + 1)) else cmpI xs[k] ys[k] := by
  rw [List.drop_eq_getElem_cons h1, List.drop_eq_getElem_cons h2]
  simp only [cmpL, cmpI]
  by_cases a : xs[k] < ys[k]
  · simp [a]
  · by_cases b : ys[k] < xs[k]
    · simp [a, b]
    · simp [a, b]
theorem cmpL_long {xs ys : List Int} {k : Nat} (h1 : k < xs.length) (h2 : ys.length ≤ k) : cmpL (xs.drop k) (ys.drop k) = 1 := by
  rw [List.drop_eq_getElem_cons h1, List.drop_eq_nil_of_le h2]; rfl
theorem cmpL_short {xs ys : List Int} {k : Nat} (h1 : xs.length ≤ k) (h2 : k < ys.length) : cmpL (xs.drop k) (ys.drop k) = -1 := by
  rw [List.drop_eq_nil_of_le h1, List.drop_eq_getElem_cons h2]; rfl
theorem cmpL_both {xs ys : List Int} {k : Nat} (h1 : xs.length ≤ k) (h2 : ys.length ≤ k) : cmpL (xs.drop k) (ys.drop k) = 0 := by
  rw [List.drop_eq_nil_of_le h1, List.drop_eq_nil_of_le h2]; rfl
set_option maxHeartbeats 1600000 in
theorem cmpS_some {b1 o1 c1 b2 o2 c2 : Nat} {xs ys : List Int} {c : Int} {w : World} (hx : xs.length ≤ 1048576) (hy : ys.length ≤ 1048576)
    (k1 : ∀ j (h : j < xs.length), w.cell? ⟨b1, o1 + j, none⟩ = some (.int .i64 xs[j])) (k2 : ∀ j (h : j < ys.length), w.cell? ⟨b2, o2 + j, none⟩ = some (.int .i64 ys[j])) (hc : cmpL xs ys = c) :
    Calls Tryz.prog 138 #[.slice (some ⟨b1, o1, none⟩) xs.length c1, .slice (some ⟨b2, o2, none⟩) ys.length c2] w fun e w' => e = .returned (.int .i64 c) ∧ w = w' := by
  have K1 := Lib.hid k1
  have K2 := Lib.hid k2
  have HC := Lib.hid hc
  clear k1 k2 hc
  go_enter Tryz.func138, Tryz.ntmps138
  go_wp2
  go_loop [11] (fun i => ∃ k : Nat, k ≤ xs.length ∧ i = .int .i64 (k : Int) ∧ Hid (cmpL (xs.drop k) (ys.drop k) = c)) (fun i => xs.length - (intOf i).toNat)
  case atStart => exact ⟨0, Nat.zero_le _, rfl, HC⟩
  case round =>
    obtain ⟨k, hk, rfl, HK⟩ := hrel
    have i0 : 0 ≤ (k : Int) := by omega
    by_cases hlt : k < xs.length
    · have g1 := K1.out k hlt
      have i1 : (k : Int) < xs.length := by omega
      by_cases hlt2 : k < ys.length
      · have g2 := K2.out k hlt2
        have i2 : (k : Int) < ys.length := by omega
        have hr := cmpL_drop hlt hlt2
        rw [HK.out] at hr
        obtain ⟨x, hx⟩ : ∃ x, xs[k] = x := ⟨_, rfl⟩
        obtain ⟨y, hy⟩ : ∃ y, ys[k] = y := ⟨_, rfl⟩
        rw [hx] at g1 hr
        rw [hy] at g2 hr
        obtain ⟨m, hm⟩ : ∃ m, cmpI x y = m := ⟨_, rfl⟩
        rw [hm] at hr
        have HM := Lib.hid hm
        clear hx hy hm HK
        by_cases h0 : m = 0
        · rw [if_pos h0] at hr
          have HR : Hid (cmpL (xs.drop (k + 1)) (ys.drop (k + 1)) = c) := hr.symm
          clear hr
          subst h0
          go_wp2_with fail
          refine (cmp64_is _ HM.out).mono ?_
          rintro e w' ⟨rfl, rfl⟩
          go_wp2_with fail
          go_round
          case rel => exact ⟨k + 1, by omega, by go_num, HR⟩
          case measure => simp [intOf]; omega
        · rw [if_neg h0] at hr
          have hb : (m == 0) = false := by simpa using h0
          have hb' : (m != 0) = true := by simpa using h0
          subst hr
          go_wp2_with fail
          refine (cmp64_is _ HM.out).mono ?_
          rintro e w' ⟨rfl, rfl⟩
          go_wp2_with fail
          go_ret
          exact ⟨rfl, rfl⟩
      · have i2 : (ys.length : Int) ≤ (k : Int) := by omega
        have i3 : ys.length ≤ k := by omega
        have hr := cmpL_long hlt i3
        rw [HK.out] at hr
        subst hr
        go_wp2_with fail
        go_ret
        exact ⟨rfl, rfl⟩
    · have i1 : ¬ (k : Int) < xs.length := by omega
      by_cases hlt2 : xs.length < ys.length
      · have hr := cmpL_short (xs := xs) (ys := ys) (k := k) (by omega) (by omega)
        rw [HK.out] at hr
        subst hr
        have i2 : (xs.length : Int) < ys.length := by omega
        go_wp2_with fail
        go_ret
        exact ⟨rfl, rfl⟩
      · have hr := cmpL_both (xs := xs) (ys := ys) (k := k) (by omega) (by omega)
        rw [HK.out] at hr
        subst hr
        have i2 : ¬ (xs.length : Int) < ys.length := by omega
        go_wp2_with fail
        go_ret
        exact ⟨rfl, rfl⟩
/-- The first of two numbers that is not 0. -/
def orI (x y : Int) : Int := if x = 0 then y else x
theorem or_two {b : Nat} {x y c : Int} {w : World} (k0 : w.cell? ⟨b, 0, none⟩ = some (.int .i64 x)) (k1 : w.cell? ⟨b, 1, none⟩ = some (.int .i64 y)) (hc : orI x y = c) :
    Calls Tryz.prog 136 #[.slice (some ⟨b, 0, none⟩) 2 2] w fun e w' => e = .returned (.int .i64 c) ∧ w = w' := by
  have HC := Lib.hid hc
  clear hc
  go_enter Tryz.func136, Tryz.ntmps136
  go_wp2
  go_loop [8] (fun i => ∃ k : Nat, k ≤ 2 ∧ i = .int .i64 (k : Int) ∧ Hid ((0 < k → x = 0) ∧ (1 < k → y = 0))) (fun i => 2 - (intOf i).toNat)
  case atStart => exact ⟨0, by omega, rfl, ⟨fun h => absurd h (by omega), fun h => absurd h (by omega)⟩⟩
  case round =>
    obtain ⟨k, hk, rfl, HK⟩ := hrel
    have hk3 : k = 0 ∨ k = 1 ∨ k = 2 := by omega
    rcases hk3 with rfl | rfl | rfl
    · by_cases h0 : x = 0
      · have hb : (x != 0) = false := by simpa using h0
        have hb' : (x == 0) = true := by simpa using h0
        have H0 := Lib.hid h0
        clear h0
        go_wp2_with fail
        go_round
        case rel => exact ⟨1, by omega, by go_num, ⟨fun _ => H0.out, fun h => absurd h (by omega)⟩⟩
        case measure => simp [intOf]
      · have hb : (x != 0) = true := by simpa using h0
        have hb' : (x == 0) = false := by simpa using h0
        have ec : x = c := by rw [← HC.out]; unfold orI; rw [if_neg h0]
        subst ec
        clear HC h0
        go_wp2_with fail
        go_ret
        exact ⟨rfl, rfl⟩
    · have h0 : x = 0 := HK.out.1 (by omega)
      by_cases h1 : y = 0
      · have hb : (y != 0) = false := by simpa using h1
        have hb' : (y == 0) = true := by simpa using h1
        have H0 := Lib.hid h0
        have H1 := Lib.hid h1
        clear h0 h1
        go_wp2_with fail
        go_round
        case rel => exact ⟨2, by omega, by go_num, ⟨fun _ => H0.out, fun _ => H1.out⟩⟩
        case measure => simp [intOf]
      · have hb : (y != 0) = true := by simpa using h1
        have hb' : (y == 0) = false := by simpa using h1
        have ec : y = c := by rw [← HC.out]; unfold orI; rw [if_pos h0]
        subst ec
        clear HC h0 h1
        go_wp2_with fail
        go_ret
        exact ⟨rfl, rfl⟩
    · have h0 : x = 0 := HK.out.1 (by omega)
      have h1 : y = 0 := HK.out.2 (by omega)
      have ec : c = 0 := by rw [← HC.out]; unfold orI; rw [if_pos h0]; exact h1
      subst ec
      clear HC h0 h1
      go_wp2_with fail
      go_ret
      exact ⟨rfl, rfl⟩
theorem bef_or {a b : List Int} : decide (orI (cmpI (a.length : Int) (b.length : Int)) (cmpL a b) < 0) = befB a b := by
  unfold befB orI cmpI
  by_cases h1 : a.length < b.length
  · have h1' : (a.length : Int) < (b.length : Int) := by omega
    simp [h1, h1']
  · by_cases h2 : b.length < a.length
    · have h1' : ¬ (a.length : Int) < (b.length : Int) := by omega
      have h2' : (b.length : Int) < (a.length : Int) := by omega
      simp [h1, h1', h2', show ¬ a.length = b.length by omega]
    · have h1' : ¬ (a.length : Int) < (b.length : Int) := by omega
      have h2' : ¬ (b.length : Int) < (a.length : Int) := by omega
      simp [h1, h1', h2', show a.length = b.length by omega]
theorem two_new (w : World) (x y : Value) (t : TypeId) : (w.alloc (.cells #[x, y] t)).cell? ⟨w.heap.size, 0, none⟩ = some x ∧ (w.alloc (.cells #[x, y] t)).cell? ⟨w.heap.size, 1, none⟩ = some y := by
  constructor <;> rw [World.cell?_alloc_at _ _ _ _ rfl] <;> rfl
theorem comesBefore_is {b1 o1 c1 b2 o2 c2 : Nat} {xs ys : List Int} {T : Bool} {w : World} (hx : xs.length ≤ 1048576) (hy : ys.length ≤ 1048576)
    (k1 : ∀ j (h : j < xs.length), w.cell? ⟨b1, o1 + j, none⟩ = some (.int .i64 xs[j])) (k2 : ∀ j (h : j < ys.length), w.cell? ⟨b2, o2 + j, none⟩ = some (.int .i64 ys[j])) (hT : befB xs ys = T) :
    Calls Tryz.prog 93 #[.slice (some ⟨b1, o1, none⟩) xs.length c1, .slice (some ⟨b2, o2, none⟩) ys.length c2] w fun e w' => e = .returned (.bool T) ∧ GR w w' := by
  have K1 := Lib.hid k1
  have K2 := Lib.hid k2
  rw [← bef_or] at hT
  obtain ⟨p, hp⟩ : ∃ p, cmpI (xs.length : Int) (ys.length : Int) = p := ⟨_, rfl⟩
  obtain ⟨q, hq⟩ : ∃ q, cmpL xs ys = q := ⟨_, rfl⟩
  obtain ⟨r, hr⟩ : ∃ r, orI p q = r := ⟨_, rfl⟩
  rw [hp, hq, hr] at hT
  have HP := Lib.hid hp
  have HQ := Lib.hid hq
  have HR := Lib.hid hr
  have HT := Lib.hid hT
  clear k1 k2 hp hq hr hT
  go_enter Tryz.func93, Tryz.ntmps93
  go_wp2_with fail
  refine (cmpInt_is _ HP.out).mono ?_
  rintro e w' ⟨rfl, rfl⟩
  go_wp2_with fail
  refine (cmpS_some hx hy K1.out K2.out HQ.out).mono ?_
  rintro e w' ⟨rfl, rfl⟩
  go_wp2_with fail
  refine (or_two (two_new _ _ _ _).1 (two_new _ _ _ _).2 HR.out).mono ?_
  rintro e w' ⟨rfl, rfl⟩
  cases T with
  | true =>
    have h1 : r < 0 := of_decide_eq_true HT.out
    have h3 := HT.out
    go_wp2_with fail
    go_ret
    exact ⟨rfl, (GR.refl _).alloc _⟩
  | false =>
    have h1 : ¬ r < 0 := of_decide_eq_false HT.out
    have h2 : 0 ≤ r := by omega
    have h3 := HT.out
    clear h1
    go_wp2_with fail
    go_ret
    exact ⟨rfl, (GR.refl _).alloc _⟩
end Go.Proofs.YtibdcejglkhcfaaGreatDoor
