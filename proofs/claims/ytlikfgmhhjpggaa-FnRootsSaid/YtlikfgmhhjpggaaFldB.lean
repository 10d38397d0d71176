/-
  Contracts of the model's arithmetic modulo a prime: rests, powers, inverses, orders, roots, and the code for a prime and a number.
-/
import Derived.Test.YtlikfgmhhjpggaaFldA
namespace Go.Proofs.Ytlikfgmhhjpggaa
open Go.RowKit
set_option linter.unusedVariables false

theorem prod_bd {a b p : Int} (hp : p ≤ 251) (a0 : 0 ≤ a) (a1 : a < p) (b0 : 0 ≤ b) (b1 : b < p) : 0 ≤ a * b ∧ a * b ≤ 62500 := by
  have h := Int.mul_le_mul (show a ≤ 250 by omega) (show b ≤ 250 by omega) b0 (by omega)
  exact ⟨Int.mul_nonneg a0 b0, by omega⟩
theorem rem_bd (X : Int) {p : Int} (hp : 2 ≤ p) : 0 ≤ X % p ∧ X % p < p := ⟨Int.emod_nonneg _ (by omega), Int.emod_lt_of_pos _ (by omega)⟩

/-! ### Rests -/
theorem tmod_bd (a p : Int) (h : 2 ≤ p) : -p < a.tmod p ∧ a.tmod p < p := ⟨Int.lt_tmod_of_pos a (by omega), Int.tmod_lt_of_pos a (by omega)⟩
theorem tmod_mod (a p : Int) (h : 2 ≤ p) : (a.tmod p) % p = a % p := by
  have e := Int.mul_tdiv_add_tmod a p
  conv => rhs; rw [← e, Int.add_comm, Int.add_mul_emod_self_left]
theorem specMod_any (a p : Int) (w : World) (h0 : 2 ≤ p) (h1 : p ≤ 251) :
    Calls Try.prog 73 #[.int .i64 a, .int .i64 p] w fun e w' => e = .returned (.int .i64 (a % p)) ∧ w = w' := by
  have hb := tmod_bd a p h0
  have hm := tmod_mod a p h0
  obtain ⟨r, hr⟩ : ∃ r, a.tmod p = r := ⟨_, rfl⟩
  rw [hr] at hb hm
  obtain ⟨b0, b1⟩ := hb
  have wr : IntKind.i64.wrap r = r := IntWalk.i64_in _ (by omega)
  have kz : ¬ p = 0 := by omega
  have HM : Hid ((r + p) % p = a % p) := by show _ = _; rw [Int.add_emod_right]; exact hm
  clear hm
  go_enter Try.func73, Try.ntmps73
  go_wp2
  go_ret
  exact ⟨ret_i HM.out, rfl⟩
theorem implMod_any (a p : Int) (w : World) (h0 : 2 ≤ p) (h1 : p ≤ 251) :
    Calls Try.prog 74 #[.int .i64 a, .int .i64 p] w fun e w' => e = .returned (.int .i64 (a % p)) ∧ w = w' := by
  have hb := tmod_bd a p h0
  have hm := tmod_mod a p h0
  obtain ⟨r, hr⟩ : ∃ r, a.tmod p = r := ⟨_, rfl⟩
  rw [hr] at hb hm
  obtain ⟨b0, b1⟩ := hb
  have wr : IntKind.i64.wrap r = r := IntWalk.i64_in _ (by omega)
  have kz : ¬ p = 0 := by omega
  by_cases hn : r < 0
  · have HM : Hid (r + p = a % p) := by
      show _ = _; rw [← hm, ← Int.add_emod_right]; exact (Int.emod_eq_of_lt (by omega) (by omega)).symm
    clear hm
    go_enter Try.func74, Try.ntmps74
    go_wp2
    go_ret
    exact ⟨ret_i HM.out, rfl⟩
  · have HM : Hid (r = a % p) := by
      show _ = _; rw [← hm]; exact (Int.emod_eq_of_lt (by omega) (by omega)).symm
    clear hm
    go_enter Try.func74, Try.ntmps74
    go_wp2
    go_ret
    exact ⟨ret_i HM.out, rfl⟩

/-! ### Powers -/
theorem toNat_half {m : Int} (h : 0 ≤ m) : (m / 2).toNat = m.toNat / 2 := by omega
theorem specPow_any (a n p : Int) (w : World) (h0 : 2 ≤ p) (h1 : p ≤ 251) (a0 : 0 ≤ a) (a1 : a < p) (n0 : 0 ≤ n) (n1 : n ≤ 1000000000000) :
    Calls Try.prog 78 #[.int .i64 a, .int .i64 n, .int .i64 p] w fun e w' => e = .returned (.int .i64 (pw a p n.toNat)) ∧ w = w' := by
  have kz : ¬ p = 0 := by omega
  have H1 : Hid ((1 : Int) % p = 1) := Int.emod_eq_of_lt (by omega) (by omega)
  go_enter Try.func78, Try.ntmps78
  go_wp2
  go_loop [0, 1, 7] (fun x i o => ∃ x' m o' : Int, 0 ≤ x' ∧ x' < p ∧ 0 ≤ m ∧ m ≤ 1000000000000 ∧ 0 ≤ o' ∧ o' < p ∧ x = .int .i64 x' ∧ i = .int .i64 m ∧ o = .int .i64 o' ∧ Hid (o' * x' ^ m.toNat % p = pw a p n.toNat)) (fun _ i _ => (intOf i).toNat)
  case atStart => exact ⟨a, n, 1 % p, a0, a1, n0, n1, (rem_bd 1 h0).1, (rem_bd 1 h0).2, rfl, rfl, rfl, by show _ = _; rw [H1.out, Int.one_mul]; rfl⟩
  case round =>
    obtain ⟨x, m, o, x0, x1, m0, m1, o0, o1, rfl, rfl, rfl, HI⟩ := hrel
    obtain ⟨p0, p1⟩ := prod_bd h1 x0 x1 x0 x1
    obtain ⟨q0, q1⟩ := prod_bd h1 o0 o1 x0 x1
    have HX := Lib.hid (rem_bd (x * x) h0)
    have HO := Lib.hid (rem_bd (o * x) h0)
    by_cases hm : 0 < m
    · by_cases hodd : m % 2 = 1
      · have HN : Hid (o * x % p * (x * x % p) ^ (m / 2).toNat % p = pw a p n.toNat) := by
          show _ = _; rw [toNat_half m0, sq_odd _ _ _ _ (by omega)]; exact HI.out
        go_wp2
        go_round
        case rel => exact ⟨x * x % p, m / 2, o * x % p, HX.out.1, HX.out.2, by omega, by omega, HO.out.1, HO.out.2, rfl, rfl, rfl, HN⟩
        case measure => simp [intOf]; omega
      · have HN : Hid (o * (x * x % p) ^ (m / 2).toNat % p = pw a p n.toNat) := by
          show _ = _; rw [toNat_half m0, sq_even _ _ _ _ (by omega)]; exact HI.out
        have hev : m % 2 = 0 := by omega
        clear hodd
        go_wp2
        go_round
        case rel => exact ⟨x * x % p, m / 2, o, HX.out.1, HX.out.2, by omega, by omega, o0, o1, rfl, rfl, rfl, HN⟩
        case measure => simp [intOf]; omega
    · obtain rfl : m = 0 := by omega
      have HE : Hid (o = pw a p n.toNat) := by
        have := HI.out
        rw [show (0 : Int).toNat = 0 by rfl, Int.pow_zero, Int.mul_one, Int.emod_eq_of_lt o0 o1] at this
        exact this
      go_wp2
      go_ret
      exact ⟨ret_i HE.out, rfl⟩
theorem specInv_any (a x p : Int) (w : World) (hp : IsPr p) (a0 : 1 ≤ a) (a1 : a < p) (hx : IsInv p a x) :
    Calls Try.prog 76 #[.int .i64 a, .int .i64 p] w fun e w' => e = .returned (.int .i64 x) ∧ w = w' := by
  have h0 := hp.1
  have h1 := hp.2.1
  have HE := Lib.hid (inv_uniq (inv_pw hp a0 a1) hx)
  clear hp hx
  go_enter Try.func76, Try.ntmps76
  go_wp2_with fail
  refine (specPow_any a (p - 2) p w h0 h1 (by omega) a1 (by omega) (by omega)).mono ?_
  rintro e w' ⟨rfl, rfl⟩
  go_wp2_with fail
  go_ret
  exact ⟨ret_i HE.out, rfl⟩

/-! ### Orders -/
theorem specOrd_any (a p : Int) (n : Nat) (w : World) (h0 : 2 ≤ p) (h1 : p ≤ 251) (a0 : 1 ≤ a) (a1 : a < p) (hn : IsOrd a p n) (hn1 : (n : Int) ≤ p - 1) :
    Calls Try.prog 79 #[.int .i64 a, .int .i64 p] w fun e w' => e = .returned (.int .i64 (n : Int)) ∧ w = w' := by
  have kz : ¬ p = 0 := by omega
  have HP := Lib.hid (pw_one (by omega : 0 ≤ a) a1)
  have HN := Lib.hid hn
  have n1 := hn.1
  clear hn
  go_enter Try.func79, Try.ntmps79
  go_wp2
  go_loop [5, 6] (fun i x => ∃ (k : Nat) (y : Int), 1 ≤ k ∧ k ≤ n ∧ 0 ≤ y ∧ y < p ∧ i = .int .i64 (k : Int) ∧ x = .int .i64 y ∧ Hid (pw a p k = y)) (fun i _ => n - (intOf i).toNat)
  case atStart => exact ⟨1, a, by omega, n1, by omega, a1, rfl, rfl, HP⟩
  case round =>
    obtain ⟨k, y, k0, k1, y0, y1, rfl, rfl, HY⟩ := hrel
    obtain ⟨p0, p1⟩ := prod_bd h1 y0 y1 (by omega : 0 ≤ a) a1
    have HX := Lib.hid (rem_bd (y * a) h0)
    have HY2 : Hid (pw a p (k + 1) = y * a % p) := by show _ = _; rw [← pw_succ, HY.out]
    by_cases hk : k = n
    · subst hk
      have hy : y = 1 := by rw [← HY.out]; exact HN.out.2.1
      subst hy
      go_wp2
      go_ret
      exact ⟨rfl, rfl⟩
    · have hy : y ≠ 1 := by rw [← HY.out]; exact HN.out.2.2 k k0 (by omega)
      have hy' : (y != 1) = true := by simpa using hy
      clear hy
      go_wp2
      go_round
      case rel => exact ⟨k + 1, y * a % p, by omega, by omega, HX.out.1, HX.out.2, by go_num, rfl, HY2⟩
      case measure => simp [intOf]; omega

/-! ### Roots -/
theorem specRt_yes (a p x : Int) (w : World) (h0 : 2 ≤ p) (h1 : p ≤ 251) (hx : IsRt a p x) :
    Calls Try.prog 80 #[.int .i64 a, .int .i64 p] w fun e w' => e = .returned (.int .i64 x) ∧ w = w' := by
  have kz : ¬ p = 0 := by omega
  obtain ⟨x0, x1, x2, x3⟩ := hx
  have H2 := Lib.hid x2
  have H3 := Lib.hid x3
  clear x2 x3
  go_enter Try.func80, Try.ntmps80
  go_wp2
  go_loop [5] (fun i => ∃ k : Int, 0 ≤ k ∧ k ≤ x ∧ i = .int .i64 k) (fun i => (x - intOf i).toNat)
  case atStart => exact ⟨0, by omega, x0, rfl⟩
  case round =>
    obtain ⟨k, k0, k1, rfl⟩ := hrel
    obtain ⟨p0, p1⟩ := prod_bd h1 k0 (by omega) k0 (by omega)
    have hkp : k < p := by omega
    by_cases hk : k = x
    · subst hk
      have hr := H2.out
      go_wp2
      go_ret
      exact ⟨rfl, rfl⟩
    · have hr := H3.out k k0 (by omega)
      obtain ⟨r, hrr⟩ : ∃ r, k * k % p = r := ⟨_, rfl⟩
      rw [hrr] at hr
      have hr' : (r == a) = false := by simpa using hr
      clear hr
      go_wp2
      go_round
      case rel => exact ⟨k + 1, by omega, by omega, by go_num⟩
      case measure => simp [intOf]; omega
theorem specRt_no (a p : Int) (w : World) (h0 : 2 ≤ p) (h1 : p ≤ 251) (hx : NoRt a p) :
    Calls Try.prog 80 #[.int .i64 a, .int .i64 p] w fun e w' => e = .returned (.int .i64 (-1)) ∧ w = w' := by
  have kz : ¬ p = 0 := by omega
  have H3 := Lib.hid hx
  clear hx
  go_enter Try.func80, Try.ntmps80
  go_wp2
  go_loop [5] (fun i => ∃ k : Int, 0 ≤ k ∧ k ≤ p ∧ i = .int .i64 k) (fun i => (p - intOf i).toNat)
  case atStart => exact ⟨0, by omega, by omega, rfl⟩
  case round =>
    obtain ⟨k, k0, k1, rfl⟩ := hrel
    by_cases hk : k < p
    · obtain ⟨p0, p1⟩ := prod_bd h1 k0 hk k0 hk
      have hr := H3.out k k0 hk
      obtain ⟨r, hrr⟩ : ∃ r, k * k % p = r := ⟨_, rfl⟩
      rw [hrr] at hr
      have hr' : (r == a) = false := by simpa using hr
      clear hr
      go_wp2
      go_round
      case rel => exact ⟨k + 1, by omega, by omega, by go_num⟩
      case measure => simp [intOf]; omega
    · go_wp2
      go_ret
      exact ⟨rfl, rfl⟩

/-! ### The code for a prime and a number -/
/-- The first fault of a prime and a number: 1 no prime, 2 no number modulo it, 0 none. -/
def Ask (a p c : Int) : Prop := (¬ IsPr p ∧ c = 1) ∨ (IsPr p ∧ (a < 0 ∨ p - 1 < a) ∧ c = 2) ∨ (IsPr p ∧ 0 ≤ a ∧ a < p ∧ c = 0)
theorem ask_has (a p : Int) : ∃ c, Ask a p c := by
  by_cases hp : IsPr p
  · by_cases ha : a < 0 ∨ p - 1 < a
    · exact ⟨2, .inr (.inl ⟨hp, ha, rfl⟩)⟩
    · exact ⟨0, .inr (.inr ⟨hp, by omega, by omega, rfl⟩)⟩
  · exact ⟨1, .inl ⟨hp, rfl⟩⟩
theorem specAsk_any {a p c : Int} (w : World) (h : Ask a p c) :
    Calls Try.prog 75 #[.int .i64 a, .int .i64 p] w fun e w' => e = .returned (.int .i64 c) ∧ w = w' := by
  rcases h with ⟨hp, rfl⟩ | ⟨hp, ha, rfl⟩ | ⟨hp, a0, a1, rfl⟩
  · have HP := Lib.hid hp; clear hp
    go_enter Try.func75, Try.ntmps75
    go_wp2_with fail
    refine (specPrime_no _ _ HP.out).mono ?_
    rintro e w' ⟨rfl, rfl⟩
    go_wp2_with fail
    go_ret
    exact ⟨rfl, rfl⟩
  · have h0 := hp.1
    have h1 := hp.2.1
    have HP := Lib.hid hp; clear hp
    have HA := Lib.hid ha; clear ha
    go_enter Try.func75, Try.ntmps75
    go_wp2_with fail
    refine (specPrime_yes _ _ HP.out).mono ?_
    rintro e w' ⟨rfl, rfl⟩
    go_wp2_with fail
    refine (l00In_no _ _ _ _ HA.out).mono ?_
    rintro e w' ⟨rfl, rfl⟩
    go_wp2_with fail
    go_ret
    exact ⟨rfl, rfl⟩
  · have h0 := hp.1
    have h1 := hp.2.1
    have HP := Lib.hid hp; clear hp
    go_enter Try.func75, Try.ntmps75
    go_wp2_with fail
    refine (specPrime_yes _ _ HP.out).mono ?_
    rintro e w' ⟨rfl, rfl⟩
    go_wp2_with fail
    refine (l00In_yes _ _ _ _ a0 (by omega)).mono ?_
    rintro e w' ⟨rfl, rfl⟩
    go_wp2_with fail
    go_ret
    exact ⟨rfl, rfl⟩
end Go.Proofs.Ytlikfgmhhjpggaa
