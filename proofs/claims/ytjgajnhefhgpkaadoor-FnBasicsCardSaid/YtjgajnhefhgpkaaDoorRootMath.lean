/-
  Plain mathematics of the program's square root, bit by bit.
-/
import Derived.Test.YtjgajnhefhgpkaaDoorMath
import Derived.Laws.BitsAllLaws
import Derived.Lib.ItoaNum
namespace Go.Proofs.YtjgajnhefhgpkaaDoor

/-- A number without its lowest k bits. -/
def top (r k : Nat) : Nat := r / 2 ^ k * 2 ^ k
theorem top_le (r k : Nat) : top r k ≤ r := Nat.div_mul_le_self r _
theorem top_zero (r : Nat) : top r 0 = r := by simp [top]
theorem top_lt (r k : Nat) (h : r < 2 ^ k) : top r k = 0 := by simp [top, Nat.div_eq_of_lt h]
theorem top_step (r j : Nat) : (top r (j + 1) + 2 ^ j ≤ r → top r j = top r (j + 1) + 2 ^ j) ∧ (¬ top r (j + 1) + 2 ^ j ≤ r → top r j = top r (j + 1)) := by
  unfold top
  rw [Nat.pow_succ, ← Nat.div_div_eq_div_mul]
  have h1 := Nat.div_add_mod r (2 ^ j)
  have h2 := Nat.mod_lt r (Nat.two_pow_pos j)
  generalize r / 2 ^ j = x at *
  generalize r % 2 ^ j = t at *
  generalize 2 ^ j = P at *
  rcases Nat.mod_two_eq_zero_or_one x with hx | hx
  · obtain ⟨y, rfl⟩ : ∃ y, x = 2 * y := ⟨x / 2, by omega⟩
    have e : 2 * y / 2 * (P * 2) = P * (2 * y) := by
      rw [Nat.mul_div_cancel_left y (by omega : 0 < 2), Nat.mul_comm y, Nat.mul_assoc]
    have e2 : 2 * y * P = P * (2 * y) := Nat.mul_comm _ _
    rw [e, e2]
    omega
  · obtain ⟨y, rfl⟩ : ∃ y, x = 2 * y + 1 := ⟨x / 2, by omega⟩
    have e : (2 * y + 1) / 2 * (P * 2) = P * (2 * y) := by
      rw [show (2 * y + 1) / 2 = y by omega, Nat.mul_comm y, Nat.mul_assoc]
    have e2 : (2 * y + 1) * P = P * (2 * y) + P := by rw [Nat.mul_comm, Nat.mul_add, Nat.mul_one]
    have e3 : P * (2 * y + 1) = P * (2 * y) + P := by rw [Nat.mul_add, Nat.mul_one]
    rw [e3] at h1
    rw [e, e2]
    omega
theorem pow_le_31 (j : Nat) (h : j ≤ 30) : 2 ^ j ≤ 1073741824 := by
  have := Nat.pow_le_pow_right (show 0 < 2 by omega) h
  omega
theorem next_bd (r j : Nat) (hr : r ≤ 3037000499) (hj : j ≤ 31) : top r (j + 1) + 2 ^ j ≤ 4294967295 := by
  by_cases h : j = 31
  · subst h; rw [top_lt r _ (by omega)]; omega
  · have := pow_le_31 j (by omega)
    have := top_le r (j + 1)
    omega
theorem or_top (r j : Nat) (hr : r ≤ 3037000499) (hj : j ≤ 31) :
    bits .or .u64 (top r (j + 1) : Int) (IntKind.u64.wrap (2 ^ j)) = ((top r (j + 1) + 2 ^ j : Nat) : Int) := by
  have hb := next_bd r j hr hj
  have hp : 2 ^ j ≤ 4294967295 := Nat.le_trans (Nat.le_add_left _ _) hb
  have hp2 : top r (j + 1) ≤ 4294967295 := Nat.le_trans (Nat.le_add_right _ _) hb
  have e : IntKind.u64.wrap (2 ^ j) = ((2 ^ j : Nat) : Int) := by
    rw [IntKind.wrap_u64, show ((2 : Int) ^ j) = ((2 ^ j : Nat) : Int) by simp]
    generalize 2 ^ j = P at hp ⊢
    omega
  rw [e, u64_or_nat _ _ (by omega) (by omega)]
  congr 1
  unfold top
  rw [Nat.mul_comm]
  exact (Nat.two_pow_add_eq_or_of_lt (Nat.pow_lt_pow_right (by omega) (by omega)) _).symm
theorem sq_wrap (x : Nat) (h : x ≤ 4294967295) : IntKind.u64.wrap ((x : Int) * (x : Int)) = (x : Int) * (x : Int) := by
  rw [mul_nat, IntKind.wrap_u64]
  have : x * x ≤ 4294967295 * 4294967295 := Nat.mul_le_mul h h
  omega
/-- What the first place of the loop says of the root. -/
theorem root_first (n : Int) (r : Nat) (L : Int) (h1 : 1 ≤ n) (h2 : n ≤ 9223372036854775807) (hr : rootI n = r) (hL : L = (Lib.bitLen n.toNat : Int)) :
    1 ≤ L ∧ L ≤ 63 ∧ ∃ k : Nat, k ≤ 32 ∧ (L - 1) / 2 = (k : Int) - 1 ∧ top r k = 0 := by
  obtain ⟨m, rfl⟩ : ∃ m : Nat, n = m := ⟨n.toNat, by omega⟩
  simp only [Int.toNat_natCast] at hL
  obtain ⟨a, b, c⟩ := Lib.bitLenAux_bounds 64 m (by omega) (by omega)
  have e : Lib.bitLen m = Lib.bitLenAux 64 m := rfl
  rw [e] at hL
  generalize Lib.bitLenAux 64 m = l at *
  have hl : l ≤ 63 := by
    apply Nat.le_of_lt_succ
    apply Nat.lt_of_not_le
    intro h
    have := Nat.pow_le_pow_right (show 0 < 2 by omega) (show 63 ≤ l - 1 by omega)
    omega
  refine ⟨by omega, by omega, (l - 1) / 2 + 1, by omega, by omega, top_lt r _ ?_⟩
  apply Nat.lt_of_not_le
  intro h
  have hrt : r = rt m := by unfold rootI at hr; simp only [Int.toNat_natCast] at hr; omega
  have h3 := (le_rt r m).mpr (by omega)
  have h4 := Nat.mul_le_mul h h
  rw [← Nat.pow_add] at h4
  have h5 := Nat.pow_le_pow_right (show 0 < 2 by omega) (show l ≤ (l - 1) / 2 + 1 + ((l - 1) / 2 + 1) by omega)
  omega
end Go.Proofs.YtjgajnhefhgpkaaDoor
