/-
  Plain mathematics of rounding to the nearest quotient.
-/
import Derived.IntWalk
namespace Go.Proofs.YtjgajnhefhgpkaaDoor

/-- The nearest quotient of a and b > 0, halves away from 0. -/
def nearP (a b : Int) : Int := if a < 0 then -((b - 2 * a) / (2 * b)) else (2 * a + b) / (2 * b)
/-- The nearest quotient of a and b, halves away from 0 (b is not 0). -/
def nearI (a b : Int) : Int := if b < 0 then nearP (-a) (-b) else nearP a b

/-- The program's way: the quotient cut toward 0, one more or less where twice the rest reaches the divisor. -/
def stepI (a b : Int) : Int :=
  if (a.tmod b).natAbs < b.natAbs - (a.tmod b).natAbs then a.tdiv b else if (decide (a < 0) == decide (b < 0)) = true then a.tdiv b + 1 else a.tdiv b - 1

theorem half_up (q r b : Int) (hb : 0 < b) (h0 : 0 ≤ r) (h1 : r < b) :
    (2 * (b * q + r) + b) / (2 * b) = if 2 * r < b then q else q + 1 := by
  have e : 2 * (b * q + r) + b = (2 * r + b) + (2 * b) * q := by
    rw [Int.mul_add, Int.mul_assoc]; omega
  rw [e, Int.add_mul_ediv_left _ _ (by omega)]
  split
  · rw [Int.ediv_eq_zero_of_lt (by omega) (by omega)]; omega
  · have : (2 * r + b) / (2 * b) = 1 := by
      rw [show 2 * r + b = (2 * r - b) + (2 * b) * 1 by omega, Int.add_mul_ediv_left _ _ (by omega), Int.ediv_eq_zero_of_lt (by omega) (by omega)]; rfl
    omega
theorem nearP_pos (a b : Int) (hb : 0 < b) (ha : 0 ≤ a) : nearP a b = if 2 * (a % b) < b then a / b else a / b + 1 := by
  unfold nearP
  rw [if_neg (by omega)]
  have h := Int.mul_ediv_add_emod a b
  have := half_up (a / b) (a % b) b hb (Int.emod_nonneg _ (by omega)) (Int.emod_lt_of_pos _ hb)
  rw [h] at this
  exact this
theorem nearP_neg (a b : Int) (_hb : 0 < b) (ha : a < 0) : nearP a b = - nearP (-a) b := by
  unfold nearP
  rw [if_pos ha, if_neg (by omega)]
  congr 2
  omega
theorem stepI_pp (a b : Int) (hb : 0 < b) (ha : 0 ≤ a) : stepI a b = nearP a b := by
  rw [nearP_pos a b hb ha]
  unfold stepI
  rw [Int.tmod_eq_emod_of_nonneg ha, Int.tdiv_eq_ediv_of_nonneg ha]
  have h0 := Int.emod_nonneg a (show b ≠ 0 by omega)
  have h1 := Int.emod_lt_of_pos a hb
  have e1 : decide (a < 0) = false := by simpa using ha
  have e2 : decide (b < 0) = false := by simp; omega
  rw [e1, e2]
  simp only [beq_self_eq_true, if_true]
  generalize a % b = r at *
  by_cases h : 2 * r < b
  · rw [if_pos h, if_pos (by omega)]
  · rw [if_neg h, if_neg (by omega)]
theorem stepI_np (a b : Int) (hb : 0 < b) (ha : a < 0) : stepI a b = nearP a b := by
  rw [nearP_neg a b hb ha, ← stepI_pp (-a) b hb (by omega)]
  unfold stepI
  rw [Int.neg_tmod, Int.neg_tdiv]
  have e1 : decide (a < 0) = true := by simpa using ha
  have e2 : decide (b < 0) = false := by simp; omega
  have e3 : decide (-a < 0) = false := by simp; omega
  rw [e1, e2, e3, Int.natAbs_neg]
  have e4 : (true == false) = false := rfl
  have e5 : (false == false) = true := rfl
  rw [e4, e5]
  by_cases hc : (a.tmod b).natAbs < b.natAbs - (a.tmod b).natAbs
  · rw [if_pos hc, if_pos hc, Int.neg_neg]
  · rw [if_neg hc, if_neg hc, if_neg (by decide), if_pos rfl]; omega
theorem stepI_n (a b : Int) (hb : b < 0) : stepI a b = stepI (-a) (-b) ∨ a = 0 := by
  by_cases h : a = 0
  · exact .inr h
  · left
    unfold stepI
    rw [Int.neg_tmod, Int.neg_tdiv, Int.tmod_neg, Int.tdiv_neg, Int.neg_neg, Int.natAbs_neg, Int.natAbs_neg]
    have e2 : decide (b < 0) = true := by simpa using hb
    have e3 : decide (-b < 0) = false := by simp; omega
    rw [e2, e3]
    rcases Int.lt_or_gt_of_ne h with h | h
    · have e1 : decide (a < 0) = true := by simpa using h
      have e4 : decide (-a < 0) = false := by simp; omega
      rw [e1, e4]; rfl
    · have e1 : decide (a < 0) = false := by simp; omega
      have e4 : decide (-a < 0) = true := by simp; omega
      rw [e1, e4]; rfl
theorem stepI_zero (b : Int) (hb : b ≠ 0) : stepI 0 b = 0 := by
  unfold stepI
  rw [Int.zero_tmod, Int.zero_tdiv, if_pos (by simp; omega)]
/-- The program's way and the model's way give one number. -/
theorem stepI_eq (a b : Int) (hb : b ≠ 0) : stepI a b = nearI a b := by
  unfold nearI
  split
  · rename_i h
    rcases stepI_n a b h with e | rfl
    · rw [e]
      by_cases ha : 0 ≤ -a
      · exact stepI_pp _ _ (by omega) ha
      · exact stepI_np _ _ (by omega) (by omega)
    · rw [stepI_zero b hb]
      have : nearP (-0) (-b) = 0 := by
        rw [nearP_pos _ _ (by omega) (by omega)]; simp; omega
      exact this.symm
  · by_cases ha : 0 ≤ a
    · exact stepI_pp _ _ (by omega) ha
    · exact stepI_np _ _ (by omega) (by omega)
end Go.Proofs.YtjgajnhefhgpkaaDoor
