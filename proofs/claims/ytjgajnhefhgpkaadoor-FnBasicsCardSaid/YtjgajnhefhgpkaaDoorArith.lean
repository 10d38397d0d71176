/-
  Plain mathematics: the root is rounded down, the quotient is nearest, the number on a line lies between its ends.
-/
import Derived.Test.YtjgajnhefhgpkaaDoorRootI
import Derived.Test.YtjgajnhefhgpkaaDoorDivI
import Derived.Test.YtjgajnhefhgpkaaDoorBlendI
namespace Go.Proofs.YtjgajnhefhgpkaaDoor
set_option linter.unusedVariables false

theorem root_ok (a : Int) (h0 : 0 ≤ a) (h1 : a ≤ 3599780001) : 0 ≤ rootI a ∧ rootI a ≤ 60000 ∧ rootI a * rootI a ≤ a ∧ a < (rootI a + 1) * (rootI a + 1) := by
  have p := rootI_nonneg a
  refine ⟨p, ?_, ?_, ?_⟩
  · apply Int.not_lt.mp
    intro h
    have := (le_rootI a 60001 (by omega)).mpr (by omega)
    omega
  · by_cases hz : rootI a = 0
    · rw [hz]; omega
    · exact (le_rootI a _ (by omega)).mpr (Int.le_refl _)
  · apply Int.not_le.mp
    intro h
    have := (le_rootI a _ (by omega)).mp h
    omega
theorem div_pos (c b : Int) (hb : 0 < b) : 2 * (c / (2 * b) * b) ≤ c ∧ c < 2 * (c / (2 * b) * b) + 2 * b := by
  have h := Int.mul_ediv_add_emod c (2 * b)
  have l := Int.emod_nonneg c (show 2 * b ≠ 0 by omega)
  have u := Int.emod_lt_of_pos c (show 0 < 2 * b by omega)
  have e : 2 * b * (c / (2 * b)) = 2 * (c / (2 * b) * b) := by rw [Int.mul_assoc, Int.mul_comm b]
  omega
/-- The quotient's facts. -/
theorem quot_ok (a b : Int) (h0 : -100000 ≤ a) (h1 : a ≤ 3599780001) (b0 : 1 ≤ b) (b1 : b ≤ 5000) :
    -b ≤ 2 * (a - divI a b * b) ∧ 2 * (a - divI a b * b) ≤ b ∧ divI (-a) b = - divI a b ∧ -30000000000000 ≤ divI a b ∧ divI a b ≤ 30000000000000 := by
  have e1 : divI a b = nearP a b := by
    unfold divI nearI
    rw [if_neg (by omega), if_neg (by omega)]
  have e2 : divI (-a) b = nearP (-a) b := by
    unfold divI nearI
    rw [if_neg (by omega), if_neg (by omega)]
  rw [e1, e2]
  have bd := nearP_bd a b (by omega) (by omega) (by omega)
  by_cases ha : a < 0
  · have q : nearP a b = -((b - 2 * a) / (2 * b)) := by unfold nearP; rw [if_pos ha]
    have q2 : nearP (-a) b = (b - 2 * a) / (2 * b) := by
      unfold nearP; rw [if_neg (by omega)]; congr 1; omega
    have d := div_pos (b - 2 * a) b (by omega)
    have m : -((b - 2 * a) / (2 * b)) * b = -((b - 2 * a) / (2 * b) * b) := Int.neg_mul _ _
    rw [q] at bd ⊢
    rw [q2, m]
    omega
  · have q : nearP a b = (2 * a + b) / (2 * b) := by unfold nearP; rw [if_neg ha]
    have d := div_pos (2 * a + b) b (by omega)
    have q2 : nearP (-a) b = -((2 * a + b) / (2 * b)) := by
      by_cases hz : a = 0
      · subst hz
        unfold nearP
        rw [if_neg (by omega)]
        have z : b / (2 * b) = 0 := Int.ediv_eq_zero_of_lt (by omega) (by omega)
        simp [z]
      · unfold nearP
        rw [if_pos (by omega)]
        congr 2; omega
    rw [q] at bd ⊢
    rw [q2]
    omega
theorem line_mid (y d x : Int) (x0 : 0 < x) (x1 : x < 1000) (hd : -5000 ≤ d ∧ d ≤ 5000) : (0 ≤ d → 0 ≤ nearI (d * x) 1000 ∧ nearI (d * x) 1000 ≤ d) ∧ (d < 0 → d ≤ nearI (d * x) 1000 ∧ nearI (d * x) 1000 ≤ 0) := by
  have e : nearI (d * x) 1000 = nearP (d * x) 1000 := by unfold nearI; rw [if_neg (by omega)]
  rw [e]
  constructor
  · intro h
    have a : 0 ≤ d * x := Int.mul_nonneg h (by omega)
    have b : d * x ≤ d * 1000 := Int.mul_le_mul_of_nonneg_left (by omega) h
    unfold nearP
    rw [if_neg (by omega)]
    omega
  · intro h
    have a : 0 ≤ (-d) * x := Int.mul_nonneg (by omega) (by omega)
    have b : (-d) * x ≤ (-d) * 1000 := Int.mul_le_mul_of_nonneg_left (by omega) (by omega)
    rw [Int.neg_mul] at a b
    unfold nearP
    split <;> omega
theorem blend_mid (y z x : Int) (y0 : -2500 ≤ y) (y1 : y ≤ 2500) (z0 : -2500 ≤ z) (z1 : z ≤ 2500) (x0 : 0 ≤ x) (x1 : x ≤ 1000) :
    (y ≤ z → y ≤ blendI 0 y 1000 z x ∧ blendI 0 y 1000 z x ≤ z) ∧ (z < y → z ≤ blendI 0 y 1000 z x ∧ blendI 0 y 1000 z x ≤ y) := by
  have hin : inM 0 ∧ inM y ∧ inM 1000 ∧ inM z := by unfold inM; omega
  rw [blendI_in hin]
  unfold lineI
  rw [if_neg (by omega)]
  by_cases a : x ≤ 0
  · rw [if_pos a]; omega
  · rw [if_neg a]
    by_cases b : 1000 ≤ x
    · rw [if_pos b]; omega
    · rw [if_neg b]
      have m := line_mid y (z - y) x (by omega) (by omega) (by omega)
      rw [Int.sub_zero, Int.sub_zero]
      constructor
      · intro h; have := m.1 (by omega); omega
      · intro h; have := m.2 (by omega); omega
theorem blend_left (y z : Int) (y0 : -2500 ≤ y) (y1 : y ≤ 2500) (z0 : -2500 ≤ z) (z1 : z ≤ 2500) : blendI 0 y 1000 z 0 = y := by
  have hin : inM 0 ∧ inM y ∧ inM 1000 ∧ inM z := by unfold inM; omega
  rw [blendI_in hin]; unfold lineI; rw [if_neg (by omega), if_pos (by omega)]
theorem blend_right (y z : Int) (y0 : -2500 ≤ y) (y1 : y ≤ 2500) (z0 : -2500 ≤ z) (z1 : z ≤ 2500) : blendI 0 y 1000 z 1000 = z := by
  have hin : inM 0 ∧ inM y ∧ inM 1000 ∧ inM z := by unfold inM; omega
  rw [blendI_in hin]; unfold lineI; rw [if_neg (by omega), if_neg (by omega), if_pos (by omega)]
end Go.Proofs.YtjgajnhefhgpkaaDoor
