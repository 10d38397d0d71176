/-
  Plain mathematics for the laws of the basics; it imports nothing of the translation.
-/
namespace Go.Proofs.YtjgajnhefhgpkaaDoor

/-- The square root of a natural number, rounded down. -/
def rt : Nat → Nat
  | 0 => 0
  | k + 1 => if (rt k + 1) * (rt k + 1) ≤ k + 1 then rt k + 1 else rt k
theorem sq_le {a b : Nat} (h : a ≤ b) : a * a ≤ b * b := Nat.mul_le_mul h h
theorem sq_lt {a b : Nat} (h : a < b) : a * a < b * b := Nat.mul_lt_mul'' h h
theorem rt_spec (k : Nat) : rt k * rt k ≤ k ∧ k < (rt k + 1) * (rt k + 1) := by
  induction k with
  | zero => decide
  | succ k ih =>
    obtain ⟨h1, h2⟩ := ih
    unfold rt
    split
    · rename_i h
      refine ⟨h, ?_⟩
      have := sq_lt (show rt k + 1 < rt k + 1 + 1 by omega)
      omega
    · rename_i h
      exact ⟨by omega, by omega⟩
theorem le_rt (m k : Nat) : m * m ≤ k ↔ m ≤ rt k := by
  obtain ⟨h1, h2⟩ := rt_spec k
  constructor
  · intro h
    apply Nat.le_of_lt_succ
    apply Nat.lt_of_not_le
    intro h3
    have := sq_le h3
    simp only [Nat.succ_eq_add_one] at this
    omega
  · intro h
    exact Nat.le_trans (sq_le h) h1

/-- The square root of an integer, rounded down; 0 of a negative one. -/
def rootI (n : Int) : Int := (rt n.toNat : Int)
theorem rootI_nonneg (n : Int) : 0 ≤ rootI n := by unfold rootI; omega
theorem rootI_neg (n : Int) (h : n ≤ 0) : rootI n = 0 := by
  unfold rootI; rw [show n.toNat = 0 by omega]; rfl
theorem mul_nat (m : Nat) : (m : Int) * (m : Int) = ((m * m : Nat) : Int) := by simp
theorem le_rootI (n m : Int) (h : 1 ≤ m) : m * m ≤ n ↔ m ≤ rootI n := by
  obtain ⟨k, rfl⟩ : ∃ k : Nat, m = k := ⟨m.toNat, by omega⟩
  rw [mul_nat]
  by_cases hn : 0 ≤ n
  · obtain ⟨j, rfl⟩ : ∃ j : Nat, n = j := ⟨n.toNat, by omega⟩
    unfold rootI
    have := le_rt k j
    simp only [Int.toNat_natCast]
    omega
  · rw [rootI_neg n (by omega)]
    have : 1 * 1 ≤ k * k := Nat.mul_le_mul (by omega) (by omega)
    omega
theorem rootI_le (n : Int) (h : n ≤ 9223372036854775807) : rootI n ≤ 3037000499 := by
  apply Int.not_lt.mp
  intro h2
  have h3 := (le_rootI n 3037000500 (by omega)).mpr (by omega)
  omega
theorem sq_bd (m : Int) (h0 : 0 ≤ m) (h1 : m ≤ 3037000499) : 0 ≤ m * m ∧ m * m ≤ 9223372030926249001 := by
  obtain ⟨k, rfl⟩ : ∃ k : Nat, m = k := ⟨m.toNat, by omega⟩
  rw [mul_nat]
  have : k * k ≤ 3037000499 * 3037000499 := sq_le (by omega)
  omega
end Go.Proofs.YtjgajnhefhgpkaaDoor
