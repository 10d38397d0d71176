/-
  Plain mathematics of decimal texts: the digits from the last to the first, and the library's numeral.
-/
import Derived.Lib.ItoaNum
namespace Go.Proofs.YtjgajnhefhgpkaaDoor

/-- The decimal digits of u, the last one first; none of 0. -/
def revD (u : Nat) : List UInt8 :=
  if h : u = 0 then [] else UInt8.ofNat (48 + u % 10) :: revD (u / 10)
termination_by u
decreasing_by omega
theorem revD_zero : revD 0 = [] := by rw [revD, dif_pos rfl]
theorem revD_pos {u : Nat} (h : u ≠ 0) : revD u = UInt8.ofNat (48 + u % 10) :: revD (u / 10) := by rw [revD, dif_neg h]
theorem revD_len (k : Nat) : ∀ u, u < 10 ^ k → (revD u).length ≤ k := by
  induction k with
  | zero => intro u h; have : u = 0 := by simpa using h
            subst this; rw [revD_zero]; exact Nat.le_refl _
  | succ k ih =>
    intro u h
    by_cases h0 : u = 0
    · subst h0; rw [revD_zero]; exact Nat.zero_le _
    · rw [revD_pos h0]
      have := ih (u / 10) (by rw [Nat.pow_succ] at h; omega)
      simp only [List.length_cons]; omega
theorem dec_rev (k : Nat) : ∀ u, u ≤ k → u ≠ 0 → Lib.decDigits u = (revD u).reverse := by
  induction k with
  | zero => intro u h h0; exact absurd (Nat.le_zero.mp h) h0
  | succ k ih =>
    intro u h h0
    rw [revD_pos h0, List.reverse_cons]
    by_cases h1 : u < 10
    · rw [Lib.decDigits, dif_pos h1, show u / 10 = 0 by omega, revD_zero, show u % 10 = u by omega]; rfl
    · rw [Lib.decDigits, dif_neg h1, ih (u / 10) (by omega) (by omega)]
/-- The model's digits of n, the sign behind them. -/
def revN (n : Int) : List UInt8 := if n < 0 then revD n.natAbs ++ [45] else revD n.natAbs
theorem revN_itoa (n : Int) (h : n ≠ 0) : (revN n).reverse = Lib.itoa n := by
  unfold revN Lib.itoa
  split
  · rw [List.reverse_append, ← dec_rev n.natAbs n.natAbs (Nat.le_refl _) (by omega)]; rfl
  · rw [← dec_rev n.natAbs n.natAbs (Nat.le_refl _) (by omega), show n.natAbs = n.toNat by omega]
theorem itoa_zero : Lib.itoa 0 = [48] := by
  unfold Lib.itoa; rw [if_neg (by decide), Int.toNat_zero, Lib.decDigits, dif_pos (by decide)]; rfl
theorem revD_len20 (n : Int) (h0 : -9223372036854775808 ≤ n) (h1 : n ≤ 9223372036854775807) : (revD n.natAbs).length ≤ 20 := by
  apply revD_len
  have : n.natAbs ≤ 9223372036854775808 := by omega
  exact Nat.lt_of_le_of_lt this (by decide)
theorem ofNat_dig (d : Nat) (h : d < 10) : ((UInt8.ofNat (48 + d)).toNat : Int) = 48 + (d : Int) := by
  have : (UInt8.ofNat (48 + d)).toNat = 48 + d := by
    rw [UInt8.toNat_ofNat']; omega
  rw [this]; rfl
end Go.Proofs.YtjgajnhefhgpkaaDoor
