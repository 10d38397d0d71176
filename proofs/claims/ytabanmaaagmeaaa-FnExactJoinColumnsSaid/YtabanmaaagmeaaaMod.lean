/-
  Numbers modulo a prime as they lie in memory, and the cells of a matrix. Plain mathematics.
-/
import Derived.Test.YtabanmaaagmeaaaLin
import Derived.Test.YtabanmaaagmeaaaFldMath
import Derived.Test.YtabanmaaagmeaaaNumsP
namespace Go.Proofs.Ytabanmaaagmeaaa
set_option linter.unusedVariables false
open Lin
set_option linter.unusedSectionVars false
/-! ### Numbers modulo a prime, as they lie in memory -/
section
variable {q : Nat} [NeZero q]
/-- A number modulo q as it lies in memory. -/
def fv (a : Fin q) : Int := (a.val : Int)
theorem fv_nn (a : Fin q) : 0 ≤ fv a := Int.natCast_nonneg _
theorem fv_lt (a : Fin q) : fv a < q := by unfold fv; have := a.isLt; omega
theorem fv_inj {a b : Fin q} (h : fv a = fv b) : a = b := by unfold fv at h; exact Fin.ext (by omega)
theorem fv_eq {a : Fin q} {x : Int} (h0 : 0 ≤ x) (h1 : x < q) (h : ∃ k, x = fv a + q * k) : x = fv a := by
  obtain ⟨k, hk⟩ := h
  have a0 := fv_nn a
  have a1 := fv_lt a
  have e := congrArg (· % (q : Int)) hk
  simp only [Int.add_mul_emod_self_left] at e
  rwa [Int.emod_eq_of_lt h0 h1, Int.emod_eq_of_lt a0 a1] at e
theorem fv_mod (a : Fin q) : fv a % q = fv a := Int.emod_eq_of_lt (fv_nn a) (fv_lt a)
theorem fv_add (a b : Fin q) : (fv a + fv b) % q = fv (a + b) := by
  unfold fv; rw [Fin.val_add, Int.natCast_emod, Int.natCast_add]
theorem fv_mul (a b : Fin q) : fv a * fv b % q = fv (a * b) := by
  unfold fv; rw [Fin.val_mul, Int.natCast_emod, Int.natCast_mul]
theorem fv_addmul (a b c : Fin q) : (fv a + fv b * fv c) % q = fv (a + b * c) := by
  rw [← fv_add, ← fv_mul, Int.add_emod_emod]
theorem fv_zero : fv (0 : Fin q) = 0 := by unfold fv; simp
theorem fv_neg (a : Fin q) : (-fv a) % q = fv (-a) := by
  have h : fv (a + -a) = 0 := by rw [show a + -a = 0 by grind]; exact fv_zero
  rw [← fv_add] at h
  have h2 : (-fv a) % q = (fv (-a)) % q := by
    rw [Int.emod_eq_emod_iff_emod_sub_eq_zero]
    have : -fv a - fv (-a) = -(fv a + fv (-a)) := by omega
    rw [this]
    exact Int.emod_eq_zero_of_dvd ((Int.dvd_neg).2 (Int.dvd_of_emod_eq_zero h))
  rw [h2, fv_mod]
theorem fv_submul (a b c : Fin q) : (fv a - fv b * fv c) % q = fv (a - b * c) := by
  rw [show a - b * c = a + (-b) * c by grind, ← fv_addmul, ← fv_neg, Int.add_emod, Int.mul_emod, Int.emod_emod, ← Int.mul_emod, ← Int.add_emod, show fv a - fv b * fv c = fv a + -fv b * fv c by rw [Int.neg_mul]; omega]
theorem fv_of {x : Int} (h0 : 0 ≤ x) (h1 : x < q) : ∃ a : Fin q, fv a = x := ⟨⟨x.toNat, by omega⟩, by unfold fv; simp; omega⟩
theorem fv_one (h : 2 ≤ q) : fv (1 : Fin q) = 1 := by
  have : ((1 : Fin q)).val = 1 % q := rfl
  unfold fv
  rw [this, Nat.mod_eq_of_lt (by omega)]; rfl
theorem fv_eq_zero {a : Fin q} : fv a = 0 ↔ a = 0 := ⟨fun h => fv_inj (h.trans fv_zero.symm), fun h => by rw [h]; exact fv_zero⟩
theorem fd_of (h : IsPr (q : Int)) : FldP q := by
  have h2 : 2 ≤ q := by have := h.1; omega
  refine ⟨fun e => ?_, fun a ha => ?_⟩
  · have := congrArg fv e
    rw [fv_zero, fv_one h2] at this
    omega
  · have h0 : fv a ≠ 0 := fun e => ha (fv_eq_zero.1 e)
    have hn := fv_nn a
    obtain ⟨hx0, hx1, hx2⟩ := inv_pw h (show 1 ≤ fv a by omega) (fv_lt a)
    obtain ⟨x, hx⟩ : ∃ x, pw (fv a) q (((q : Int) - 2).toNat) = x := ⟨_, rfl⟩
    rw [hx] at hx0 hx1 hx2
    obtain ⟨b, rfl⟩ := fv_of hx0 hx1
    refine ⟨b, fv_inj ?_⟩
    rw [← fv_mul, Int.mul_comm, hx2, fv_one h2]
theorem finv_of {a : Fin q} {x : Int} (h2 : 2 ≤ q) (h : IsInv (q : Int) (fv a) x) : x = fv (finv a) := by
  obtain ⟨hx0, hx1, hx2⟩ := h
  obtain ⟨b, rfl⟩ := fv_of hx0 hx1
  rw [finv_one (a := a) (b := b) (fv_inj (by rw [← fv_mul, Int.mul_comm, hx2, fv_one h2]))]

/-! ### The cells of a matrix -/
/-- The cells of a matrix of m rows and n columns, row by row. -/
def flat (m n : Nat) (A : Mt q) : List Int := (List.range (m * n)).map fun t => fv (A (t / n) (t % n))
theorem flat_len (m n : Nat) (A : Mt q) : (flat m n A).length = m * n := by simp [flat]
theorem flat_at (m n : Nat) (A : Mt q) (t : Nat) (h : t < (flat m n A).length) : (flat m n A)[t] = fv (A (t / n) (t % n)) := by simp [flat]
theorem idx_lt {m n i j : Nat} (hi : i < m) (hj : j < n) : i * n + j < m * n := by
  have := Nat.mul_le_mul_right n (show i + 1 ≤ m from hi)
  rw [Nat.add_mul] at this; omega
theorem idx_div {n i j : Nat} (hj : j < n) : (i * n + j) / n = i := by
  rw [Nat.mul_comm, Nat.mul_add_div (by omega), Nat.div_eq_of_lt hj]; omega
theorem idx_mod {n i j : Nat} (hj : j < n) : (i * n + j) % n = j := by
  rw [Nat.mul_comm, Nat.mul_add_mod, Nat.mod_eq_of_lt hj]
theorem flat_ij (m n : Nat) (A : Mt q) {i j : Nat} (hi : i < m) (hj : j < n) : (flat m n A)[i * n + j]'(by rw [flat_len]; exact idx_lt hi hj) = fv (A i j) := by
  rw [flat_at, idx_div hj, idx_mod hj]
theorem flat_congr {m n : Nat} {A B : Mt q} (h : ∀ i j, i < m → j < n → A i j = B i j) : flat m n A = flat m n B := by
  unfold flat
  refine List.map_congr_left fun t ht => ?_
  have ht := List.mem_range.1 ht
  have hn : 0 < n := by
    rcases Nat.eq_zero_or_pos n with e | e
    · subst e; simp at ht
    · exact e
  rw [h _ _ (Nat.div_lt_of_lt_mul (by rw [Nat.mul_comm]; exact ht)) (Nat.mod_lt _ hn)]
theorem flat_inj {m n : Nat} {A B : Mt q} (h : flat m n A = flat m n B) (i j : Nat) (hi : i < m) (hj : j < n) : A i j = B i j := by
  have h1 := flat_ij m n A hi hj
  have h2 := flat_ij m n B hi hj
  simp only [h] at h1
  exact fv_inj (h1.symm.trans h2)
theorem flat_ok (m n : Nat) (A : Mt q) : NumOk q (flat m n A) := fun j hj => by
  rw [flat_at]
  have h0 := fv_nn (A (j / n) (j % n))
  have h1 := fv_lt (A (j / n) (j % n))
  omega
end
/-- A valid matrix. -/
def MOk (p r c : Int) (zs : List Int) : Prop := IsPr p ∧ 0 ≤ r ∧ r ≤ 32 ∧ 0 ≤ c ∧ c ≤ 32 ∧ (zs.length : Int) = r * c ∧ NumOk p zs
/-- What a valid matrix is: a prime q, m rows and n columns of numbers modulo q. -/
structure MIs (p r c : Int) (zs : List Int) (q : Nat) [NeZero q] (m n : Nat) (A : Mt q) : Prop where
  p : p = q
  r : r = m
  c : c = n
  zs : zs = flat m n A
  pr : IsPr (q : Int)
  m32 : m ≤ 32
  n32 : n ≤ 32
theorem MIs.ok {p r c : Int} {zs : List Int} {q : Nat} [NeZero q] {m n : Nat} {A : Mt q} (h : MIs p r c zs q m n A) : MOk p r c zs := by
  obtain ⟨rfl, rfl, rfl, rfl, h5, h6, h7⟩ := h
  exact ⟨h5, by omega, by omega, by omega, by omega, by rw [flat_len, Int.natCast_mul], flat_ok m n A⟩
theorem MOk.form {p r c : Int} {zs : List Int} (h : MOk p r c zs) : ∃ (q : Nat) (_ : NeZero q) (m n : Nat) (A : Mt q), MIs p r c zs q m n A := by
  obtain ⟨hp, r0, r1, c0, c1, hl, hn⟩ := h
  obtain ⟨q, rfl⟩ := Int.eq_ofNat_of_zero_le (show 0 ≤ p by have := hp.1; omega)
  obtain ⟨m, rfl⟩ := Int.eq_ofNat_of_zero_le r0
  obtain ⟨n, rfl⟩ := Int.eq_ofNat_of_zero_le c0
  have hz : NeZero q := ⟨by have := hp.1; omega⟩
  have hl : zs.length = m * n := by exact_mod_cast hl
  have hq : 0 < q := by have := hp.1; omega
  refine ⟨q, hz, m, n, fun i j => Fin.ofNat q (zs.getD (i * n + j) 0).toNat, rfl, rfl, rfl, ?_, hp, by omega, by omega⟩
  refine List.ext_getElem (by rw [flat_len]; exact hl) fun t h1 h2 => ?_
  rw [flat_at, Nat.mul_comm, Nat.div_add_mod]
  have := hn t h1
  have e : zs.getD t 0 = zs[t] := by simp [List.getD, List.getElem?_eq_getElem h1]
  unfold fv
  rw [e]
  show zs[t] = ((zs[t].toNat % q : Nat) : Int)
  rw [Nat.mod_eq_of_lt (by omega)]
  omega
end Go.Proofs.Ytabanmaaagmeaaa
