/-
  Plain mathematics of numbers modulo a prime up to 251: inverses, powers, orders, generators, logarithms, roots.
-/
import Derived.IntWalk
namespace Go.Proofs.Ytabanmaaagmeaaa
set_option linter.unusedVariables false

/-- A prime up to 251, as it is tried out. -/
def IsPr (p : Int) : Prop := 2 ≤ p ∧ p ≤ 251 ∧ ∀ k : Int, 2 ≤ k → k * k ≤ p → p % k ≠ 0

def primeTab : List Nat := [2, 3, 5, 7, 11, 13, 17, 19, 23, 29, 31, 37, 41, 43, 47, 53, 59, 61, 67, 71, 73, 79, 83, 89, 97, 101, 103, 107, 109, 113, 127, 131, 137, 139, 149, 151, 157, 163, 167, 173, 179, 181, 191, 193, 197, 199, 211, 223, 227, 229, 233, 239, 241, 251]
theorem tab_bool : ((List.range 252).all fun n => decide (n < 2) || !((List.range 16).all fun k => decide (k < 2) || decide (n < k * k) || n % k != 0) || decide (n ∈ primeTab)) = true := by decide +kernel
theorem tab_all (n : Nat) (h0 : n < 252) (h1 : 2 ≤ n) (h : ∀ k : Nat, k < 16 → 2 ≤ k → k * k ≤ n → n % k ≠ 0) : n ∈ primeTab := by
  have e := List.all_eq_true.1 tab_bool n (List.mem_range.2 h0)
  have e2 : ((List.range 16).all fun k => decide (k < 2) || decide (n < k * k) || n % k != 0) = true := by
    rw [List.all_eq_true]
    intro k hk
    have hk := List.mem_range.1 hk
    by_cases c : k < 2
    · simp [c]
    · by_cases d : n < k * k
      · simp [d]
      · simp [h k hk (by omega) (by omega)]
  rw [e2] at e
  have c : decide (n < 2) = false := by simp; omega
  rw [c] at e
  simpa using e
theorem IsPr.nat {p : Int} (h : IsPr p) : ∃ n : Nat, p = n ∧ n ∈ primeTab := by
  obtain ⟨h0, h1, h2⟩ := h
  obtain ⟨n, rfl⟩ := Int.eq_ofNat_of_zero_le (show 0 ≤ p by omega)
  refine ⟨n, rfl, tab_all n (by omega) (by omega) ?_⟩
  intro k hk k2 kk e
  refine h2 (k : Int) (by omega) (by exact_mod_cast kk) ?_
  exact_mod_cast e
theorem inv_tab : primeTab.all (fun p => (List.range p).all fun a => a == 0 || a ^ (p - 2) % p * a % p == 1) = true := by decide +kernel
theorem fer_tab : primeTab.all (fun p => (List.range p).all fun a => a == 0 || a ^ (p - 1) % p == 1) = true := by decide +kernel
theorem div_tab : primeTab.all (fun p => (List.range p).all fun a => decide (a < 2) || p % a != 0) = true := by decide +kernel
/-- No power below the last one is 1: walked by products. -/
def ordFull (p g : Nat) : Nat → Nat → Bool
  | _, 0 => true
  | x, n + 1 => x != 1 && ordFull p g (x * g % p) n
def hasGen (p : Nat) : Bool := (List.range p).any fun g => g != 0 && ordFull p g (g % p) (p - 2)
theorem gen_tab : primeTab.all hasGen = true := by decide +kernel

theorem tab_at {f : Nat → Nat → Bool} {p : Int} (t : primeTab.all (fun p => (List.range p).all (f p)) = true) (h : IsPr p) {a : Int} (h0 : 0 ≤ a) (h1 : a < p) : f p.toNat a.toNat = true := by
  obtain ⟨n, rfl, hn⟩ := h.nat
  have := List.all_eq_true.1 (List.all_eq_true.1 t n hn) a.toNat (List.mem_range.2 (by omega))
  exact this
/-- A prime has no divisor below it but 1. -/
theorem IsPr.nodiv {p : Int} (h : IsPr p) {n : Int} (h0 : 2 ≤ n) (h1 : n < p) : p % n ≠ 0 := by
  have e := tab_at div_tab h (show 0 ≤ n by omega) h1
  have c : decide (n.toNat < 2) = false := by simp; omega
  rw [c] at e
  have e : p.toNat % n.toNat ≠ 0 := by simpa using e
  intro hz
  apply e
  have h2 := h.1
  have : ((p.toNat % n.toNat : Nat) : Int) = 0 := by rw [Int.natCast_emod, Int.toNat_of_nonneg (by omega), Int.toNat_of_nonneg (by omega)]; exact hz
  omega

theorem mm (a b p : Int) : a % p * b % p = a * b % p := by rw [Int.mul_emod, Int.emod_emod, ← Int.mul_emod]
/-! ### Powers -/
/-- The power of a with the exponent n, modulo p. -/
def pw (a p : Int) (n : Nat) : Int := a ^ n % p
theorem pw_bd (a : Int) {p : Int} (h : 2 ≤ p) (n : Nat) : 0 ≤ pw a p n ∧ pw a p n < p := ⟨Int.emod_nonneg _ (by omega), Int.emod_lt_of_pos _ (by omega)⟩
theorem pw_zero (a : Int) {p : Int} (h : 2 ≤ p) : pw a p 0 = 1 := by unfold pw; rw [Int.pow_zero]; exact Int.emod_eq_of_lt (by omega) (by omega)
theorem pw_one {a p : Int} (h0 : 0 ≤ a) (h : a < p) : pw a p 1 = a := by unfold pw; rw [Int.pow_succ, Int.pow_zero, Int.one_mul]; exact Int.emod_eq_of_lt h0 h
theorem pw_succ (a p : Int) (n : Nat) : pw a p n * a % p = pw a p (n + 1) := by unfold pw; rw [Int.pow_succ, mm]
theorem pow_mod (a p : Int) (n : Nat) : (a % p) ^ n % p = a ^ n % p := by
  induction n with
  | zero => rw [Int.pow_zero, Int.pow_zero]
  | succ n ih => rw [Int.pow_succ, Int.pow_succ, Int.mul_emod, ih, Int.emod_emod, ← Int.mul_emod]
/-- A round of squaring and multiplying. -/
theorem sq_odd (o a p : Int) (n : Nat) (h : n % 2 = 1) : (o * a % p) * (a * a % p) ^ (n / 2) % p = o * a ^ n % p := by
  have e : a ^ n = a * (a * a) ^ (n / 2) := by
    conv => lhs; rw [show n = 2 * (n / 2) + 1 by omega]
    rw [Int.pow_succ, Int.pow_mul, show a ^ 2 = a * a by rw [Int.pow_succ, Int.pow_succ, Int.pow_zero, Int.one_mul], Int.mul_comm]
  rw [mm, Int.mul_emod, pow_mod, ← Int.mul_emod, e, Int.mul_assoc]
theorem sq_even (o a p : Int) (n : Nat) (h : n % 2 = 0) : o * (a * a % p) ^ (n / 2) % p = o * a ^ n % p := by
  have e : a ^ n = (a * a) ^ (n / 2) := by
    conv => lhs; rw [show n = 2 * (n / 2) by omega]
    rw [Int.pow_mul, show a ^ 2 = a * a by rw [Int.pow_succ, Int.pow_succ, Int.pow_zero, Int.one_mul]]
  rw [Int.mul_emod, pow_mod, ← Int.mul_emod, e]

/-! ### Inverses -/
def IsInv (p a x : Int) : Prop := 0 ≤ x ∧ x < p ∧ x * a % p = 1
theorem inv_uniq {p a x y : Int} (hx : IsInv p a x) (hy : IsInv p a y) : x = y := by
  obtain ⟨x0, x1, x2⟩ := hx
  obtain ⟨y0, y1, y2⟩ := hy
  have e1 : x * a * y % p = y % p := by rw [Int.mul_emod, x2, Int.mul_emod, Int.emod_emod, ← Int.mul_emod, Int.one_mul]
  have e2 : x * a * y % p = x % p := by
    rw [show x * a * y = x * (y * a) by rw [Int.mul_assoc, Int.mul_comm a y], Int.mul_emod, y2, Int.mul_emod, Int.emod_emod, ← Int.mul_emod, Int.mul_one]
  rw [e1, Int.emod_eq_of_lt y0 y1, Int.emod_eq_of_lt x0 x1] at e2
  exact e2.symm
theorem cast_pw (a p n : Nat) : ((a ^ n % p : Nat) : Int) = pw (a : Int) (p : Int) n := by unfold pw; rw [Int.natCast_emod, Int.natCast_pow]
/-- The power with the exponent p - 2 is the inverse. -/
theorem inv_pw {p a : Int} (h : IsPr p) (h0 : 1 ≤ a) (h1 : a < p) : IsInv p a (pw a p (p - 2).toNat) := by
  have e := tab_at inv_tab h (show 0 ≤ a by omega) h1
  have c : (a.toNat == 0) = false := by simp; omega
  simp only [c, Bool.false_or, beq_iff_eq] at e
  refine ⟨(pw_bd a h.1 _).1, (pw_bd a h.1 _).2, ?_⟩
  have e := congrArg (Nat.cast (R := Int)) e
  rw [Int.natCast_emod, Int.natCast_mul, cast_pw, Int.toNat_of_nonneg (by omega), Int.toNat_of_nonneg (by have := h.1; omega), show p.toNat - 2 = (p - 2).toNat by omega] at e
  exact e
theorem fermat {p a : Int} (h : IsPr p) (h0 : 1 ≤ a) (h1 : a < p) : pw a p (p - 1).toNat = 1 := by
  have e := tab_at fer_tab h (show 0 ≤ a by omega) h1
  have c : (a.toNat == 0) = false := by simp; omega
  simp only [c, Bool.false_or, beq_iff_eq] at e
  have e := congrArg (Nat.cast (R := Int)) e
  rw [cast_pw, Int.toNat_of_nonneg (by omega), Int.toNat_of_nonneg (by have := h.1; omega), show p.toNat - 1 = (p - 1).toNat by omega] at e
  exact e
theorem inv_ne {p a x : Int} (h : IsInv p a x) : 1 ≤ x := by
  obtain ⟨h0, h1, h2⟩ := h
  by_cases e : x = 0
  · rw [e] at h2; simp at h2
  · omega
/-- The inverse of a power is the power of the inverse. -/
theorem inv_pow {p a x : Int} (hp : 2 ≤ p) (h : IsInv p a x) (n : Nat) : IsInv p (pw a p n) (pw x p n) := by
  refine ⟨(pw_bd x hp n).1, (pw_bd x hp n).2, ?_⟩
  unfold pw
  rw [← Int.mul_emod, ← Int.mul_pow, ← pow_mod, h.2.2, Int.one_pow]
  exact Int.emod_eq_of_lt (by omega) (by omega)
/-- A round of the table of inverses: the rest of p has an inverse already. -/
theorem inv_step {p n y : Int} (hp : IsPr p) (h0 : 2 ≤ n) (h1 : n < p) (hy : IsInv p (p % n) y) : IsInv p n ((-(p / n) * y) % p) := by
  have hp2 := hp.1
  refine ⟨Int.emod_nonneg _ (by omega), Int.emod_lt_of_pos _ (by omega), ?_⟩
  have hd := Int.mul_ediv_add_emod p n
  rw [mm]
  have e : -(p / n) * y * n = y * (p % n) + p * (-y) := by
    have : n * (p / n) = p - p % n := by omega
    rw [Int.mul_assoc, Int.mul_comm y n, ← Int.mul_assoc, Int.neg_mul, Int.mul_comm (p / n) n, this, Int.neg_sub, Int.sub_mul, Int.mul_comm (p % n) y, Int.mul_neg, Int.sub_eq_add_neg]
  rw [e, Int.add_mul_emod_self_left]
  exact hy.2.2

/-! ### Orders, logarithms, generators, roots -/
theorem least_of {P : Nat → Prop} : ∀ {n : Nat}, P n → ∃ m, m ≤ n ∧ P m ∧ ∀ k, k < m → ¬ P k := by
  intro n
  induction n using Nat.strongRecOn with
  | ind n ih =>
    intro h
    by_cases c : ∃ k, k < n ∧ P k
    · obtain ⟨k, hk, hP⟩ := c
      obtain ⟨m, hm, a, b⟩ := ih k hk hP
      exact ⟨m, by omega, a, b⟩
    · exact ⟨n, Nat.le_refl n, h, fun k hk hP => c ⟨k, hk, hP⟩⟩
/-- The least exponent with which b has the power t. -/
def IsLog (b p t : Int) (n : Nat) : Prop := pw b p n = t ∧ ∀ m, m < n → pw b p m ≠ t
def IsOrd (a p : Int) (n : Nat) : Prop := 1 ≤ n ∧ pw a p n = 1 ∧ ∀ m, 1 ≤ m → m < n → pw a p m ≠ 1
theorem ord_has {p a : Int} (h : IsPr p) (h0 : 1 ≤ a) (h1 : a < p) : ∃ n : Nat, IsOrd a p n ∧ (n : Int) ≤ p - 1 := by
  have hp := h.1
  obtain ⟨m, hm, hP, hl⟩ := least_of (P := fun n => pw a p (n + 1) = 1) (n := (p - 2).toNat) (by show pw a p ((p - 2).toNat + 1) = 1; rw [show (p - 2).toNat + 1 = (p - 1).toNat by omega]; exact fermat h h0 h1)
  refine ⟨m + 1, ⟨by omega, hP, fun k k1 k2 e => ?_⟩, by omega⟩
  exact hl (k - 1) (by omega) (by show pw a p (k - 1 + 1) = 1; rw [show k - 1 + 1 = k by omega]; exact e)
theorem ord_uniq {p a : Int} {n m : Nat} (hn : IsOrd a p n) (hm : IsOrd a p m) : n = m := by
  rcases Nat.lt_trichotomy n m with h | h | h
  · exact absurd hn.2.1 (hm.2.2 n hn.1 h)
  · exact h
  · exact absurd hm.2.1 (hn.2.2 m hm.1 h)
/-- The exponent behind the order's is that of the inverse. -/
theorem ord_log {p a x : Int} {n : Nat} (hp : 2 ≤ p) (h : IsOrd a p n) (hx : IsInv p a x) : IsLog a p x (n - 1) := by
  obtain ⟨h0, h1, h2⟩ := h
  have up : ∀ m, pw a p m = x → pw a p (m + 1) = 1 := by
    intro m e
    rw [← pw_succ, e]; exact hx.2.2
  refine ⟨inv_uniq ⟨(pw_bd a hp _).1, (pw_bd a hp _).2, ?_⟩ hx, fun m hm e => h2 (m + 1) (by omega) (by omega) (up m e)⟩
  rw [pw_succ, show n - 1 + 1 = n by omega]; exact h1
def IsGen (p g : Int) : Prop := 1 ≤ g ∧ g < p ∧ IsOrd g p (p - 1).toNat ∧ ∀ h : Int, 1 ≤ h → h < g → ¬ IsOrd h p (p - 1).toNat
theorem ordFull_no {p g : Nat} : ∀ {n k : Nat}, ordFull p g (g ^ k % p) n = true → ∀ m, k ≤ m → m < k + n → g ^ m % p ≠ 1 := by
  intro n
  induction n with
  | zero => intro k _ m h0 h1; omega
  | succ n ih =>
    intro k h m h0 h1
    unfold ordFull at h
    rw [Bool.and_eq_true] at h
    obtain ⟨ha, hb⟩ := h
    by_cases e : m = k
    · subst e; simpa using ha
    · rw [Nat.mod_mul_mod, ← Nat.pow_succ] at hb
      exact ih hb m (by omega) (by omega)
theorem gen_has {p : Int} (h : IsPr p) : ∃ g, IsGen p g := by
  obtain ⟨q, rfl, hq⟩ := h.nat
  have hp := h.1
  have e := List.all_eq_true.1 gen_tab q hq
  unfold hasGen at e
  obtain ⟨g, hg, he⟩ := List.any_eq_true.1 e
  have hg := List.mem_range.1 hg
  rw [Bool.and_eq_true] at he
  obtain ⟨g0, g1⟩ := he
  have g0 : g ≠ 0 := by simpa using g0
  have no := ordFull_no (k := 1) (by rw [Nat.pow_one]; exact g1)
  have ho : IsOrd (g : Int) (q : Int) ((q : Int) - 1).toNat := by
    refine ⟨by omega, fermat h (by omega) (by omega), fun m m1 m2 e => no m m1 (by omega) ?_⟩
    rw [← cast_pw] at e
    exact_mod_cast e
  obtain ⟨m, hm, hP, hl⟩ := least_of (P := fun n => IsOrd ((n : Int) + 1) (q : Int) ((q : Int) - 1).toNat) (n := g - 1) (by
    show IsOrd (((g - 1 : Nat) : Int) + 1) _ _; rw [show ((g - 1 : Nat) : Int) + 1 = g by omega]; exact ho)
  refine ⟨(m : Int) + 1, by omega, by omega, hP, fun k k0 k1 e => hl (k - 1).toNat (by omega) ?_⟩
  show IsOrd (((k - 1).toNat : Int) + 1) _ _
  rw [show ((k - 1).toNat : Int) + 1 = k by omega]; exact e
/-- The least number whose square is a. -/
def IsRt (a p x : Int) : Prop := 0 ≤ x ∧ x < p ∧ x * x % p = a ∧ ∀ y : Int, 0 ≤ y → y < x → y * y % p ≠ a
def NoRt (a p : Int) : Prop := ∀ y : Int, 0 ≤ y → y < p → y * y % p ≠ a
theorem rt_or (a p : Int) : (∃ x, IsRt a p x) ∨ NoRt a p := by
  by_cases h : ∃ n : Nat, (n : Int) < p ∧ (n : Int) * n % p = a
  · obtain ⟨n, h0, h1⟩ := h
    obtain ⟨m, hm, hP, hl⟩ := least_of (P := fun n : Nat => (n : Int) * n % p = a) h1
    refine .inl ⟨m, by omega, by omega, hP, fun y y0 y1 e => ?_⟩
    exact hl y.toNat (by omega) (by show ((y.toNat : Nat) : Int) * _ % p = a; rw [Int.toNat_of_nonneg y0]; exact e)
  · refine .inr fun y y0 y1 e => h ⟨y.toNat, by omega, ?_⟩
    rw [Int.toNat_of_nonneg y0]; exact e
theorem log_or (b p t : Int) (N : Nat) : (∃ n, n < N ∧ IsLog b p t n) ∨ ∀ m, m < N → pw b p m ≠ t := by
  by_cases h : ∃ n, n < N ∧ pw b p n = t
  · obtain ⟨n, h0, h1⟩ := h
    obtain ⟨m, hm, hP, hl⟩ := least_of (P := fun n : Nat => pw b p n = t) h1
    exact .inl ⟨m, by omega, hP, hl⟩
  · exact .inr fun m hm e => h ⟨m, hm, e⟩
end Go.Proofs.Ytabanmaaagmeaaa
