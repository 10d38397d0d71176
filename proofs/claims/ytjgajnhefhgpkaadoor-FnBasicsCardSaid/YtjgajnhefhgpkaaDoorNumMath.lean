/-
  Plain mathematics of reading a decimal text: which byte lists are texts of numbers of at most 18 digits, and which number each is.
-/
import Derived.Lib.ItoaNum
import Derived.Lib.ParseIntB
namespace Go.Proofs.YtjgajnhefhgpkaaDoor

def isDg (c : UInt8) : Bool := decide (48 ≤ c.toNat ∧ c.toNat ≤ 57)
def accD (v : Nat) (c : UInt8) : Nat := 10 * v + (c.toNat - 48)
/-- What digits spell. -/
def valD (l : List UInt8) : Nat := l.foldl accD 0
theorem valD_snoc (l : List UInt8) (c : UInt8) : valD (l ++ [c]) = 10 * valD l + (c.toNat - 48) := by
  unfold valD; rw [List.foldl_append]; rfl
theorem foldl_lt (l : List UInt8) : ∀ (v k : Nat), v < 10 ^ k → l.all isDg = true → l.foldl accD v < 10 ^ (k + l.length) := by
  induction l with
  | nil => intro v k h _; simpa using h
  | cons c r ih =>
    intro v k h ha
    simp only [List.all_cons, Bool.and_eq_true] at ha
    have hd : 48 ≤ c.toNat ∧ c.toNat ≤ 57 := by simpa [isDg] using ha.1
    have := ih (accD v c) (k + 1) (by unfold accD; rw [Nat.pow_succ]; omega) ha.2
    simp only [List.foldl_cons, List.length_cons]
    rw [show k + (r.length + 1) = k + 1 + r.length by omega]
    exact this
theorem valD_lt (l : List UInt8) (h : l.all isDg = true) : valD l < 10 ^ l.length := by
  have := foldl_lt l 0 0 (by decide) h
  rw [Nat.zero_add] at this
  exact this
theorem parseM_short (l : List UInt8) : ∀ (v k : Nat), v < 10 ^ k → l.length + k ≤ 18 → l.all isDg = true → Lib.parseUintM (2 ^ 64 - 1) v l = .ok (l.foldl accD v) := by
  induction l with
  | nil => intro v k _ _ _; rfl
  | cons c r ih =>
    intro v k h hl ha
    simp only [List.all_cons, Bool.and_eq_true] at ha
    simp only [List.length_cons] at hl
    have hd : 48 ≤ c.toNat ∧ c.toNat ≤ 57 := by simpa [isDg] using ha.1
    have hp : 10 ^ k ≤ 10 ^ 17 := Nat.pow_le_pow_right (by decide) (by omega)
    have e17 : (10 : Nat) ^ 17 = 100000000000000000 := by decide
    have e64 : (2 : Nat) ^ 64 - 1 = 18446744073709551615 := by decide
    unfold Lib.parseUintM
    rw [if_pos hd, if_neg (by omega), if_neg (by rw [e64]; omega)]
    have hn : v * 10 + (c.toNat - 48) < 10 ^ (k + 1) := by rw [Nat.pow_succ]; omega
    rw [ih _ (k + 1) hn (by omega) ha.2]
    simp only [List.foldl_cons]
    rw [show accD v c = v * 10 + (c.toNat - 48) by unfold accD; omega]

/-- 1 if a '-' stands first. -/
def sgn (l : List UInt8) : Nat := if l.head? = some 45 then 1 else 0
/-- The text of a number of at most 18 digits. -/
structure IsNum (l : List UInt8) : Prop where
  body : sgn l < l.length
  short : l.length - sgn l ≤ 18
  lead : ¬ ((l.drop (sgn l)).head? = some 48 ∧ 1 < l.length)
  digits : (l.drop (sgn l)).all isDg = true
/-- The number. -/
def numOf (l : List UInt8) : Int := if sgn l = 1 then -(valD (l.drop 1) : Int) else (valD l : Int)

/-- Digits without a leading 0 are the numeral of what they spell. -/
theorem dec_val (k : Nat) : ∀ l : List UInt8, l.length = k + 1 → l.all isDg = true → (l.head? ≠ some 48 ∨ k = 0) → Lib.decDigits (valD l) = l ∧ (l.head? ≠ some 48 → 1 ≤ valD l) := by
  induction k with
  | zero =>
    intro l hl ha _
    match l, hl with
    | [c], _ =>
      have hd : 48 ≤ c.toNat ∧ c.toNat ≤ 57 := by simpa [isDg] using ha
      have e : valD [c] = c.toNat - 48 := by simp [valD, accD]
      rw [e]
      refine ⟨?_, fun h => ?_⟩
      · rw [Lib.decDigits, dif_pos (by omega), show 48 + (c.toNat - 48) = c.toNat by omega, UInt8.ofNat_toNat]
      · have : c.toNat ≠ 48 := fun h' => h (by simp only [List.head?_cons, Option.some.injEq]; exact UInt8.toNat_inj.mp h')
        omega
  | succ k ih =>
    intro l hl ha hh
    have hh : l.head? ≠ some 48 := by rcases hh with h | h; exact h; omega
    have hne : l ≠ [] := by intro h; rw [h] at hl; simp at hl
    obtain ⟨r, c, rfl⟩ : ∃ r c, l = r ++ [c] := ⟨l.dropLast, l.getLast hne, (List.dropLast_concat_getLast hne).symm⟩
    simp only [List.length_append, List.length_cons, List.length_nil] at hl
    simp only [List.all_append, Bool.and_eq_true] at ha
    have hd : 48 ≤ c.toNat ∧ c.toNat ≤ 57 := by simpa [isDg] using ha.2
    have hr : r.head? ≠ some 48 := by
      match r, hl with
      | x :: r', _ => simpa using hh
    obtain ⟨h1, h2⟩ := ih r (by omega) ha.1 (.inl hr)
    have h2 := h2 hr
    rw [valD_snoc]
    refine ⟨?_, fun _ => by omega⟩
    rw [Lib.decDigits, dif_neg (by omega), show (10 * valD r + (c.toNat - 48)) / 10 = valD r by omega, h1,
      show 48 + (10 * valD r + (c.toNat - 48)) % 10 = c.toNat by omega, UInt8.ofNat_toNat]
theorem pow18 : (10 : Nat) ^ 18 = 1000000000000000000 := by decide
theorem head_some {l : List UInt8} {c : UInt8} (h : l.head? = some c) : ∃ r, l = c :: r := by
  cases l with
  | nil => cases h
  | cons a r => exact ⟨r, by simp only [List.head?_cons, Option.some.injEq] at h; rw [h]⟩
theorem isNum_itoa {l : List UInt8} (h : IsNum l) : l = Lib.itoa (numOf l) ∧ -999999999999999999 ≤ numOf l ∧ numOf l ≤ 999999999999999999 := by
  obtain ⟨h1, h2, h3, h4⟩ := h
  unfold numOf
  by_cases hs : l.head? = some 45
  · have e : sgn l = 1 := by unfold sgn; rw [if_pos hs]
    rw [e] at h1 h2 h3 h4 ⊢
    rw [if_pos rfl]
    obtain ⟨r, rfl⟩ := head_some hs
    simp only [List.drop_succ_cons, List.drop_zero, List.length_cons] at *
    have hh : r.head? ≠ some 48 := fun x => h3 ⟨x, by omega⟩
    obtain ⟨k, hk⟩ : ∃ k, r.length = k + 1 := ⟨r.length - 1, by omega⟩
    obtain ⟨a, b⟩ := dec_val k r hk h4 (.inl hh)
    have b := b hh
    have c := valD_lt r h4
    have d := Nat.pow_le_pow_right (show 0 < 10 by decide) (show r.length ≤ 18 by omega)
    rw [pow18] at d
    refine ⟨?_, by omega, by omega⟩
    unfold Lib.itoa
    rw [if_pos (by omega), show (-(valD r : Int)).natAbs = valD r by omega, a]
  · have e : sgn l = 0 := by unfold sgn; rw [if_neg hs]
    rw [e] at h1 h2 h3 h4 ⊢
    rw [if_neg (by decide)]
    simp only [List.drop_zero] at *
    obtain ⟨k, hk⟩ : ∃ k, l.length = k + 1 := ⟨l.length - 1, by omega⟩
    obtain ⟨a, b⟩ := dec_val k l hk h4 (by by_cases hk0 : k = 0; exact .inr hk0; exact .inl (fun x => h3 ⟨x, by omega⟩))
    have c := valD_lt l h4
    have d := Nat.pow_le_pow_right (show 0 < 10 by decide) (show l.length ≤ 18 by omega)
    rw [pow18] at d
    refine ⟨?_, by omega, by omega⟩
    unfold Lib.itoa
    rw [if_neg (by omega), Int.toNat_natCast, a]
theorem isNum_parse {l : List UInt8} (h : IsNum l) : Lib.parseIntB 64 l = .ok (numOf l) := by
  obtain ⟨h1, h2, h3, h4⟩ := h
  unfold numOf
  by_cases hs : l.head? = some 45
  · have e : sgn l = 1 := by unfold sgn; rw [if_pos hs]
    rw [e] at h1 h2 h3 h4 ⊢
    rw [if_pos rfl]
    obtain ⟨r, rfl⟩ := head_some hs
    simp only [List.drop_succ_cons, List.drop_zero, List.length_cons] at *
    have hne : r ≠ [] := by intro x; rw [x] at h1; simp at h1
    have c := valD_lt r h4
    have d := Nat.pow_le_pow_right (show 0 < 10 by decide) (show r.length ≤ 18 by omega)
    rw [pow18] at d
    have p : Lib.parseUintB 64 r = .ok (valD r) := by
      unfold Lib.parseUintB; rw [if_neg hne]; exact parseM_short r 0 0 (by decide) (by omega) h4
    have e2 : (45 : UInt8).toNat = 45 := rfl
    have e63 : (2 : Nat) ^ (64 - 1) = 9223372036854775808 := by decide
    simp only [Lib.parseIntB, e2, or_true, if_true, p]
    rw [if_neg (by simp), if_neg (by rw [e63]; omega)]
  · have e : sgn l = 0 := by unfold sgn; rw [if_neg hs]
    rw [e] at h1 h2 h3 h4 ⊢
    rw [if_neg (by decide)]
    simp only [List.drop_zero] at *
    match l, h1 with
    | b :: r, _ =>
      have c := valD_lt (b :: r) h4
      have d := Nat.pow_le_pow_right (show 0 < 10 by decide) (show (b :: r).length ≤ 18 by omega)
      rw [pow18] at d
      have p : Lib.parseUintB 64 (b :: r) = .ok (valD (b :: r)) := by
        unfold Lib.parseUintB; rw [if_neg (by simp)]; exact parseM_short _ 0 0 (by decide) (by omega) h4
      have hb : 48 ≤ b.toNat ∧ b.toNat ≤ 57 := by
        simp only [List.all_cons, Bool.and_eq_true] at h4
        simpa [isDg] using h4.1
      have e63 : (2 : Nat) ^ (64 - 1) = 9223372036854775808 := by decide
      have n1 : ¬ b.toNat = 45 := by omega
      have n2 : ¬ (b.toNat = 43 ∨ b.toNat = 45) := by omega
      simp only [Lib.parseIntB]
      rw [if_neg n2, p]
      simp only []
      rw [if_neg (by rw [e63]; omega), if_neg (fun x => n1 x.1), if_neg n1]
theorem dec_all (k : Nat) : ∀ u, u ≤ k → (Lib.decDigits u).all isDg = true ∧ Lib.decDigits u ≠ [] ∧ ((Lib.decDigits u).head? = some 48 → u = 0) ∧ (u = 0 → (Lib.decDigits u).length = 1) := by
  have one : ∀ u, u < 10 → (Lib.decDigits u).all isDg = true ∧ Lib.decDigits u ≠ [] ∧ ((Lib.decDigits u).head? = some 48 → u = 0) ∧ (u = 0 → (Lib.decDigits u).length = 1) := by
    intro u hu
    have t : (UInt8.ofNat (48 + u)).toNat = 48 + u := by rw [UInt8.toNat_ofNat']; omega
    rw [Lib.decDigits, dif_pos hu]
    refine ⟨by simp only [List.all_cons, List.all_nil, isDg, t]; simp; omega, by simp, fun h => ?_, fun _ => rfl⟩
    simp only [List.head?_cons, Option.some.injEq] at h
    have := congrArg UInt8.toNat h
    rw [t] at this
    have e : (48 : UInt8).toNat = 48 := rfl
    omega
  induction k with
  | zero => intro u h; exact one u (by omega)
  | succ k ih =>
    intro u h
    by_cases hu : u < 10
    · exact one u hu
    · obtain ⟨a, b, c, _⟩ := ih (u / 10) (by omega)
      have t : (UInt8.ofNat (48 + u % 10)).toNat = 48 + u % 10 := by rw [UInt8.toNat_ofNat']; omega
      rw [Lib.decDigits, dif_neg hu]
      refine ⟨by rw [List.all_append, a]; simp only [List.all_cons, List.all_nil, isDg, t]; simp; omega, by simp, fun h => ?_, fun h => by omega⟩
      have : (Lib.decDigits (u / 10)).head? = some 48 := by
        match hx : Lib.decDigits (u / 10), b with
        | x :: r, _ => rw [hx] at h; simpa using h
      have := c this
      omega
theorem dec_len (k : Nat) : ∀ u, u < 10 ^ (k + 1) → (Lib.decDigits u).length ≤ k + 1 := by
  induction k with
  | zero => intro u h; rw [Lib.decDigits, dif_pos (by simpa using h)]; simp
  | succ k ih =>
    intro u h
    rw [Lib.decDigits]
    split
    · simp
    · have := ih (u / 10) (by rw [Nat.pow_succ] at h; omega)
      simp only [List.length_append, List.length_cons, List.length_nil]; omega
theorem itoa_isNum (n : Int) (h0 : -999999999999999999 ≤ n) (h1 : n ≤ 999999999999999999) : IsNum (Lib.itoa n) := by
  unfold Lib.itoa
  split
  · rename_i hn
    obtain ⟨a, b, c, _⟩ := dec_all n.natAbs n.natAbs (Nat.le_refl _)
    have hl := dec_len 17 n.natAbs (by rw [show 17 + 1 = 18 from rfl, pow18]; omega)
    have hs : sgn (45 :: Lib.decDigits n.natAbs) = 1 := by unfold sgn; rw [if_pos (by rfl)]
    have hp : 0 < (Lib.decDigits n.natAbs).length := List.length_pos_iff.mpr b
    refine ⟨by rw [hs]; simp; omega, by rw [hs]; simp; omega, ?_, by rw [hs]; exact a⟩
    rw [hs]
    rintro ⟨h, _⟩
    have := c h
    omega
  · rename_i hn
    obtain ⟨a, b, c, d⟩ := dec_all n.toNat n.toNat (Nat.le_refl _)
    have hl := dec_len 17 n.toNat (by rw [show 17 + 1 = 18 from rfl, pow18]; omega)
    have hp : 0 < (Lib.decDigits n.toNat).length := List.length_pos_iff.mpr b
    have hs : sgn (Lib.decDigits n.toNat) = 0 := by
      unfold sgn
      rw [if_neg]
      match hx : Lib.decDigits n.toNat, b with
      | x :: r, _ =>
        rw [hx] at a
        simp only [List.all_cons, Bool.and_eq_true] at a
        have hd : 48 ≤ x.toNat ∧ x.toNat ≤ 57 := by simpa [isDg] using a.1
        intro h
        simp only [List.head?_cons, Option.some.injEq] at h
        subst h
        exact absurd hd.1 (by decide)
    refine ⟨by rw [hs]; exact hp, by rw [hs]; omega, ?_, by rw [hs]; exact a⟩
    rw [hs]
    rintro ⟨h, h2⟩
    have := d (c h)
    omega
end Go.Proofs.YtjgajnhefhgpkaaDoor
