/-
  The ways of the sets, as the model counts them: which are not 0, and how great they can be.
-/
import Derived.Test.YtdihcmohpbgmmaaDoorPtD
namespace Go.Proofs.YtdihcmohpbgmmaaDoor
open Go.RowKit
set_option linter.unusedVariables false

theorem countP_one {a : Nat} {p q : Nat → Bool} (hp : p a = false) (hq : ∀ x, q x = (p x || decide (a = x))) : ∀ {L : List Nat}, L.Nodup → a ∈ L → L.countP q = L.countP p + 1
  | [], _, h => by simp at h
  | y :: L, hn, h => by
    have hn' := List.nodup_cons.1 hn
    rw [List.countP_cons, List.countP_cons]
    by_cases e : a = y
    · subst e
      have : L.countP q = L.countP p := List.countP_congr fun x hx => by
        rw [hq, decide_eq_false (fun e => hn'.1 (by rw [e]; exact hx))]; simp
      rw [this, hq, hp]; simp
    · have hL : a ∈ L := by
        rcases List.mem_cons.1 h with h | h
        · exact absurd h e
        · exact h
      rw [countP_one hp hq hn'.2 hL, hq y, decide_eq_false e, Bool.or_false]
      omega
theorem countP_mono {p q : Nat → Bool} (h : ∀ x, p x = true → q x = true) : ∀ L : List Nat, L.countP p ≤ L.countP q
  | [] => Nat.le_refl _
  | y :: L => by
    rw [List.countP_cons, List.countP_cons]
    have := countP_mono h L
    cases hp : p y with
    | false => simp; omega
    | true => rw [h y hp]; simp; omega
/-- How many elements a set has. -/
def pcN (t : Nat) : Nat := (List.range 12).countP fun x => t.testBit x
/-- How many of its elements lead to it from a set below s. -/
def srcN (t s : Nat) : Nat := (List.range 12).countP fun x => t.testBit x && decide ((t ^^^ 1 <<< x) < s)
theorem pcN_le (t : Nat) : pcN t ≤ 12 := Nat.le_trans List.countP_le_length (by simp)
theorem srcN_le (t s : Nat) : srcN t s ≤ 12 := Nat.le_trans List.countP_le_length (by simp)
theorem srcN_mono (t s : Nat) : srcN t s ≤ srcN t (s + 1) := countP_mono (fun x h => by simp only [Bool.and_eq_true, decide_eq_true_eq] at h ⊢; exact ⟨h.1, by omega⟩) _
theorem pcN_or {s a : Nat} (ha : a < 12) (h : s.testBit a = false) : pcN (s ||| 1 <<< a) = pcN s + 1 :=
  countP_one (p := fun x => s.testBit x) (q := fun x => (s ||| 1 <<< a).testBit x) h (fun x => or_bit s a x) List.nodup_range (List.mem_range.2 ha)
theorem xor_bit (t x i : Nat) : (t ^^^ 1 <<< x).testBit i = (t.testBit i ^^ decide (x = i)) := by
  rw [Nat.testBit_xor, Nat.one_shiftLeft, Nat.testBit_two_pow]
theorem or_xor {s a : Nat} (h : s.testBit a = false) : (s ||| 1 <<< a) ^^^ 1 <<< a = s := by
  refine Nat.eq_of_testBit_eq fun i => ?_
  rw [xor_bit, or_bit]
  by_cases e : a = i
  · subst e; simp [h]
  · simp [e]
theorem or_inj {s a x : Nat} (h : s.testBit a = false) (e : s ||| 1 <<< x = s ||| 1 <<< a) : x = a := by
  have h1 := or_bit s a a
  rw [← e, or_bit, h] at h1
  simpa using h1
theorem srcN_or {s a : Nat} (ha : a < 12) (h : s.testBit a = false) : srcN (s ||| 1 <<< a) (s + 1) = srcN (s ||| 1 <<< a) s + 1 := by
  refine countP_one (a := a) (p := fun x => (s ||| 1 <<< a).testBit x && decide (((s ||| 1 <<< a) ^^^ 1 <<< x) < s)) (q := fun x => (s ||| 1 <<< a).testBit x && decide (((s ||| 1 <<< a) ^^^ 1 <<< x) < s + 1)) ?_ (fun x => ?_) List.nodup_range (List.mem_range.2 ha)
  · simp only [or_xor h]; simp
  · by_cases e : a = x
    · subst e
      simp only [or_xor h, or_bit]; simp
    · rw [decide_eq_false e, Bool.or_false]
      congr 1
      rw [Bool.eq_iff_iff, decide_eq_true_eq, decide_eq_true_eq]
      have hne : ((s ||| 1 <<< a) ^^^ 1 <<< x) ≠ s := fun e2 => by
        have h1 := xor_bit (s ||| 1 <<< a) x a
        rw [e2, or_bit, h] at h1
        simp at h1
        exact e h1.symm
      omega
theorem pcN_pos {N t : Nat} (hN : N ≤ 12) (ht : t < 2 ^ N) (h : t ≠ 0) : 0 < pcN t := by
  obtain ⟨a, ha⟩ : ∃ a, t.testBit a = true := by
    apply Classical.byContradiction
    intro hn
    refine h (Nat.eq_of_testBit_eq fun i => ?_)
    rw [Nat.zero_testBit]
    cases hi : t.testBit i with
    | false => rfl
    | true => exact absurd ⟨i, hi⟩ hn
  exact List.countP_pos_iff.2 ⟨a, List.mem_range.2 (Nat.lt_of_lt_of_le (bit_lt ht ha) hN), ha⟩
/-- The table of the ways while the set s is at work, its elements below a done. -/
structure WayP (es : List (Nat × Nat)) (N : Nat) (f : Nat → Nat) (s a : Nat) : Prop where
  one : f 0 = 1
  nz : ∀ t, t < 2 ^ N → (f t ≠ 0 ↔ t = 0 ∨ ∃ u x, x < N ∧ (u < s ∨ (u = s ∧ x < a)) ∧ IdlP es u ∧ NxtP es u x ∧ t = u ||| 1 <<< x)
  bd1 : ∀ t, t ≠ 0 → f t ≤ srcN t (s + 1) * 12 ^ (pcN t - 1)
  bd2 : ∀ t, t ≠ 0 → (∀ x, x < a → t = s ||| 1 <<< x → s.testBit x = true) → f t ≤ srcN t s * 12 ^ (pcN t - 1)
theorem WayP.start (es : List (Nat × Nat)) (N : Nat) : WayP es N (fun t => if t = 0 then 1 else 0) 0 0 := by
  refine ⟨rfl, fun t ht => ?_, fun t h => by simp [h], fun t h _ => by simp [h]⟩
  constructor
  · intro h
    by_cases e : t = 0
    · exact .inl e
    · simp [e] at h
  · rintro (rfl | ⟨u, x, _, h | ⟨_, h⟩, _⟩)
    · simp
    · omega
    · omega
theorem WayP.idl {es : List (Nat × Nat)} {N s a : Nat} {f : Nat → Nat} (h : WayP es N f s a) (hes : ∀ e ∈ es, e.1 < N ∧ e.2 < N) (hc : ¬ Circ es N) (hs : s < 2 ^ N) : f s ≠ 0 ↔ IdlP es s := by
  rw [h.nz s hs, idl_step hes hc hs]
  constructor
  · rintro (h | ⟨u, x, hx, hu | ⟨rfl, _⟩, hi, hn, e⟩)
    · exact .inl h
    · exact .inr ⟨u, x, hx, hu, hi, hn, e⟩
    · have := or_bit u x x
      rw [← e, hn.1] at this; simp at this
  · rintro (h | ⟨u, x, hx, hu, hi, hn, e⟩)
    · exact .inl h
    · exact .inr ⟨u, x, hx, .inl hu, hi, hn, e⟩
theorem WayP.le {es : List (Nat × Nat)} {N s a : Nat} {f : Nat → Nat} (h : WayP es N f s a) (hN : N ≤ 12) {t : Nat} (ht : t < 2 ^ N) : f t ≤ 12 ^ pcN t := by
  by_cases e : t = 0
  · subst e; rw [h.one]; exact Nat.pos_of_ne_zero (by simp)
  · have h1 := pcN_pos hN ht e
    obtain ⟨k, hk⟩ : ∃ k, pcN t = k + 1 := ⟨pcN t - 1, by omega⟩
    have h2 := h.bd1 t e
    have h3 := Nat.mul_le_mul_right (12 ^ k) (srcN_le t (s + 1))
    rw [hk, Nat.add_sub_cancel] at h2
    rw [hk, Nat.pow_succ, Nat.mul_comm]
    omega
theorem WayP.fit {es : List (Nat × Nat)} {N s a : Nat} {f : Nat → Nat} (h : WayP es N f s a) (hN : N ≤ 12) {t : Nat} (ht : t < 2 ^ N) : f t ≤ 8916100448256 :=
  Nat.le_trans (h.le hN ht) (Nat.pow_le_pow_right (n := 12) (by omega) (pcN_le t))
theorem WayP.no {es : List (Nat × Nat)} {N s a : Nat} {f : Nat → Nat} (h : WayP es N f s a) (hn : ¬ NxtP es s a) : WayP es N f s (a + 1) := by
  refine ⟨h.one, fun t ht => (h.nz t ht).trans ?_, h.bd1, fun t ht hx => h.bd2 t ht fun x hxa => hx x (by omega)⟩
  constructor
  · rintro (h | ⟨u, x, hx, hu, r⟩)
    · exact .inl h
    · exact .inr ⟨u, x, hx, hu.imp_right fun g => ⟨g.1, by omega⟩, r⟩
  · rintro (h | ⟨u, x, hx, hu | ⟨rfl, hxa⟩, hi, hnx, e⟩)
    · exact .inl h
    · exact .inr ⟨u, x, hx, .inl hu, hi, hnx, e⟩
    · refine .inr ⟨u, x, hx, .inr ⟨rfl, ?_⟩, hi, hnx, e⟩
      rcases Nat.lt_or_ge x a with h1 | h1
      · exact h1
      · obtain rfl : x = a := by omega
        exact absurd hnx hn
theorem WayP.turn {es : List (Nat × Nat)} {N s : Nat} {f : Nat → Nat} (h : WayP es N f s N) : WayP es N f (s + 1) 0 := by
  refine ⟨h.one, fun t ht => (h.nz t ht).trans ?_, fun t ht => Nat.le_trans (h.bd1 t ht) (Nat.mul_le_mul_right _ (srcN_mono t (s + 1))), fun t ht _ => h.bd1 t ht⟩
  constructor
  · rintro (h | ⟨u, x, hx, hu, r⟩)
    · exact .inl h
    · exact .inr ⟨u, x, hx, .inl (by omega), r⟩
  · rintro (h | ⟨u, x, hx, hu, r⟩)
    · exact .inl h
    · refine .inr ⟨u, x, hx, ?_, r⟩
      rcases hu with hu | ⟨_, hu⟩
      · rcases Nat.lt_or_ge u s with h1 | h1
        · exact .inl h1
        · exact .inr ⟨by omega, hx⟩
      · omega
theorem WayP.skip {es : List (Nat × Nat)} {N s : Nat} {f : Nat → Nat} (h : WayP es N f s 0) (hi : ¬ IdlP es s) : WayP es N f (s + 1) 0 := by
  refine ⟨h.one, fun t ht => (h.nz t ht).trans ?_, fun t ht => Nat.le_trans (h.bd1 t ht) (Nat.mul_le_mul_right _ (srcN_mono t (s + 1))), fun t ht _ => h.bd1 t ht⟩
  constructor
  · rintro (h | ⟨u, x, hx, hu, r⟩)
    · exact .inl h
    · exact .inr ⟨u, x, hx, .inl (by omega), r⟩
  · rintro (h | ⟨u, x, hx, hu, r⟩)
    · exact .inl h
    · refine .inr ⟨u, x, hx, ?_, r⟩
      rcases hu with hu | ⟨_, hu⟩
      · rcases Nat.lt_or_ge u s with h1 | h1
        · exact .inl h1
        · obtain rfl : u = s := by omega
          exact absurd r.1 hi
      · omega
theorem WayP.add {es : List (Nat × Nat)} {N s a : Nat} {f g : Nat → Nat} (h : WayP es N f s a) (hN : N ≤ 12) (hs : s < 2 ^ N) (ha : a < N) (hi : IdlP es s) (hn : NxtP es s a)
    (hg : ∀ t, g t = if t = s ||| 1 <<< a then f t + f s else f t) (hfs : f s ≠ 0) : WayP es N g s (a + 1) := by
  have h0 : s ||| 1 <<< a ≠ 0 := fun e => by
    have := or_bit s a a
    rw [e, Nat.zero_testBit] at this; simp at this
  have hb2 := h.bd2 _ h0 fun x hx e => by have := or_inj hn.1 e.symm; omega
  have hpc := pcN_or (by omega : a < 12) hn.1
  have hsr := srcN_or (by omega : a < 12) hn.1
  have hle := h.le hN hs
  refine ⟨by rw [hg, if_neg (fun e => h0 e.symm)]; exact h.one, fun t ht => ?_, fun t ht => ?_, fun t ht hx => ?_⟩
  · rw [hg]
    by_cases e : t = s ||| 1 <<< a
    · rw [if_pos e]
      exact ⟨fun _ => .inr ⟨s, a, ha, .inr ⟨rfl, by omega⟩, hi, hn, e⟩, fun _ => by omega⟩
    · rw [if_neg e]
      refine (h.nz t ht).trans ?_
      constructor
      · rintro (h | ⟨u, x, hx, hu, r⟩)
        · exact .inl h
        · exact .inr ⟨u, x, hx, hu.imp_right fun g => ⟨g.1, by omega⟩, r⟩
      · rintro (h | ⟨u, x, hx, hu | ⟨rfl, hxa⟩, hi2, hnx, e2⟩)
        · exact .inl h
        · exact .inr ⟨u, x, hx, .inl hu, hi2, hnx, e2⟩
        · refine .inr ⟨u, x, hx, .inr ⟨rfl, ?_⟩, hi2, hnx, e2⟩
          rcases Nat.lt_or_ge x a with h1 | h1
          · exact h1
          · obtain rfl : x = a := by omega
            exact absurd e2 e
  · rw [hg]
    by_cases e : t = s ||| 1 <<< a
    · rw [if_pos e, e, hsr, hpc, Nat.add_sub_cancel, Nat.add_mul, Nat.one_mul]
      rw [hpc, Nat.add_sub_cancel] at hb2
      omega
    · rw [if_neg e]; exact h.bd1 t ht
  · rw [hg]
    by_cases e : t = s ||| 1 <<< a
    · have := hx a (by omega) e
      rw [hn.1] at this; cases this
    · rw [if_neg e]; exact h.bd2 t ht fun x hxa => hx x (by omega)
end Go.Proofs.YtdihcmohpbgmmaaDoor
