/-
  Orders, plainly: what chains of pairs lead to; a table that is closed through one element after the other (the model); sets that grow by a pair (the program); covers.
-/
import Derived.Test.YtdihcmohpbgmmaaDoorPA
namespace Go.Proofs.YtdihcmohpbgmmaaDoor
open Go.RowKit
set_option linter.unusedVariables false
set_option linter.unusedSimpArgs false

/-- What chains of pairs lead to. -/
inductive Rch (es : List (Nat × Nat)) : Nat → Nat → Prop
  | refl (a : Nat) : Rch es a a
  | step {a b c : Nat} : Rch es a b → (b, c) ∈ es → Rch es a c
theorem Rch.trans {es : List (Nat × Nat)} {a b c : Nat} (h : Rch es a b) (g : Rch es b c) : Rch es a c := by
  induction g with
  | refl => exact h
  | step _ he ih => exact .step ih he
theorem Rch.mono {es fs : List (Nat × Nat)} (hs : ∀ e ∈ es, e ∈ fs) {a b : Nat} (h : Rch es a b) : Rch fs a b := by
  induction h with
  | refl => exact .refl _
  | step _ he ih => exact .step ih (hs _ he)
/-- One pair more. -/
theorem rch_snoc {es : List (Nat × Nat)} {p q a b : Nat} : Rch (es ++ [(p, q)]) a b ↔ Rch es a b ∨ (Rch es a p ∧ Rch es q b) := by
  constructor
  · intro h
    induction h with
    | refl => exact .inl (.refl _)
    | step _ he ih =>
      rw [List.mem_append, List.mem_singleton] at he
      rcases he with he | he
      · rcases ih with h | ⟨h, g⟩
        · exact .inl (.step h he)
        · exact .inr ⟨h, .step g he⟩
      · injection he with e1 e2
        subst e1 e2
        rcases ih with h | ⟨h, g⟩
        · exact .inr ⟨h, .refl _⟩
        · exact .inr ⟨h, .refl _⟩
  · have up : ∀ {x y}, Rch es x y → Rch (es ++ [(p, q)]) x y := fun h => h.mono fun e he => by simp [he]
    rintro (h | ⟨h, g⟩)
    · exact up h
    · exact ((up h).step (by simp)).trans (up g)
theorem rch_nil {a b : Nat} : Rch [] a b ↔ a = b := by
  constructor
  · intro h
    cases h with
    | refl => rfl
    | step _ he => simp at he
  · rintro rfl; exact .refl _
theorem Rch.lt {es : List (Nat × Nat)} {n : Nat} (hes : ∀ e ∈ es, e.1 < n ∧ e.2 < n) {a b : Nat} (h : Rch es a b) (ha : a < n) : b < n := by
  induction h with
  | refl => exact ha
  | step _ he _ => exact (hes _ he).2

/-- The model's table before round k. -/
def wT (es : List (Nat × Nat)) : Nat → Nat → Nat → Bool
  | 0, a, b => decide (a = b ∨ (a, b) ∈ es)
  | k + 1, a, b => wT es k a b || (wT es k a k && wT es k k b)
theorem wT_up {es : List (Nat × Nat)} {k a b : Nat} (h : wT es k a b = true) : wT es (k + 1) a b = true := by simp [wT, h]
theorem wT_ups {es : List (Nat × Nat)} {a b : Nat} {j : Nat} (h : wT es j a b = true) : ∀ {k : Nat}, j ≤ k → wT es k a b = true
  | 0, hk => by obtain rfl : j = 0 := by omega
                exact h
  | k + 1, hk => by
    by_cases e : j = k + 1
    · subst e; exact h
    · exact wT_up (wT_ups h (by omega))
/-- Within a round the row and the column through which it goes stand still. -/
theorem wT_col (es : List (Nat × Nat)) (k a : Nat) : wT es (k + 1) a k = wT es k a k := by
  show (wT es k a k || (wT es k a k && wT es k k k)) = _
  cases wT es k a k <;> rfl
theorem wT_row (es : List (Nat × Nat)) (k b : Nat) : wT es (k + 1) k b = wT es k k b := by
  show (wT es k k b || (wT es k k k && wT es k k b)) = _
  cases wT es k k b <;> cases wT es k k k <;> rfl
theorem wT_sound {es : List (Nat × Nat)} : ∀ {k a b : Nat}, wT es k a b = true → Rch es a b
  | 0, a, b, h => by
    rcases of_decide_eq_true h with rfl | h
    · exact .refl _
    · exact .step (.refl _) h
  | k + 1, a, b, h => by
    simp only [wT, Bool.or_eq_true, Bool.and_eq_true] at h
    rcases h with h | ⟨h, g⟩
    · exact wT_sound h
    · exact (wT_sound h).trans (wT_sound g)
theorem wT_through {es : List (Nat × Nat)} : ∀ {k j a b : Nat}, j < k → wT es k a j = true → wT es k j b = true → wT es k a b = true
  | 0, j, a, b, hj, _, _ => by omega
  | k + 1, j, a, b, hj, h, g => by
    by_cases e : j = k
    · subst e
      rw [wT_col] at h
      rw [wT_row] at g
      simp [wT, h, g]
    · simp only [wT, Bool.or_eq_true, Bool.and_eq_true] at h g
      rcases h with h | ⟨h1, h2⟩
      · rcases g with g | ⟨g1, g2⟩
        · exact wT_up (wT_through (by omega) h g)
        · have := wT_through (by omega) h g1
          simp [wT, this, g2]
      · rcases g with g | ⟨g1, g2⟩
        · have := wT_through (by omega) h2 g
          simp [wT, this, h1]
        · simp [wT, h1, g2]
/-- The table is complete after as many rounds as there are elements. -/
theorem wT_rch {es : List (Nat × Nat)} {n : Nat} (hes : ∀ e ∈ es, e.1 < n ∧ e.2 < n) {a b : Nat} (ha : a < n) : wT es n a b = true ↔ Rch es a b := by
  refine ⟨wT_sound, fun h => ?_⟩
  induction h with
  | refl => exact wT_ups (j := 0) (decide_eq_true (.inl rfl)) (Nat.zero_le _)
  | @step b c hab he ih => exact wT_through (hab.lt hes ha) ih (wT_ups (j := 0) (decide_eq_true (.inr he)) (Nat.zero_le _))

/-- A number that stands for a set of elements. -/
def MaskIs (P : Nat → Prop) (m : Nat) : Prop := ∀ i, m.testBit i = true ↔ P i
theorem MaskIs.one {P : Nat → Prop} {m k : Nat} (h : MaskIs P m) (g : MaskIs P k) : m = k :=
  Nat.eq_of_testBit_eq fun i => Bool.eq_iff_iff.2 ((h i).trans (g i).symm)
theorem MaskIs.congr {P Q : Nat → Prop} {m : Nat} (h : MaskIs P m) (e : ∀ i, P i ↔ Q i) : MaskIs Q m := fun i => (h i).trans (e i)
theorem MaskIs.or {P Q : Nat → Prop} {m k : Nat} (h : MaskIs P m) (g : MaskIs Q k) : MaskIs (fun i => P i ∨ Q i) (m ||| k) := fun i => by
  rw [Nat.testBit_or, Bool.or_eq_true]; exact or_congr (h i) (g i)
theorem MaskIs.and {P Q : Nat → Prop} {m k : Nat} (h : MaskIs P m) (g : MaskIs Q k) : MaskIs (fun i => P i ∧ Q i) (m &&& k) := fun i => by
  rw [Nat.testBit_and, Bool.and_eq_true]; exact and_congr (h i) (g i)
theorem MaskIs.bit (a : Nat) : MaskIs (fun i => i = a) (1 <<< a) := fun i => by
  rw [Nat.one_shiftLeft, Nat.testBit_two_pow, decide_eq_true_eq]; exact eq_comm
theorem MaskIs.lt {P : Nat → Prop} {m n : Nat} (h : MaskIs P m) (hP : ∀ i, P i → i < n) : m < 2 ^ n :=
  Nat.lt_pow_two_of_testBit _ fun i hi => by
    rw [← Bool.not_eq_true, h i]
    intro hp
    have := hP i hp
    omega
/-- Sets of the elements below and above, and a pair more. -/
theorem low_snoc {es : List (Nat × Nat)} {p q b lb lp : Nat} (hb : MaskIs (fun i => Rch es i b) lb) (hp : MaskIs (fun i => Rch es i p) lp) (hq : Rch es q b) : MaskIs (fun i => Rch (es ++ [(p, q)]) i b) (lb ||| lp) :=
  (hb.or hp).congr fun i => by rw [rch_snoc]; exact or_congr Iff.rfl ⟨fun h => ⟨h, hq⟩, And.left⟩
theorem low_same {es : List (Nat × Nat)} {p q b lb : Nat} (hb : MaskIs (fun i => Rch es i b) lb) (hq : ¬ Rch es q b) : MaskIs (fun i => Rch (es ++ [(p, q)]) i b) lb :=
  hb.congr fun i => by rw [rch_snoc]; exact ⟨.inl, fun h => h.elim id fun h => absurd h.2 hq⟩
theorem up_snoc {es : List (Nat × Nat)} {p q a ua uq : Nat} (ha : MaskIs (fun i => Rch es a i) ua) (hq : MaskIs (fun i => Rch es q i) uq) (hp : Rch es a p) : MaskIs (fun i => Rch (es ++ [(p, q)]) a i) (ua ||| uq) :=
  (ha.or hq).congr fun i => by rw [rch_snoc]; exact or_congr Iff.rfl ⟨fun h => ⟨hp, h⟩, And.right⟩
theorem up_same {es : List (Nat × Nat)} {p q a ua : Nat} (ha : MaskIs (fun i => Rch es a i) ua) (hp : ¬ Rch es a p) : MaskIs (fun i => Rch (es ++ [(p, q)]) a i) ua :=
  ha.congr fun i => by rw [rch_snoc]; exact ⟨.inl, fun h => h.elim id fun h => absurd h.1 hp⟩
/-- b covers a. -/
def Cov (es : List (Nat × Nat)) (a b : Nat) : Prop := a ≠ b ∧ Rch es a b ∧ ∀ x, Rch es a x → Rch es x b → x = a ∨ x = b
/-- What the program asks of a pair. -/
theorem cov_iff {es : List (Nat × Nat)} {a b m k : Nat} (hm : MaskIs (fun i => Rch es a i ∧ Rch es i b) m) (hk : MaskIs (fun i => i = a ∨ i = b) k) (hab : a ≠ b) : m = k ↔ Cov es a b := by
  constructor
  · rintro rfl
    have h : ∀ i, (Rch es a i ∧ Rch es i b) ↔ (i = a ∨ i = b) := fun i => (hm i).symm.trans (hk i)
    exact ⟨hab, ((h b).2 (.inr rfl)).1, fun x h1 h2 => (h x).1 ⟨h1, h2⟩⟩
  · rintro ⟨_, h, hx⟩
    refine hm.one (hk.congr fun i => ⟨?_, fun ⟨h1, h2⟩ => hx i h1 h2⟩)
    rintro (rfl | rfl)
    · exact ⟨.refl _, h⟩
    · exact ⟨h, .refl _⟩
/-- Two different elements are below each other. -/
def Circ (es : List (Nat × Nat)) (n : Nat) : Prop := ∃ a b, a < n ∧ b < n ∧ a ≠ b ∧ Rch es a b ∧ Rch es b a
theorem circ_at {es : List (Nat × Nat)} {n a m k : Nat} (hes : ∀ e ∈ es, e.1 < n ∧ e.2 < n) (ha : a < n) (hm : MaskIs (fun i => Rch es a i ∧ Rch es i a) m) (hk : MaskIs (fun i => i = a) k) : m = k ↔ ∀ b, b < n → Rch es a b → Rch es b a → b = a := by
  constructor
  · rintro rfl b _ h g
    exact (hk b).1 ((hm b).2 ⟨h, g⟩)
  · intro h
    refine hm.one (hk.congr fun i => ⟨?_, fun ⟨h1, h2⟩ => h i (h1.lt hes ha) h1 h2⟩)
    rintro rfl
    exact ⟨.refl _, .refl _⟩
end Go.Proofs.YtdihcmohpbgmmaaDoor
