/-
  Ideals, plainly: how each is made from a lesser one; the program's test.
-/
import Derived.Test.YtdihcmohpbgmmaaDoorPtC
namespace Go.Proofs.YtdihcmohpbgmmaaDoor
open Go.RowKit
set_option linter.unusedVariables false

/-- A set that has with each element all that are below it. -/
def IdlP (es : List (Nat × Nat)) (t : Nat) : Prop := ∀ a b, t.testBit a = true → Rch es b a → t.testBit b = true
/-- A set that is not empty has a greatest element. -/
theorem max_ex {es : List (Nat × Nat)} {N : Nat} (hes : ∀ e ∈ es, e.1 < N ∧ e.2 < N) (hc : ¬ Circ es N) (t : Nat) : ∀ (m a : Nat), maskOf (selN (fun i => Rch es a i) N) ≤ m → a < N → t.testBit a = true → ∃ x, x < N ∧ t.testBit x = true ∧ ∀ b, t.testBit b = true → Rch es x b → b = x
  | 0, a, hm, ha, hd => by
    exfalso
    have h := (maskOf_selN (P := fun i => Rch es a i) (N := N) a).2 ⟨ha, .refl _⟩
    rw [show maskOf (selN (fun i => Rch es a i) N) = 0 by omega] at h
    simp at h
  | m + 1, a, hm, ha, hd => by
    by_cases hn : ∀ b, t.testBit b = true → Rch es a b → b = a
    · exact ⟨a, ha, hd, hn⟩
    · obtain ⟨b, hb, hr, hne⟩ : ∃ b, t.testBit b = true ∧ Rch es a b ∧ b ≠ a := by
        apply Classical.byContradiction
        intro hx
        exact hn fun b h1 h2 => Classical.byContradiction fun h3 => hx ⟨b, h1, h2, h3⟩
      have hbN : b < N := hr.lt hes ha
      refine max_ex hes hc t m b ?_ hbN hb
      have h1 := maskOf_selN (P := fun i => Rch es a i) (N := N)
      have h2 := maskOf_selN (P := fun i => Rch es b i) (N := N)
      have hle : maskOf (selN (fun i => Rch es b i) N) ≤ maskOf (selN (fun i => Rch es a i) N) := by
        have e : maskOf (selN (fun i => Rch es b i) N) &&& maskOf (selN (fun i => Rch es a i) N) = maskOf (selN (fun i => Rch es b i) N) :=
          (h2.and h1).one (h2.congr fun i => ⟨fun h => ⟨h, h.1, hr.trans h.2⟩, fun h => h.1⟩)
        rw [← e]; exact Nat.and_le_right
      have hlt : maskOf (selN (fun i => Rch es b i) N) ≠ maskOf (selN (fun i => Rch es a i) N) := fun e => by
        have h3 := (h1 a).2 ⟨ha, .refl _⟩
        rw [← e] at h3
        exact hne (Circ.no hc hbN ha ((h2 a).1 h3).2 hr)
      omega
theorem bit_lt {t N a : Nat} (ht : t < 2 ^ N) (h : t.testBit a = true) : a < N := by
  apply Classical.byContradiction
  intro hn
  rw [Nat.testBit_lt_two_pow (Nat.lt_of_lt_of_le ht (Nat.pow_le_pow_right (by omega) (by omega)))] at h
  cases h
theorem or_bit (u a i : Nat) : (u ||| 1 <<< a).testBit i = (u.testBit i || decide (a = i)) := by
  rw [Nat.testBit_or, Nat.one_shiftLeft, Nat.testBit_two_pow]
/-- An ideal is empty, or a lesser one and a next element. -/
theorem idl_step {es : List (Nat × Nat)} {N t : Nat} (hes : ∀ e ∈ es, e.1 < N ∧ e.2 < N) (hc : ¬ Circ es N) (ht : t < 2 ^ N) :
    IdlP es t ↔ t = 0 ∨ ∃ u a, a < N ∧ u < t ∧ IdlP es u ∧ NxtP es u a ∧ t = u ||| 1 <<< a := by
  constructor
  · intro h
    by_cases h0 : t = 0
    · exact .inl h0
    · obtain ⟨a, ha⟩ : ∃ a, t.testBit a = true := by
        apply Classical.byContradiction
        intro hn
        refine h0 (Nat.eq_of_testBit_eq fun i => ?_)
        rw [Nat.zero_testBit]
        cases hi : t.testBit i with
        | false => rfl
        | true => exact absurd ⟨i, hi⟩ hn
      obtain ⟨x, hx, hxt, hm⟩ := max_ex hes hc t _ a (Nat.le_refl _) (bit_lt ht ha) ha
      have hb : ∀ i, (t ^^^ 1 <<< x).testBit i = (t.testBit i && !decide (x = i)) := fun i => by
        rw [Nat.testBit_xor, Nat.one_shiftLeft, Nat.testBit_two_pow]
        by_cases e : x = i
        · subst e; simp [hxt]
        · simp [e]
      have hor : t = (t ^^^ 1 <<< x) ||| 1 <<< x := by
        refine Nat.eq_of_testBit_eq fun i => ?_
        rw [or_bit, hb]
        by_cases e : x = i
        · subst e; simp [hxt]
        · simp [e]
      have hle : (t ^^^ 1 <<< x) ≤ t := by
        have e : (t ^^^ 1 <<< x) &&& t = t ^^^ 1 <<< x := by
          refine Nat.eq_of_testBit_eq fun i => ?_
          rw [Nat.testBit_and, hb]
          cases t.testBit i <;> simp
        rw [← e]; exact Nat.and_le_right
      have hne : (t ^^^ 1 <<< x) ≠ t := fun e => by
        have := hb x
        rw [e, hxt] at this
        simp at this
      refine .inr ⟨_, x, hx, by omega, fun i b hi hr => ?_, ⟨by rw [hb]; simp, fun b hr hbx => ?_⟩, hor⟩
      · rw [hb] at hi ⊢
        simp only [Bool.and_eq_true, Bool.not_eq_true', decide_eq_false_iff_not] at hi ⊢
        refine ⟨h i b hi.1 hr, fun e => ?_⟩
        subst e
        exact hi.2 (hm i hi.1 hr).symm
      · rw [hb, h x b hxt hr, decide_eq_false (fun e => hbx e.symm)]; rfl
  · rintro (rfl | ⟨u, a, ha, _, hu, hn, rfl⟩)
    · intro a b hi
      rw [Nat.zero_testBit] at hi; cases hi
    · intro i b hi hr
      rw [or_bit, Bool.or_eq_true, decide_eq_true_eq] at hi ⊢
      rcases hi with hi | rfl
      · exact .inl (hu i b hi hr)
      · by_cases e : b = a
        · exact .inr e.symm
        · exact .inl (hn.2 b hr e)
/-- What the family of ideals asks of each element says that the set is an ideal. -/
theorem idl_test {es : List (Nat × Nat)} {N s : Nat} {lo up : Nat → Nat} (hN : N ≤ 12) (hes : ∀ e ∈ es, e.1 < N ∧ e.2 < N) (ho : OrdIs es N lo up) (hs : s < 2 ^ N) :
    ((membL s).all fun x => decide (lo x.toNat &&& (65535 - s) = 0)) = true ↔ IdlP es s := by
  have hs2 : s < 65536 := Nat.lt_of_lt_of_le hs (Nat.le_trans (Nat.pow_le_pow_right (by omega) hN) (by omega))
  rw [List.all_eq_true]
  constructor
  · intro h a b ha hr
    have haN := bit_lt hs ha
    have h1 := h (a : Int) (mem_membL.2 ⟨by omega, by omega, by rw [Int.toNat_natCast]; exact ha⟩)
    rw [Int.toNat_natCast, decide_eq_true_eq] at h1
    have hla : lo a < 65536 := by have := ho.ltL hes hN haN; omega
    have h2 : ((lo a).testBit b && !s.testBit b) = false := by rw [← andn_bit hla hs2, h1, Nat.zero_testBit]
    rw [(ho.lo a haN b).2 hr] at h2
    simpa using h2
  · intro h x hx
    obtain ⟨_, _, hb⟩ := mem_membL.1 hx
    have haN := bit_lt hs hb
    have hla : lo x.toNat < 65536 := by have := ho.ltL hes hN haN; omega
    rw [decide_eq_true_eq]
    refine Nat.eq_of_testBit_eq fun i => ?_
    rw [andn_bit hla hs2, Nat.zero_testBit]
    cases hi : (lo x.toNat).testBit i with
    | false => rfl
    | true => rw [h _ i hb ((ho.lo _ haN i).1 hi)]; rfl
open Classical in
/-- How many of the sets below k are ideals. -/
noncomputable def cntI (es : List (Nat × Nat)) (k : Nat) : Nat := ((List.range k).filter fun s => decide (IdlP es s)).length
theorem cntI_zero (es : List (Nat × Nat)) : cntI es 0 = 0 := rfl
theorem cntI_yes {es : List (Nat × Nat)} {k : Nat} (h : IdlP es k) : cntI es (k + 1) = cntI es k + 1 := by simp [cntI, List.range_succ, List.filter_append, h]
theorem cntI_no {es : List (Nat × Nat)} {k : Nat} (h : ¬ IdlP es k) : cntI es (k + 1) = cntI es k := by simp [cntI, List.range_succ, List.filter_append, h]
theorem cntI_le (es : List (Nat × Nat)) (k : Nat) : cntI es k ≤ k := Nat.le_trans (List.length_filter_le _ _) (by simp)
open Classical in
theorem sets_cnt {es : List (Nat × Nat)} {N : Nat} {lo up : Nat → Nat} (hN : N ≤ 12) (hes : ∀ e ∈ es, e.1 < N ∧ e.2 < N) (ho : OrdIs es N lo up) :
    (setsL (fun a s => decide (lo a &&& (65535 - s) = 0)) (2 ^ N)).length = cntI es (2 ^ N) := by
  unfold setsL cntI
  congr 1
  refine List.filter_congr fun s hs => ?_
  rw [Bool.eq_iff_iff, idl_test hN hes ho (List.mem_range.1 hs), decide_eq_true_eq]
end Go.Proofs.YtdihcmohpbgmmaaDoor
