/-
  Sets of vertices as numbers, plainly.
-/
import Derived.Test.YtljmfpifhbfdcaaDoorCxN
namespace Go.Proofs.YtljmfpifhbfdcaaDoor
open Go.RowKit
set_option linter.unusedVariables false
set_option linter.unusedSimpArgs false

/-- The number of a set of vertices. -/
def maskOf (l : List Int) : Nat := l.foldl (fun m v => m ||| (1 <<< v.toNat)) 0
theorem maskOf_snoc (l : List Int) (v : Int) : maskOf (l ++ [v]) = maskOf l ||| (1 <<< v.toNat) := by simp [maskOf]
theorem maskOf_bit (l : List Int) (h : ∀ v ∈ l, 0 ≤ v) (t : Nat) : (maskOf l).testBit t = decide ((t : Int) ∈ l) := by
  have key : ∀ (l : List Int) (m : Nat), (∀ v ∈ l, 0 ≤ v) → (l.foldl (fun m v => m ||| (1 <<< v.toNat)) m).testBit t = (m.testBit t || decide ((t : Int) ∈ l)) := by
    intro l
    induction l with
    | nil => intro m _; simp
    | cons v l ih =>
      intro m hv
      rw [List.foldl_cons, ih _ fun x hx => hv x (by simp [hx])]
      have hv0 := hv v (by simp)
      rw [Nat.testBit_or, Nat.one_shiftLeft, Nat.testBit_two_pow]
      have e : decide (v.toNat = t) = decide ((t : Int) = v) := by rw [Bool.eq_iff_iff]; simp; omega
      rw [e, Bool.or_assoc]
      congr 1
      rw [Bool.eq_iff_iff]; simp
  rw [maskOf, key l 0 h]; simp
theorem maskOf_lt (l : List Int) (h : ∀ v ∈ l, 0 ≤ v ∧ v ≤ 9) : maskOf l < 1024 := by
  have key : ∀ (l : List Int) (m : Nat), m < 1024 → (∀ v ∈ l, 0 ≤ v ∧ v ≤ 9) → l.foldl (fun m v => m ||| (1 <<< v.toNat)) m < 1024 := by
    intro l
    induction l with
    | nil => intro m hm _; exact hm
    | cons v l ih =>
      intro m hm hv
      rw [List.foldl_cons]
      refine ih _ ?_ fun x hx => hv x (by simp [hx])
      have hv0 := hv v (by simp)
      have : 1 <<< v.toNat < 2 ^ 10 := by rw [Nat.one_shiftLeft]; exact Nat.pow_lt_pow_right (by omega) (by omega)
      exact Nat.or_lt_two_pow (n := 10) hm this
  exact key l 0 (by omega) h
/-- The vertices of a set, in order. -/
def vertsOf (m : Nat) : List Int := ((List.range 10).filter fun v => m.testBit v).map fun (v : Nat) => (v : Int)
theorem mem_verts {m : Nat} {v : Int} : v ∈ vertsOf m ↔ 0 ≤ v ∧ v ≤ 9 ∧ m.testBit v.toNat = true := by
  unfold vertsOf
  simp only [List.mem_map, List.mem_filter, List.mem_range]
  constructor
  · rintro ⟨t, ⟨h1, h2⟩, rfl⟩
    exact ⟨by omega, by omega, by simpa using h2⟩
  · rintro ⟨h1, h2, h3⟩
    exact ⟨v.toNat, ⟨by omega, h3⟩, by omega⟩
theorem verts_rise (m : Nat) : (vertsOf m).Pairwise (· < ·) := by
  unfold vertsOf
  rw [List.pairwise_map]
  refine List.Pairwise.imp (fun h => by omega) (List.Pairwise.filter _ List.pairwise_lt_range)
/-- Two rising lists with the same numbers are one. -/
theorem rise_ext : ∀ {L M : List Int}, L.Pairwise (· < ·) → M.Pairwise (· < ·) → (∀ x, x ∈ L ↔ x ∈ M) → L = M
  | [], [], _, _, _ => rfl
  | [], y :: M, _, _, h => absurd ((h y).2 (by simp)) (by simp)
  | x :: L, [], _, _, h => absurd ((h x).1 (by simp)) (by simp)
  | x :: L, y :: M, hL, hM, h => by
    have hL' := List.pairwise_cons.1 hL
    have hM' := List.pairwise_cons.1 hM
    have exy : x = y := by
      rcases List.mem_cons.1 ((h x).1 (by simp)) with e | e
      · exact e
      · rcases List.mem_cons.1 ((h y).2 (by simp)) with e' | e'
        · exact e'.symm
        · have h1 := hM'.1 x e
          have h2 := hL'.1 y e'
          omega
    subst exy
    rw [rise_ext hL'.2 hM'.2 fun z => ?_]
    have hz := h z
    simp only [List.mem_cons] at hz
    constructor
    · intro hm
      rcases hz.1 (.inr hm) with e | e
      · subst e; have := hL'.1 z hm; omega
      · exact e
    · intro hm
      rcases hz.2 (.inr hm) with e | e
      · subst e; have := hM'.1 z hm; omega
      · exact e
theorem ris_pair {hi : Int} : ∀ {l : List Int} {n : Int}, risB hi n l = true → l.Pairwise (· < ·) ∧ ∀ v ∈ l, n ≤ v ∧ v ≤ hi
  | [], _, _ => ⟨List.Pairwise.nil, fun v h => by simp at h⟩
  | v :: l, n, h => by
    unfold risB at h
    rw [Bool.and_eq_true, decide_eq_true_eq] at h
    obtain ⟨h1, h2⟩ := ris_pair h.2
    refine ⟨List.pairwise_cons.2 ⟨fun x hx => by have := (h2 x hx).1; omega, h1⟩, fun x hx => ?_⟩
    rcases List.mem_cons.1 hx with e | e
    · subst e; exact h.1
    · have := h2 x e; exact ⟨by omega, this.2⟩
theorem pair_ris {hi : Int} : ∀ {l : List Int} {n : Int}, l.Pairwise (· < ·) → (∀ v ∈ l, n ≤ v ∧ v ≤ hi) → risB hi n l = true
  | [], _, _, _ => rfl
  | v :: l, n, h, g => by
    unfold risB
    have h' := List.pairwise_cons.1 h
    rw [Bool.and_eq_true, decide_eq_true_eq]
    exact ⟨g v (by simp), pair_ris h'.2 fun x hx => ⟨by have := h'.1 x hx; omega, (g x (by simp [hx])).2⟩⟩
/-- A simplex. -/
structure Sim (l : List Int) : Prop where
  pos : 1 ≤ l.length
  le : l.length ≤ 4
  rise : l.Pairwise (· < ·)
  bd : ∀ v ∈ l, 0 ≤ v ∧ v ≤ 9
theorem sim_iff {l : List Int} : simB l = true ↔ Sim l := by
  unfold simB
  rw [Bool.and_eq_true, decide_eq_true_eq]
  constructor
  · rintro ⟨⟨h1, h2⟩, h3⟩
    obtain ⟨a, b⟩ := ris_pair h3
    exact ⟨h1, h2, a, b⟩
  · rintro ⟨h1, h2, a, b⟩
    exact ⟨⟨h1, h2⟩, pair_ris a b⟩
theorem Sim.verts {l : List Int} (h : Sim l) : vertsOf (maskOf l) = l := by
  refine rise_ext (verts_rise _) h.rise fun v => ?_
  rw [mem_verts]
  constructor
  · rintro ⟨h1, h2, h3⟩
    rw [maskOf_bit l (fun v hv => (h.bd v hv).1)] at h3
    have := of_decide_eq_true h3
    rwa [show ((v.toNat : Nat) : Int) = v by omega] at this
  · intro hv
    have hb := h.bd v hv
    refine ⟨hb.1, hb.2, ?_⟩
    rw [maskOf_bit l (fun v hv => (h.bd v hv).1)]
    exact decide_eq_true (by rwa [show ((v.toNat : Nat) : Int) = v by omega])
theorem verts_bd (m : Nat) : ∀ v ∈ vertsOf m, 0 ≤ v ∧ v ≤ 9 := fun v hv => ⟨(mem_verts.1 hv).1, (mem_verts.1 hv).2.1⟩
theorem mask_verts {m : Nat} (h : m < 1024) : maskOf (vertsOf m) = m := by
  apply Nat.eq_of_testBit_eq
  intro t
  rw [maskOf_bit _ fun v hv => (verts_bd m v hv).1]
  by_cases ht : t ≤ 9
  · cases hb : m.testBit t with
    | true => exact decide_eq_true (mem_verts.2 ⟨by omega, by omega, by simpa using hb⟩)
    | false => exact decide_eq_false fun hm => by have := (mem_verts.1 hm).2.2; simp at this; rw [hb] at this; cases this
  · have h1 : m.testBit t = false := Nat.testBit_lt_two_pow (Nat.lt_of_lt_of_le h (by
      have : (2 : Nat) ^ 10 ≤ 2 ^ t := Nat.pow_le_pow_right (by omega) (by omega)
      omega))
    rw [h1]
    exact decide_eq_false fun hm => by have := (mem_verts.1 hm).2.1; omega
/-- A part of a set. -/
def SubM (f m : Nat) : Prop := ∀ t, f.testBit t = true → m.testBit t = true
theorem subM_and {f m : Nat} : SubM f m ↔ f &&& m = f := by
  constructor
  · intro h
    apply Nat.eq_of_testBit_eq
    intro t
    rw [Nat.testBit_and]
    cases hf : f.testBit t with
    | true => rw [h t hf]; rfl
    | false => rfl
  · intro h t ht
    rw [← h, Nat.testBit_and, Bool.and_eq_true] at ht
    exact ht.2
/-- A face: a part of a list that is not empty. -/
def Face (x s : List Int) : Prop := x ≠ [] ∧ x.Sublist s
theorem Sim.face {x s : List Int} (h : Sim s) (hf : Face x s) : Sim x := by
  refine ⟨?_, Nat.le_trans hf.2.length_le h.le, h.rise.sublist hf.2, fun v hv => h.bd v (hf.2.subset hv)⟩
  have := List.length_pos_iff.2 hf.1; omega
theorem rise_sub : ∀ {x s : List Int}, x.Pairwise (· < ·) → s.Pairwise (· < ·) → (∀ v ∈ x, v ∈ s) → x.Sublist s
  | [], s, _, _, _ => List.nil_sublist s
  | v :: x, [], _, _, h => absurd (h v (by simp)) (by simp)
  | v :: x, w :: s, hx, hs, h => by
    have hx' := List.pairwise_cons.1 hx
    have hs' := List.pairwise_cons.1 hs
    by_cases e : v = w
    · subst e
      refine List.Sublist.cons_cons _ (rise_sub hx'.2 hs'.2 fun u hu => ?_)
      rcases List.mem_cons.1 (h u (by simp [hu])) with e | e
      · subst e; have := hx'.1 u hu; omega
      · exact e
    · have hv : v ∈ s := (List.mem_cons.1 (h v (by simp))).resolve_left e
      have hwv := hs'.1 v hv
      refine List.Sublist.cons _ (rise_sub hx hs'.2 fun u hu => ?_)
      rcases List.mem_cons.1 (h u hu) with e' | e'
      · subst e'
        rcases List.mem_cons.1 hu with e2 | e2
        · omega
        · have := hx'.1 u e2; omega
      · exact e'
theorem face_iff {s : List Int} (h : Sim s) {f : Nat} (hf : f < 1024) (h0 : f ≠ 0) : Face (vertsOf f) s ↔ SubM f (maskOf s) := by
  constructor
  · rintro ⟨_, hs⟩ t ht
    have htb : t ≤ 9 := by
      rcases Nat.lt_or_ge 9 t with a | a
      · have h1 : f.testBit t = false := Nat.testBit_lt_two_pow (Nat.lt_of_lt_of_le hf (by
          have : (2 : Nat) ^ 10 ≤ 2 ^ t := Nat.pow_le_pow_right (by omega) (by omega)
          omega))
        rw [h1] at ht; cases ht
      · exact a
    rw [maskOf_bit s fun v hv => (h.bd v hv).1]
    exact decide_eq_true (hs.subset (mem_verts.2 ⟨by omega, by omega, by simpa using ht⟩))
  · intro hs
    refine ⟨fun e => h0 ?_, rise_sub (verts_rise f) h.rise fun v hv => ?_⟩
    · have := mask_verts hf
      rw [e] at this
      exact this.symm
    · obtain ⟨h1, h2, h3⟩ := mem_verts.1 hv
      have := hs _ h3
      rw [maskOf_bit s fun v hv => (h.bd v hv).1] at this
      have := of_decide_eq_true this
      rwa [show ((v.toNat : Nat) : Int) = v by omega] at this
end Go.Proofs.YtljmfpifhbfdcaaDoor
