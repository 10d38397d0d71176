/-
  Simplices as lists of numbers, plainly: increasing lists of one to four numbers from 0 to 9.
  Simplices, plainly: their order, their faces, lists of simplices in order, and the lists that have all faces.
  Sets of vertices as numbers, plainly.
  The library's table behind TrailingZeros16, as its text lays it, and sets of numbers, plainly: their members in order.
-/
import Derived.Test.YtdihcmohpbgmmaaDoorPA
import Derived.Lib.AppendIntMem
import Derived.Lib.LaidTab
namespace Go.Proofs.YtdihcmohpbgmmaaDoor
open Go.RowKit
set_option linter.unusedVariables false

/-- Whether a list rises from n on and ends at hi or below. -/
def risB (hi : Int) : Int → List Int → Bool
  | _, [] => true
  | n, v :: r => decide (n ≤ v ∧ v ≤ hi) && risB hi (v + 1) r
theorem risB_drop {hi n : Int} {l : List Int} {k : Nat} (h : k < l.length) : risB hi n (l.drop k) = (decide (n ≤ l[k] ∧ l[k] ≤ hi) && risB hi (l[k] + 1) (l.drop (k + 1))) := by
  rw [List.drop_eq_getElem_cons h]; rfl
theorem risB_end {hi n : Int} {l : List Int} {k : Nat} (h : l.length ≤ k) : risB hi n (l.drop k) = true := by
  rw [List.drop_eq_nil_of_le h]; rfl
/-- Where a list has to go on that has come to its k-th number. -/
def nxt (lo : Int) (l : List Int) : Nat → Int
  | 0 => lo
  | k + 1 => l.getD k 0 + 1
/-- Whether a list is a simplex. -/
def simB (l : List Int) : Bool := decide (1 ≤ l.length ∧ l.length ≤ 4) && risB 9 0 l
theorem simB_no {l : List Int} (h : l.length < 1 ∨ 4 < l.length) : simB l = false := by
  unfold simB
  rw [show decide (1 ≤ l.length ∧ l.length ≤ 4) = false from decide_eq_false (by omega)]; rfl
theorem simB_in {l : List Int} (h1 : 1 ≤ l.length) (h4 : l.length ≤ 4) : simB l = risB 9 0 l := by
  unfold simB
  rw [show decide (1 ≤ l.length ∧ l.length ≤ 4) = true from decide_eq_true ⟨h1, h4⟩]; rfl
end Go.Proofs.YtdihcmohpbgmmaaDoor

namespace Go.Proofs.YtdihcmohpbgmmaaDoor
open Go.RowKit
set_option linter.unusedVariables false

/-- The lexicographic comparison of two lists. -/
def cmpL : List Int → List Int → Int
  | [], [] => 0
  | [], _ :: _ => -1
  | _ :: _, [] => 1
  | x :: xs, y :: ys => if x < y then -1 else if y < x then 1 else cmpL xs ys
theorem cmpL_self : ∀ a : List Int, cmpL a a = 0
  | [] => rfl
  | x :: xs => by simp [cmpL, cmpL_self xs]
theorem cmpL_zero : ∀ a b : List Int, cmpL a b = 0 → a = b
  | [], [], _ => rfl
  | [], _ :: _, h => by simp [cmpL] at h
  | _ :: _, [], h => by simp [cmpL] at h
  | x :: xs, y :: ys, h => by
    unfold cmpL at h
    split at h
    · simp at h
    · split at h
      · simp at h
      · have hxy : x = y := by omega
        rw [hxy, cmpL_zero xs ys h]
theorem cmpL_turn : ∀ a b : List Int, cmpL b a = - cmpL a b
  | [], [] => rfl
  | [], _ :: _ => rfl
  | _ :: _, [] => rfl
  | x :: xs, y :: ys => by
    unfold cmpL
    by_cases h1 : x < y
    · have h2 : ¬ y < x := by omega
      simp [h1, h2]
    · by_cases h2 : y < x
      · simp [h1, h2]
      · simp [h1, h2, cmpL_turn xs ys]
theorem cmpL_vals : ∀ a b : List Int, cmpL a b = -1 ∨ cmpL a b = 0 ∨ cmpL a b = 1
  | [], [] => .inr (.inl rfl)
  | [], _ :: _ => .inl rfl
  | _ :: _, [] => .inr (.inr rfl)
  | x :: xs, y :: ys => by
    unfold cmpL
    split
    · exact .inl rfl
    · split
      · exact .inr (.inr rfl)
      · exact cmpL_vals xs ys
theorem cmpL_trans : ∀ a b c : List Int, cmpL a b < 0 → cmpL b c < 0 → cmpL a c < 0
  | [], [], _, h, _ => by simp [cmpL] at h
  | [], _ :: _, [], _, h => by simp [cmpL] at h
  | [], _ :: _, _ :: _, _, _ => by simp [cmpL]
  | _ :: _, [], _, h, _ => by simp [cmpL] at h
  | _ :: _, _ :: _, [], _, h => by simp [cmpL] at h
  | x :: xs, y :: ys, z :: zs, h, g => by
    unfold cmpL at h g ⊢
    by_cases h1 : x < y
    · by_cases h2 : y < z
      · simp [show x < z by omega]
      · by_cases h3 : z < y
        · simp [h2, h3] at g
        · simp [show x < z by omega]
    · by_cases h2 : y < x
      · simp [h1, h2] at h
      · simp [h1, h2] at h
        by_cases h3 : y < z
        · simp [show x < z by omega]
        · by_cases h4 : z < y
          · simp [h3, h4] at g
          · simp [h3, h4] at g
            have e1 : ¬ x < z := by omega
            have e2 : ¬ z < x := by omega
            simp [e1, e2]
            exact cmpL_trans xs ys zs h g
/-- The order of simplices. -/
def befB (a b : List Int) : Bool := decide (a.length < b.length ∨ a.length = b.length ∧ cmpL a b < 0)
theorem befB_iff {a b : List Int} : befB a b = true ↔ a.length < b.length ∨ a.length = b.length ∧ cmpL a b < 0 := by simp [befB]
theorem befB_irr (a : List Int) : befB a a = false := by simp [befB, cmpL_self]
theorem befB_trans {a b c : List Int} (h : befB a b = true) (g : befB b c = true) : befB a c = true := by
  rw [befB_iff] at h g ⊢
  rcases h with h | ⟨h, h'⟩ <;> rcases g with g | ⟨g, g'⟩
  · left; omega
  · left; omega
  · left; omega
  · right; exact ⟨by omega, cmpL_trans a b c h' g'⟩
theorem befB_total {a b : List Int} (h : befB a b = false) (g : befB b a = false) : a = b := by
  have h' : ¬ befB a b = true := by rw [h]; simp
  have g' : ¬ befB b a = true := by rw [g]; simp
  rw [befB_iff] at h' g'
  have hl : a.length = b.length := by omega
  have h1 : ¬ cmpL a b < 0 := fun x => h' (.inr ⟨hl, x⟩)
  have h2 : ¬ cmpL b a < 0 := fun x => g' (.inr ⟨hl.symm, x⟩)
  rw [cmpL_turn] at h2
  exact cmpL_zero a b (by omega)
theorem befB_asymm {a b : List Int} (h : befB a b = true) : befB b a = false := by
  cases g : befB b a with
  | false => rfl
  | true => have := befB_trans h g; rw [befB_irr] at this; cases this
/-- In strict order. -/
def Ord (L : List (List Int)) : Prop := L.Pairwise fun a b => befB a b = true
theorem Ord.nodup {L : List (List Int)} (h : Ord L) : L.Nodup := h.imp fun hab e => by subst e; rw [befB_irr] at hab; cases hab
theorem Ord.ext : ∀ {L M : List (List Int)}, Ord L → Ord M → (∀ x, x ∈ L ↔ x ∈ M) → L = M
  | [], [], _, _, _ => rfl
  | [], y :: M, _, _, h => absurd ((h y).2 (by simp)) (by simp)
  | x :: L, [], _, _, h => absurd ((h x).1 (by simp)) (by simp)
  | x :: L, y :: M, hL, hM, h => by
    have hL' := List.pairwise_cons.1 hL
    have hM' := List.pairwise_cons.1 hM
    have exy : x = y := by
      rcases List.mem_cons.1 ((h x).1 (by simp)) with e | e
      · exact e
      · rcases List.mem_cons.1 ((h y).2 (by simp)) with e' | e'
        · exact e'.symm
        · have h1 := hM'.1 x e
          have h2 := hL'.1 y e'
          rw [befB_asymm h1] at h2; cases h2
    subst exy
    rw [Ord.ext hL'.2 hM'.2 fun z => ?_]
    have hz := h z
    simp only [List.mem_cons] at hz
    constructor
    · intro hm
      rcases hz.1 (.inr hm) with e | e
      · subst e; have := hL'.1 z hm; rw [befB_irr] at this; cases this
      · exact e
    · intro hm
      rcases hz.2 (.inr hm) with e | e
      · subst e; have := hM'.1 z hm; rw [befB_irr] at this; cases this
      · exact e
/-- One more, at its place. -/
theorem Ord.put {L M : List (List Int)} {s : List Int} (h : Ord (L ++ M)) (h1 : ∀ x ∈ L, befB x s = true) (h2 : ∀ x ∈ M, befB s x = true) : Ord (L ++ s :: M) := by
  unfold Ord at *
  rw [List.pairwise_append] at h ⊢
  refine ⟨h.1, List.pairwise_cons.2 ⟨fun y hy => h2 y hy, h.2.1⟩, fun a ha b hb => ?_⟩
  rcases List.mem_cons.1 hb with e | e
  · subst e; exact h1 a ha
  · exact h.2.2 a ha b e
/-- A place for one more: all before it are before, none behind it is. -/
theorem Ord.place {L : List (List Int)} {s : List Int} (h : Ord L) (hs : s ∉ L) {k : Nat} (hk : k ≤ L.length) (h1 : ∀ i (hi : i < k), befB (L[i]'(by omega)) s = true) (h2 : ∀ hk' : k < L.length, befB L[k] s = false) :
    Ord (L.take k ++ s :: L.drop k) := by
  have e := List.take_append_drop k L
  refine Ord.put (by rw [e]; exact h) (fun x hx => ?_) (fun x hx => ?_)
  · obtain ⟨i, hi, rfl⟩ := List.getElem_of_mem hx
    rw [List.length_take] at hi
    rw [List.getElem_take]
    exact h1 i (by omega)
  · by_cases hk' : k < L.length
    · have hd := List.drop_eq_getElem_cons hk'
      have hlk : befB s L[k] = true := by
        cases g : befB s L[k] with
        | true => rfl
        | false => exact absurd (List.getElem_mem hk') (by rw [← befB_total g (h2 hk')]; exact hs)
      rw [hd] at hx
      rcases List.mem_cons.1 hx with e' | e'
      · rw [e']; exact hlk
      · have hp : Ord (L.drop k) := by rw [← e] at h; exact (List.pairwise_append.1 h).2.1
        rw [hd] at hp
        exact befB_trans hlk ((List.pairwise_cons.1 hp).1 x e')
    · rw [List.drop_eq_nil_of_le (by omega)] at hx; simp at hx
theorem ord_ex : ∀ l : List (List Int), ∃ L, Ord L ∧ ∀ x, x ∈ L ↔ x ∈ l
  | [] => ⟨[], List.Pairwise.nil, fun x => Iff.rfl⟩
  | s :: l => by
    obtain ⟨L, h, hm⟩ := ord_ex l
    by_cases hs : s ∈ L
    · exact ⟨L, h, fun x => by rw [hm, List.mem_cons]; exact ⟨.inr, fun e => by rcases e with rfl | e; exact (hm _).1 hs; exact e⟩⟩
    · have key : ∀ n, n ≤ L.length → (∀ i (hi : i < n) (hl : i < L.length), befB L[i] s = true) → ∃ k, ∃ hk : k ≤ L.length, (∀ i (hi : i < k), befB (L[i]'(by omega)) s = true) ∧ ∀ hk' : k < L.length, befB L[k] s = false := by
        intro n
        generalize hd : L.length - n = d
        induction d generalizing n with
        | zero => exact fun hn hh => ⟨n, hn, fun i hi => hh i hi (by omega), fun hk' => by omega⟩
        | succ d ih =>
          intro hn hh
          cases g : befB (L[n]'(by omega)) s with
          | false => exact ⟨n, hn, fun i hi => hh i hi (by omega), fun _ => g⟩
          | true =>
            refine ih (n + 1) (by omega) (by omega) fun i hi hl => ?_
            by_cases e : i = n
            · subst e; exact g
            · exact hh i (by omega) hl
      obtain ⟨k, hk, h1, h2⟩ := key 0 (by omega) fun i hi => absurd hi (Nat.not_lt_zero i)
      refine ⟨_, Ord.place h hs hk h1 h2, fun x => ?_⟩
      have e := List.take_append_drop k L
      have : x ∈ L ↔ x ∈ L.take k ∨ x ∈ L.drop k := by rw [← List.mem_append, e]
      simp only [List.mem_append, List.mem_cons]
      rw [← hm x, this]
      constructor
      · rintro (h | h | h)
        · exact .inr (.inl h)
        · exact .inl h
        · exact .inr (.inr h)
      · rintro (h | h | h)
        · exact .inr (.inl h)
        · exact .inl h
        · exact .inr (.inr h)
end Go.Proofs.YtdihcmohpbgmmaaDoor

namespace Go.Proofs.YtdihcmohpbgmmaaDoor
open Go.RowKit
set_option linter.unusedVariables false
set_option linter.unusedSimpArgs false

/-- The number of a set of vertices. -/
def maskOf (l : List Int) : Nat := l.foldl (fun m v => m ||| (1 <<< v.toNat)) 0
theorem maskOf_snoc (l : List Int) (v : Int) : maskOf (l ++ [v]) = maskOf l ||| (1 <<< v.toNat) := by simp [maskOf]
theorem maskOf_bit (l : List Int) (h : ∀ v ∈ l, 0 ≤ v) (t : Nat) : (maskOf l).testBit t = decide ((t : Int) ∈ l) := by
  have key : ∀ (l : List Int) (m : Nat), (∀ v ∈ l, 0 ≤ v) → (l.foldl (fun m v => m ||| (1 <<< v.toNat)) m).testBit t = (m.testBit t || decide ((t : Int) ∈ l)) := by
    intro l
    induction l with
    | nil => intro m _; simp
    | cons v l ih =>
      intro m hv
      rw [List.foldl_cons, ih _ fun x hx => hv x (by simp [hx])]
      have hv0 := hv v (by simp)
      rw [Nat.testBit_or, Nat.one_shiftLeft, Nat.testBit_two_pow]
      have e : decide (v.toNat = t) = decide ((t : Int) = v) := by rw [Bool.eq_iff_iff]; simp; omega
      rw [e, Bool.or_assoc]
      congr 1
      rw [Bool.eq_iff_iff]; simp
  rw [maskOf, key l 0 h]; simp
theorem maskOf_lt (l : List Int) (h : ∀ v ∈ l, 0 ≤ v ∧ v ≤ 9) : maskOf l < 1024 := by
  have key : ∀ (l : List Int) (m : Nat), m < 1024 → (∀ v ∈ l, 0 ≤ v ∧ v ≤ 9) → l.foldl (fun m v => m ||| (1 <<< v.toNat)) m < 1024 := by
    intro l
    induction l with
    | nil => intro m hm _; exact hm
    | cons v l ih =>
      intro m hm hv
      rw [List.foldl_cons]
      refine ih _ ?_ fun x hx => hv x (by simp [hx])
      have hv0 := hv v (by simp)
      have : 1 <<< v.toNat < 2 ^ 10 := by rw [Nat.one_shiftLeft]; exact Nat.pow_lt_pow_right (by omega) (by omega)
      exact Nat.or_lt_two_pow (n := 10) hm this
  exact key l 0 (by omega) h
/-- The vertices of a set, in order. -/
def vertsOf (m : Nat) : List Int := ((List.range 10).filter fun v => m.testBit v).map fun (v : Nat) => (v : Int)
theorem mem_verts {m : Nat} {v : Int} : v ∈ vertsOf m ↔ 0 ≤ v ∧ v ≤ 9 ∧ m.testBit v.toNat = true := by
  unfold vertsOf
  simp only [List.mem_map, List.mem_filter, List.mem_range]
  constructor
  · rintro ⟨t, ⟨h1, h2⟩, rfl⟩
    exact ⟨by omega, by omega, by simpa using h2⟩
  · rintro ⟨h1, h2, h3⟩
    exact ⟨v.toNat, ⟨by omega, h3⟩, by omega⟩
theorem verts_rise (m : Nat) : (vertsOf m).Pairwise (· < ·) := by
  unfold vertsOf
  rw [List.pairwise_map]
  refine List.Pairwise.imp (fun h => by omega) (List.Pairwise.filter _ List.pairwise_lt_range)
/-- Two rising lists with the same numbers are one. -/
theorem rise_ext : ∀ {L M : List Int}, L.Pairwise (· < ·) → M.Pairwise (· < ·) → (∀ x, x ∈ L ↔ x ∈ M) → L = M
  | [], [], _, _, _ => rfl
  | [], y :: M, _, _, h => absurd ((h y).2 (by simp)) (by simp)
  | x :: L, [], _, _, h => absurd ((h x).1 (by simp)) (by simp)
  | x :: L, y :: M, hL, hM, h => by
    have hL' := List.pairwise_cons.1 hL
    have hM' := List.pairwise_cons.1 hM
    have exy : x = y := by
      rcases List.mem_cons.1 ((h x).1 (by simp)) with e | e
      · exact e
      · rcases List.mem_cons.1 ((h y).2 (by simp)) with e' | e'
        · exact e'.symm
        · have h1 := hM'.1 x e
          have h2 := hL'.1 y e'
          omega
    subst exy
    rw [rise_ext hL'.2 hM'.2 fun z => ?_]
    have hz := h z
    simp only [List.mem_cons] at hz
    constructor
    · intro hm
      rcases hz.1 (.inr hm) with e | e
      · subst e; have := hL'.1 z hm; omega
      · exact e
    · intro hm
      rcases hz.2 (.inr hm) with e | e
      · subst e; have := hM'.1 z hm; omega
      · exact e
theorem ris_pair {hi : Int} : ∀ {l : List Int} {n : Int}, risB hi n l = true → l.Pairwise (· < ·) ∧ ∀ v ∈ l, n ≤ v ∧ v ≤ hi
  | [], _, _ => ⟨List.Pairwise.nil, fun v h => by simp at h⟩
  | v :: l, n, h => by
    unfold risB at h
    rw [Bool.and_eq_true, decide_eq_true_eq] at h
    obtain ⟨h1, h2⟩ := ris_pair h.2
    refine ⟨List.pairwise_cons.2 ⟨fun x hx => by have := (h2 x hx).1; omega, h1⟩, fun x hx => ?_⟩
    rcases List.mem_cons.1 hx with e | e
    · subst e; exact h.1
    · have := h2 x e; exact ⟨by omega, this.2⟩
theorem pair_ris {hi : Int} : ∀ {l : List Int} {n : Int}, l.Pairwise (· < ·) → (∀ v ∈ l, n ≤ v ∧ v ≤ hi) → risB hi n l = true
  | [], _, _, _ => rfl
  | v :: l, n, h, g => by
    unfold risB
    have h' := List.pairwise_cons.1 h
    rw [Bool.and_eq_true, decide_eq_true_eq]
    exact ⟨g v (by simp), pair_ris h'.2 fun x hx => ⟨by have := h'.1 x hx; omega, (g x (by simp [hx])).2⟩⟩
/-- A simplex. -/
structure Sim (l : List Int) : Prop where
  pos : 1 ≤ l.length
  le : l.length ≤ 4
  rise : l.Pairwise (· < ·)
  bd : ∀ v ∈ l, 0 ≤ v ∧ v ≤ 9
theorem sim_iff {l : List Int} : simB l = true ↔ Sim l := by
  unfold simB
  rw [Bool.and_eq_true, decide_eq_true_eq]
  constructor
  · rintro ⟨⟨h1, h2⟩, h3⟩
    obtain ⟨a, b⟩ := ris_pair h3
    exact ⟨h1, h2, a, b⟩
  · rintro ⟨h1, h2, a, b⟩
    exact ⟨⟨h1, h2⟩, pair_ris a b⟩
theorem Sim.verts {l : List Int} (h : Sim l) : vertsOf (maskOf l) = l := by
  refine rise_ext (verts_rise _) h.rise fun v => ?_
  rw [mem_verts]
  constructor
  · rintro ⟨h1, h2, h3⟩
    rw [maskOf_bit l (fun v hv => (h.bd v hv).1)] at h3
    have := of_decide_eq_true h3
    rwa [show ((v.toNat : Nat) : Int) = v by omega] at this
  · intro hv
    have hb := h.bd v hv
    refine ⟨hb.1, hb.2, ?_⟩
    rw [maskOf_bit l (fun v hv => (h.bd v hv).1)]
    exact decide_eq_true (by rwa [show ((v.toNat : Nat) : Int) = v by omega])
theorem verts_bd (m : Nat) : ∀ v ∈ vertsOf m, 0 ≤ v ∧ v ≤ 9 := fun v hv => ⟨(mem_verts.1 hv).1, (mem_verts.1 hv).2.1⟩
theorem mask_verts {m : Nat} (h : m < 1024) : maskOf (vertsOf m) = m := by
  apply Nat.eq_of_testBit_eq
  intro t
  rw [maskOf_bit _ fun v hv => (verts_bd m v hv).1]
  by_cases ht : t ≤ 9
  · cases hb : m.testBit t with
    | true => exact decide_eq_true (mem_verts.2 ⟨by omega, by omega, by simpa using hb⟩)
    | false => exact decide_eq_false fun hm => by have := (mem_verts.1 hm).2.2; simp at this; rw [hb] at this; cases this
  · have h1 : m.testBit t = false := Nat.testBit_lt_two_pow (Nat.lt_of_lt_of_le h (by
      have : (2 : Nat) ^ 10 ≤ 2 ^ t := Nat.pow_le_pow_right (by omega) (by omega)
      omega))
    rw [h1]
    exact decide_eq_false fun hm => by have := (mem_verts.1 hm).2.1; omega
/-- A part of a set. -/
def SubM (f m : Nat) : Prop := ∀ t, f.testBit t = true → m.testBit t = true
theorem subM_and {f m : Nat} : SubM f m ↔ f &&& m = f := by
  constructor
  · intro h
    apply Nat.eq_of_testBit_eq
    intro t
    rw [Nat.testBit_and]
    cases hf : f.testBit t with
    | true => rw [h t hf]; rfl
    | false => rfl
  · intro h t ht
    rw [← h, Nat.testBit_and, Bool.and_eq_true] at ht
    exact ht.2
/-- A face: a part of a list that is not empty. -/
def Face (x s : List Int) : Prop := x ≠ [] ∧ x.Sublist s
theorem Sim.face {x s : List Int} (h : Sim s) (hf : Face x s) : Sim x := by
  refine ⟨?_, Nat.le_trans hf.2.length_le h.le, h.rise.sublist hf.2, fun v hv => h.bd v (hf.2.subset hv)⟩
  have := List.length_pos_iff.2 hf.1; omega
theorem rise_sub : ∀ {x s : List Int}, x.Pairwise (· < ·) → s.Pairwise (· < ·) → (∀ v ∈ x, v ∈ s) → x.Sublist s
  | [], s, _, _, _ => List.nil_sublist s
  | v :: x, [], _, _, h => absurd (h v (by simp)) (by simp)
  | v :: x, w :: s, hx, hs, h => by
    have hx' := List.pairwise_cons.1 hx
    have hs' := List.pairwise_cons.1 hs
    by_cases e : v = w
    · subst e
      refine List.Sublist.cons_cons _ (rise_sub hx'.2 hs'.2 fun u hu => ?_)
      rcases List.mem_cons.1 (h u (by simp [hu])) with e | e
      · subst e; have := hx'.1 u hu; omega
      · exact e
    · have hv : v ∈ s := (List.mem_cons.1 (h v (by simp))).resolve_left e
      have hwv := hs'.1 v hv
      refine List.Sublist.cons _ (rise_sub hx hs'.2 fun u hu => ?_)
      rcases List.mem_cons.1 (h u hu) with e' | e'
      · subst e'
        rcases List.mem_cons.1 hu with e2 | e2
        · omega
        · have := hx'.1 u e2; omega
      · exact e'
theorem face_iff {s : List Int} (h : Sim s) {f : Nat} (hf : f < 1024) (h0 : f ≠ 0) : Face (vertsOf f) s ↔ SubM f (maskOf s) := by
  constructor
  · rintro ⟨_, hs⟩ t ht
    have htb : t ≤ 9 := by
      rcases Nat.lt_or_ge 9 t with a | a
      · have h1 : f.testBit t = false := Nat.testBit_lt_two_pow (Nat.lt_of_lt_of_le hf (by
          have : (2 : Nat) ^ 10 ≤ 2 ^ t := Nat.pow_le_pow_right (by omega) (by omega)
          omega))
        rw [h1] at ht; cases ht
      · exact a
    rw [maskOf_bit s fun v hv => (h.bd v hv).1]
    exact decide_eq_true (hs.subset (mem_verts.2 ⟨by omega, by omega, by simpa using ht⟩))
  · intro hs
    refine ⟨fun e => h0 ?_, rise_sub (verts_rise f) h.rise fun v hv => ?_⟩
    · have := mask_verts hf
      rw [e] at this
      exact this.symm
    · obtain ⟨h1, h2, h3⟩ := mem_verts.1 hv
      have := hs _ h3
      rw [maskOf_bit s fun v hv => (h.bd v hv).1] at this
      have := of_decide_eq_true this
      rwa [show ((v.toNat : Nat) : Int) = v by omega] at this
end Go.Proofs.YtdihcmohpbgmmaaDoor

namespace Go.Proofs.YtdihcmohpbgmmaaDoor
open Go.RowKit
set_option linter.unusedVariables false
set_option linter.unusedSimpArgs false

def tzTab : List Int := [0, 1, 28, 2, 29, 14, 24, 3, 30, 22, 20, 15, 25, 17, 4, 8, 31, 27, 13, 23, 21, 19, 16, 7, 26, 12, 18, 6, 11, 5, 10, 9]
/-- The table reads as its text lays it, whatever a call made since. -/
def Tz (w : World) : Prop := ∃ B, B ≤ w.heap.size ∧ Lib.TabBelow Tryd.prog B w "math/bits.deBruijn32tab" .u8 tzTab
theorem Tz.on {w w1 : World} (h : Tz w) (hb : Below w.heap.size w w1) : Tz w1 := by
  obtain ⟨B, hB, hT⟩ := h
  exact ⟨B, Nat.le_trans hB hb.size, Lib.TabBelow.on hT (hb.mono hB)⟩
theorem Tz.drew {w : World} (h : Tz w) (n : Nat) : Tz (w.drewN n) := h.on (below_drewX (Below.refl _ w) n)
theorem Tz.al {w : World} (h : Tz w) (o : Obj) : Tz (w.alloc o) := h.on ((Below.refl _ w).alloc (Nat.le_refl _) o)
theorem gTz : Tryd.prog.globalNamed "math/bits.deBruijn32tab" = some 0 := by kernel_rfl
theorem Tz.cell {w : World} (h : Tz w) {i : Nat} (hi : i < 32) : w.cell? ⟨0, i, none⟩ = some (.int .u8 (tzTab.getD i 0)) := by
  obtain ⟨B, hB, hT⟩ := h
  exact Lib.TabIs.cell (Lib.TabBelow.here hT) gTz i hi

/-- The members of a set, in order. -/
def membL (m : Nat) : List Int := ((List.range 16).filter fun v => m.testBit v).map fun (v : Nat) => (v : Int)
theorem mem_membL {m : Nat} {v : Int} : v ∈ membL m ↔ 0 ≤ v ∧ v ≤ 15 ∧ m.testBit v.toNat = true := by
  unfold membL
  simp only [List.mem_map, List.mem_filter, List.mem_range]
  constructor
  · rintro ⟨t, ⟨h1, h2⟩, rfl⟩
    exact ⟨by omega, by omega, by simpa using h2⟩
  · rintro ⟨h1, h2, h3⟩
    exact ⟨v.toNat, ⟨by omega, h3⟩, by omega⟩
theorem membL_rise (m : Nat) : (membL m).Pairwise (· < ·) := by
  unfold membL
  rw [List.pairwise_map]
  refine List.Pairwise.imp (fun h => by omega) (List.Pairwise.filter _ List.pairwise_lt_range)
theorem membL_len (m : Nat) : (membL m).length ≤ 16 := by
  unfold membL
  rw [List.length_map]
  exact Nat.le_trans (List.length_filter_le _ _) (by simp)
theorem membL_verts {m : Nat} (h : m < 1024) : membL m = vertsOf m := by
  refine rise_ext (membL_rise m) (verts_rise m) fun v => ?_
  rw [mem_membL, mem_verts]
  constructor
  · rintro ⟨h1, h2, h3⟩
    refine ⟨h1, ?_, h3⟩
    rcases Nat.lt_or_ge 9 v.toNat with a | a
    · have e : m.testBit v.toNat = false := Nat.testBit_lt_two_pow (Nat.lt_of_lt_of_le h (by
        have : (2 : Nat) ^ 10 ≤ 2 ^ v.toNat := Nat.pow_le_pow_right (by omega) (by omega)
        omega))
      rw [e] at h3; cases h3
    · omega
  · rintro ⟨h1, h2, h3⟩; exact ⟨h1, by omega, h3⟩
/-- The number's least member. -/
def lowOf (m : Nat) : Nat := ((List.range 16).find? fun v => m.testBit v).getD 16
def tzIdx (m : Nat) : Nat := (m &&& (65536 - m)) * 125613361 % 4294967296 / 134217728
def chkLow (m : Nat) : Bool := m == 0 || (decide (membL m = (lowOf m : Int) :: membL (m &&& (m - 1))) && decide (tzIdx m < 32) && decide (tzTab.getD (tzIdx m) 0 = (lowOf m : Int)) && decide (lowOf m < 16) && decide (m &&& (m - 1) < m) && decide (m &&& (65536 - m) < 65536))
theorem chk_low0 : ∀ m : Fin 1024, chkLow m.val = true := by decide +kernel
theorem chk_low1 : ∀ m : Fin 1024, chkLow (m.val + 1024) = true := by decide +kernel
theorem chk_low2 : ∀ m : Fin 1024, chkLow (m.val + 2048) = true := by decide +kernel
theorem chk_low3 : ∀ m : Fin 1024, chkLow (m.val + 3072) = true := by decide +kernel
theorem chk_low {m : Nat} (h : m < 4096) : chkLow m = true := by
  rcases Nat.lt_or_ge m 1024 with h1 | h1
  · exact chk_low0 ⟨m, h1⟩
  · rcases Nat.lt_or_ge m 2048 with h2 | h2
    · have := chk_low1 ⟨m - 1024, by omega⟩
      rwa [show m - 1024 + 1024 = m by omega] at this
    · rcases Nat.lt_or_ge m 3072 with h3 | h3
      · have := chk_low2 ⟨m - 2048, by omega⟩
        rwa [show m - 2048 + 2048 = m by omega] at this
      · have := chk_low3 ⟨m - 3072, by omega⟩
        rwa [show m - 3072 + 3072 = m by omega] at this
theorem low_facts {m : Nat} (hm : m < 4096) (h0 : m ≠ 0) : membL m = (lowOf m : Int) :: membL (m &&& (m - 1)) ∧ tzIdx m < 32 ∧ tzTab.getD (tzIdx m) 0 = (lowOf m : Int) ∧ lowOf m < 16 ∧ m &&& (m - 1) < m ∧ m &&& (65536 - m) < 65536 := by
  have := chk_low hm
  simp only [chkLow, Bool.or_eq_true, Bool.and_eq_true, decide_eq_true_eq, beq_iff_eq, h0, false_or] at this
  exact ⟨this.1.1.1.1.1, this.1.1.1.1.2, this.1.1.1.2, this.1.1.2, this.1.2, this.2⟩
theorem membL_zero : membL 0 = [] := by decide
theorem maskOf_lt16 (l : List Int) (h : ∀ v ∈ l, 0 ≤ v ∧ v ≤ 15) : maskOf l < 65536 := by
  have key : ∀ (l : List Int) (m : Nat), m < 65536 → (∀ v ∈ l, 0 ≤ v ∧ v ≤ 15) → l.foldl (fun m v => m ||| (1 <<< v.toNat)) m < 65536 := by
    intro l
    induction l with
    | nil => intro m hm _; exact hm
    | cons v l ih =>
      intro m hm hv
      rw [List.foldl_cons]
      refine ih _ ?_ fun x hx => hv x (by simp [hx])
      have hv0 := hv v (by simp)
      have : 1 <<< v.toNat < 2 ^ 16 := by rw [Nat.one_shiftLeft]; exact Nat.pow_lt_pow_right (by omega) (by omega)
      exact Nat.or_lt_two_pow (n := 16) hm this
  exact key l 0 (by omega) h
theorem nat_u16 {x : Nat} (hx : x < 65536) : (BitVec.ofInt 16 (x : Int)).toNat = x := by
  rw [BitVec.toNat_ofInt]; omega
theorem wrap_u16 {x : Nat} (hx : x < 65536) : IntKind.u16.wrap (x : Int) = (x : Int) := by
  simp only [IntKind.wrap, IntKind.bits, IntKind.signed, Bool.false_and]
  simp
  omega
theorem and_u16 {a b : Nat} (ha : a < 65536) (hb : b < 65536) : bits BinOp.and IntKind.u16 (a : Int) (b : Int) = ((a &&& b : Nat) : Int) := by
  have hl : a &&& b < 65536 := Nat.lt_of_le_of_lt Nat.and_le_left ha
  show IntKind.u16.wrap (((BitVec.ofInt 16 (a : Int)) &&& (BitVec.ofInt 16 (b : Int))).toNat : Int) = _
  rw [BitVec.toNat_and, nat_u16 ha, nat_u16 hb, wrap_u16 hl]
theorem or_u16n {a b : Nat} (ha : a < 65536) (hb : b < 65536) : bits BinOp.or IntKind.u16 (a : Int) (b : Int) = ((a ||| b : Nat) : Int) := by
  have hl : a ||| b < 65536 := Nat.or_lt_two_pow (n := 16) ha hb
  show IntKind.u16.wrap (((BitVec.ofInt 16 (a : Int)) ||| (BitVec.ofInt 16 (b : Int))).toNat : Int) = _
  rw [BitVec.toNat_or, nat_u16 ha, nat_u16 hb, wrap_u16 hl]
theorem andnot_u16 {a b : Nat} (ha : a < 65536) (hb : b < 65536) : bits BinOp.andNot IntKind.u16 (a : Int) (b : Int) = ((a &&& (65535 - b) : Nat) : Int) := by
  have hl : a &&& (65535 - b) < 65536 := Nat.lt_of_le_of_lt Nat.and_le_left ha
  show IntKind.u16.wrap (((BitVec.ofInt 16 (a : Int)) &&& ~~~(BitVec.ofInt 16 (b : Int))).toNat : Int) = _
  rw [BitVec.toNat_and, BitVec.toNat_not, nat_u16 ha, nat_u16 hb]
  exact wrap_u16 hl
theorem testBit_comp {b t : Nat} (hb : b < 65536) (ht : t < 16) : (65535 - b).testBit t = !b.testBit t := by
  have h := Nat.testBit_two_pow_sub_succ (n := 16) (x := b) hb t
  rw [show 2 ^ 16 - (b + 1) = 65535 - b by omega] at h
  rw [h]; simp [ht]
theorem andn_bit {a b t : Nat} (ha : a < 65536) (hb : b < 65536) : (a &&& (65535 - b)).testBit t = (a.testBit t && !b.testBit t) := by
  rw [Nat.testBit_and]
  by_cases ht : t < 16
  · rw [testBit_comp hb ht]
  · have h1 : a.testBit t = false := Nat.testBit_lt_two_pow (Nat.lt_of_lt_of_le ha (by
      have : (2 : Nat) ^ 16 ≤ 2 ^ t := Nat.pow_le_pow_right (by omega) (by omega)
      omega))
    rw [h1]; rfl
theorem or_u16 {m k : Nat} (hm : m < 65536) (hk : k ≤ 15) : bits BinOp.or IntKind.u16 (m : Int) (IntKind.u16.wrap (2 ^ k)) = ((m ||| 1 <<< k : Nat) : Int) := by
  have h2 : 2 ^ k < 65536 := Nat.lt_of_le_of_lt (Nat.pow_le_pow_right (by omega) hk) (by omega)
  have e : IntKind.u16.wrap (2 ^ k) = ((2 ^ k : Nat) : Int) := by
    have := wrap_u16 h2
    rw [show ((2 : Int) ^ k) = ((2 ^ k : Nat) : Int) by simp]; exact this
  rw [e, or_u16n hm h2, Nat.one_shiftLeft]
end Go.Proofs.YtdihcmohpbgmmaaDoor
