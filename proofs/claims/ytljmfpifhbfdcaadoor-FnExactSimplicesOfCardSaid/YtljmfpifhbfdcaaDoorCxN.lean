/-
  Simplices, plainly: their order, their faces, lists of simplices in order, and the lists that have all faces.
-/
import Derived.Test.YtljmfpifhbfdcaaDoorCxM
namespace Go.Proofs.YtljmfpifhbfdcaaDoor
open Go.RowKit
set_option linter.unusedVariables false

/-- The lexicographic comparison of two lists. -/
def cmpL : List Int → List Int → Int
  | [], [] => 0
  | [], _ :: _ => -1
  | _ :: _, [] => 1
  | x :: xs, y :: ys => if x < y then -1 else if y < x then 1 else cmpL xs ys
theorem cmpL_self : ∀ a : List Int, cmpL a a = 0
  | [] => rfl
  | x :: xs => by simp [cmpL, cmpL_self xs]
theorem cmpL_zero : ∀ a b : List Int, cmpL a b = 0 → a = b
  | [], [], _ => rfl
  | [], _ :: _, h => by simp [cmpL] at h
  | _ :: _, [], h => by simp [cmpL] at h
  | x :: xs, y :: ys, h => by
    unfold cmpL at h
    split at h
    · simp at h
    · split at h
      · simp at h
      · have hxy : x = y := by omega
        rw [hxy, cmpL_zero xs ys h]
theorem cmpL_turn : ∀ a b : List Int, cmpL b a = - cmpL a b
  | [], [] => rfl
  | [], _ :: _ => rfl
  | _ :: _, [] => rfl
  | x :: xs, y :: ys => by
    unfold cmpL
    by_cases h1 : x < y
    · have h2 : ¬ y < x := by omega
      simp [h1, h2]
    · by_cases h2 : y < x
      · simp [h1, h2]
      · simp [h1, h2, cmpL_turn xs ys]
theorem cmpL_vals : ∀ a b : List Int, cmpL a b = -1 ∨ cmpL a b = 0 ∨ cmpL a b = 1
  | [], [] => .inr (.inl rfl)
  | [], _ :: _ => .inl rfl
  | _ :: _, [] => .inr (.inr rfl)
  | x :: xs, y :: ys => by
    unfold cmpL
    split
    · exact .inl rfl
    · split
      · exact .inr (.inr rfl)
      · exact cmpL_vals xs ys
theorem cmpL_trans : ∀ a b c : List Int, cmpL a b < 0 → cmpL b c < 0 → cmpL a c < 0
  | [], [], _, h, _ => by simp [cmpL] at h
  | [], _ :: _, [], _, h => by simp [cmpL] at h
  | [], _ :: _, _ :: _, _, _ => by simp [cmpL]
  | _ :: _, [], _, h, _ => by simp [cmpL] at h
  | _ :: _, _ :: _, [], _, h => by simp [cmpL] at h
  | x :: xs, y :: ys, z :: zs, h, g => by
    unfold cmpL at h g ⊢
    by_cases h1 : x < y
    · by_cases h2 : y < z
      · simp [show x < z by omega]
      · by_cases h3 : z < y
        · simp [h2, h3] at g
        · simp [show x < z by omega]
    · by_cases h2 : y < x
      · simp [h1, h2] at h
      · simp [h1, h2] at h
        by_cases h3 : y < z
        · simp [show x < z by omega]
        · by_cases h4 : z < y
          · simp [h3, h4] at g
          · simp [h3, h4] at g
            have e1 : ¬ x < z := by omega
            have e2 : ¬ z < x := by omega
            simp [e1, e2]
            exact cmpL_trans xs ys zs h g
/-- The order of simplices. -/
def befB (a b : List Int) : Bool := decide (a.length < b.length ∨ a.length = b.length ∧ cmpL a b < 0)
theorem befB_iff {a b : List Int} : befB a b = true ↔ a.length < b.length ∨ a.length = b.length ∧ cmpL a b < 0 := by simp [befB]
theorem befB_irr (a : List Int) : befB a a = false := by simp [befB, cmpL_self]
theorem befB_trans {a b c : List Int} (h : befB a b = true) (g : befB b c = true) : befB a c = true := by
  rw [befB_iff] at h g ⊢
  rcases h with h | ⟨h, h'⟩ <;> rcases g with g | ⟨g, g'⟩
  · left; omega
  · left; omega
  · left; omega
  · right; exact ⟨by omega, cmpL_trans a b c h' g'⟩
theorem befB_total {a b : List Int} (h : befB a b = false) (g : befB b a = false) : a = b := by
  have h' : ¬ befB a b = true := by rw [h]; simp
  have g' : ¬ befB b a = true := by rw [g]; simp
  rw [befB_iff] at h' g'
  have hl : a.length = b.length := by omega
  have h1 : ¬ cmpL a b < 0 := fun x => h' (.inr ⟨hl, x⟩)
  have h2 : ¬ cmpL b a < 0 := fun x => g' (.inr ⟨hl.symm, x⟩)
  rw [cmpL_turn] at h2
  exact cmpL_zero a b (by omega)
theorem befB_asymm {a b : List Int} (h : befB a b = true) : befB b a = false := by
  cases g : befB b a with
  | false => rfl
  | true => have := befB_trans h g; rw [befB_irr] at this; cases this
/-- In strict order. -/
def Ord (L : List (List Int)) : Prop := L.Pairwise fun a b => befB a b = true
theorem Ord.nodup {L : List (List Int)} (h : Ord L) : L.Nodup := h.imp fun hab e => by subst e; rw [befB_irr] at hab; cases hab
theorem Ord.ext : ∀ {L M : List (List Int)}, Ord L → Ord M → (∀ x, x ∈ L ↔ x ∈ M) → L = M
  | [], [], _, _, _ => rfl
  | [], y :: M, _, _, h => absurd ((h y).2 (by simp)) (by simp)
  | x :: L, [], _, _, h => absurd ((h x).1 (by simp)) (by simp)
  | x :: L, y :: M, hL, hM, h => by
    have hL' := List.pairwise_cons.1 hL
    have hM' := List.pairwise_cons.1 hM
    have exy : x = y := by
      rcases List.mem_cons.1 ((h x).1 (by simp)) with e | e
      · exact e
      · rcases List.mem_cons.1 ((h y).2 (by simp)) with e' | e'
        · exact e'.symm
        · have h1 := hM'.1 x e
          have h2 := hL'.1 y e'
          rw [befB_asymm h1] at h2; cases h2
    subst exy
    rw [Ord.ext hL'.2 hM'.2 fun z => ?_]
    have hz := h z
    simp only [List.mem_cons] at hz
    constructor
    · intro hm
      rcases hz.1 (.inr hm) with e | e
      · subst e; have := hL'.1 z hm; rw [befB_irr] at this; cases this
      · exact e
    · intro hm
      rcases hz.2 (.inr hm) with e | e
      · subst e; have := hM'.1 z hm; rw [befB_irr] at this; cases this
      · exact e
/-- One more, at its place. -/
theorem Ord.put {L M : List (List Int)} {s : List Int} (h : Ord (L ++ M)) (h1 : ∀ x ∈ L, befB x s = true) (h2 : ∀ x ∈ M, befB s x = true) : Ord (L ++ s :: M) := by
  unfold Ord at *
  rw [List.pairwise_append] at h ⊢
  refine ⟨h.1, List.pairwise_cons.2 ⟨fun y hy => h2 y hy, h.2.1⟩, fun a ha b hb => ?_⟩
  rcases List.mem_cons.1 hb with e | e
  · subst e; exact h1 a ha
  · exact h.2.2 a ha b e
/-- A place for one more: all before it are before, none behind it is. -/
theorem Ord.place {L : List (List Int)} {s : List Int} (h : Ord L) (hs : s ∉ L) {k : Nat} (hk : k ≤ L.length) (h1 : ∀ i (hi : i < k), befB (L[i]'(by omega)) s = true) (h2 : ∀ hk' : k < L.length, befB L[k] s = false) :
    Ord (L.take k ++ s :: L.drop k) := by
  have e := List.take_append_drop k L
  refine Ord.put (by rw [e]; exact h) (fun x hx => ?_) (fun x hx => ?_)
  · obtain ⟨i, hi, rfl⟩ := List.getElem_of_mem hx
    rw [List.length_take] at hi
    rw [List.getElem_take]
    exact h1 i (by omega)
  · by_cases hk' : k < L.length
    · have hd := List.drop_eq_getElem_cons hk'
      have hlk : befB s L[k] = true := by
        cases g : befB s L[k] with
        | true => rfl
        | false => exact absurd (List.getElem_mem hk') (by rw [← befB_total g (h2 hk')]; exact hs)
      rw [hd] at hx
      rcases List.mem_cons.1 hx with e' | e'
      · rw [e']; exact hlk
      · have hp : Ord (L.drop k) := by rw [← e] at h; exact (List.pairwise_append.1 h).2.1
        rw [hd] at hp
        exact befB_trans hlk ((List.pairwise_cons.1 hp).1 x e')
    · rw [List.drop_eq_nil_of_le (by omega)] at hx; simp at hx
theorem ord_ex : ∀ l : List (List Int), ∃ L, Ord L ∧ ∀ x, x ∈ L ↔ x ∈ l
  | [] => ⟨[], List.Pairwise.nil, fun x => Iff.rfl⟩
  | s :: l => by
    obtain ⟨L, h, hm⟩ := ord_ex l
    by_cases hs : s ∈ L
    · exact ⟨L, h, fun x => by rw [hm, List.mem_cons]; exact ⟨.inr, fun e => by rcases e with rfl | e; exact (hm _).1 hs; exact e⟩⟩
    · have key : ∀ n, n ≤ L.length → (∀ i (hi : i < n) (hl : i < L.length), befB L[i] s = true) → ∃ k, ∃ hk : k ≤ L.length, (∀ i (hi : i < k), befB (L[i]'(by omega)) s = true) ∧ ∀ hk' : k < L.length, befB L[k] s = false := by
        intro n
        generalize hd : L.length - n = d
        induction d generalizing n with
        | zero => exact fun hn hh => ⟨n, hn, fun i hi => hh i hi (by omega), fun hk' => by omega⟩
        | succ d ih =>
          intro hn hh
          cases g : befB (L[n]'(by omega)) s with
          | false => exact ⟨n, hn, fun i hi => hh i hi (by omega), fun _ => g⟩
          | true =>
            refine ih (n + 1) (by omega) (by omega) fun i hi hl => ?_
            by_cases e : i = n
            · subst e; exact g
            · exact hh i (by omega) hl
      obtain ⟨k, hk, h1, h2⟩ := key 0 (by omega) fun i hi => absurd hi (Nat.not_lt_zero i)
      refine ⟨_, Ord.place h hs hk h1 h2, fun x => ?_⟩
      have e := List.take_append_drop k L
      have : x ∈ L ↔ x ∈ L.take k ∨ x ∈ L.drop k := by rw [← List.mem_append, e]
      simp only [List.mem_append, List.mem_cons]
      rw [← hm x, this]
      constructor
      · rintro (h | h | h)
        · exact .inr (.inl h)
        · exact .inl h
        · exact .inr (.inr h)
      · rintro (h | h | h)
        · exact .inr (.inl h)
        · exact .inl h
        · exact .inr (.inr h)
end Go.Proofs.YtljmfpifhbfdcaaDoor
