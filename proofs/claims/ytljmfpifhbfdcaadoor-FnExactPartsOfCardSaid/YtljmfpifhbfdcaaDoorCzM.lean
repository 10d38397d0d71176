/-
  Parts of a complex, plainly: labels that are merged along edges, and labels that are spread in rounds, end at the least number that is linked.
-/
import Derived.Test.YtljmfpifhbfdcaaDoorCyM
namespace Go.Proofs.YtljmfpifhbfdcaaDoor
open Go.RowKit
set_option linter.unusedVariables false
set_option linter.unusedSimpArgs false

/-- Linked by edges. -/
inductive Lnk (es : List (Int × Int)) : Int → Int → Prop
  | refl (a : Int) : Lnk es a a
  | fwd {a b c : Int} : Lnk es a b → (b, c) ∈ es → Lnk es a c
  | bwd {a b c : Int} : Lnk es a b → (c, b) ∈ es → Lnk es a c
theorem Lnk.trans {es : List (Int × Int)} {a b c : Int} (h : Lnk es a b) (g : Lnk es b c) : Lnk es a c := by
  induction g with
  | refl => exact h
  | fwd _ he ih => exact .fwd ih he
  | bwd _ he ih => exact .bwd ih he
theorem Lnk.symm {es : List (Int × Int)} {a b : Int} (h : Lnk es a b) : Lnk es b a := by
  induction h with
  | refl => exact .refl _
  | fwd _ he ih => exact (Lnk.bwd (.refl _) he).trans ih
  | bwd _ he ih => exact (Lnk.fwd (.refl _) he).trans ih
theorem Lnk.mono {es fs : List (Int × Int)} (hs : ∀ e ∈ es, e ∈ fs) {a b : Int} (h : Lnk es a b) : Lnk fs a b := by
  induction h with
  | refl => exact .refl _
  | fwd _ he ih => exact .fwd ih (hs _ he)
  | bwd _ he ih => exact .bwd ih (hs _ he)
theorem lnk_snoc {es : List (Int × Int)} {p q a b : Int} (h : Lnk (es ++ [(p, q)]) a b) : Lnk es a b ∨ (Lnk es a p ∧ Lnk es q b) ∨ (Lnk es a q ∧ Lnk es p b) := by
  induction h with
  | refl => exact .inl (.refl _)
  | fwd _ he ih =>
    rw [List.mem_append, List.mem_singleton] at he
    rcases he with he | he
    · rcases ih with h | ⟨h, g⟩ | ⟨h, g⟩
      · exact .inl (.fwd h he)
      · exact .inr (.inl ⟨h, .fwd g he⟩)
      · exact .inr (.inr ⟨h, .fwd g he⟩)
    · injection he with e1 e2
      subst e1 e2
      rcases ih with h | ⟨h, g⟩ | ⟨h, g⟩
      · exact .inr (.inl ⟨h, .refl _⟩)
      · exact .inr (.inl ⟨h, .refl _⟩)
      · exact .inl h
  | bwd _ he ih =>
    rw [List.mem_append, List.mem_singleton] at he
    rcases he with he | he
    · rcases ih with h | ⟨h, g⟩ | ⟨h, g⟩
      · exact .inl (.bwd h he)
      · exact .inr (.inl ⟨h, .bwd g he⟩)
      · exact .inr (.inr ⟨h, .bwd g he⟩)
    · injection he with e1 e2
      subst e1 e2
      rcases ih with h | ⟨h, g⟩ | ⟨h, g⟩
      · exact .inr (.inr ⟨h, .refl _⟩)
      · exact .inl h
      · exact .inr (.inr ⟨h, .refl _⟩)
/-- The least number that is linked. -/
def LeastOf (es : List (Int × Int)) (v m : Int) : Prop := Lnk es v m ∧ ∀ u, Lnk es v u → m ≤ u
theorem LeastOf.one {es : List (Int × Int)} {v m n : Int} (h : LeastOf es v m) (g : LeastOf es v n) : m = n := by
  have := h.2 n g.1; have := g.2 m h.1; omega
/-- Labels are merged along an edge. -/
def mrg (p : Int → Int) (e : Int × Int) : Int → Int := fun x => if p x = p e.1 ∨ p x = p e.2 then min (p e.1) (p e.2) else p x
def parts (es : List (Int × Int)) : Int → Int := es.foldl mrg id
theorem parts_snoc (es : List (Int × Int)) (e : Int × Int) : parts (es ++ [e]) = mrg (parts es) e := by simp [parts]
theorem LeastOf.same {es : List (Int × Int)} {p : Int → Int} (h : ∀ v, LeastOf es v (p v)) {x a : Int} : p x = p a ↔ Lnk es x a := by
  constructor
  · intro e
    exact (e ▸ (h x).1).trans (h a).1.symm
  · intro hl
    have h1 := (h x).2 _ (hl.trans (h a).1)
    have h2 := (h a).2 _ (hl.symm.trans (h x).1)
    omega
theorem parts_least (es : List (Int × Int)) : ∀ v, LeastOf es v (parts es v) := by
  induction h : es.length generalizing es with
  | zero =>
    obtain rfl := List.length_eq_zero_iff.1 h
    intro v
    refine ⟨.refl _, fun u hu => ?_⟩
    cases hu with
    | refl => exact Int.le_refl _
    | fwd _ he => simp at he
    | bwd _ he => simp at he
  | succ n ih =>
    obtain ⟨fs, ⟨a, b⟩, rfl⟩ : ∃ fs e, es = fs ++ [e] := ⟨es.dropLast, es.getLast (by intro e; rw [e] at h; simp at h), by rw [List.dropLast_concat_getLast]⟩
    have ih := ih fs (by simpa using h)
    intro v
    rw [parts_snoc]
    have up : ∀ {x y}, Lnk fs x y → Lnk (fs ++ [(a, b)]) x y := fun h => h.mono fun e he => by simp [he]
    have hab : Lnk (fs ++ [(a, b)]) a b := .fwd (.refl _) (by simp)
    unfold mrg
    dsimp only
    split
    · rename_i hc
      have hva : Lnk (fs ++ [(a, b)]) v a := by
        rcases hc with e | e
        · exact up ((LeastOf.same ih).1 e)
        · exact (up ((LeastOf.same ih).1 e)).trans hab.symm
      refine ⟨?_, fun u hu => ?_⟩
      · rcases Int.le_total (parts fs a) (parts fs b) with hl | hl
        · rw [Int.min_eq_left hl]; exact hva.trans (up (ih a).1)
        · rw [Int.min_eq_right hl]; exact (hva.trans hab).trans (up (ih b).1)
      · have hau : Lnk fs a u ∨ Lnk fs b u := by
          rcases lnk_snoc (hva.symm.trans hu) with h | ⟨_, h⟩ | ⟨_, h⟩
          · exact .inl h
          · exact .inr h
          · exact .inl h
        rcases hau with h | h
        · have := (ih a).2 u h; omega
        · have := (ih b).2 u h; omega
    · rename_i hc
      have hna : ¬ Lnk fs v a := fun h => hc (.inl ((LeastOf.same ih).2 h))
      have hnb : ¬ Lnk fs v b := fun h => hc (.inr ((LeastOf.same ih).2 h))
      refine ⟨up (ih v).1, fun u hu => ?_⟩
      rcases lnk_snoc hu with h | ⟨h, _⟩ | ⟨h, _⟩
      · exact (ih v).2 u h
      · exact absurd h hna
      · exact absurd h hnb
/-- Labels are spread along an edge. -/
def spr (f : Int → Int) (e : Int × Int) : Int → Int := fun x => if x = e.1 ∨ x = e.2 then min (f e.1) (f e.2) else f x
def sprs (es : List (Int × Int)) (f : Int → Int) : Int → Int := es.foldl spr f
theorem spr_le (f : Int → Int) (e : Int × Int) (x : Int) : spr f e x ≤ f x := by
  unfold spr
  split
  · rename_i h
    rcases h with rfl | rfl <;> omega
  · exact Int.le_refl _
theorem sprs_le : ∀ (es : List (Int × Int)) (f : Int → Int) (x : Int), sprs es f x ≤ f x
  | [], f, x => Int.le_refl _
  | e :: es, f, x => Int.le_trans (sprs_le es (spr f e) x) (spr_le f e x)
theorem sprs_edge : ∀ (es : List (Int × Int)) (f : Int → Int) {a b : Int}, (a, b) ∈ es → sprs es f a ≤ f b ∧ sprs es f b ≤ f a
  | [], f, a, b, h => by simp at h
  | e :: es, f, a, b, h => by
    rcases List.mem_cons.1 h with rfl | h
    · have h1 := sprs_le es (spr f (a, b)) a
      have h2 := sprs_le es (spr f (a, b)) b
      have e1 : spr f (a, b) a = min (f a) (f b) := by simp [spr]
      have e2 : spr f (a, b) b = min (f a) (f b) := by simp [spr]
      rw [e1] at h1; rw [e2] at h2
      exact ⟨by show sprs es (spr f (a, b)) a ≤ _; omega, by show sprs es (spr f (a, b)) b ≤ _; omega⟩
    · obtain ⟨h1, h2⟩ := sprs_edge es (spr f e) h
      have := spr_le f e a
      have := spr_le f e b
      exact ⟨by show sprs es (spr f e) a ≤ _; omega, by show sprs es (spr f e) b ≤ _; omega⟩
theorem spr_lnk {E : List (Int × Int)} {f : Int → Int} (h : ∀ v, Lnk E v (f v)) {e : Int × Int} (he : e ∈ E) : ∀ v, Lnk E v (spr f e v) := by
  intro v
  unfold spr
  split
  · rename_i hc
    have hab : Lnk E e.1 e.2 := .fwd (.refl _) he
    have hva : Lnk E v e.1 := by
      rcases hc with rfl | rfl
      · exact .refl _
      · exact hab.symm
    rcases Int.le_total (f e.1) (f e.2) with hl | hl
    · rw [Int.min_eq_left hl]; exact hva.trans (h _)
    · rw [Int.min_eq_right hl]; exact (hva.trans hab).trans (h _)
  · exact h v
theorem sprs_lnk {E : List (Int × Int)} : ∀ {es : List (Int × Int)} {f : Int → Int}, (∀ e ∈ es, e ∈ E) → (∀ v, Lnk E v (f v)) → ∀ v, Lnk E v (sprs es f v)
  | [], f, _, h => h
  | e :: es, f, hs, h => sprs_lnk (es := es) (fun x hx => hs x (by simp [hx])) (spr_lnk h (hs e (by simp)))
/-- Rounds of spreading. -/
def rnd (es : List (Int × Int)) : Nat → Int → Int
  | 0 => id
  | r + 1 => sprs es (rnd es r)
theorem rnd_lnk (es : List (Int × Int)) : ∀ r v, Lnk es v (rnd es r v)
  | 0, v => .refl _
  | r + 1, v => sprs_lnk (fun e h => h) (rnd_lnk es r) v
/-- Linked in some steps at most. -/
def Dst (es : List (Int × Int)) (u : Int) : Nat → Int → Prop
  | 0, v => v = u
  | r + 1, v => Dst es u r v ∨ ∃ w, ((v, w) ∈ es ∨ (w, v) ∈ es) ∧ Dst es u r w
theorem rnd_le {es : List (Int × Int)} {u : Int} : ∀ {r : Nat} {v : Int}, Dst es u r v → rnd es r v ≤ u
  | 0, v, h => by show v ≤ u; have : v = u := h; omega
  | r + 1, v, h => by
    show sprs es (rnd es r) v ≤ u
    rcases h with h | ⟨w, hw, h⟩
    · have := sprs_le es (rnd es r) v; have := rnd_le h; omega
    · have := rnd_le h
      rcases hw with hw | hw
      · have := (sprs_edge es (rnd es r) hw).1; omega
      · have := (sprs_edge es (rnd es r) hw).2; omega
theorem dst_mono {es : List (Int × Int)} {u v : Int} {r s : Nat} (h : Dst es u r v) (hs : r ≤ s) : Dst es u s v := by
  induction s with
  | zero => obtain rfl : r = 0 := by omega
            exact h
  | succ s ih =>
    by_cases e : r = s + 1
    · subst e; exact h
    · exact .inl (ih (by omega))
theorem filter_lt {α : Type} {p q : α → Bool} : ∀ {l : List α}, (∀ x ∈ l, p x = true → q x = true) → (∃ x ∈ l, q x = true ∧ p x = false) → (l.filter p).length < (l.filter q).length
  | [], _, ⟨x, hx, _⟩ => by simp at hx
  | y :: l, h, ⟨x, hx, h1, h2⟩ => by
    have hle : (l.filter p).length ≤ (l.filter q).length := by
      clear hx
      have hl : ∀ x ∈ l, p x = true → q x = true := fun x hx => h x (by simp [hx])
      clear h
      induction l with
      | nil => simp
      | cons z l ih =>
        have := ih fun x hx => hl x (by simp [hx])
        rw [List.filter_cons, List.filter_cons]
        by_cases hp : p z = true
        · rw [if_pos hp, if_pos (hl z (by simp) hp)]; simp; omega
        · rw [if_neg hp]; split
          · simp; omega
          · omega
    rw [List.filter_cons, List.filter_cons]
    rcases List.mem_cons.1 hx with rfl | hx
    · rw [if_pos h1, if_neg (by rw [h2]; simp)]; simp; omega
    · have := filter_lt (l := l) (fun x hx => h x (by simp [hx])) ⟨x, hx, h1, h2⟩
      by_cases hp : p y = true
      · rw [if_pos hp, if_pos (h y (by simp) hp)]; simp; omega
      · rw [if_neg hp]; split
        · simp; omega
        · omega
open Classical in
theorem dst_all {es : List (Int × Int)} {vs : List Int} (hes : ∀ e ∈ es, e.1 ∈ vs ∧ e.2 ∈ vs) {u : Int} (hu : u ∈ vs) {v : Int} (h : Lnk es u v) : Dst es u vs.length v := by
  let R := fun r w => decide (Dst es u r w)
  have key : ∀ r, (∃ r', r' < r ∧ ∀ w ∈ vs, Dst es u (r' + 1) w → Dst es u r' w) ∨ r + 1 ≤ (vs.filter (R r)).length := by
    intro r
    induction r with
    | zero =>
      refine .inr ?_
      have : u ∈ vs.filter (R 0) := List.mem_filter.2 ⟨hu, decide_eq_true rfl⟩
      exact List.length_pos_of_mem this
    | succ r ih =>
      rcases ih with ⟨r', h1, h2⟩ | ih
      · exact .inl ⟨r', by omega, h2⟩
      · by_cases hc : ∀ w ∈ vs, Dst es u (r + 1) w → Dst es u r w
        · exact .inl ⟨r, by omega, hc⟩
        · refine .inr ?_
          have hex : ∃ w ∈ vs, R (r + 1) w = true ∧ R r w = false := by
            apply Classical.byContradiction
            intro hne
            apply hc
            intro w hw hd
            apply Classical.byContradiction
            intro hnd
            exact hne ⟨w, hw, decide_eq_true hd, decide_eq_false hnd⟩
          have := filter_lt (p := R r) (q := R (r + 1)) (l := vs) (fun x _ hx => decide_eq_true (.inl (of_decide_eq_true hx))) hex
          omega
  rcases key vs.length with ⟨r', h1, h2⟩ | hk
  · have all : ∀ w, Lnk es u w → w ∈ vs ∧ Dst es u r' w := by
      intro w hw
      induction hw with
      | refl => exact ⟨hu, dst_mono (r := 0) rfl (Nat.zero_le _)⟩
      | @fwd b c _ he ih => exact ⟨(hes _ he).2, h2 _ (hes _ he).2 (.inr ⟨b, .inr he, ih.2⟩)⟩
      | @bwd b c _ he ih => exact ⟨(hes _ he).1, h2 _ (hes _ he).1 (.inr ⟨b, .inl he, ih.2⟩)⟩
    exact dst_mono (all v h).2 (by omega)
  · have := List.length_filter_le (R vs.length) vs
    omega
/-- As many rounds as there are vertices are enough. -/
theorem rnd_parts {es : List (Int × Int)} {vs : List Int} (hes : ∀ e ∈ es, e.1 ∈ vs ∧ e.2 ∈ vs) {v : Int} (hv : v ∈ vs) : rnd es vs.length v = parts es v := by
  have hmem : ∀ w, Lnk es v w → w ∈ vs := by
    intro w hw
    induction hw with
    | refl => exact hv
    | fwd _ he _ => exact (hes _ he).2
    | bwd _ he _ => exact (hes _ he).1
  exact LeastOf.one ⟨rnd_lnk es _ v, fun u hu => rnd_le (dst_all hes (hmem u hu) hu.symm)⟩ (parts_least es v)
end Go.Proofs.YtljmfpifhbfdcaaDoor
