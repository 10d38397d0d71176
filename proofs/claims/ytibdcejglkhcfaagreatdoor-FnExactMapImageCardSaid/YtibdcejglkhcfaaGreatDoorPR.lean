/-
  Parts of a complex, plainly: labels that are merged along edges, and labels that are spread in rounds, end at the least number that is linked.
  PartsOf, plainly: the vertices and the edges of a complex as lists.
  PartsOf of the model.
  PartsOf of the model and of the program.
-/
import Derived.Test.YtibdcejglkhcfaaGreatDoorCyM
import Derived.Test.YtibdcejglkhcfaaGreatDoorCyL
import Derived.Test.YtibdcejglkhcfaaGreatDoorCyN
import Derived.Test.YtibdcejglkhcfaaGreatDoorPQ
import Derived.Test.YtibdcejglkhcfaaGreatDoorCzA
import Derived.Deep.RegionHeld3
import Derived.Deep.RegionLaw
import Derived.Deep.AppendLies
import Derived.StillTactics
import Derived.Deep.MidRow
import Derived.Laws.OwnMore
namespace Go.Proofs.YtibdcejglkhcfaaGreatDoor
open Go.RowKit
set_option linter.unusedVariables false
set_option linter.unusedSimpArgs false

/-- Linked by edges. -/
inductive Lnk (es : List (Int × Int)) : Int → Int → Prop
  | refl (a : Int) : Lnk es a a
  | fwd {a b c : Int} : Lnk es a b → (b, c) ∈ es → Lnk es a c
  | bwd {a b c : Int} : Lnk es a b → (c, b) ∈ es → Lnk es a c
theorem Lnk.trans {es : List (Int × Int)} {a b c : Int} (h : Lnk es a b) (g : Lnk es b c) : Lnk es a c := by
  induction g with
  | refl => exact h
  | fwd _ he ih => exact .fwd ih he
  | bwd _ he ih => exact .bwd ih he
theorem Lnk.symm {es : List (Int × Int)} {a b : Int} (h : Lnk es a b) : Lnk es b a := by
  induction h with
  | refl => exact .refl _
  | fwd _ he ih => exact (Lnk.bwd (.refl _) he).trans ih
  | bwd _ he ih => exact (Lnk.fwd (.refl _) he).trans ih
theorem Lnk.mono {es fs : List (Int × Int)} (hs : ∀ e ∈ es, e ∈ fs) {a b : Int} (h : Lnk es a b) : Lnk fs a b := by
  induction h with
  | refl => exact .refl _
  | fwd _ he ih => exact .fwd ih (hs _ he)
  | bwd _ he ih => exact .bwd ih (hs _ he)
theorem lnk_snoc {es : List (Int × Int)} {p q a b : Int} (h : Lnk (es ++ [(p, q)]) a b) : Lnk es a b ∨ (Lnk es a p ∧ Lnk es q b) ∨ (Lnk es a q ∧ Lnk es p b) := by
  induction h with
  | refl => exact .inl (.refl _)
  | fwd _ he ih =>
    rw [List.mem_append, List.mem_singleton] at he
    rcases he with he | he
    · rcases ih with h | ⟨h, g⟩ | ⟨h, g⟩
      · exact .inl (.fwd h he)
      · exact .inr (.inl ⟨h, .fwd g he⟩)
      · exact .inr (.inr ⟨h, .fwd g he⟩)
    · injection he with e1 e2
      subst e1 e2
      rcases ih with h | ⟨h, g⟩ | ⟨h, g⟩
      · exact .inr (.inl ⟨h, .refl _⟩)
      · exact .inr (.inl ⟨h, .refl _⟩)
      · exact .inl h
  | bwd _ he ih =>
    rw [List.mem_append, List.mem_singleton] at he
    rcases he with he | he
    · rcases ih with h | ⟨h, g⟩ | ⟨h, g⟩
      · exact .inl (.bwd h he)
      · exact .inr (.inl ⟨h, .bwd g he⟩)
      · exact .inr (.inr ⟨h, .bwd g he⟩)
    · injection he with e1 e2
      subst e1 e2
      rcases ih with h | ⟨h, g⟩ | ⟨h, g⟩
      · exact .inr (.inr ⟨h, .refl _⟩)
      · exact .inl h
      · exact .inr (.inr ⟨h, .refl _⟩)
/-- The least number that is linked. -/
def LeastOf (es : List (Int × Int)) (v m : Int) : Prop := Lnk es v m ∧ ∀ u, Lnk es v u → m ≤ u
theorem LeastOf.one {es : List (Int × Int)} {v m n : Int} (h : LeastOf es v m) (g : LeastOf es v n) : m = n := by
  have := h.2 n g.1; have := g.2 m h.1; omega
/-- Labels are merged along an edge. -/
def mrg (p : Int → Int) (e : Int × Int) : Int → Int := fun x => if p x = p e.1 ∨ p x = p e.2 then min (p e.1) (p e.2) else p x
def parts (es : List (Int × Int)) : Int → Int := es.foldl mrg id
theorem parts_snoc (es : List (Int × Int)) (e : Int × Int) : parts (es ++ [e]) = mrg (parts es) e := by simp [parts]
theorem LeastOf.same {es : List (Int × Int)} {p : Int → Int} (h : ∀ v, LeastOf es v (p v)) {x a : Int} : p x = p a ↔ Lnk es x a := by
  constructor
  · intro e
    exact (e ▸ (h x).1).trans (h a).1.symm
  · intro hl
    have h1 := (h x).2 _ (hl.trans (h a).1)
    have h2 := (h a).2 _ (hl.symm.trans (h x).1)
    omega
theorem parts_least (es : List (Int × Int)) : ∀ v, LeastOf es v (parts es v) := by
  induction h : es.length generalizing es with
  | zero =>
    obtain rfl := List.length_eq_zero_iff.1 h
    intro v
    refine ⟨.refl _, fun u hu => ?_⟩
    cases hu with
    | refl => exact Int.le_refl _
    | fwd _ he => simp at he
    | bwd _ he => simp at he
  | succ n ih =>
    obtain ⟨fs, ⟨a, b⟩, rfl⟩ : ∃ fs e, es = fs ++ [e] := ⟨es.dropLast, es.getLast (by intro e; rw [e] at h; simp at h), by rw [List.dropLast_concat_getLast]⟩
    have ih := ih fs (by simpa using h)
    intro v
    rw [parts_snoc]
    have up : ∀ {x y}, Lnk fs x y → Lnk (fs ++ [(a, b)]) x y := fun h => h.mono fun e he => by simp [he]
    have hab : Lnk (fs ++ [(a, b)]) a b := .fwd (.refl _) (by simp)
    unfold mrg
    dsimp only
    split
    · rename_i hc
      have hva : Lnk (fs ++ [(a, b)]) v a := by
        rcases hc with e | e
        · exact up ((LeastOf.same ih).1 e)
        · exact (up ((LeastOf.same ih).1 e)).trans hab.symm
      refine ⟨?_, fun u hu => ?_⟩
      · rcases Int.le_total (parts fs a) (parts fs b) with hl | hl
        · rw [Int.min_eq_left hl]; exact hva.trans (up (ih a).1)
        · rw [Int.min_eq_right hl]; exact (hva.trans hab).trans (up (ih b).1)
      · have hau : Lnk fs a u ∨ Lnk fs b u := by
          rcases lnk_snoc (hva.symm.trans hu) with h | ⟨_, h⟩ | ⟨_, h⟩
          · exact .inl h
          · exact .inr h
          · exact .inl h
        rcases hau with h | h
        · have := (ih a).2 u h; omega
        · have := (ih b).2 u h; omega
    · rename_i hc
      have hna : ¬ Lnk fs v a := fun h => hc (.inl ((LeastOf.same ih).2 h))
      have hnb : ¬ Lnk fs v b := fun h => hc (.inr ((LeastOf.same ih).2 h))
      refine ⟨up (ih v).1, fun u hu => ?_⟩
      rcases lnk_snoc hu with h | ⟨h, _⟩ | ⟨h, _⟩
      · exact (ih v).2 u h
      · exact absurd h hna
      · exact absurd h hnb
/-- Labels are spread along an edge. -/
def spr (f : Int → Int) (e : Int × Int) : Int → Int := fun x => if x = e.1 ∨ x = e.2 then min (f e.1) (f e.2) else f x
def sprs (es : List (Int × Int)) (f : Int → Int) : Int → Int := es.foldl spr f
theorem spr_le (f : Int → Int) (e : Int × Int) (x : Int) : spr f e x ≤ f x := by
  unfold spr
  split
  · rename_i h
    rcases h with rfl | rfl <;> omega
  · exact Int.le_refl _
theorem sprs_le : ∀ (es : List (Int × Int)) (f : Int → Int) (x : Int), sprs es f x ≤ f x
  | [], f, x => Int.le_refl _
  | e :: es, f, x => Int.le_trans (sprs_le es (spr f e) x) (spr_le f e x)
theorem sprs_edge : ∀ (es : List (Int × Int)) (f : Int → Int) {a b : Int}, (a, b) ∈ es → sprs es f a ≤ f b ∧ sprs es f b ≤ f a
  | [], f, a, b, h => by simp at h
  | e :: es, f, a, b, h => by
    rcases List.mem_cons.1 h with rfl | h
    · have h1 := sprs_le es (spr f (a, b)) a
      have h2 := sprs_le es (spr f (a, b)) b
      have e1 : spr f (a, b) a = min (f a) (f b) := by simp [spr]
      have e2 : spr f (a, b) b = min (f a) (f b) := by simp [spr]
      rw [e1] at h1; rw [e2] at h2
      exact ⟨by show sprs es (spr f (a, b)) a ≤ _; omega, by show sprs es (spr f (a, b)) b ≤ _; omega⟩
    · obtain ⟨h1, h2⟩ := sprs_edge es (spr f e) h
      have := spr_le f e a
      have := spr_le f e b
      exact ⟨by show sprs es (spr f e) a ≤ _; omega, by show sprs es (spr f e) b ≤ _; omega⟩
theorem spr_lnk {E : List (Int × Int)} {f : Int → Int} (h : ∀ v, Lnk E v (f v)) {e : Int × Int} (he : e ∈ E) : ∀ v, Lnk E v (spr f e v) := by
  intro v
  unfold spr
  split
  · rename_i hc
    have hab : Lnk E e.1 e.2 := .fwd (.refl _) he
    have hva : Lnk E v e.1 := by
      rcases hc with rfl | rfl
      · exact .refl _
      · exact hab.symm
    rcases Int.le_total (f e.1) (f e.2) with hl | hl
    · rw [Int.min_eq_left hl]; exact hva.trans (h _)
    · rw [Int.min_eq_right hl]; exact (hva.trans hab).trans (h _)
  · exact h v
theorem sprs_lnk {E : List (Int × Int)} : ∀ {es : List (Int × Int)} {f : Int → Int}, (∀ e ∈ es, e ∈ E) → (∀ v, Lnk E v (f v)) → ∀ v, Lnk E v (sprs es f v)
  | [], f, _, h => h
  | e :: es, f, hs, h => sprs_lnk (es := es) (fun x hx => hs x (by simp [hx])) (spr_lnk h (hs e (by simp)))
/-- Rounds of spreading. -/
def rnd (es : List (Int × Int)) : Nat → Int → Int
  | 0 => id
  | r + 1 => sprs es (rnd es r)
theorem rnd_lnk (es : List (Int × Int)) : ∀ r v, Lnk es v (rnd es r v)
  | 0, v => .refl _
  | r + 1, v => sprs_lnk (fun e h => h) (rnd_lnk es r) v
/-- Linked in some steps at most. -/
def Dst (es : List (Int × Int)) (u : Int) : Nat → Int → Prop
  | 0, v => v = u
  | r + 1, v => Dst es u r v ∨ ∃ w, ((v, w) ∈ es ∨ (w, v) ∈ es) ∧ Dst es u r w
theorem rnd_le {es : List (Int × Int)} {u : Int} : ∀ {r : Nat} {v : Int}, Dst es u r v → rnd es r v ≤ u
  | 0, v, h => by show v ≤ u; have : v = u := h; omega
  | r + 1, v, h => by
    show sprs es (rnd es r) v ≤ u
    rcases h with h | ⟨w, hw, h⟩
    · have := sprs_le es (rnd es r) v; have := rnd_le h; omega
    · have := rnd_le h
      rcases hw with hw | hw
      · have := (sprs_edge es (rnd es r) hw).1; omega
      · have := (sprs_edge es (rnd es r) hw).2; omega
theorem dst_mono {es : List (Int × Int)} {u v : Int} {r s : Nat} (h : Dst es u r v) (hs : r ≤ s) : Dst es u s v := by
  induction s with
  | zero => obtain rfl : r = 0 := by omega
            exact h
  | succ s ih =>
    by_cases e : r = s + 1
    · subst e; exact h
    · exact .inl (ih (by omega))
theorem filter_lt {α : Type} {p q : α → Bool} : ∀ {l : List α}, (∀ x ∈ l, p x = true → q x = true) → (∃ x ∈ l, q x = true ∧ p x = false) → (l.filter p).length < (l.filter q).length
  | [], _, ⟨x, hx, _⟩ => by simp at hx
  | y :: l, h, ⟨x, hx, h1, h2⟩ => by
    have hle : (l.filter p).length ≤ (l.filter q).length := by
      clear hx
      have hl : ∀ x ∈ l, p x = true → q x = true := fun x hx => h x (by simp [hx])
      clear h
      induction l with
      | nil => simp
      | cons z l ih =>
        have := ih fun x hx => hl x (by simp [hx])
        rw [List.filter_cons, List.filter_cons]
        by_cases hp : p z = true
        · rw [if_pos hp, if_pos (hl z (by simp) hp)]; simp; omega
        · rw [if_neg hp]; split
          · simp; omega
          · omega
    rw [List.filter_cons, List.filter_cons]
    rcases List.mem_cons.1 hx with rfl | hx
    · rw [if_pos h1, if_neg (by rw [h2]; simp)]; simp; omega
    · have := filter_lt (l := l) (fun x hx => h x (by simp [hx])) ⟨x, hx, h1, h2⟩
      by_cases hp : p y = true
      · rw [if_pos hp, if_pos (h y (by simp) hp)]; simp; omega
      · rw [if_neg hp]; split
        · simp; omega
        · omega
open Classical in
theorem dst_all {es : List (Int × Int)} {vs : List Int} (hes : ∀ e ∈ es, e.1 ∈ vs ∧ e.2 ∈ vs) {u : Int} (hu : u ∈ vs) {v : Int} (h : Lnk es u v) : Dst es u vs.length v := by
  let R := fun r w => decide (Dst es u r w)
  have key : ∀ r, (∃ r', r' < r ∧ ∀ w ∈ vs, Dst es u (r' + 1) w → Dst es u r' w) ∨ r + 1 ≤ (vs.filter (R r)).length := by
    intro r
    induction r with
    | zero =>
      refine .inr ?_
      have : u ∈ vs.filter (R 0) := List.mem_filter.2 ⟨hu, decide_eq_true rfl⟩
      exact List.length_pos_of_mem this
    | succ r ih =>
      rcases ih with ⟨r', h1, h2⟩ | ih
      · exact .inl ⟨r', by omega, h2⟩
      · by_cases hc : ∀ w ∈ vs, Dst es u (r + 1) w → Dst es u r w
        · exact .inl ⟨r, by omega, hc⟩
        · refine .inr ?_
          have hex : ∃ w ∈ vs, R (r + 1) w = true ∧ R r w = false := by
            apply Classical.byContradiction
            intro hne
            apply hc
            intro w hw hd
            apply Classical.byContradiction
            intro hnd
            exact hne ⟨w, hw, decide_eq_true hd, decide_eq_false hnd⟩
          have := filter_lt (p := R r) (q := R (r + 1)) (l := vs) (fun x _ hx => decide_eq_true (.inl (of_decide_eq_true hx))) hex
          omega
  rcases key vs.length with ⟨r', h1, h2⟩ | hk
  · have all : ∀ w, Lnk es u w → w ∈ vs ∧ Dst es u r' w := by
      intro w hw
      induction hw with
      | refl => exact ⟨hu, dst_mono (r := 0) rfl (Nat.zero_le _)⟩
      | @fwd b c _ he ih => exact ⟨(hes _ he).2, h2 _ (hes _ he).2 (.inr ⟨b, .inr he, ih.2⟩)⟩
      | @bwd b c _ he ih => exact ⟨(hes _ he).1, h2 _ (hes _ he).1 (.inr ⟨b, .inl he, ih.2⟩)⟩
    exact dst_mono (all v h).2 (by omega)
  · have := List.length_filter_le (R vs.length) vs
    omega
/-- As many rounds as there are vertices are enough. -/
theorem rnd_parts {es : List (Int × Int)} {vs : List Int} (hes : ∀ e ∈ es, e.1 ∈ vs ∧ e.2 ∈ vs) {v : Int} (hv : v ∈ vs) : rnd es vs.length v = parts es v := by
  have hmem : ∀ w, Lnk es v w → w ∈ vs := by
    intro w hw
    induction hw with
    | refl => exact hv
    | fwd _ he _ => exact (hes _ he).2
    | bwd _ he _ => exact (hes _ he).1
  exact LeastOf.one ⟨rnd_lnk es _ v, fun u hu => rnd_le (dst_all hes (hmem u hu) hu.symm)⟩ (parts_least es v)
end Go.Proofs.YtibdcejglkhcfaaGreatDoor

namespace Go.Proofs.YtibdcejglkhcfaaGreatDoor
open Go.RowKit
set_option linter.unusedVariables false
set_option linter.unusedSimpArgs false

theorem filter_down {q : Nat → Bool} : ∀ {n : Nat}, (∀ i j, i < j → j < n → q j = true → q i = true) → ∃ m, m ≤ n ∧ (List.range n).filter q = List.range m
  | 0, _ => ⟨0, Nat.le_refl _, rfl⟩
  | n + 1, h => by
    rw [List.range_succ, List.filter_append]
    by_cases hq : q n = true
    · refine ⟨n + 1, Nat.le_refl _, ?_⟩
      rw [List.range_succ]
      congr 1
      · rw [List.filter_eq_self]
        intro i hi
        exact h i n (List.mem_range.1 hi) (Nat.lt_succ_self n) hq
      · simp [hq]
    · obtain ⟨m, hm, e⟩ := filter_down (q := q) (n := n) fun i j hij hj => h i j hij (by omega)
      exact ⟨m, by omega, by rw [e]; simp [hq]⟩
theorem bef_len {a b : List Int} (h : befB a b = true) : a.length ≤ b.length := by
  unfold befB at h
  have := of_decide_eq_true h
  rcases this with h | h
  · omega
  · omega
theorem OkC.lens {zz : List (List Int)} (ho : OkC zz) {i j : Nat} (hij : i < j) (hj : j < zz.length) : (zz[i]'(by omega)).length ≤ zz[j].length :=
  bef_len ((List.pairwise_iff_getElem.1 ho.1.ord) i j (by omega) hj hij)
/-- The vertices come first. -/
theorem ver_first {zz : List (List Int)} (ho : OkC zz) : ∃ m, m ≤ zz.length ∧ ofK zz 0 zz.length = (List.range m).map fun (i : Nat) => (i : Int) := by
  obtain ⟨m, hm, e⟩ := filter_down (q := fun i => decide (((zz.getD i []).length : Int) = 0 + 1)) (n := zz.length) (fun i j hij hj h => by
    have hi : i < zz.length := by omega
    have h' := of_decide_eq_true h
    have h1 := ho.lens hij hj
    have h2 := (ho.sim hi).pos
    simp only [List.getD_eq_getElem?_getD, List.getElem?_eq_getElem hj, List.getElem?_eq_getElem hi, Option.getD_some] at h' ⊢
    exact decide_eq_true (by omega))
  exact ⟨m, hm, by unfold ofK; rw [e]⟩
def vsL (zz : List (List Int)) : List Int := (ofK zz 0 zz.length).map fun i => (zz.getD i.toNat []).getD 0 0
def esL (zz : List (List Int)) : List (Int × Int) := (ofK zz 1 zz.length).map fun i => ((zz.getD i.toNat []).getD 0 0, (zz.getD i.toNat []).getD 1 0)
theorem mem_ofK {zz : List (List Int)} {d : Int} {k : Nat} {i : Int} : i ∈ ofK zz d k ↔ ∃ j : Nat, j < k ∧ i = (j : Int) ∧ ((zz.getD j []).length : Int) = d + 1 := by
  unfold ofK
  simp only [List.mem_map, List.mem_filter, List.mem_range, decide_eq_true_eq]
  constructor
  · rintro ⟨j, ⟨h1, h2⟩, rfl⟩; exact ⟨j, h1, rfl, h2⟩
  · rintro ⟨j, h1, rfl, h2⟩; exact ⟨j, ⟨h1, h2⟩, rfl⟩
theorem vsL_len (zz : List (List Int)) : (vsL zz).length = (ofK zz 0 zz.length).length := by simp [vsL]
theorem esL_len (zz : List (List Int)) : (esL zz).length = (ofK zz 1 zz.length).length := by simp [esL]
theorem one_of {t : List Int} (h : t.length = 1) : t = [t.getD 0 0] := by
  match t, h with
  | [a], _ => rfl
theorem two_of {t : List Int} (h : t.length = 2) : t = [t.getD 0 0, t.getD 1 0] := by
  match t, h with
  | [a, b], _ => rfl
/-- The i-th vertex is the i-th simplex. -/
theorem ver_at {zz : List (List Int)} (ho : OkC zz) {i : Nat} (hi : i < (vsL zz).length) : ∃ h : i < zz.length, (ofK zz 0 zz.length)[i]'(by rw [← vsL_len]; exact hi) = (i : Int) ∧ zz[i] = [(vsL zz)[i]] := by
  have hi' : i < (ofK zz 0 zz.length).length := by rw [← vsL_len]; exact hi
  obtain ⟨m, hm, e⟩ := ver_first ho
  have hx : (ofK zz 0 zz.length)[i] = (i : Int) := by simp [e]
  have hmem := List.getElem_mem hi'
  rw [hx] at hmem
  obtain ⟨j, h1, h2, h3⟩ := mem_ofK.1 hmem
  obtain rfl : i = j := by omega
  rw [List.getD_eq_getElem?_getD, List.getElem?_eq_getElem h1, Option.getD_some] at h3
  refine ⟨h1, hx, ?_⟩
  have hv : (vsL zz)[i] = zz[i].getD 0 0 := by
    simp only [vsL, List.getElem_map]
    rw [hx]
    simp [List.getD_eq_getElem?_getD, List.getElem?_eq_getElem h1]
  rw [hv]
  exact one_of (by omega)
/-- A vertex is found at its place. -/
theorem ver_find {zz : List (List Int)} (ho : OkC zz) {a : Int} (ha : [a] ∈ zz) : ∃ i : Nat, ∃ h : i < (vsL zz).length, fndI [a] zz 0 = (i : Int) ∧ (vsL zz)[i] = a := by
  obtain ⟨k, hk, e1, e2⟩ := fndI_yes (i := 0) ha
  have hm : (k : Int) ∈ ofK zz 0 zz.length := mem_ofK.2 ⟨k, hk, rfl, by simp [List.getD_eq_getElem?_getD, List.getElem?_eq_getElem hk, e2]⟩
  obtain ⟨m, hm', e⟩ := ver_first ho
  have hkm : k < (vsL zz).length := by
    rw [vsL_len, e, List.length_map, List.length_range]
    rw [e] at hm
    obtain ⟨j, hj, h⟩ := List.mem_map.1 hm
    have := List.mem_range.1 hj
    omega
  obtain ⟨h, _, hz⟩ := ver_at ho hkm
  rw [e2] at hz
  injection hz with hz
  exact ⟨k, hkm, by omega, hz.symm⟩
/-- The k-th edge. -/
theorem edg_at {zz : List (List Int)} (ho : OkC zz) {k : Nat} (hk : k < (esL zz).length) : ∃ j : Nat, ∃ h : j < zz.length, (ofK zz 1 zz.length)[k]'(by rw [← esL_len]; exact hk) = (j : Int) ∧ zz[j] = [(esL zz)[k].1, (esL zz)[k].2] ∧ (esL zz)[k].1 ∈ vsL zz ∧ (esL zz)[k].2 ∈ vsL zz ∧ [(esL zz)[k].1] ∈ zz ∧ [(esL zz)[k].2] ∈ zz := by
  have hk' : k < (ofK zz 1 zz.length).length := by rw [← esL_len]; exact hk
  obtain ⟨j, h1, h2, h3⟩ := mem_ofK.1 (List.getElem_mem hk')
  rw [List.getD_eq_getElem?_getD, List.getElem?_eq_getElem h1, Option.getD_some] at h3
  have he : (esL zz)[k] = (zz[j].getD 0 0, zz[j].getD 1 0) := by
    simp only [esL, List.getElem_map]
    rw [h2]
    simp [List.getD_eq_getElem?_getD, List.getElem?_eq_getElem h1]
  have hz := two_of (t := zz[j]) (by omega)
  have fa : [zz[j].getD 0 0] ∈ zz := ho.1.clo _ (List.getElem_mem h1) _ ⟨by simp, List.singleton_sublist.2 (by rw [hz]; simp)⟩
  have fb : [zz[j].getD 1 0] ∈ zz := ho.1.clo _ (List.getElem_mem h1) _ ⟨by simp, List.singleton_sublist.2 (by rw [hz]; simp)⟩
  have ia : zz[j].getD 0 0 ∈ vsL zz := by obtain ⟨i, h, _, e⟩ := ver_find ho fa; rw [← e]; exact List.getElem_mem h
  have ib : zz[j].getD 1 0 ∈ vsL zz := by obtain ⟨i, h, _, e⟩ := ver_find ho fb; rw [← e]; exact List.getElem_mem h
  rw [he]
  exact ⟨j, h1, h2, hz, ia, ib, fa, fb⟩
theorem edg_ver {zz : List (List Int)} (ho : OkC zz) : ∀ e ∈ esL zz, e.1 ∈ vsL zz ∧ e.2 ∈ vsL zz := fun e he => by
  obtain ⟨k, hk, rfl⟩ := List.getElem_of_mem he
  obtain ⟨_, _, _, _, h1, h2, _⟩ := edg_at ho hk
  exact ⟨h1, h2⟩
theorem vsL_bd {zz : List (List Int)} (ho : OkC zz) : ∀ v ∈ vsL zz, 0 ≤ v ∧ v ≤ 9 := fun v hv => by
  obtain ⟨i, hi, rfl⟩ := List.getElem_of_mem hv
  obtain ⟨h, _, e⟩ := ver_at ho hi
  exact (ho.sim h).bd _ (by rw [e]; simp)
theorem vsL_nodup {zz : List (List Int)} (ho : OkC zz) : (vsL zz).Nodup := by
  refine List.pairwise_iff_getElem.2 fun i j hi hj hij e => ?_
  obtain ⟨h1, _, e1⟩ := ver_at ho hi
  obtain ⟨h2, _, e2⟩ := ver_at ho hj
  have : zz[i] = zz[j] := by rw [e1, e2, e]
  have := ho.1.inj h1 h2 this
  omega
noncomputable def prtL (zz : List (List Int)) : List Int := (vsL zz).map (parts (esL zz))
def PrtIs (zz : List (List Int)) (yy : List Int) (c : Int) : Prop := (¬ OkC zz ∧ yy = [] ∧ c = 1) ∨ (OkC zz ∧ yy = prtL zz ∧ c = 0)
theorem prt_has (zz : List (List Int)) : ∃ yy c, PrtIs zz yy c := by
  by_cases h : OkC zz
  · exact ⟨_, _, .inr ⟨h, rfl, rfl⟩⟩
  · exact ⟨_, _, .inl ⟨h, rfl, rfl⟩⟩
theorem PrtIs.fit {zz : List (List Int)} {yy : List Int} {c : Int} (h : PrtIs zz yy c) : yy.length ≤ 1048576 := by
  rcases h with ⟨_, rfl, _⟩ | ⟨h, rfl, _⟩
  · simp
  · have := ofK_len zz 0 zz.length; have := h.2
    simp only [prtL, List.length_map, vsL_len]; omega
/-- A label is written at the place of a vertex. -/
theorem spr_set {vs : List Int} (hn : vs.Nodup) {f : Int → Int} {a b : Int} {i j : Nat} (hi : i < vs.length) (hj : j < vs.length) (ea : vs[i] = a) (eb : vs[j] = b) : ((vs.map f).set i (min (f a) (f b))).set j (min (f a) (f b)) = vs.map (spr f (a, b)) := by
  apply List.ext_getElem
  · simp
  · intro k h1 h2
    have hk : k < vs.length := by simpa using h1
    have inj : ∀ {x y : Nat} (hx : x < vs.length) (hy : y < vs.length), vs[x] = vs[y] → x = y := fun {x y} hx hy e => by
      rcases Nat.lt_trichotomy x y with h | h | h
      · exact absurd e ((List.pairwise_iff_getElem.1 hn) x y hx hy h)
      · exact h
      · exact absurd e.symm ((List.pairwise_iff_getElem.1 hn) y x hy hx h)
    rw [List.getElem_set, List.getElem_set, List.getElem_map, List.getElem_map]
    unfold spr
    dsimp only
    by_cases h1 : j = k
    · subst h1
      rw [if_pos rfl, if_pos (.inr eb)]
    · rw [if_neg h1]
      by_cases h2 : i = k
      · subst h2
        rw [if_pos rfl, if_pos (.inl ea)]
      · rw [if_neg h2, if_neg]
        rintro (e | e)
        · exact h2 (inj hi hk (ea.trans e.symm))
        · exact h1 (inj hj hk (eb.trans e.symm))
end Go.Proofs.YtibdcejglkhcfaaGreatDoor

namespace Go.Proofs.YtibdcejglkhcfaaGreatDoor
open Go.RowKit
set_option linter.unusedVariables false
set_option linter.unusedSimpArgs false

theorem sprs_next {es : List (Int × Int)} {f : Int → Int} {k : Nat} (hk : k < es.length) : sprs (es.take (k + 1)) f = spr (sprs (es.take k) f) es[k] := by
  unfold sprs; rw [List.take_succ_eq_append_getElem hk, List.foldl_append]; rfl
theorem ivP_set (zs : List Int) (i : Nat) (x : Int) : (iv zs).set i (.int .i64 x) = iv (zs.set i x) := by unfold iv; rw [List.map_set]
theorem OwnI.write {B g n c : Nat} {w : World} {zs : List Int} (h : OwnI B w (.slice (some ⟨g, 0, none⟩) n c) zs) (hn : n = zs.length) (i : Nat) (x : Int) : OwnI B (w.setCell ⟨g, i, none⟩ (.int .i64 x)) (.slice (some ⟨g, 0, none⟩) n c) (zs.set i x) ∧ w.grownBy (w.setCell ⟨g, i, none⟩ (.int .i64 x)) (some g) := by
  subst hn
  obtain ⟨h1, h2⟩ := World.ownsRow.stored h.out i (.int .i64 x)
  refine ⟨?_, h2⟩
  unfold OwnI
  rw [List.length_set, ← ivP_set]
  exact h1
theorem OwnI.rowZ {B z : Nat} {w w' : World} {v : Value} {zs : List Int} (h : OwnI B w v zs) (hz : zs.length = z) (hb : Below w.heap.size w w') : w'.ownsRow B 2 1 v z (iv zs) := by
  have h1 := (h.on hb).out
  rw [hz] at h1; exact h1
theorem own_pushZ {B g cap z : Nat} {w : World} {zs : List Int} {x : Int} (hz : zs.length = z) (h : w.ownsRow B 2 1 (.slice (some ⟨g, 0, none⟩) (z + 1) cap) (z + 1) (iv zs ++ [.int .i64 x])) : OwnI B w (.slice (some ⟨g, 0, none⟩) (z + 1) cap) (zs ++ [x]) := by
  subst hz; exact pushU h
theorem below_pushZ {B K : Nat} {a wr W w7 : World} {v : Value} {zs : List Int} (hB : Below K a wr) (hgrow : W.grownBy w7 v.ownBlock) (hW : Below wr.heap.size wr W) (hK : K ≤ wr.heap.size) (ho : OwnI B wr v zs) (hKB : K ≤ B) : Below K a w7 :=
  (hB.trans (hW.mono hK)).grown hgrow (Nat.le_trans hK hW.size) (fun q hq => Nat.le_trans hKB (ho.out.lt q hq).1)
end Go.Proofs.YtibdcejglkhcfaaGreatDoor

namespace Go.Proofs.YtibdcejglkhcfaaGreatDoor
open Go.RowKit
set_option linter.unusedVariables false
set_option linter.unusedSimpArgs false


/-- An array of ten numbers. -/
def Arr (w : World) (g : Nat) (f : Nat → Int) : Prop := ∀ j, j < 10 → w.cell? ⟨g, j, none⟩ = some (.int .i64 (f j)) ∧ w.frozen? ⟨g, j, none⟩ = false
theorem Arr.at {w : World} {g : Nat} {f : Nat → Int} (h : Arr w g f) {j : Nat} (hj : j < 10) {x : Int} (e : f j = x) : w.cell? ⟨g, j, none⟩ = some (.int .i64 x) ∧ w.frozen? ⟨g, j, none⟩ = false := by subst e; exact h j hj
theorem Arr.set {w : World} {g : Nat} {f : Nat → Int} (h : Arr w g f) (i : Nat) (x : Int) : Arr (w.setCell ⟨g, i, none⟩ (.int .i64 x)) g (fun j => if j = i then x else f j) := fun j hj => by
  obtain ⟨h1, h2⟩ := h j hj
  refine ⟨?_, (World.frozen?_setCell _ _ _ _).trans h2⟩
  dsimp only
  by_cases e : j = i
  · subst e
    rw [if_pos rfl]
    exact World.cell?_setCell_same' _ _ _ (by rw [h1]; rfl)
  · rw [if_neg e, World.cell?_setCell_other _ _ _ _ (by intro h; injection h with _ h; exact e h.symm)]
    exact h1
theorem Arr.congr {w : World} {g : Nat} {f f' : Nat → Int} (h : Arr w g f) (hf : ∀ j, j < 10 → f j = f' j) : Arr w g f' := fun j hj => by
  rw [← hf j hj]; exact h j hj
theorem Arr.on {B : Nat} {w w' : World} {g : Nat} {f : Nat → Int} (h : Arr w g f) (hg : g < B) (hb : Below B w w') : Arr w' g f := fun j hj => by
  obtain ⟨h1, h2⟩ := h j hj
  exact ⟨(hb.cell (p := ⟨g, j, none⟩) hg).trans h1, (hb.frozen (p := ⟨g, j, none⟩) hg).trans h2⟩
def arrL (f : Nat → Int) : List Value := (List.range 10).map fun j => .int .i64 (f j)
theorem Arr.range {w : World} {g : Nat} {f : Nat → Int} (h : Arr w g f) : w.rangeAt g 0 (arrL f) := fun j v hv => by
  obtain ⟨hj, e⟩ := List.getElem?_eq_some_iff.1 hv
  have hj' : j < 10 := by simpa [arrL] using hj
  rw [Nat.zero_add, (h j hj').1, ← e]
  simp [arrL]
theorem arrL_len (f : Nat → Int) : (arrL f).length = 10 := by simp [arrL]
theorem arr_idx {f : Nat → Int} {k : Nat} (hk : k < 10) (w : World) : (Instr.index 59 (.agg (arrL f).toArray) (.int .i64 (k : Int))).run Tryz.prog w = .ok (.int .i64 (f k)) w := by
  have h1 : (k : Int) < 10 := by omega
  have h2 : (0 : Int) ≤ (k : Int) := by omega
  have h3 : k < (arrL f).toArray.size := by simp [arrL]; omega
  have h4 : (arrL f)[k]? = some (.int .i64 (f k)) := by simp [arrL, hk]
  unfold Instr.index
  go_simp
theorem prt_fill {n i : Nat} {p : List Int} {x : Int} (hn : p.length = n) (hi : i < n) (hx : p[i]? = some x) : (p.take i ++ List.replicate (n - i) 0).set i x = p.take (i + 1) ++ List.replicate (n - (i + 1)) 0 := by
  subst hn
  obtain ⟨hi, e⟩ := List.getElem?_eq_some_iff.1 hx
  apply List.ext_getElem
  · simp; omega
  · intro k h1 h2
    simp only [List.getElem_set, List.getElem_append, List.getElem_take, List.length_take, List.getElem_replicate]
    by_cases e1 : i = k
    · subst e1
      rw [if_pos rfl, dif_pos (by omega)]
      exact e.symm
    · rw [if_neg e1]
      by_cases e2 : k < i
      · rw [dif_pos (by omega), dif_pos (by omega)]
      · rw [dif_neg (by omega), dif_neg (by omega)]
end Go.Proofs.YtibdcejglkhcfaaGreatDoor
