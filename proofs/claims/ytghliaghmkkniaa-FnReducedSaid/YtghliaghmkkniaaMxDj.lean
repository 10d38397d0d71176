/-
  InverseMatrix of the program.
-/
import Derived.Test.YtghliaghmkkniaaPG
import Derived.Test.YtghliaghmkkniaaPB
import Derived.Test.YtghliaghmkkniaaPE
namespace Go.Proofs.Ytghliaghmkkniaa
open Go.RowKit
open Lin
set_option linter.unusedVariables false
set_option linter.unusedSectionVars false

/-- What InverseMatrix answers. -/
def InRes (p r c : Int) (xs : List Int) (P R C : Int) (zs : List Int) (k : Int) : Prop :=
  ((∃ b, (r == c) = b ∧ FitK p r c xs p r c xs b k) ∧ k ≠ 0 ∧ P = 0 ∧ R = 0 ∧ C = 0 ∧ zs = []) ∨
  ∃ (u : Nat) (_ : NeZero u) (m : Nat) (A : Mt u), MIs p r c xs u m m A ∧ (((red m A m).piv.length ≠ m ∧ P = 0 ∧ R = 0 ∧ C = 0 ∧ zs = [] ∧ k = 3) ∨ ((red m A m).piv.length = m ∧ P = p ∧ R = r ∧ C = c ∧ zs = flat m m (inverse m A) ∧ k = 0))
theorem inRes_has (p r c : Int) (xs : List Int) : ∃ P R C zs k, InRes p r c xs P R C zs k := by
  obtain ⟨k, hk⟩ := fitK_has p r c xs p r c xs (r == c)
  by_cases h : k = 0
  · subst h
    obtain ⟨h1, _, _, h2⟩ := hk.good
    obtain ⟨u, i, m, A, hA⟩ := sq_form h1 (by simpa using h2)
    by_cases hx : (red m A m).piv.length = m
    · exact ⟨_, _, _, _, _, .inr ⟨u, i, m, A, hA, .inr ⟨hx, rfl, rfl, rfl, rfl, rfl⟩⟩⟩
    · exact ⟨_, _, _, _, _, .inr ⟨u, i, m, A, hA, .inl ⟨hx, rfl, rfl, rfl, rfl, rfl⟩⟩⟩
  · exact ⟨_, _, _, _, _, .inl ⟨⟨_, rfl, hk⟩, h, rfl, rfl, rfl, rfl⟩⟩
theorem InRes.len {p r c : Int} {xs : List Int} {P R C : Int} {zs : List Int} {k : Int} (h : InRes p r c xs P R C zs k) : zs.length ≤ 1048576 := by
  rcases h with ⟨_, _, _, _, _, rfl⟩ | ⟨u, _, m, A, hA, ⟨_, _, _, _, rfl, _⟩ | ⟨_, _, _, _, rfl, _⟩⟩
  · simp
  · simp
  · rw [flat_len]
    have := Nat.mul_le_mul hA.m32 hA.m32
    omega
theorem rowL_joinF {q : Nat} [NeZero q] (n1 n2 : Nat) (A B : Mt q) : (fun i => rowL n1 A i ++ rowL n2 B i) = rowL (n1 + n2) (join n1 A B) := funext fun i => (rowL_join n1 n2 A B i).symm
/-- A row of the cells has been copied. -/
theorem matG_row {q : Nat} [NeZero q] {w3 : World} {G C m n i : Nat} {B : Mt q} {F : Nat → Value} {zs : List Int} {X : Nat → Fin q} (h1 : m * n ≤ C) (h2 : C ≤ maxLen) (hF : ∀ t, t < m * n → F t = .int .i64 (fv (cellF n B t)))
    (hr : w3.rowIs G 2 C (fun y => if i * n ≤ y ∧ y < i * n + n then (iv zs).getD (y - i * n) undef else F y)) (hz : zs.length = n) (hX : ∀ j (h : j < zs.length), zs[j] = fv (X j)) : MatG w3 G C m n (fun a l => if a = i then X l else B a l) := by
  refine ⟨_, hr, h1, h2, fun t ht => ?_⟩
  have hn : 0 < n := Nat.pos_of_ne_zero (by rintro rfl; simp at ht)
  have hd := Nat.div_add_mod t n
  rw [Nat.mul_comm] at hd
  have hm := Nat.mod_lt t hn
  show (if i * n ≤ t ∧ t < i * n + n then (iv zs).getD (t - i * n) undef else F t) = .int .i64 (fv (if t / n = i then X (t % n) else B (t / n) (t % n)))
  by_cases e : i * n ≤ t ∧ t < i * n + n
  · obtain ⟨j, hj⟩ : ∃ j, t = i * n + j := ⟨t - i * n, by omega⟩
    have hjn : j < n := by omega
    rw [if_pos e, hj, Nat.add_sub_cancel_left, idx_div hjn, idx_mod hjn, if_pos rfl]
    have hl : j < zs.length := by omega
    simp only [List.getD, iv_at _ j hl, Option.getD_some, hX]
  · rw [if_neg e, hF t ht]
    unfold cellF
    rw [if_neg]
    intro e2
    rw [e2] at hd
    omega
/-- The inverse so far. -/
def mixI {q : Nat} [NeZero q] (B : Mt q) (n i : Nat) : Mt q := fun a l => if a < i then B a (n + l) else unitM a l
theorem mixI_next {q : Nat} [NeZero q] {B : Mt q} {n i : Nat} : (fun a l => if a = i then B i (n + l) else mixI B n i a l) = mixI B n (i + 1) := by
  funext a l
  unfold mixI
  by_cases e : a = i
  · subst e; rw [if_pos rfl, if_pos (by omega)]
  · rw [if_neg e]
    by_cases e2 : a < i
    · rw [if_pos e2, if_pos (by omega)]
    · rw [if_neg e2, if_neg (by omega)]
theorem tail_src {w : World} {g C k n : Nat} {zs : List Int} {F : Nat → Value} (hr : w.rowIs g 2 C F) (hz : zs.length = n) (hl : n ≤ 2097152) (hk : k + n ≤ C) (hF : ∀ j (h : j < zs.length), F (k + j) = .int .i64 zs[j]) (c : Nat) : SrcAt w (.slice (some ⟨g, k, none⟩) n c) (iv zs) := by
  refine ⟨_, c, by rw [iv_len, hz], by rw [iv_len]; omega, .inr ⟨g, k, rfl, .inr hr.lt, fun j u hj => ?_⟩⟩
  have h1 : j < zs.length := by have := (List.getElem?_eq_some_iff.1 hj).1; rwa [iv_len] at this
  rw [iv_at _ j h1] at hj
  injection hj with hj
  rw [hr.cell (by omega), hF j h1, hj]
end Go.Proofs.Ytghliaghmkkniaa
