/-
  The basis of a sum, of an orthogonal space and of an intersection as reduced rows. Plain facts.
-/
import Derived.Test.YtpimnngomodnhaaSqB
import Derived.Test.YtpimnngomodnhaaSqD
import Derived.Test.YtpimnngomodnhaaSpI
import Derived.Test.YtpimnngomodnhaaVis
namespace Go.Proofs.Ytpimnngomodnhaa
open Go.RowKit
open Lin
set_option linter.unusedVariables false
set_option linter.unusedSectionVars false

/-- What SumSpaces answers. -/
def SumRes (p n : Int) (xx : List (List Int)) (q m : Int) (yy : List (List Int)) (P N : Int) (Z : List (List Int)) (k : Int) : Prop :=
  (∃ c, TwoK p n xx q m yy c ∧ c ≠ 0 ∧ P = 0 ∧ N = 0 ∧ Z = [] ∧ k = c) ∨ (k = 0 ∧ P = p ∧ N = n ∧ p = q ∧ n = m ∧ ∃ (u : Nat) (_ : NeZero u) (M r s : Nat) (A B : Mt u), VIs p n xx u M r A ∧ VIs p n yy u M s B ∧ Z = basOf (r + s) M (stack r A B))
theorem two_form {p n : Int} {xx yy : List (List Int)} (h1 : VOk p n xx) (h2 : VOk p n yy) : ∃ (u : Nat) (_ : NeZero u) (M r s : Nat) (A B : Mt u), VIs p n xx u M r A ∧ VIs p n yy u M s B := by
  obtain ⟨u, i, M, r, A, hA⟩ := h1.form
  obtain ⟨u', i', M', s, B, hB⟩ := h2.form
  obtain rfl : u' = u := by have := hA.p; have := hB.p; omega
  obtain rfl : M' = M := by have := hA.n; have := hB.n; omega
  exact ⟨u', i, M', r, s, A, B, hA, hB⟩
theorem sumRes_has (p n : Int) (xx : List (List Int)) (q m : Int) (yy : List (List Int)) : ∃ P N Z k, SumRes p n xx q m yy P N Z k := by
  obtain ⟨c, hc⟩ := twoK_has p n xx q m yy
  by_cases h0 : c = 0
  · subst h0
    rcases hc with ⟨_, h⟩ | ⟨_, _, _, h⟩ | ⟨h1, h2, rfl, rfl, _⟩
    · exact absurd h (by decide)
    · exact absurd h (by decide)
    · obtain ⟨u, i, M, r, s, A, B, hA, hB⟩ := two_form h1 h2
      exact ⟨_, _, _, _, .inr ⟨rfl, rfl, rfl, rfl, rfl, u, i, M, r, s, A, B, hA, hB, rfl⟩⟩
  · exact ⟨_, _, _, _, .inl ⟨c, hc, h0, rfl, rfl, rfl, rfl⟩⟩
theorem SumRes.fit {p n q m P N k : Int} {xx yy Z : List (List Int)} (h : SumRes p n xx q m yy P N Z k) : FitR Z := by
  rcases h with ⟨_, _, _, _, _, rfl, _⟩ | ⟨_, _, _, _, _, u, _, M, r, s, A, B, hA, _, rfl⟩
  · exact FitR.nil
  · exact fit_basOf (fd_of hA.pr) _ (by have := hA.n32; omega)
section
variable {q : Nat} [NeZero q]
/-- The rank and the rows of an orthogonal space. -/
noncomputable def ortR (r N : Nat) (A : Mt q) : Nat := (red (kerOf r N A).length (mat q (kerOf r N A)) N).piv.length
noncomputable def ortA (r N : Nat) (A : Mt q) : Mt q := (red (kerOf r N A).length (mat q (kerOf r N A)) N).A
theorem vis_ortOf (hq : IsPr (q : Int)) {N : Nat} (hN : N ≤ 32) (r : Nat) (A : Mt q) : VIs q N (ortOf r N A) q N (ortR r N A) (ortA r N A) := vis_basOf hq hN _ _
/-- The rank and the rows of a sum. -/
noncomputable def sumR (r s N : Nat) (A B : Mt q) : Nat := (red (r + s) (stack r A B) N).piv.length
noncomputable def sumA (r s N : Nat) (A B : Mt q) : Mt q := (red (r + s) (stack r A B) N).A
noncomputable def sumOf (r s N : Nat) (A B : Mt q) : List (List Int) := basOf (r + s) N (stack r A B)
theorem vis_sumOf (hq : IsPr (q : Int)) {N : Nat} (hN : N ≤ 32) (r s : Nat) (A B : Mt q) : VIs q N (sumOf r s N A B) q N (sumR r s N A B) (sumA r s N A B) := vis_basOf hq hN _ _
/-- The basis of an intersection: what is orthogonal to the sum of the orthogonal spaces. -/
noncomputable def meetOf (r s N : Nat) (A B : Mt q) : List (List Int) :=
  ortOf (sumR (ortR r N A) (ortR s N B) N (ortA r N A) (ortA s N B)) N (sumA (ortR r N A) (ortR s N B) N (ortA r N A) (ortA s N B))
end
/-- What MeetSpaces answers. -/
def MeetRes (p n : Int) (xx : List (List Int)) (q m : Int) (yy : List (List Int)) (P N : Int) (Z : List (List Int)) (k : Int) : Prop :=
  (∃ c, TwoK p n xx q m yy c ∧ c ≠ 0 ∧ P = 0 ∧ N = 0 ∧ Z = [] ∧ k = c) ∨ (k = 0 ∧ P = p ∧ N = n ∧ p = q ∧ n = m ∧ ∃ (u : Nat) (_ : NeZero u) (M r s : Nat) (A B : Mt u), VIs p n xx u M r A ∧ VIs p n yy u M s B ∧ Z = meetOf r s M A B)
theorem meetRes_has (p n : Int) (xx : List (List Int)) (q m : Int) (yy : List (List Int)) : ∃ P N Z k, MeetRes p n xx q m yy P N Z k := by
  obtain ⟨c, hc⟩ := twoK_has p n xx q m yy
  by_cases h0 : c = 0
  · subst h0
    rcases hc with ⟨_, h⟩ | ⟨_, _, _, h⟩ | ⟨h1, h2, rfl, rfl, _⟩
    · exact absurd h (by decide)
    · exact absurd h (by decide)
    · obtain ⟨u, i, M, r, s, A, B, hA, hB⟩ := two_form h1 h2
      exact ⟨_, _, _, _, .inr ⟨rfl, rfl, rfl, rfl, rfl, u, i, M, r, s, A, B, hA, hB, rfl⟩⟩
  · exact ⟨_, _, _, _, .inl ⟨c, hc, h0, rfl, rfl, rfl, rfl⟩⟩
theorem MeetRes.fit {p n q m P N k : Int} {xx yy Z : List (List Int)} (h : MeetRes p n xx q m yy P N Z k) : FitR Z := by
  rcases h with ⟨_, _, _, _, _, rfl, _⟩ | ⟨_, _, _, _, _, u, _, M, r, s, A, B, hA, _, rfl⟩
  · exact FitR.nil
  · exact fit_ortOf (fd_of hA.pr) _ (by have := hA.n32; omega)
/-- The unit vectors of some columns. -/
def unitR (q : Nat) [NeZero q] (N : Nat) (fs : List Nat) : List (List Int) := fs.map fun k => rowL N (unitM : Mt q) k
/-- The basis of a complement. -/
noncomputable def cmpOf {q : Nat} [NeZero q] (r N : Nat) (A : Mt q) : List (List Int) := bas q N (unitR q N (freeL (red r A N).piv N))
theorem unitR_len (q : Nat) [NeZero q] (N : Nat) (fs : List Nat) : (unitR q N fs).length = fs.length := by simp [unitR]
theorem unitR_app (q : Nat) [NeZero q] (N : Nat) (a : List Nat) (k : Nat) : unitR q N (a ++ [k]) = unitR q N a ++ [rowL N (unitM : Mt q) k] := by simp [unitR]
theorem vecs_unitR (q : Nat) [NeZero q] (N : Nat) (fs : List Nat) : Vecs q N (unitR q N fs) := fun zs hz => by
  obtain ⟨k, -, rfl⟩ := List.mem_map.1 hz
  exact ⟨by rw [rowL_len], rowL_ok N _ _⟩
theorem tot_unitR (q : Nat) [NeZero q] (N : Nat) : ∀ fs : List Nat, tot (unitR q N fs) = fs.length * N
  | [] => by simp [unitR, tot]
  | k :: fs => by
    have := tot_unitR q N fs
    unfold unitR at this ⊢
    simp only [List.map_cons, tot, rowL_len, this, List.length_cons, Nat.succ_mul]
    omega
theorem fit_unitR (q : Nat) [NeZero q] {N : Nat} {fs : List Nat} (hk : fs.length ≤ 1024) (hn : N ≤ 1024) : FitR (unitR q N fs) := by
  refine ⟨by rw [unitR_len]; omega, ?_⟩
  rw [tot_unitR]
  exact Nat.le_trans (Nat.mul_le_mul hk hn) (by decide)
/-- What ComplementOf answers. -/
def CmpRes (p n : Int) (zz : List (List Int)) (P N : Int) (Z : List (List Int)) (k : Int) : Prop :=
  (¬ VOk p n zz ∧ P = 0 ∧ N = 0 ∧ Z = [] ∧ k = 1) ∨ (k = 0 ∧ P = p ∧ N = n ∧ ∃ (q : Nat) (_ : NeZero q) (M r : Nat) (A : Mt q), VIs p n zz q M r A ∧ Z = cmpOf r M A)
theorem cmpRes_has (p n : Int) (zz : List (List Int)) : ∃ P N Z k, CmpRes p n zz P N Z k := by
  by_cases h : VOk p n zz
  · obtain ⟨q, i, N, r, A, hA⟩ := h.form
    exact ⟨_, _, _, _, .inr ⟨rfl, rfl, rfl, q, i, N, r, A, hA, rfl⟩⟩
  · exact ⟨_, _, _, _, .inl ⟨h, rfl, rfl, rfl, rfl⟩⟩
theorem CmpRes.fit {p n P N k : Int} {zz Z : List (List Int)} (h : CmpRes p n zz P N Z k) : FitR Z := by
  rcases h with ⟨_, _, _, rfl, _⟩ | ⟨_, _, _, q, _, M, r, A, hA, rfl⟩
  · exact FitR.nil
  · exact fit_bas (fd_of hA.pr) (by have := hA.n32; omega) _
end Go.Proofs.Ytpimnngomodnhaa
