/-
  What FnKernels says, in mathematics: rows of a kernel lead to 0 and are not 0, columns without a pivot, images lie in the space of the columns.
-/
import Derived.Test.YtpimnngomodnhaaSpK
import Derived.Test.YtpimnngomodnhaaSpO
import Derived.Test.YtpimnngomodnhaaSpW
import Derived.Test.YtpimnngomodnhaaSqH
import Derived.Test.YtpimnngomodnhaaMSv
import Derived.Test.YtpimnngomodnhaaPD
namespace Go.Proofs.Ytpimnngomodnhaa
open Go.RowKit
open Lin
set_option linter.unusedVariables false
set_option linter.unusedSectionVars false

section
variable {q : Nat} [NeZero q]
theorem len_filter2 {α : Type} (f : α → Bool) : ∀ l : List α, l.length = (l.filter f).length + (l.filter (fun x => !f x)).length
  | [] => rfl
  | x :: l => by
    have := len_filter2 f l
    rw [List.filter_cons, List.filter_cons]
    cases h : f x <;> simp <;> omega
theorem free_count (hf : FldP q) (m n : Nat) (A : Mt q) : (freeL (red m A n).piv n).length + (red m A n).piv.length = n := by
  classical
  have h := len_filter2 (fun k => decide (Piv A m k)) (List.range n)
  have e : freeL (red m A n).piv n = (List.range n).filter (fun k => !decide (Piv A m k)) := by
    unfold freeL
    refine List.filter_congr fun c hc => ?_
    rw [red_piv hf, ← decide_not, decide_eq_decide]
    simp only [List.mem_filter, hc, true_and, decide_eq_true_eq]
  rw [List.length_range, ← red_piv hf] at h
  rw [e]; omega
theorem kerOf_count (hf : FldP q) (m n : Nat) (A : Mt q) : (kerOf m n A).length + (red m A n).piv.length = n := by
  unfold kerOf
  rw [kerR_len]
  exact free_count hf m n A
theorem colV_free (R : Mt q) {piv : List Nat} {k : Nat} (h : k ∉ piv) : colV R piv k k = 1 := by
  unfold colV
  rw [if_pos rfl, sm_zero _ _ fun t ht => if_neg fun e => h (by rw [← e, show piv.getD t 0 = piv[t] by simp [List.getD, ht]]; exact List.getElem_mem ht)]
  grind
/-- Each row of a kernel. -/
theorem kerOf_row (hf : FldP q) {m n : Nat} (A : Mt q) {i : Nat} (hi : i < (kerOf m n A).length) : ∃ x : Nat → Fin q, (kerOf m n A)[i] = bL n x ∧ (∀ t, t < m → sm n (fun j => A t j * x j) = 0) ∧ ∃ k, k < n ∧ x k = 1 := by
  have hm : (kerOf m n A)[i] ∈ kerOf m n A := List.getElem_mem hi
  obtain ⟨k, hk, e⟩ := List.mem_map.1 hm
  obtain ⟨h1, h2⟩ := freeL_lt hk
  have hI := red_inv hf m A n
  exact ⟨_, e.symm, fun t ht => hI.col_ker h1 (Nat.le_refl _) (fun i a b => red_zero hf A i k a b h1) t ht, k, h1, colV_free _ h2⟩
theorem flat_colK {m n : Nat} {A : Mt q} {b x : Nat → Fin q} (h : ∀ i, i < m → sm n (fun j => A i j * x j) = b i) : flat m 1 (muC n A (fun i _ => x i)) = bL m b := by
  rw [bL_flat]
  exact flat_congr fun i j hi hj => h i hi
theorem zeros_yes (m : Nat) : decide (∀ z ∈ bL m (fun _ => (0 : Fin q)), z = 0) = true := by
  simp only [decide_eq_true_eq]
  intro z hz
  obtain ⟨j, hj, rfl⟩ := List.getElem_of_mem hz
  rw [bL_at, fv_zero]
theorem zeros_no (hq : 2 ≤ q) {n k : Nat} {x : Nat → Fin q} (hk : k < n) (h : x k = 1) : decide (∀ z ∈ bL n x, z = 0) = false := by
  simp only [decide_eq_false_iff_not]
  intro hz
  have h1 := hz _ (List.getElem_mem (l := bL n x) (n := k) (by rw [bL_len]; exact hk))
  rw [bL_at, h, fv_one hq] at h1
  omega
/-- The image of x. -/
def imV (n : Nat) (A : Mt q) (x : Nat → Fin q) : Nat → Fin q := fun i => sm n (fun j => A i j * x j)
theorem im_in {m n : Nat} (A : Mt q) (x : Nat → Fin q) : In n m (turn A) (imV n A x) := fun v hv => no_cert (A := A) (x := x) (fun i hi => rfl) (fun i hi => hv i hi)
theorem vis_cols (hq : IsPr (q : Int)) {m : Nat} (hm : m ≤ 32) (n : Nat) (A : Mt q) : VIs q m (basOf n m (turn A)) q m (red n (turn A) m).piv.length (red n (turn A) m).A := vis_basOf hq hm n (turn A)
theorem vB_cols (hq : IsPr (q : Int)) {m : Nat} (hm : m ≤ 32) (n : Nat) (A : Mt q) : true = vB q m (basOf n m (turn A)) := (vB_yes (vis_cols hq hm n A).ok).symm
theorem cols_len (hf : FldP q) (m n : Nat) (A : Mt q) : (basOf n m (turn A)).length = (red m A n).piv.length := by
  unfold basOf
  rw [rowsOf_len, rank_turn hf]
theorem con_cols (hq : IsPr (q : Int)) {m : Nat} (hm : m ≤ 32) (n : Nat) (A : Mt q) (x : Nat → Fin q) : ConRes q m (basOf n m (turn A)) (bL m (imV n A x)) true := by
  have hf := fd_of hq
  have hV := vis_cols hq hm n A
  have hs := (coord_sys hf (m := n) (n := m) (A := turn A) (imV n A x) (red n (turn A) m).A _ (fun i j hi hj => rfl) rfl).2.1.2 (im_in A x)
  exact ⟨_, 0, .inr ⟨q, _, m, _, _, hV, .inr ⟨q, _, m, _, turn (red n (turn A) m).A, imV n A x, hV.turn, rfl, .inl ⟨hs, rfl, rfl⟩⟩⟩, rfl⟩
/-- A matrix applied to a vector. -/
theorem ap_any {P S C : Int} {zs : List Int} {m n : Nat} {A : Mt q} (hA : MIs P S C zs q m n A) (x b : Nat → Fin q) (h : ∀ i, i < m → sm n (fun j => A i j * x j) = b i) : ApRes P S C zs (bL n x) (bL m b) 0 :=
  .inr ⟨rfl, q, _, m, n, A, (fun i _ => x i), hA, ⟨hA.p, hA.c, rfl, bL_flat n x, hA.pr, hA.n32, by omega⟩, (flat_colK h).symm⟩
end
end Go.Proofs.Ytpimnngomodnhaa
