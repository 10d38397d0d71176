/-
  Rows of numbers modulo a prime as lists: valid vectors, the basis of a space, valid spaces. Plain mathematics.
-/
import Derived.Test.YtpimnngomodnhaaSpM
import Derived.Test.YtpimnngomodnhaaPE
import Derived.Test.YtpimnngomodnhaaSsA
namespace Go.Proofs.Ytpimnngomodnhaa
open Lin
set_option linter.unusedVariables false
set_option linter.unusedSectionVars false

section
variable {q : Nat} [NeZero q]
/-- The rows of a matrix. -/
def rowsOf (m n : Nat) (A : Mt q) : List (List Int) := (List.range m).map (rowL n A)
theorem rowsOf_len (m n : Nat) (A : Mt q) : (rowsOf m n A).length = m := by simp [rowsOf]
theorem rowsOf_at (m n : Nat) (A : Mt q) (i : Nat) (h : i < (rowsOf m n A).length) : (rowsOf m n A)[i] = rowL n A i := by simp [rowsOf]
theorem rowsOf_get (m n : Nat) (A : Mt q) (i : Nat) (h : i < m) : (rowsOf m n A)[i]? = some (rowL n A i) := by simp [rowsOf, h]
theorem rowsOf_congr {m n : Nat} {A B : Mt q} (h : ∀ i j, i < m → j < n → A i j = B i j) : rowsOf m n A = rowsOf m n B := by
  unfold rowsOf rowL
  refine List.map_congr_left fun i hi => List.map_congr_left fun j hj => ?_
  rw [h i j (List.mem_range.1 hi) (List.mem_range.1 hj)]
theorem rowL_congr {n : Nat} {A B : Mt q} {i k : Nat} (h : ∀ j, j < n → A i j = B k j) : rowL n A i = rowL n B k := by
  unfold rowL
  refine List.map_congr_left fun j hj => ?_
  rw [h j (List.mem_range.1 hj)]
theorem rowL_inj {n : Nat} {A B : Mt q} {i k : Nat} (h : rowL n A i = rowL n B k) (j : Nat) (hj : j < n) : A i j = B k j := by
  have h1 := rowL_at n A i j (by rw [rowL_len]; exact hj)
  have h2 := rowL_at n B k j (by rw [rowL_len]; exact hj)
  simp only [h] at h1
  exact fv_inj (h1.symm.trans h2)
theorem tot_rowsOf (m n : Nat) (A : Mt q) : tot (rowsOf m n A) = m * n := by
  induction m with
  | zero => simp [rowsOf, tot]
  | succ m ih =>
    have : rowsOf (m + 1) n A = rowsOf m n A ++ [rowL n A m] := by unfold rowsOf; rw [List.range_succ, List.map_append]; rfl
    rw [this, tot_append, ih]
    simp only [tot, rowL_len]
    rw [Nat.succ_mul]; omega
theorem rowsOf_succ (m n : Nat) (A : Mt q) : rowsOf (m + 1) n A = rowsOf m n A ++ [rowL n A m] := by unfold rowsOf; rw [List.range_succ, List.map_append]; rfl
theorem rowL_ok (n : Nat) (A : Mt q) (i : Nat) : NumOk q (rowL n A i) := fun j hj => by
  rw [rowL_at]
  have h0 := fv_nn (A i j)
  have h1 := fv_lt (A i j)
  omega
/-- The numbers of rows as a matrix. -/
def mat (q : Nat) [NeZero q] (zz : List (List Int)) : Mt q := fun i j => Fin.ofNat q ((zz.getD i []).getD j 0).toNat
/-- A vector of n numbers modulo p. -/
def Vec1 (p n : Int) (zs : List Int) : Prop := (zs.length : Int) = n ∧ NumOk p zs
def Vecs (p n : Int) (zz : List (List Int)) : Prop := ∀ zs ∈ zz, Vec1 p n zs
theorem vec_row {n : Nat} {zs : List Int} (h : Vec1 q n zs) (zz : List (List Int)) (i : Nat) (hi : zz[i]? = some zs) : zs = rowL n (mat q zz) i := by
  obtain ⟨hl, hn⟩ := h
  have hl : zs.length = n := by exact_mod_cast hl
  refine List.ext_getElem (by rw [rowL_len]; exact hl) fun j h1 h2 => ?_
  rw [rowL_at]
  have e1 : zz.getD i [] = zs := by simp [List.getD, hi]
  have e2 : zs.getD j 0 = zs[j] := by simp [List.getD, List.getElem?_eq_getElem h1]
  have := hn j h1
  unfold mat fv
  rw [e1, e2]
  show zs[j] = ((zs[j].toNat % q : Nat) : Int)
  rw [Nat.mod_eq_of_lt (by omega)]
  omega
theorem Vecs.rows {n : Nat} {zz : List (List Int)} (h : Vecs q n zz) : zz = rowsOf zz.length n (mat q zz) := by
  refine List.ext_getElem (by rw [rowsOf_len]) fun i h1 h2 => ?_
  rw [rowsOf_at]
  exact vec_row (h _ (List.getElem_mem h1)) zz i (List.getElem?_eq_getElem h1)
theorem vecs_rowsOf (m n : Nat) (A : Mt q) : Vecs q n (rowsOf m n A) := fun zs hz => by
  obtain ⟨i, hi, rfl⟩ := List.getElem_of_mem hz
  rw [rowsOf_at]
  exact ⟨by rw [rowL_len], rowL_ok n A i⟩
theorem mat_rowsOf {m n : Nat} {A : Mt q} {i j : Nat} (hi : i < m) (hj : j < n) : mat q (rowsOf m n A) i j = A i j := by
  have h := vec_row (n := n) ((vecs_rowsOf m n A) _ (List.getElem_mem (l := rowsOf m n A) (n := i) (by rw [rowsOf_len]; exact hi))) (rowsOf m n A) i (List.getElem?_eq_getElem _)
  rw [rowsOf_at] at h
  exact (rowL_inj h j hj).symm
theorem Vecs.append {p n : Int} {a b : List (List Int)} (ha : Vecs p n a) (hb : Vecs p n b) : Vecs p n (a ++ b) := fun zs hz => by
  rcases List.mem_append.1 hz with h | h
  · exact ha zs h
  · exact hb zs h
/-- The basis of the space of some vectors: the rows of the reduced form that are not 0. -/
noncomputable def basOf (m n : Nat) (A : Mt q) : List (List Int) := rowsOf (red m A n).piv.length n (red m A n).A
noncomputable def bas (q : Nat) [NeZero q] (n : Nat) (zz : List (List Int)) : List (List Int) := basOf zz.length n (mat q zz)
theorem basOf_congr {m n : Nat} {A B : Mt q} (hf : FldP q) (h : ∀ i j, i < m → j < n → A i j = B i j) : basOf m n A = basOf m n B := by
  have hk : ∀ v, Ker m n B v ↔ Ker m n A v := fun v => by
    constructor <;> intro hv i hi <;> have := hv i hi <;> rw [← this] <;> exact sm_congr fun j hj => by rw [h i j hi hj]
  obtain ⟨h1, h2⟩ := red_same hf hk
  unfold basOf
  rw [← h1]
  exact rowsOf_congr fun i j hi hj => h2 i j hi hj
theorem bas_rowsOf (hf : FldP q) (m n : Nat) (A : Mt q) : bas q n (rowsOf m n A) = basOf m n A := by
  unfold bas
  rw [rowsOf_len]
  exact basOf_congr hf fun i j hi hj => mat_rowsOf hi hj
theorem basOf_len_le (hf : FldP q) (m n : Nat) (A : Mt q) : (basOf m n A).length ≤ n := by unfold basOf; rw [rowsOf_len]; exact piv_le_cols hf m n A
theorem bas_len_le (hf : FldP q) (n : Nat) (zz : List (List Int)) : (bas q n zz).length ≤ n := basOf_len_le hf _ _ _
theorem vecs_bas (n : Nat) (zz : List (List Int)) : Vecs q n (bas q n zz) := vecs_rowsOf _ _ _
theorem basOf_idem (hf : FldP q) (m n : Nat) (A : Mt q) : bas q n (basOf m n A) = basOf m n A := by
  unfold basOf
  rw [bas_rowsOf hf]
  unfold basOf
  obtain ⟨h1, h2⟩ := red_idem hf m n A
  rw [h1]
  exact rowsOf_congr fun i j hi hj => h2 i j hi hj
theorem bas_idem (hf : FldP q) (n : Nat) (zz : List (List Int)) : bas q n (bas q n zz) = bas q n zz := basOf_idem hf _ _ _
end
/-- A valid space. -/
def VOk (p n : Int) (zz : List (List Int)) : Prop := IsPr p ∧ 0 ≤ n ∧ n ≤ 32 ∧ Vecs p n zz ∧ ∀ (q N : Nat) (_ : NeZero q), p = q → n = N → bas q N zz = zz
/-- A valid space: a prime q, N columns, r reduced rows. -/
structure VIs (p n : Int) (zz : List (List Int)) (q : Nat) [NeZero q] (N r : Nat) (A : Mt q) : Prop where
  p : p = q
  n : n = N
  pr : IsPr (q : Int)
  n32 : N ≤ 32
  len : zz.length = r
  zz : zz = rowsOf r N A
  piv : (red r A N).piv.length = r
  red : ∀ i j, i < r → j < N → (red r A N).A i j = A i j
  r32 : r ≤ N
theorem VOk.form {p n : Int} {zz : List (List Int)} (h : VOk p n zz) : ∃ (q : Nat) (_ : NeZero q) (N r : Nat) (A : Mt q), VIs p n zz q N r A := by
  obtain ⟨hp, h0, h1, hv, hb⟩ := h
  obtain ⟨q, rfl⟩ := Int.eq_ofNat_of_zero_le (show 0 ≤ p by have := hp.1; omega)
  obtain ⟨N, rfl⟩ := Int.eq_ofNat_of_zero_le h0
  have hz : NeZero q := ⟨by have := hp.1; omega⟩
  have hf := fd_of hp
  have hb := hb q N hz rfl rfl
  have hr := Vecs.rows hv
  have hl : (red zz.length (mat q zz) N).piv.length = zz.length := by
    have h := congrArg List.length hb
    unfold bas basOf at h
    rw [rowsOf_len] at h
    exact h
  refine ⟨q, hz, N, zz.length, mat q zz, rfl, rfl, hp, by omega, rfl, hr, hl, fun i j hi hj => ?_, ?_⟩
  · have e : rowsOf zz.length N (red zz.length (mat q zz) N).A = rowsOf zz.length N (mat q zz) := by
      rw [← hr]
      have h := hb
      unfold bas basOf at h
      rw [hl] at h
      exact h
    have h1 := rowsOf_get zz.length N (red zz.length (mat q zz) N).A i hi
    rw [e, rowsOf_get _ _ _ _ hi] at h1
    exact rowL_inj (Option.some.inj h1).symm j hj
  · have := piv_le_cols hf zz.length N (mat q zz)
    omega
theorem VIs.ok {p n : Int} {zz : List (List Int)} {q : Nat} [hz : NeZero q] {N r : Nat} {A : Mt q} (h : VIs p n zz q N r A) : VOk p n zz := by
  refine ⟨by rw [h.p]; exact h.pr, by rw [h.n]; omega, by rw [h.n]; have := h.n32; omega, ?_, fun q' N' hz' hq hN => ?_⟩
  · rw [h.p, h.n, h.zz]; exact vecs_rowsOf _ _ _
  · have e1 : q' = q := by have := h.p; omega
    have e2 : N' = N := by have := h.n; omega
    subst e1 e2
    have hf := fd_of h.pr
    rw [h.zz, bas_rowsOf hf]
    unfold basOf
    rw [h.piv]
    exact rowsOf_congr h.red
end Go.Proofs.Ytpimnngomodnhaa
