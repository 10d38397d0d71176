/-
  What FnCoordinates says, in mathematics: a vector is the sum of its coordinates' multiples of the basis; rows are in their space.
-/
import Derived.Test.YtpimnngomodnhaaSpX
import Derived.Test.YtpimnngomodnhaaSpW
import Derived.Test.YtpimnngomodnhaaVis
import Derived.Test.YtpimnngomodnhaaVcC
namespace Go.Proofs.Ytpimnngomodnhaa
open Go.RowKit
open Lin
set_option linter.unusedVariables false
set_option linter.unusedSectionVars false

section
variable {q : Nat} [NeZero q]
/-- What the loop sums up. -/
def coSum (A : Mt q) (x : Nat → Fin q) (piv : List Nat) (i : Nat) : Nat → Fin q := fun j => sm i (fun t => x (piv.getD t 0) * A t j)
theorem coSum_zero (N : Nat) (A : Mt q) (x : Nat → Fin q) (piv : List Nat) : List.replicate N (0 : Int) = bL N (coSum A x piv 0) := by
  refine List.ext_getElem (by rw [bL_len, List.length_replicate]) fun j h1 h2 => ?_
  rw [bL_at, List.getElem_replicate]
  exact (fv_zero).symm
theorem coSum_next (N : Nat) (A : Mt q) (x : Nat → Fin q) (piv : List Nat) (i : Nat) : addLV q (bL N (coSum A x piv i)) (sclC q (fv (x (piv.getD i 0))) (rowL N A i)) = bL N (coSum A x piv (i + 1)) := by
  have hl : (bL N (coSum A x piv i)).length = (sclC (q : Int) (fv (x (piv.getD i 0))) (rowL N A i)).length := by rw [bL_len, sclC_len, rowL_len]
  refine List.ext_getElem (by rw [addL_len hl, bL_len, bL_len]) fun j h1 h2 => ?_
  have hj : j < N := by rw [bL_len] at h2; exact h2
  rw [addL_at hl j (by rw [bL_len]; exact hj), sclC_at j (by rw [rowL_len]; exact hj), bL_at, bL_at, rowL_at, fv_mul, fv_add]
  congr 1
  show _ = sm (i + 1) _
  simp only [sm]
  unfold coSum
  grind
theorem coSum_all (hq : IsPr (q : Int)) {p n : Int} {N r : Nat} {A : Mt q} {zz : List (List Int)} (hV : VIs p n zz q N r A) {x : Nat → Fin q} (hI : In r N A x) : bL N (coSum A x (red r A N).piv r) = bL N x := by
  have hf := fd_of hq
  refine List.ext_getElem (by rw [bL_len, bL_len]) fun j h1 h2 => ?_
  have hj : j < N := by rw [bL_len] at h2; exact h2
  rw [bL_at, bL_at, hI.build hf j hj, hV.piv]
  congr 1
  unfold coSum
  exact sm_congr fun t ht => by rw [hV.red t j ht hj]
theorem con_in (hq : IsPr (q : Int)) {N : Nat} (hN : N ≤ 32) (m : Nat) (A : Mt q) {y : Nat → Fin q} (h : In m N A y) : ConRes q N (basOf m N A) (bL N y) true := by
  have hf := fd_of hq
  have hV := vis_basOf hq hN m A
  have hs := (coord_sys hf (m := m) (n := N) (A := A) y (red m A N).A _ (fun i j hi hj => rfl) rfl).2.1.2 h
  exact ⟨_, 0, .inr ⟨q, _, N, _, _, hV, .inr ⟨q, _, N, _, turn (red m A N).A, y, hV.turn, rfl, .inl ⟨hs, rfl, rfl⟩⟩⟩, rfl⟩
theorem row_in {m N : Nat} (A : Mt q) {i : Nat} (hi : i < m) : In m N A (A i) := fun v hv => hv i hi
theorem con_row (hq : IsPr (q : Int)) {N : Nat} (hN : N ≤ 32) {zz : List (List Int)} (hz : Vecs (q : Int) (N : Int) zz) {i : Nat} (hi : i < zz.length) : ConRes q N (bas q N zz) zz[i] true := by
  have e := vec_row (hz _ (List.getElem_mem hi)) zz i (List.getElem?_eq_getElem hi)
  rw [e]
  exact con_in hq hN zz.length (mat q zz) (row_in (mat q zz) hi)
end
/-- What FnCoordinates meets first. -/
theorem coo_two (P N : Int) (zz : List (List Int)) (xs : List Int) :
    (∃ k, (k != 0) = true ∧ CooRes P N zz xs [] k ∧ ConRes P N zz xs false) ∨
    (∃ (u : Nat) (_ : NeZero u) (M r : Nat) (A : Mt u) (x : Nat → Fin u), VIs P N zz u M r A ∧ xs = bL M x ∧ CooRes P N zz xs (cooL x (red r A M).piv r) 0 ∧ ConRes P N zz xs true ∧ In r M A x) := by
  obtain ⟨Z, k, h⟩ := cooRes_has P N zz xs
  have h' := h
  rcases h with ⟨hn, rfl, rfl⟩ | ⟨q, iq, M, r, A, hA, hs⟩
  · exact .inl ⟨1, rfl, h', _, _, h', rfl⟩
  · obtain rfl := hA.p
    obtain rfl := hA.n
    rcases coo_cases hA hs with ⟨_, rfl, rfl⟩ | ⟨x, _, _, rfl, rfl⟩ | ⟨x, rfl, hT, rfl, rfl⟩
    · exact .inl ⟨2, rfl, h', _, _, h', rfl⟩
    · exact .inl ⟨3, rfl, h', _, _, h', rfl⟩
    · refine .inr ⟨q, iq, M, r, A, x, hA, rfl, h', ⟨_, _, h', rfl⟩, (has_iff (fd_of hA.pr)).1 ?_⟩
      rw [hA.piv]
      have h2 := eq_of_beq hT
      omega
end Go.Proofs.Ytpimnngomodnhaa
