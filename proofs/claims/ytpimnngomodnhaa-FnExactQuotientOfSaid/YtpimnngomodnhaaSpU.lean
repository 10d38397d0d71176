/-
  A row more behind own rows; l04Against and Certificate of the model.
-/
import Derived.Test.YtpimnngomodnhaaSpT
namespace Go.Proofs.Ytpimnngomodnhaa
open Go.RowKit
open Lin
set_option linter.unusedVariables false
set_option linter.unusedSectionVars false

theorem RowsC.of_own2 {B n : Nat} {w : World} {v : Value} {L : List Value} {R : Nat → List Int} (h : w.ownsRow B 24 1 v n L) (hn : n ≤ 2097152) (hr : ∀ i u, L[i]? = some u → IntsC w u (R i)) : RowsC w v n R := by
  have h0 := h
  obtain ⟨hx, ⟨rfl, hn0⟩ | ⟨g, cap, cur, rfl, hB, hcur, r⟩⟩ := h
  · exact ⟨none, 0, by rw [hn0], hn, .inl ⟨rfl, rfl, hn0⟩⟩
  · refine ⟨_, cap, rfl, hn, .inr ⟨g, 0, rfl, .inr (Array.getElem?_eq_some_iff.1 hcur).1, fun i hi => ?_⟩⟩
    have hl : L.length = n := by simpa using hx
    have hi' : i < L.length := by omega
    refine ⟨L[i], ?_, hr i _ (List.getElem?_eq_getElem hi')⟩
    rw [Nat.zero_add, World.ownsRow.cellAt h0 i (by omega)]
    exact List.getElem?_eq_getElem hi'
section
variable {q : Nat} [NeZero q]
theorem rowL_adj (m n : Nat) (A : Mt q) (b : Nat → Fin q) (i : Nat) : rowL m (adj n A b) i = if i < n then rowL m A i else bL m b := by
  by_cases h : i < n
  · rw [if_pos h]
    refine rowL_congr fun j hj => ?_
    unfold adj; rw [if_pos h]
  · rw [if_neg h]
    unfold bL
    refine rowL_congr fun j hj => ?_
    unfold adj; rw [if_neg h]
/-- The right side that is 1 at n, and 0 elsewhere. -/
def eN (n : Nat) : Nat → Fin q := fun i => if i = n then 1 else 0
theorem eN_cell (hq : 2 ≤ q) (n i : Nat) : (if i = n then (.int .i64 1 : Value) else .int .i64 0) = .int .i64 (fv (eN (q := q) n i)) := by
  unfold eN
  by_cases h : i = n
  · rw [if_pos h, if_pos h, fv_one hq]
  · rw [if_neg h, if_neg h, fv_zero]
end
/-- What Certificate answers. -/
def CerRes (p r c : Int) (xs ys : List Int) (Z : List Int) (k : Int) : Prop :=
  (∃ c0, AskK p r c xs ys c0 ∧ c0 ≠ 0 ∧ Z = [] ∧ k = c0) ∨ (∃ (u : Nat) (_ : NeZero u) (m n : Nat) (A : Mt u) (b : Nat → Fin u), MIs p r c xs u m n A ∧ ys = bL m b ∧ SysRes (n + 1) m (red (n + 1) (Lin.sys m (adj n (turn A) b) (eN n)) m) Z k)
theorem cerRes_has (p r c : Int) (xs ys : List Int) : ∃ Z k, CerRes p r c xs ys Z k := by
  by_cases h : MOk p r c xs
  · by_cases h2 : Vec1 p r ys
    · obtain ⟨u, i, m, n, A, hA⟩ := h.form
      rw [hA.p, hA.r] at h2
      obtain ⟨b, hb⟩ := h2.bL
      obtain ⟨Z, k, hs⟩ := sysRes_has (n + 1) m (red (n + 1) (Lin.sys m (adj n (turn A) b) (eN n)) m)
      exact ⟨Z, k, .inr ⟨u, i, m, n, A, b, hA, hb, hs⟩⟩
    · exact ⟨_, _, .inl ⟨2, .inr (.inl ⟨h, h2, rfl⟩), by decide, rfl, rfl⟩⟩
  · exact ⟨_, _, .inl ⟨1, .inl ⟨h, rfl⟩, by decide, rfl, rfl⟩⟩
theorem CerRes.len {p r c k : Int} {xs ys Z : List Int} (h : CerRes p r c xs ys Z k) : Z.length ≤ 1048576 := by
  rcases h with ⟨c0, _, _, rfl, _⟩ | ⟨u, _, m, n, A, b, hA, _, hs⟩
  · simp
  · exact hs.len (by have := hA.m32; omega)
/-! ### Certificate of the model -/
end Go.Proofs.Ytpimnngomodnhaa
