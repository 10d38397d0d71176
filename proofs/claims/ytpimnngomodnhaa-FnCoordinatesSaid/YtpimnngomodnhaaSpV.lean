/-
  Certificate of the program.
-/
import Derived.Test.YtpimnngomodnhaaSpU
namespace Go.Proofs.Ytpimnngomodnhaa
open Go.RowKit
open Lin
set_option linter.unusedVariables false
set_option linter.unusedSectionVars false

theorem owns_of_rowIs {B H n : Nat} {w : World} {F : Nat → Value} (h : w.rowIs H 24 n F) (hB : B ≤ H) (hm : n ≤ maxLen) : w.ownsRow B 24 1 (.slice (some ⟨H, 0, none⟩) n n) n ((List.range n).map F) := by
  obtain ⟨cur, hcur, hs, hi⟩ := h
  refine ⟨by simp, .inr ⟨H, n, cur, rfl, hB, hcur, Nat.le_refl _, hm, by omega, ?_⟩⟩
  refine List.ext_getElem (by simp [hs]) fun j h1 h2 => ?_
  have hj : j < n := by simpa using h2
  have := hi j hj
  rw [getElem?_pos cur j (by omega)] at this
  injection this with this
  rw [List.getElem_take]
  show cur[j] = _
  rw [this]
  simp
theorem row_src (w : World) (u : Value) : SrcAt (w.alloc (.cells #[u] 24)) (.slice (some ⟨w.heap.size, 0, none⟩) 1 1) [u] :=
  ⟨_, 1, rfl, by simp, .inr ⟨w.heap.size, 0, rfl, .inr (by simp), fun j x hj => by have h := row_val w u 24 j x hj; rw [Addr.add_lit] at h; exact h⟩⟩
theorem rows_cert {q m n B : Nat} [NeZero q] {A : Mt q} {b : Nat → Fin q} {w0 wb : World} {a : Option Addr} {cap : Nat} {v2 bs : Value} (h : wb.ownsRow B 24 1 v2 (n + 1) ((List.range n).map (rowW a m cap) ++ [bs]))
    (hi : IntsC w0 (.slice a (n * m) cap) (flat n m (turn A))) (hb0 : Below w0.heap.size w0 wb) (hbs : IntsC w0 bs (bL m b)) (hn : n ≤ 1024) (hm : m ≤ 1024) : RowsC wb v2 (n + 1) (rowL m (adj n (turn A) b)) := by
  refine RowsC.of_own2 h (by omega) fun i u hiu => ?_
  rw [rowL_adj]
  by_cases e : i < n
  · rw [if_pos e]
    rw [List.getElem?_append_left (by simpa using e)] at hiu
    have : u = rowW a m cap i := by
      rw [List.getElem?_map, List.getElem?_range e] at hiu
      simpa using hiu.symm
    rw [this]
    exact (rowW_ints hi hm e).on hb0
  · rw [if_neg e]
    have hin := (List.getElem?_eq_some_iff.1 hiu).1
    rw [List.length_append] at hin
    obtain rfl : i = n := by simp at hin; omega
    rw [List.getElem?_append_right (by simp)] at hiu
    have : u = bs := by simpa using hiu.symm
    rw [this]
    exact hbs.on hb0
end Go.Proofs.Ytpimnngomodnhaa
