/-
  ClosureOf of the model.
-/
import Derived.Test.YthkbpklgibfbhaaCyF
import Derived.Test.YthkbpklgibfbhaaCxC
namespace Go.Proofs.Ythkbpklgibfbhaa
open Go.RowKit
set_option linter.unusedVariables false
set_option linter.unusedSimpArgs false

/-- A slice of slices that reads as some rows, each with its capacity. -/
def RowsQ (w : World) (v : Value) (zz : List (List Int)) : Prop := ∃ a c, v = .slice a zz.length c ∧ zz.length ≤ 1048576 ∧ ∀ i (h : i < zz.length), ∃ b o u, a = some ⟨b, o, none⟩ ∧ b < w.heap.size ∧ w.cell? ⟨b, o + i, none⟩ = some u ∧ IntsC w u zz[i]
theorem RowsQ.on {w w' : World} {v : Value} {zz : List (List Int)} (h : RowsQ w v zz) (hb : Below w.heap.size w w') : RowsQ w' v zz := by
  obtain ⟨a, c, rfl, hl, k⟩ := h
  refine ⟨a, c, rfl, hl, fun i hi => ?_⟩
  obtain ⟨b, o, u, e, h1, h2, h3⟩ := k i hi
  exact ⟨b, o, u, e, Nat.lt_of_lt_of_le h1 hb.size, (hb.cell (p := ⟨b, o + i, none⟩) h1).trans h2, h3.on hb⟩
theorem RowsQ.drew {w : World} {v : Value} {zz : List (List Int)} (h : RowsQ w v zz) : RowsQ w.drew v zz := h
theorem RowsQ.rows {w : World} {v : Value} {zz : List (List Int)} (h : RowsQ w v zz) : RowsAt w v zz := by
  obtain ⟨a, c, rfl, hl, k⟩ := h
  refine ⟨a, c, rfl, hl, ?_⟩
  rcases Nat.eq_zero_or_pos zz.length with h0 | h0
  · exact .inl (List.eq_nil_of_length_eq_zero h0)
  · obtain ⟨b, o, u, rfl, h1, _⟩ := k 0 h0
    refine .inr ⟨b, o, rfl, h1, fun i hi => ?_⟩
    obtain ⟨b', o', u, e, _, h2, h3⟩ := k i hi
    injection e with e; injection e with e1 e2 e3; subst e1 e2
    exact ⟨u, h2, h3.1⟩
theorem OwnRX.atQ {B E : Nat} {w : World} {v : Value} {zz : List (List Int)} (h : OwnRX B E w v zz) (hl : FitR zz) : RowsQ w v zz := by
  obtain ⟨a, c, rfl, hlen, k⟩ := (h.at hl).any
  obtain ⟨L, ho⟩ := h
  refine ⟨a, c, rfl, hlen, fun i hi => ?_⟩
  obtain ⟨b, o, u, rfl, h1, h2, h3⟩ := k i hi
  obtain ⟨g, e⟩ : ∃ g, b = g ∧ o = 0 := by
    obtain ⟨_, ⟨e, _⟩ | ⟨g2, c2, _, e, _⟩⟩ := ho.row
    · cases e
    · injection e with e1; injection e1 with e2; injection e2 with e3 e4; exact ⟨g2, e3, e4⟩
  obtain ⟨rfl, rfl⟩ := e
  have hL : i < L.length := by rw [ho.len]; exact hi
  have hc := World.ownsRow.cellAt ho.row i (by omega)
  rw [Nat.zero_add] at h2
  have hu : L[i]? = some u := by rw [← hc]; exact h2
  exact ⟨b, 0, u, rfl, h1, by rw [Nat.zero_add]; exact h2, (ho.own i u zz[i] hu (List.getElem?_eq_getElem hi)).atC (by obtain ⟨_, _, _, h4, _⟩ := h3; exact h4)⟩
theorem OwnRI.atQ {B : Nat} {w : World} {v : Value} {zz : List (List Int)} (h : OwnRI B w v zz) (hl : FitR zz) : RowsQ w v zz := OwnRX.atQ h hl
theorem CpS.start {w : World} {cb g : Nat} (h1 : w.cell? ⟨cb, 0, none⟩ = some (.slice (some ⟨g, 0, none⟩) 0 0)) (h2 : cb < w.heap.size) (h3 : w.frozen? ⟨cb, 0, none⟩ = false) (hg : w.heap[g]? = some (.cells #[] 26)) (hne : g ≠ cb) (B : Nat) (hB : B ≤ g) : CpS B cb w [] := by
  have hgl := (Array.getElem?_eq_some_iff.1 hg).1
  refine ⟨g, 0, [], ⟨h2, h1⟩, h3, ⟨rfl, ⟨rfl, .inr ⟨g, 0, #[], rfl, hB, hg, Nat.le_refl _, Nat.zero_le _, rfl, by simp⟩⟩, fun i u zs h => by simp at h, fun i u k h => by simp at h, fun i j u x k h => by simp at h, Nat.le_refl _, fun k hk => ?_, fun i u k h => by simp at h⟩, Nat.le_refl _, Nat.zero_le _, hne, fun u hu => by simp at hu⟩
  have : g = k := by simpa [Value.ownBlock] using hk
  omega
def RetCl (zz : List (List Int)) (w : World) (e : Ending) (w' : World) : Prop :=
  ∃ v, e = .returned (.agg #[v]) ∧ OwnRI w.heap.size w' v (cloL zz) ∧ Below w.heap.size w w'
theorem below_gr {B cb : Nat} {a w w' : World} (h : Below B a w) (hg : w.grownBy w' (some cb)) (hB : B ≤ w.heap.size) (hc : B ≤ cb) : Below B a w' := h.grown hg hB (fun k hk => by injection hk with e; omega)
end Go.Proofs.Ythkbpklgibfbhaa
