/-
  What a loop over the cells of a matrix has made: the transposed matrix, cell by cell in any order.
-/
import Derived.Test.YtabanmaaagmeaaaMxO
import Derived.Test.YtabanmaaagmeaaaMxZ
import Derived.Test.YtabanmaaagmeaaaMxH
namespace Go.Proofs.Ytabanmaaagmeaaa
open Go.RowKit
open Lin
set_option linter.unusedVariables false
set_option linter.unusedSectionVars false

theorem cell_row {m n : Nat} (x : Fin (m * n)) : x.val / n < m ∧ x.val % n < n := by
  have h := x.isLt
  have hn : 0 < n := Nat.pos_of_ne_zero fun e => by subst e; simp at h
  exact ⟨Nat.div_lt_of_lt_mul (by have e := Nat.mul_comm n m; omega), Nat.mod_lt _ hn⟩
/-- The transposed matrix, the cells of pre filled. -/
def TrF {q : Nat} [NeZero q] (m n : Nat) (A : Mt q) (pre : List (Fin (m * n))) (t : Nat) : Value :=
  if ∃ x ∈ pre, (x.val % n) * m + x.val / n = t then .int .i64 (fv (A (t % m) (t / m))) else .int .i64 0
theorem trF_nil {q : Nat} [NeZero q] (m n : Nat) (A : Mt q) (t : Nat) : TrF m n A [] t = .int .i64 0 := by unfold TrF; rw [if_neg (by simp)]
theorem trF_snoc {q : Nat} [NeZero q] {m n : Nat} {A : Mt q} {pre : List (Fin (m * n))} (x : Fin (m * n)) (t : Nat) :
    (if t = (x.val % n) * m + x.val / n then .int .i64 (fv (A (x.val / n) (x.val % n))) else TrF m n A pre t) = TrF m n A (pre ++ [x]) t := by
  unfold TrF
  by_cases e : t = (x.val % n) * m + x.val / n
  · rw [if_pos e, if_pos ⟨x, by simp, e.symm⟩, e, idxMod (cell_row x).1, idxDiv (cell_row x).1]
  · rw [if_neg e]
    have h : (∃ y ∈ pre ++ [x], (y.val % n) * m + y.val / n = t) ↔ ∃ y ∈ pre, (y.val % n) * m + y.val / n = t := by
      constructor
      · rintro ⟨y, hy, h⟩
        rcases List.mem_append.1 hy with hy | hy
        · exact ⟨y, hy, h⟩
        · obtain rfl : y = x := by simpa using hy
          exact absurd h.symm e
      · rintro ⟨y, hy, h⟩
        exact ⟨y, List.mem_append.2 (.inl hy), h⟩
    by_cases g : ∃ y ∈ pre, (y.val % n) * m + y.val / n = t
    · rw [if_pos g, if_pos (h.2 g)]
    · rw [if_neg g, if_neg fun k => g (h.1 k)]
theorem trF_done {q : Nat} [NeZero q] {m n : Nat} {A : Mt q} {pre : List (Fin (m * n))} (h : pre.map Fin.val = List.range (m * n)) {i j : Nat} (hi : i < n) (hj : j < m) : TrF m n A pre (i * m + j) = .int .i64 (fv (A j i)) := by
  unfold TrF
  have hx : j * n + i ∈ pre.map Fin.val := by rw [h, List.mem_range]; exact idxLt hj hi
  obtain ⟨x, hx, e⟩ := List.mem_map.1 hx
  rw [if_pos ⟨x, hx, by rw [e, idxMod hi, idxDiv hi]⟩, idxMod hj, idxDiv hj]
theorem ownCell {W W' : World} {row : Option Nat} {b o : Nat} {v : Value} (h : W.cell? ⟨b, o, none⟩ = some v) (hg : W.grownBy W' row) (hr : ∀ r, row = some r → ∃ u : Obj, W.heap[r]? = some u ∧ u.isCells = false) : W'.cell? ⟨b, o, none⟩ = some v := by
  obtain ⟨u, hu, hc⟩ := cells_of_cell h
  have hb : b < W.heap.size := (Array.getElem?_eq_some_iff.1 hu).1
  refine (World.cell?_of_block (w := W) (hg.block b hb (fun e => ?_))).trans h
  obtain ⟨u', hu', hc'⟩ := hr b e.symm
  have := hu.symm.trans hu'
  simp only [Option.some.injEq] at this
  subst this
  rw [hc] at hc'
  exact absurd hc' (by decide)
theorem gb_cell {a w : World} {g b o : Nat} (h : a.grownBy w (some g)) (hb : b < a.heap.size) (hne : b ≠ g) : w.cell? ⟨b, o, none⟩ = a.cell? ⟨b, o, none⟩ := World.cell?_of_block (w := a) (h.block b hb (fun e => hne (by injection e)))
theorem keepC_alloc {n₀ G : Nat} {W : World} {o : Obj} (h : n₀ ≤ W.heap.size) : KeepC n₀ G W (W.alloc o) := fun p hp _ => ((Below.refl _ W).alloc (Nat.le_refl _) o).cell (p := p) (by omega)
theorem keepC_set {n₀ G o : Nat} {W : World} {v : Value} : KeepC n₀ G W (W.setCell ⟨G, o, none⟩ v) := fun p _ hg => World.cell?_of_block (w := W) (Deep.blk_setCell_other _ _ _ _ hg)
theorem keepD {W : World} {D b o : Nat} {u : Obj} (h : W.heap[D]? = some u) (hne : b ≠ D) (v : Value) : (W.setCell ⟨b, o, none⟩ v).heap[D]? = some u := (Deep.blk_setCell_other _ _ _ _ (fun e => hne e.symm)).trans h
theorem keepD4 {W : World} {D b : Nat} {u : Obj} (h : W.heap[D]? = some u) (hne : b ≠ D) (v0 v1 v2 v3 : Value) : ((((W.setCell ⟨b, 0, none⟩ v0).setCell ⟨b, 1, none⟩ v1).setCell ⟨b, 2, none⟩ v2).setCell ⟨b, 3, none⟩ v3).heap[D]? = some u :=
  keepD (keepD (keepD (keepD h hne _) hne _) hne _) hne _
theorem PtM.put {W : World} {L D : Nat} {p r c : Int} {v : Value} (h : PtM W L p r c v) (o : Obj) (hne : L ≠ D) : PtM (W.putObj D o) L p r c v := by
  obtain ⟨h0, h1, h2, h3, h4⟩ := h
  have e : ∀ k, (W.putObj D o).cell? ⟨L, k, none⟩ = W.cell? ⟨L, k, none⟩ := fun k => World.cell?_of_block (w := W) (World.putObj_heap_other (fun e => hne e))
  exact ⟨by simpa using h0, (e 0).trans h1, (e 1).trans h2, (e 2).trans h3, (e 3).trans h4⟩
theorem rowIs_put {W : World} {b D n : Nat} {t : TypeId} {f : Nat → Value} (h : W.rowIs b t n f) (o : Obj) (hne : b ≠ D) : (W.putObj D o).rowIs b t n f := h.of_block (World.putObj_heap_other (fun e => hne e))
/-- The result variable filled. -/
def set4 (W : World) (L : Nat) (p r c : Int) (v : Value) : World := (((W.setCell ⟨L, 0, none⟩ (.int .i64 p)).setCell ⟨L, 1, none⟩ (.int .i64 r)).setCell ⟨L, 2, none⟩ (.int .i64 c)).setCell ⟨L, 3, none⟩ v
theorem rowIs_set4 {W : World} {b L n : Nat} {t : TypeId} {f : Nat → Value} (h : W.rowIs b t n f) (hne : b ≠ L) (p r c : Int) (v : Value) : (set4 W L p r c v).rowIs b t n f :=
  rowIs_setO (rowIs_setO (rowIs_setO (rowIs_setO h hne _) hne _) hne _) hne _
theorem below_set4 {B : Nat} {w W : World} {L : Nat} (h : Below B w W) (hL : B ≤ L) (p r c : Int) (v : Value) : Below B w (set4 W L p r c v) :=
  Below.setC (Below.setC (Below.setC (Below.setC h hL _) hL _) hL _) hL _
/-- The end of a function with a loop over an iterator, whose result is a matrix variable. -/
theorem fin_mat {q m n : Nat} [NeZero q] {A : Mt q} {w W : World} {L D g : Nat} {F : Nat → Value} {p r c : Int} (hD : W.heap[D]? = some (.deferred (some []))) (hR : W.rowIs g 2 (m * n) F) (hB : Below w.heap.size w W) (hL : w.heap.size ≤ L) (hg : w.heap.size ≤ g) (hgL : g ≠ L) (hgD : g ≠ D) (hLD : L ≠ D) (hwD : w.heap.size ≤ D) (hl : m * n ≤ 1048576)
    (hF : ∀ i j, i < m → j < n → F (i * n + j) = .int .i64 (fv (A i j))) :
    OwnI w.heap.size ((set4 W L p r c (.slice (some ⟨g, 0, none⟩) (m * n) (m * n))).putObj D (.deferred none)) (.slice (some ⟨g, 0, none⟩) (m * n) (m * n)) (flat m n A) ∧ Below w.heap.size w ((set4 W L p r c (.slice (some ⟨g, 0, none⟩) (m * n) (m * n))).putObj D (.deferred none)) := by
  refine ⟨OwnI.of_flat (rowIs_put (rowIs_set4 hR hgL _ _ _ _) _ hgD) hg hl hF, ?_⟩
  have h4 : (set4 W L p r c (.slice (some ⟨g, 0, none⟩) (m * n) (m * n))).heap[D]? = some (.deferred (some [])) := keepD4 hD hLD _ _ _ _
  exact (below_set4 hB hL _ _ _ _).trans (belowK_b (w := w) (Nat.le_refl _) _ D _ _ hwD h4 rfl rfl)
end Go.Proofs.Ytabanmaaagmeaaa
