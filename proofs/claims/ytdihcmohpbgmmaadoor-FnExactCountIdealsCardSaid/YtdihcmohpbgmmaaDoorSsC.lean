/-
  Contracts of the laws' own helpers for spaces: a copy, equality, marks, the count; a space behind a pointer.
-/
import Derived.Test.YtdihcmohpbgmmaaDoorSsB
import Derived.Test.YtdihcmohpbgmmaaDoorPC
import Derived.Test.YtdihcmohpbgmmaaDoorPB
namespace Go.Proofs.YtdihcmohpbgmmaaDoor
open Go.RowKit
set_option linter.unusedVariables false

theorem OwnRI.setOut {B : Nat} {w : World} {v : Value} {zz : List (List Int)} (h : OwnRI B w v zz) {b o : Nat} (hb : b < B) (x : Value) : OwnRI B (w.setCell ⟨b, o, none⟩ x) v zz := by
  obtain ⟨L, h⟩ := h
  refine ⟨L, h.len, ?_, fun i u zs h1 h2 => (h.own i u zs h1 h2).setOut hb x, h.off, h.sep, Nat.le_refl _, fun g hg => ?_, fun i u g h1 h2 => ?_⟩
  · obtain ⟨hx, h | ⟨g, cap, cur, e, hB, hcur, r⟩⟩ := h.row
    · exact ⟨hx, .inl h⟩
    · refine ⟨hx, .inr ⟨g, cap, cur, e, hB, ?_, r⟩⟩
      rw [← hcur]
      exact Deep.blk_setCell_other _ _ _ _ (show g ≠ b by omega)
  · simpa using h.top g hg
  · simpa using h.tops i u g h1 h2
theorem OwnRI.alloc {B : Nat} {w : World} {v : Value} {zz : List (List Int)} (h : OwnRI B w v zz) (o : Obj) : OwnRI B (w.alloc o) v zz := OwnRI.on h ((Below.refl _ _).alloc (Nat.le_refl _) o)
theorem OwnRI.drew {B : Nat} {w : World} {v : Value} {zz : List (List Int)} (h : OwnRI B w v zz) : OwnRI B w.drew v zz := by
  obtain ⟨L, h⟩ := h
  exact ⟨L, h.len, h.row, h.own, h.off, h.sep, h.le, h.top, h.tops⟩
theorem RowsAt.al {w : World} {v : Value} {zz : List (List Int)} {o : Obj} (h : RowsAt w v zz) : RowsAt (w.alloc o) v zz := h.on ((Below.refl _ _).alloc (Nat.le_refl _) o)
/-- A block that holds a space. -/
def PtV (w : World) (L : Nat) (p n : Int) (v : Value) : Prop :=
  L < w.heap.size ∧ w.cell? ⟨L, 0, none⟩ = some (.int .i64 p) ∧ w.cell? ⟨L, 1, none⟩ = some (.int .i64 n) ∧ w.cell? ⟨L, 2, none⟩ = some v
theorem PtV.new (w : World) (p n : Int) (v : Value) (t : TypeId) : PtV (w.alloc (.cells #[.int .i64 p, .int .i64 n, v] t)) w.heap.size p n v := by
  refine ⟨by simp, ?_, ?_, ?_⟩ <;> rw [World.cell?_alloc_at _ _ _ _ rfl] <;> rfl
theorem PtV.on {w w' : World} {L : Nat} {p n : Int} {v : Value} (h : PtV w L p n v) (hb : Below w.heap.size w w') : PtV w' L p n v := by
  obtain ⟨h0, h1, h2, h3⟩ := h
  exact ⟨Nat.lt_of_lt_of_le h0 hb.size, (hb.cell (p := ⟨L, 0, none⟩) h0).trans h1, (hb.cell (p := ⟨L, 1, none⟩) h0).trans h2, (hb.cell (p := ⟨L, 2, none⟩) h0).trans h3⟩
theorem PtV.ne {w : World} {L : Nat} {p n : Int} {v : Value} (h : PtV w L p n v) : w.heap.size ≠ L := by have := h.1; omega
theorem PtV.fr {w w' : World} {L B E : Nat} {p n : Int} {v : Value} (h : PtV w L p n v) (f : Fr B E w w') (hd : L < B ∨ E ≤ L) : PtV w' L p n v := by
  obtain ⟨h0, h1, h2, h3⟩ := h
  exact ⟨Nat.lt_of_lt_of_le h0 f.2.2.2.1, (f.cell h0 hd).trans h1, (f.cell h0 hd).trans h2, (f.cell h0 hd).trans h3⟩
theorem PtV.gb {a w : World} {L g : Nat} {p n : Int} {v : Value} (h : PtV a L p n v) (hg : a.grownBy w (some g)) (hne : L ≠ g) : PtV w L p n v := by
  have hb : ∀ o, w.cell? ⟨L, o, none⟩ = a.cell? ⟨L, o, none⟩ := fun o => World.cell?_of_block (hg.block L h.1 (fun e => hne (by injection e)))
  obtain ⟨h0, h1, h2, h3⟩ := h
  exact ⟨Nat.lt_of_lt_of_le h0 hg.size, (hb _).trans h1, (hb _).trans h2, (hb _).trans h3⟩
theorem PtV.drew {w : World} {L : Nat} {p n : Int} {v : Value} (h : PtV w L p n v) : PtV w.drew L p n v := h
theorem PtV.drewN {w : World} {L : Nat} {p n : Int} {v : Value} (h : PtV w L p n v) (k : Nat) : PtV (w.drewN k) L p n v := h
theorem PtV.new1 (w : World) (p n : Int) (v : Value) (t : TypeId) (o : Obj) : PtV ((w.alloc (.cells #[.int .i64 p, .int .i64 n, v] t)).alloc o) w.heap.size p n v := (PtV.new w p n v t).on ((Below.refl _ _).alloc (Nat.le_refl _) o)
/-- What a space variable's block looks like when its three cells have been written. -/
theorem PtV.set3 {w : World} {L : Nat} {p' n' : Int} {v' : Value} (h : PtV w L p' n' v') (p n : Int) (v : Value) :
    PtV (((w.setCell ⟨L, 0, none⟩ (.int .i64 p)).setCell ⟨L, 1, none⟩ (.int .i64 n)).setCell ⟨L, 2, none⟩ v) L p n v := by
  obtain ⟨h0, h1, h2, h3⟩ := h
  have n01 : ∀ i j : Nat, i ≠ j → (⟨L, i, none⟩ : Addr) ≠ ⟨L, j, none⟩ := by intro i j hij e; exact hij (by injection e)
  refine ⟨by simpa using h0, ?_, ?_, ?_⟩
  · rw [World.cell?_setCell_other _ _ _ _ (n01 2 0 (by omega)), World.cell?_setCell_other _ _ _ _ (n01 1 0 (by omega))]
    exact World.cell?_setCell_same' _ _ _ (by rw [h1]; rfl)
  · rw [World.cell?_setCell_other _ _ _ _ (n01 2 1 (by omega))]
    exact World.cell?_setCell_same' _ _ _ (by rw [World.cell?_setCell_other _ _ _ _ (n01 0 1 (by omega)), h2]; rfl)
  · exact World.cell?_setCell_same' _ _ _ (by rw [World.cell?_setCell_other _ _ _ _ (n01 1 2 (by omega)), World.cell?_setCell_other _ _ _ _ (n01 0 2 (by omega)), h3]; rfl)
/-- What a statement leaves that makes a space variable. -/
def RegV (w0 wx : World) (L B E : Nat) (p n : Int) (v : Value) (zz : List (List Int)) : Prop :=
  PtV wx L p n v ∧ OwnRX B E wx v zz ∧ w0.heap.size ≤ B ∧ (L < B ∨ E ≤ L) ∧ w0.heap.size ≤ L ∧ Below w0.heap.size w0 wx
theorem OwnRX.setOut {B E : Nat} {w : World} {v : Value} {zz : List (List Int)} (h : OwnRX B E w v zz) {b o : Nat} (hb : b < B) (x : Value) : OwnRX B E (w.setCell ⟨b, o, none⟩ x) v zz := by
  obtain ⟨L, h⟩ := h
  refine ⟨L, h.len, ?_, fun i u zs h1 h2 => (h.own i u zs h1 h2).setOut hb x, h.off, h.sep, by simpa using h.le, h.top, h.tops⟩
  obtain ⟨hx, h | ⟨g, cap, cur, e, hB, hcur, r⟩⟩ := h.row
  · exact ⟨hx, .inl h⟩
  · refine ⟨hx, .inr ⟨g, cap, cur, e, hB, ?_, r⟩⟩
    rw [← hcur]
    exact Deep.blk_setCell_other _ _ _ _ (show g ≠ b by omega)
theorem RegV.new {w0 w : World} {B E : Nat} {p n : Int} {v : Value} {zz : List (List Int)} {t : TypeId} (ho : OwnRX B E w v zz) (hB : w0.heap.size ≤ B) (hb : Below w0.heap.size w0 w) :
    RegV w0 (w.alloc (.cells #[.int .i64 p, .int .i64 n, v] t)) w.heap.size B E p n v zz :=
  ⟨PtV.new _ _ _ _ _, ho.alloc _, hB, .inr (own_le ho), hb.size, hb.alloc hb.size _⟩
theorem RegV.set {w0 w : World} {L B E : Nat} {p' n' : Int} {v' : Value} {p n : Int} {v : Value} {zz : List (List Int)} (h : PtV w L p' n' v') (ho : OwnRX B E w v zz) (hB : w0.heap.size ≤ B) (hd : L < B) (hL : w0.heap.size ≤ L) (hb : Below w0.heap.size w0 w) :
    RegV w0 (((w.setCell ⟨L, 0, none⟩ (.int .i64 p)).setCell ⟨L, 1, none⟩ (.int .i64 n)).setCell ⟨L, 2, none⟩ v) L B E p n v zz :=
  ⟨h.set3 p n v, (((ho.setOut hd _).setOut hd _).setOut hd _), hB, .inl hd, hL, Below.setC (Below.setC (Below.setC hb hL _) hL _) hL _⟩
/-- How a call ends that hands back a space whose rows are its own. -/
def RetV (p n : Int) (zz : List (List Int)) (w : World) (e : Ending) (w' : World) : Prop :=
  ∃ v, e = .returned (.agg #[.int .i64 p, .int .i64 n, v]) ∧ OwnRI w.heap.size w' v zz ∧ Below w.heap.size w w'
end Go.Proofs.YtdihcmohpbgmmaaDoor
