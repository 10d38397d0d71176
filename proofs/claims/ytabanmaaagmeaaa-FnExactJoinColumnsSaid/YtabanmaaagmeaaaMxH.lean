/-
  Laws of matrices: whatever the arguments, the program's answer is the model's, the arguments are as before, and the answer lies in new memory.
-/
import Derived.Test.YtabanmaaagmeaaaMxG
import Derived.Deep.RegionHeld3
import Derived.StillTactics
namespace Go.Proofs.Ytabanmaaagmeaaa
open Go.RowKit
set_option linter.unusedVariables false

theorem IntsAt.al {w : World} {v : Value} {zs : List Int} {o : Obj} (h : IntsAt w v zs) : IntsAt (w.alloc o) v zs := h.on ((Below.refl _ _).alloc (Nat.le_refl _) o)
/-- What a statement leaves that makes a matrix variable. -/
def RegM (w0 wx : World) (L B E : Nat) (p r c : Int) (v : Value) (zs : List Int) : Prop :=
  PtM wx L p r c v ∧ OwnX B E wx v zs ∧ w0.heap.size ≤ B ∧ (L < B ∨ E ≤ L) ∧ w0.heap.size ≤ L ∧ Below w0.heap.size w0 wx
theorem PtM.set4 {w : World} {L : Nat} {p' r' c' : Int} {v' : Value} (h : PtM w L p' r' c' v') (p r c : Int) (v : Value) :
    PtM ((((w.setCell ⟨L, 0, none⟩ (.int .i64 p)).setCell ⟨L, 1, none⟩ (.int .i64 r)).setCell ⟨L, 2, none⟩ (.int .i64 c)).setCell ⟨L, 3, none⟩ v) L p r c v := by
  obtain ⟨h0, h1, h2, h3, h4⟩ := h
  have hs : ∀ (x : World) (p : Addr) (v : Value), (x.setCell p v).heap.size = x.heap.size := by intros; simp
  have n01 : ∀ i j : Nat, i ≠ j → (⟨L, i, none⟩ : Addr) ≠ ⟨L, j, none⟩ := by intro i j hij e; exact hij (by injection e)
  refine ⟨by simpa using h0, ?_, ?_, ?_, ?_⟩
  · rw [World.cell?_setCell_other _ _ _ _ (n01 3 0 (by omega)), World.cell?_setCell_other _ _ _ _ (n01 2 0 (by omega)), World.cell?_setCell_other _ _ _ _ (n01 1 0 (by omega))]
    exact World.cell?_setCell_same' _ _ _ (by rw [h1]; rfl)
  · rw [World.cell?_setCell_other _ _ _ _ (n01 3 1 (by omega)), World.cell?_setCell_other _ _ _ _ (n01 2 1 (by omega))]
    exact World.cell?_setCell_same' _ _ _ (by rw [World.cell?_setCell_other _ _ _ _ (n01 0 1 (by omega)), h2]; rfl)
  · rw [World.cell?_setCell_other _ _ _ _ (n01 3 2 (by omega))]
    exact World.cell?_setCell_same' _ _ _ (by rw [World.cell?_setCell_other _ _ _ _ (n01 1 2 (by omega)), World.cell?_setCell_other _ _ _ _ (n01 0 2 (by omega)), h3]; rfl)
  · exact World.cell?_setCell_same' _ _ _ (by rw [World.cell?_setCell_other _ _ _ _ (n01 2 3 (by omega)), World.cell?_setCell_other _ _ _ _ (n01 1 3 (by omega)), World.cell?_setCell_other _ _ _ _ (n01 0 3 (by omega)), h4]; rfl)
theorem PtM.drew {w : World} {L : Nat} {p r c : Int} {v : Value} (h : PtM w L p r c v) : PtM w.drew L p r c v := h
theorem RegM.new {w0 w : World} {B E : Nat} {p r c : Int} {v : Value} {zs : List Int} {t : TypeId} (ho : OwnX B E w v zs) (hB : w0.heap.size ≤ B) (hb : Below w0.heap.size w0 w) :
    RegM w0 (w.alloc (.cells #[.int .i64 p, .int .i64 r, .int .i64 c, v] t)) w.heap.size B E p r c v zs :=
  ⟨PtM.new _ _ _ _ _ _, ho.alloc _, hB, .inr ho.2.1, hb.size, hb.alloc hb.size _⟩
theorem RegM.set {w0 w : World} {L B E : Nat} {p' r' c' : Int} {v' : Value} {p r c : Int} {v : Value} {zs : List Int} (h : PtM w L p' r' c' v') (ho : OwnX B E w v zs) (hB : w0.heap.size ≤ B) (hd : L < B) (hL : w0.heap.size ≤ L) (hb : Below w0.heap.size w0 w) :
    RegM w0 ((((w.setCell ⟨L, 0, none⟩ (.int .i64 p)).setCell ⟨L, 1, none⟩ (.int .i64 r)).setCell ⟨L, 2, none⟩ (.int .i64 c)).setCell ⟨L, 3, none⟩ v) L B E p r c v zs := by
  obtain ⟨o, e, g⟩ := ho
  exact ⟨h.set4 p r c v, ⟨(((o.setOut hd _).setOut hd _).setOut hd _).setOut hd _, by simpa using e, g⟩, hB, .inl hd, hL, Below.setC (Below.setC (Below.setC (Below.setC hb hL _) hL _) hL _) hL _⟩
end Go.Proofs.Ytabanmaaagmeaaa
