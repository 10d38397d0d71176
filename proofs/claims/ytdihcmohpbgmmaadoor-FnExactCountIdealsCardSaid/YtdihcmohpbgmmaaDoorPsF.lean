/-
  The program's order: a size and two rows of twelve sets, by value; what lies between two elements.
-/
import Derived.Test.YtdihcmohpbgmmaaDoorPsE
import Derived.Test.YtdihcmohpbgmmaaDoorPJ
namespace Go.Proofs.YtdihcmohpbgmmaaDoor
open Go.RowKit
set_option linter.unusedVariables false
set_option linter.unusedSimpArgs false

/-- The cells of an order. -/
def ordC (N : Nat) (lo up : Nat → Nat) : List Value := .int .i64 (N : Int) :: (((List.range 12).map fun j => Value.int .u16 (lo j : Int)) ++ ((List.range 12).map fun j => Value.int .u16 (up j : Int)))
def ordV (N : Nat) (lo up : Nat → Nat) : Value := .agg (ordC N lo up).toArray
theorem ordC_len (N : Nat) (lo up : Nat → Nat) : (ordC N lo up).length = 25 := by simp [ordC]
theorem ordC_zero (N : Nat) (lo up : Nat → Nat) : (ordC N lo up)[0]? = some (.int .i64 (N : Int)) := rfl
theorem ordC_lo {N : Nat} {lo up : Nat → Nat} {j : Nat} (hj : j < 12) : (ordC N lo up)[1 + j]? = some (.int .u16 (lo j : Int)) := by
  rw [Nat.add_comm, ordC, List.getElem?_cons_succ, List.getElem?_append_left (by simp; omega)]
  simp [hj]
theorem ordC_up {N : Nat} {lo up : Nat → Nat} {j : Nat} (hj : j < 12) : (ordC N lo up)[13 + j]? = some (.int .u16 (up j : Int)) := by
  rw [show 13 + j = (12 + j) + 1 by omega, ordC, List.getElem?_cons_succ, List.getElem?_append_right (by simp)]
  simp [hj]
theorem below_drewP {B : Nat} {a w : World} (h : Below B a w) (n : Nat) : Below B a (w.drewN n) := h.trans ⟨rfl, rfl, rfl, Nat.le_refl _, fun _ _ => rfl⟩
/-- A block that holds an order. -/
def PtO (w : World) (L N : Nat) (lo up : Nat → Nat) : Prop :=
  L < w.heap.size ∧ w.cell? ⟨L, 0, none⟩ = some (.int .i64 (N : Int)) ∧ (∀ j, j < 12 → w.cell? ⟨L, 1 + j, none⟩ = some (.int .u16 (lo j : Int))) ∧ (∀ j, j < 12 → w.cell? ⟨L, 13 + j, none⟩ = some (.int .u16 (up j : Int)))
theorem PtO.new (w : World) (N : Nat) (lo up : Nat → Nat) (t : TypeId) : PtO (w.alloc (.cells (ordC N lo up).toArray t)) w.heap.size N lo up := by
  refine ⟨by simp, ?_, fun j hj => ?_, fun j hj => ?_⟩
  · rw [World.cell?_alloc_at _ _ _ _ rfl]; simp [ordC_zero]
  · rw [World.cell?_alloc_at _ _ _ _ rfl]; simp [ordC_lo hj]
  · rw [World.cell?_alloc_at _ _ _ _ rfl]; simp [ordC_up hj]
theorem PtO.on {w w' : World} {L N : Nat} {lo up : Nat → Nat} (h : PtO w L N lo up) (hb : Below w.heap.size w w') : PtO w' L N lo up :=
  ⟨Nat.lt_of_lt_of_le h.1 hb.size, (hb.cell (p := ⟨L, 0, none⟩) h.1).trans h.2.1, fun j hj => (hb.cell (p := ⟨L, 1 + j, none⟩) h.1).trans (h.2.2.1 j hj), fun j hj => (hb.cell (p := ⟨L, 13 + j, none⟩) h.1).trans (h.2.2.2 j hj)⟩
theorem PtO.range {w : World} {L N : Nat} {lo up : Nat → Nat} (h : PtO w L N lo up) : w.rangeAt L 0 (ordC N lo up) := fun j v hv => by
  rw [Nat.zero_add]
  obtain ⟨hj, _⟩ := List.getElem?_eq_some_iff.1 hv
  rw [ordC_len] at hj
  by_cases h0 : j = 0
  · subst h0; rw [ordC_zero] at hv; rw [← hv]; exact h.2.1
  · by_cases h1 : j < 13
    · obtain ⟨i, rfl⟩ : ∃ i, j = 1 + i := ⟨j - 1, by omega⟩
      rw [ordC_lo (by omega)] at hv; rw [← hv]; exact h.2.2.1 i (by omega)
    · obtain ⟨i, rfl⟩ : ∃ i, j = 13 + i := ⟨j - 13, by omega⟩
      rw [ordC_up (by omega)] at hv; rw [← hv]; exact h.2.2.2 i (by omega)
set_option maxRecDepth 100000 in
theorem between_is {N a b : Nat} {lo up : Nat → Nat} {w : World} (ha : a < 12) (hb : b < 12) (hl : lo b < 65536) (hu : up a < 65536) :
    Calls Tryd.prog 85 #[ordV N lo up, .int .i64 (a : Int), .int .i64 (b : Int)] w fun e w' => e = .returned (.int .u16 ((up a &&& lo b : Nat) : Int)) ∧ Below w.heap.size w w' := by
  have P0 := PtO.new w N lo up 64
  have q1 := P0.2.2.2 a ha
  have q2 := P0.2.2.1 b hb
  have hand := and_u16 (a := up a) (b := lo b) hu hl
  have AL : Hid (Below w.heap.size w (w.alloc (.cells (ordC N lo up).toArray 64))) := (Below.refl _ w).alloc (Nat.le_refl _) _
  have a0 : 0 ≤ (a : Int) := by omega
  have a1 : (a : Int) < 12 := by omega
  have b0 : 0 ≤ (b : Int) := by omega
  have b1 : (b : Int) < 12 := by omega
  unfold ordV
  generalize up a = ua at q1 hand ⊢
  generalize lo b = lb at q2 hand ⊢
  generalize (ordC N lo up).toArray = cs at q1 q2 AL ⊢
  clear P0
  go_enter Tryd.func85, Tryd.ntmps85
  go_wp2_with fail
  go_quiet (fail)
  go_wp2_with fail
  go_ret
  exact ⟨rfl, below_drewP AL.out _⟩
end Go.Proofs.YtdihcmohpbgmmaaDoor
