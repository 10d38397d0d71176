/-
  A table of Bools in memory, its rows apart: what the model's l06Table makes.
-/
import Derived.Test.YtdihcmohpbgmmaaDoorPsF
import Derived.Laws.OwnMore
namespace Go.Proofs.YtdihcmohpbgmmaaDoor
open Go.RowKit
set_option linter.unusedVariables false
set_option linter.unusedSimpArgs false

def bvs (n : Nat) (f : Nat → Bool) : List Value := (List.range n).map fun j => .bool (f j)
def rvs (k n : Nat) (rs : Nat → Nat) : List Value := (List.range k).map fun i => .slice (some ⟨rs i, 0, none⟩) n n
theorem bvs_at {n : Nat} {f : Nat → Bool} {j : Nat} (hj : j < n) : (bvs n f)[j]? = some (.bool (f j)) := by simp [bvs, hj]
theorem rvs_at {k n : Nat} {rs : Nat → Nat} {i : Nat} (hi : i < k) : (rvs k n rs)[i]? = some (.slice (some ⟨rs i, 0, none⟩) n n) := by simp [rvs, hi]
theorem bvs_set {n : Nat} {f : Nat → Bool} {j : Nat} (x : Bool) : (bvs n f).set j (.bool x) = bvs n (fun b => if b = j then x else f b) := by
  apply List.ext_getElem
  · simp [bvs]
  · intro i h1 h2
    rw [List.getElem_set]
    simp only [bvs, List.getElem_map, List.getElem_range]
    by_cases e : j = i
    · subst e; simp
    · rw [if_neg e, if_neg (fun h => e h.symm)]
theorem bvs_congr {n : Nat} {f g : Nat → Bool} (h : ∀ j, j < n → f j = g j) : bvs n f = bvs n g := by
  unfold bvs
  exact List.map_congr_left fun j hj => by rw [h j (List.mem_range.1 hj)]
/-- A table of Bools with rows of its own. -/
structure TabB (B : Nat) (w : World) (v : Value) (k n : Nat) (f : Nat → Nat → Bool) (rs : Nat → Nat) : Prop where
  row : w.ownsRow B 69 1 v k (rvs k n rs)
  own : ∀ i, i < k → w.ownsRow B 4 1 (.slice (some ⟨rs i, 0, none⟩) n n) n (bvs n (f i))
  off : ∀ i, i < k → v.ownBlock ≠ some (rs i)
  sep : ∀ i j, i < k → j < k → rs i = rs j → i = j
theorem below_gr {w w' : World} (hb : Below w.heap.size w w') (r : Option Nat) : w.grownBy w' r := ⟨hb.os, hb.tape, hb.output, hb.size, fun k hk _ => hb.block k hk⟩
theorem TabB.on {B k n : Nat} {w w' : World} {v : Value} {f : Nat → Nat → Bool} {rs : Nat → Nat} (h : TabB B w v k n f rs) (hb : Below w.heap.size w w') : TabB B w' v k n f rs :=
  ⟨h.row.kept (below_gr hb none) (by cases v.ownBlock <;> simp), fun i hi => (h.own i hi).kept (below_gr hb none) (.inr (by simp [Value.ownBlock])), h.off, h.sep⟩
theorem TabB.congr {B k n : Nat} {w : World} {v : Value} {f g : Nat → Nat → Bool} {rs : Nat → Nat} (h : TabB B w v k n f rs) (e : ∀ i j, i < k → j < n → f i j = g i j) : TabB B w v k n g rs :=
  ⟨h.row, fun i hi => by rw [← bvs_congr fun j hj => e i j hi hj]; exact h.own i hi, h.off, h.sep⟩
theorem TabB.cell {B k n : Nat} {w : World} {v : Value} {f : Nat → Nat → Bool} {rs : Nat → Nat} (h : TabB B w v k n f rs) {i j : Nat} (hi : i < k) (hj : j < n) : w.cell? ⟨rs i, j, none⟩ = some (.bool (f i j)) ∧ w.frozen? ⟨rs i, j, none⟩ = false := by
  have h1 := (h.own i hi).cells (g := rs i) rfl j _ (bvs_at hj)
  have hadd : (⟨rs i, 0, none⟩ : Addr).add j = ⟨rs i, j, none⟩ := by unfold Addr.add; split <;> simp_all
  rw [hadd] at h1
  exact ⟨h1, (h.own i hi).frozenAt j⟩
theorem TabB.outer {B k n : Nat} {w : World} {v : Value} {f : Nat → Nat → Bool} {rs : Nat → Nat} (h : TabB B w v k n f rs) (hk : 0 < k) : ∃ g cap, v = .slice (some ⟨g, 0, none⟩) k cap ∧ B ≤ g ∧ g < w.heap.size ∧ ∀ i, i < k → w.cell? ⟨g, i, none⟩ = some (.slice (some ⟨rs i, 0, none⟩) n n) ∧ rs i ≠ g := by
  rcases h.row.2 with ⟨_, h0⟩ | ⟨g, cap, cur, e, hb, hg, _⟩
  · omega
  · refine ⟨g, cap, e, hb, (h.row.lt g (by rw [e]; rfl)).2, fun i hi => ?_⟩
    have h1 := h.row.cells (g := g) (by rw [e]; rfl) i _ (rvs_at hi)
    have hadd : (⟨g, 0, none⟩ : Addr).add i = ⟨g, i, none⟩ := by unfold Addr.add; split <;> simp_all
    rw [hadd] at h1
    exact ⟨h1, fun e2 => h.off i hi (by rw [e, e2]; rfl)⟩
theorem TabB.set {B k n : Nat} {w : World} {v : Value} {f : Nat → Nat → Bool} {rs : Nat → Nat} (h : TabB B w v k n f rs) {i : Nat} (hi : i < k) (j : Nat) (x : Bool) :
    TabB B (w.setCell ⟨rs i, j, none⟩ (.bool x)) v k n (fun a b => if a = i ∧ b = j then x else f a b) rs ∧ w.grownBy (w.setCell ⟨rs i, j, none⟩ (.bool x)) (some (rs i)) := by
  obtain ⟨h1, h2⟩ := World.ownsRow.stored (h.own i hi) j (.bool x)
  refine ⟨⟨h.row.kept h2 (.inr (h.off i hi)), fun a ha => ?_, h.off, h.sep⟩, h2⟩
  by_cases e : a = i
  · subst e
    rw [bvs_set] at h1
    have e2 : bvs n (fun b => if a = a ∧ b = j then x else f a b) = bvs n (fun b => if b = j then x else f a b) := bvs_congr fun b _ => by simp
    rw [e2]; exact h1
  · have e2 : bvs n (fun b => if a = i ∧ b = j then x else f a b) = bvs n (f a) := bvs_congr fun b _ => by simp [e]
    rw [e2]
    refine (h.own a ha).kept h2 (.inr fun e3 => e (h.sep a i ha hi ?_))
    simpa [Value.ownBlock] using e3
/-- A new row, made behind all that the table holds, is put at its end. -/
theorem TabB.push {B k n r : Nat} {w w2 : World} {v v2 : Value} {f : Nat → Nat → Bool} {rs : Nat → Nat} (h : TabB B w v k n f rs) (hown : w.ownsRow B 4 1 (.slice (some ⟨r, 0, none⟩) n n) n (bvs n (f k)))
    (hr : w2.ownsRow B 69 1 v2 (k + 1) (rvs k n rs ++ [.slice (some ⟨r, 0, none⟩) n n])) (hg : w.grownBy w2 v.ownBlock) (hv : ∀ g, v2.ownBlock = some g → v.ownBlock = some g ∨ w.heap.size ≤ g) (hvr : v.ownBlock ≠ some r) (hnew : ∀ i, i < k → rs i ≠ r) :
    TabB B w2 v2 (k + 1) n f (fun i => if i = k then r else rs i) := by
  have hrl : r < w.heap.size := (hown.lt r rfl).2
  refine ⟨?_, fun i hi => ?_, fun i hi => ?_, fun i j hi hj e => ?_⟩
  · have e : rvs (k + 1) n (fun i => if i = k then r else rs i) = rvs k n rs ++ [.slice (some ⟨r, 0, none⟩) n n] := by
      unfold rvs
      rw [List.range_succ, List.map_append]
      congr 1
      · exact List.map_congr_left fun i hi => by
          have := List.mem_range.1 hi
          dsimp only
          rw [if_neg (by omega)]
      · simp
    rw [e]; exact hr
  · by_cases e : i = k
    · subst e
      rw [if_pos rfl]
      exact hown.kept hg (.inr fun e => hvr (by rw [← e]; rfl))
    · rw [if_neg e]
      exact (h.own i (by omega)).kept hg (.inr fun e2 => h.off i (by omega) (by rw [← e2]; rfl))
  · intro e2
    have hlt : (if i = k then r else rs i) < w.heap.size := by
      by_cases e : i = k
      · rw [if_pos e]; exact hrl
      · rw [if_neg e]; exact ((h.own i (by omega)).lt _ rfl).2
    rcases hv _ e2 with h1 | h1
    · by_cases e : i = k
      · rw [if_pos e] at h1; exact hvr h1
      · rw [if_neg e] at h1; exact h.off i (by omega) h1
    · omega
  · by_cases e1 : i = k
    · by_cases e2 : j = k
      · omega
      · rw [if_pos e1, if_neg e2] at e; exact absurd e.symm (hnew j (by omega))
    · by_cases e2 : j = k
      · rw [if_neg e1, if_pos e2] at e; exact absurd e (hnew i (by omega))
      · rw [if_neg e1, if_neg e2] at e; exact h.sep i j (by omega) (by omega) e
end Go.Proofs.YtdihcmohpbgmmaaDoor
