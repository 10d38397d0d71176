/-
  SimplicesOf of the model and of the program.
-/
import Derived.Test.YtibdcejglkhcfaaDoorPM
namespace Go.Proofs.YtibdcejglkhcfaaDoor
open Go.RowKit
set_option linter.unusedVariables false
set_option linter.unusedSimpArgs false

/-- The indices below k of the simplices of a dimension. -/
def ofK (zz : List (List Int)) (d : Int) (k : Nat) : List Int := ((List.range k).filter fun i => decide (((zz.getD i []).length : Int) = d + 1)).map fun (i : Nat) => (i : Int)
theorem ofK_yes {zz : List (List Int)} {d : Int} {k : Nat} (hk : k < zz.length) (h : (zz[k].length : Int) = d + 1) : ofK zz d (k + 1) = ofK zz d k ++ [(k : Int)] := by
  simp [ofK, List.range_succ, List.filter_append, List.getD, hk, h]
theorem ofK_no {zz : List (List Int)} {d : Int} {k : Nat} (hk : k < zz.length) (h : ¬ (zz[k].length : Int) = d + 1) : ofK zz d (k + 1) = ofK zz d k := by
  simp [ofK, List.range_succ, List.filter_append, List.getD, hk, h]
theorem ofK_len (zz : List (List Int)) (d : Int) (k : Nat) : (ofK zz d k).length ≤ k := by
  unfold ofK
  rw [List.length_map]
  exact Nat.le_trans (List.length_filter_le _ _) (by simp)
def SpxIs (zz : List (List Int)) (d : Int) (yy : List Int) (c : Int) : Prop :=
  (¬ OkC zz ∧ yy = [] ∧ c = 1) ∨ (OkC zz ∧ ¬ (0 ≤ d ∧ d ≤ 3) ∧ yy = [] ∧ c = 2) ∨ (OkC zz ∧ (0 ≤ d ∧ d ≤ 3) ∧ yy = ofK zz d zz.length ∧ c = 0)
theorem spx_has (zz : List (List Int)) (d : Int) : ∃ yy c, SpxIs zz d yy c := by
  by_cases h : OkC zz
  · by_cases h1 : 0 ≤ d ∧ d ≤ 3
    · exact ⟨_, _, .inr (.inr ⟨h, h1, rfl, rfl⟩)⟩
    · exact ⟨_, _, .inr (.inl ⟨h, h1, rfl, rfl⟩)⟩
  · exact ⟨_, _, .inl ⟨h, rfl, rfl⟩⟩
theorem SpxIs.fit {zz : List (List Int)} {d : Int} {yy : List Int} {c : Int} (h : SpxIs zz d yy c) : yy.length ≤ 1048576 := by
  rcases h with ⟨_, rfl, _⟩ | ⟨_, _, rfl, _⟩ | ⟨h, _, rfl, _⟩
  · simp
  · simp
  · have := ofK_len zz d zz.length; have := h.2; omega
def RetSI (yy : List Int) (c : Int) (w : World) (e : Ending) (w' : World) : Prop := ∃ v, e = .returned (.tuple #[v, .int .i64 c]) ∧ OwnI w.heap.size w' v yy ∧ Below w.heap.size w w'
theorem row_oneK (w : World) (u : Value) (t : TypeId) (n : Nat) (hn : w.heap.size = n) : ∀ (j : Nat) (x : Value), [u][j]? = some x → (w.alloc (.cells #[u] t)).cell? ((⟨n, 0, none⟩ : Addr).add j) = some x := by subst hn; exact row_val w u t
end Go.Proofs.YtibdcejglkhcfaaDoor
