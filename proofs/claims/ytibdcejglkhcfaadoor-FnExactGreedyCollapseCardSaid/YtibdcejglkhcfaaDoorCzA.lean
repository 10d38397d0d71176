/-
  The sides of a simplex: as sets, and by the program.
-/
import Derived.Test.YtibdcejglkhcfaaDoorPL
import Derived.Test.YtibdcejglkhcfaaDoorCyB
namespace Go.Proofs.YtibdcejglkhcfaaDoor
open Go.RowKit
set_option linter.unusedVariables false
set_option linter.unusedSimpArgs false

theorem row_oneU (w : World) (u : Value) (t : TypeId) (n : Nat) (hn : w.heap.size = n) : ∀ (j : Nat) (x : Value), [u][j]? = some x → (w.alloc (.cells #[u] t)).cell? ((⟨n, 0, none⟩ : Addr).add j) = some x := by subst hn; exact row_val w u t
theorem mem_dropAt {s : List Int} (h : Sim s) {k : Nat} (hk : k < s.length) {x : Int} : x ∈ dropAt s k ↔ x ∈ s ∧ x ≠ s[k] := by
  rw [dropAt_is, List.mem_eraseIdx_iff_getElem]
  constructor
  · rintro ⟨i, hi, hne, rfl⟩
    refine ⟨List.getElem_mem hi, fun e => ?_⟩
    rcases Nat.lt_or_gt_of_ne hne with hl | hl
    · have := (List.pairwise_iff_getElem.1 h.rise) i k hi hk hl; omega
    · have := (List.pairwise_iff_getElem.1 h.rise) k i hk hi hl; omega
  · rintro ⟨hm, hne⟩
    obtain ⟨i, hi, rfl⟩ := List.getElem_of_mem hm
    exact ⟨i, hi, fun e => by subst e; exact hne rfl, rfl⟩
theorem mask_one {v : Int} (h : 0 ≤ v ∧ v ≤ 9) : maskOf [v] < 65536 := by
  have := maskOf_lt [v] (fun x hx => by simp at hx; omega); omega
theorem mask_drop {s : List Int} (h : Sim s) {k : Nat} (hk : k < s.length) : maskOf s &&& (65535 - maskOf [s[k]]) = maskOf (dropAt s k) := by
  have hb := h.bd _ (List.getElem_mem hk)
  have hm := maskOf_lt s (fun v hv => h.bd v hv)
  apply Nat.eq_of_testBit_eq
  intro t
  rw [andn_bit (by omega) (mask_one hb), maskOf_bit s fun v hv => (h.bd v hv).1, maskOf_bit [s[k]] fun v hv => by simp at hv; omega,
    maskOf_bit (dropAt s k) fun v hv => (h.bd v ((mem_dropAt h hk).1 hv).1).1]
  rw [Bool.eq_iff_iff]
  simp only [Bool.and_eq_true, Bool.not_eq_true', decide_eq_true_eq, decide_eq_false_iff_not, mem_dropAt h hk, List.mem_singleton]
theorem mask_zero {s : List Int} (h : Sim s) {k : Nat} (hk : k < s.length) : maskOf (dropAt s k) = 0 ↔ s.length ≤ 1 := by
  constructor
  · intro e
    rcases Nat.lt_or_ge 1 s.length with h1 | h1
    · have hs := h.drop h1 hk
      have := hs.verts
      rw [e] at this
      have h2 := hs.pos
      rw [← this] at h2
      exact absurd h2 (by decide)
    · exact h1
  · intro h1
    have := dropAt_len hk
    have e : dropAt s k = [] := List.length_eq_zero_iff.1 (by omega)
    rw [e]; rfl
/-- The sides of a simplex that leave out one of its first k vertices. -/
def sideM (s : List Int) (k : Nat) : List Nat := if s.length ≤ 1 then [] else (List.range k).map fun i => maskOf (dropAt s i)
theorem sideM_len (s : List Int) (k : Nat) : (sideM s k).length ≤ k := by unfold sideM; split <;> simp
theorem sideM_next {s : List Int} {k : Nat} (h : 1 < s.length) : sideM s (k + 1) = sideM s k ++ [maskOf (dropAt s k)] := by
  unfold sideM; rw [if_neg (by omega), if_neg (by omega), List.range_succ, List.map_append]; rfl
theorem sideM_one {s : List Int} {k : Nat} (h : s.length ≤ 1) : sideM s k = [] := by unfold sideM; rw [if_pos h]
theorem sideM_zero (s : List Int) : sideM s 0 = [] := by unfold sideM; split <;> rfl
theorem OwnI.at1 {B : Nat} {w : World} {v : Value} {zs : List Int} (h : OwnI B w v zs) (h0 : 0 < zs.length) : ∃ g cap, v = .slice (some ⟨g, 0, none⟩) zs.length cap ∧ B ≤ g ∧ g < w.heap.size ∧ ∀ j (h : j < zs.length), w.cell? ⟨g, j, none⟩ = some (.int .i64 zs[j]) := by
  have ho := h
  obtain ⟨hx, ⟨rfl, hn⟩ | ⟨g, cap, cur, rfl, hB, hcur, r⟩⟩ := h
  · omega
  · refine ⟨g, cap, rfl, hB, (Array.getElem?_eq_some_iff.1 hcur).1, fun j hj => ?_⟩
    rw [World.ownsRow.cellAt ho.out j (by omega)]
    simp [iv, hj]
theorem OwnU.mono {B B' : Nat} {w : World} {v : Value} {fs : List Nat} (h : OwnU B w v fs) (hle : B' ≤ B) : OwnU B' w v fs := by
  obtain ⟨hx, h | ⟨g, cap, cur, e, hB, r⟩⟩ := h
  · exact ⟨hx, .inl h⟩
  · exact ⟨hx, .inr ⟨g, cap, cur, e, Nat.le_trans hle hB, r⟩⟩
end Go.Proofs.YtibdcejglkhcfaaDoor
