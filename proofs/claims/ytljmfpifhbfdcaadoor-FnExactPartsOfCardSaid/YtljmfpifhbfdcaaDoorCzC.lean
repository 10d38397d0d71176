/-
  A result cell for a complex, a new complex of the model's own, and what keeps them.
-/
import Derived.Test.YtljmfpifhbfdcaaDoorPM
namespace Go.Proofs.YtljmfpifhbfdcaaDoor
open Go.RowKit
set_option linter.unusedVariables false
set_option linter.unusedSimpArgs false

/-- The cell of a result that is still empty. -/
def ResC (w : World) (L : Nat) : Prop := PtC w L (.slice none 0 0) ∧ w.frozen? ⟨L, 0, none⟩ = false
theorem ResC.on {w w' : World} {L : Nat} (h : ResC w L) (hb : Below w.heap.size w w') : ResC w' L := ⟨h.1.on hb, (hb.frozen (p := ⟨L, 0, none⟩) h.1.1).trans h.2⟩
theorem ResC.gr {w w' : World} {L cb : Nat} (h : ResC w L) (hg : w.grownBy w' (some cb)) (hne : L ≠ cb) : ResC w' L :=
  ⟨⟨Nat.lt_of_lt_of_le h.1.1 hg.size, by rw [World.cell?_of_block (hg.block L h.1.1 (fun e => hne (by injection e)))]; exact h.1.2⟩, by rw [World.frozen?_of_block (hg.block L h.1.1 (fun e => hne (by injection e)))]; exact h.2⟩
theorem ResC.new (w : World) : ResC (w.alloc (.cells #[.slice none 0 0] 27)) w.heap.size := ⟨PtC.new w _ _, World.frozen?_alloc_new w _ _ _⟩
theorem gr_on {w a b : World} {r : Option Nat} (hg : w.grownBy a r) (hb : Below a.heap.size a b) : w.grownBy b r :=
  ⟨hb.os.trans hg.os, hb.tape.trans hg.tape, hb.output.trans hg.output, Nat.le_trans hg.size hb.size, fun k hk hr => (hb.block k (Nat.lt_of_lt_of_le hk hg.size)).trans (hg.block k hk hr)⟩
theorem gr_tr {w a b : World} {r : Option Nat} (hg : w.grownBy a r) (hb : a.grownBy b r) : w.grownBy b r :=
  ⟨hb.os.trans hg.os, hb.tape.trans hg.tape, hb.output.trans hg.output, Nat.le_trans hg.size hb.size, fun k hk hr => (hb.block k (Nat.lt_of_lt_of_le hk hg.size) hr).trans (hg.block k hk hr)⟩
theorem OwnI.gr {B cb : Nat} {w w' : World} {v : Value} {zs : List Int} (h : OwnI B w v zs) (hg : w.grownBy w' (some cb)) (hne : v.ownBlock ≠ some cb) : OwnI B w' v zs := World.ownsRow.kept h.out hg (.inr hne)
theorem OwnI.notAt {B cb : Nat} {w : World} {v : Value} {zs : List Int} (h : OwnI B w v zs) (hne : cb < B) : v.ownBlock ≠ some cb := fun e => by have := (h.out.lt cb e).1; omega
theorem CpS.fresh (w : World) : CpS w.heap.size (w.heap.size + 1) ((w.alloc (.cells #[] 38)).alloc (.cells #[.slice (some ⟨w.heap.size, 0, none⟩) 0 0] 27)) [] := by
  have hC := PtC.new (w.alloc (.cells #[] 38)) (.slice (some ⟨w.heap.size, 0, none⟩) 0 0) 27
  have hF := World.frozen?_alloc_new (w.alloc (.cells #[] 38)) #[.slice (some ⟨w.heap.size, 0, none⟩) 0 0] 27 0
  rw [World.size_alloc] at hC hF
  have hG : ((w.alloc (.cells #[] 38)).alloc (.cells #[.slice (some ⟨w.heap.size, 0, none⟩) 0 0] 27)).heap[w.heap.size]? = some (.cells #[] 38) := by
    rw [heap_alloc_old _ _ (by simp)]
    exact heap_alloc_new w (.cells #[] 38)
  exact CpS.start hC.2 hC.1 hF hG (by omega) w.heap.size (Nat.le_refl _)
/-- What l05Put leaves, of a complex and of a result's cell. -/
theorem CpS.cell {B cb : Nat} {w : World} {yy : List (List Int)} (h : CpS B cb w yy) : ∃ g cap L, w.cell? ⟨cb, 0, none⟩ = some (.slice (some ⟨g, 0, none⟩) yy.length cap) ∧ OwnR B w.heap.size w (.slice (some ⟨g, 0, none⟩) yy.length cap) L yy := by
  obtain ⟨g, cap, L, p, _, o, _⟩ := h
  exact ⟨g, cap, L, p.2, o⟩
/-- Some sets, in order, once each and closed under faces, are the closure of themselves. -/
theorem cloL_self {rr L : List (List Int)} (hs : ∀ s ∈ rr, Sim s) (hc : ∀ x, Fac rr x → x ∈ rr) (hn : rr.Nodup) (hp : L.Perm rr) (ho : ∀ i j (hi : i < L.length) (hj : j < L.length), i < j → befB L[j] L[i] = false) : L = cloL rr := by
  refine cloL_is hs (sorted_ord (hp.nodup_iff.2 hn) ho) fun x => ?_
  rw [hp.mem_iff]
  exact ⟨fun hx => ⟨x, hx, fun e => by have := (hs x hx).pos; rw [e] at this; simp at this, List.Sublist.refl x⟩, hc x⟩
theorem verts_masks {rr : List (List Int)} (hs : ∀ s ∈ rr, Sim s) : (rr.map maskOf).map vertsOf = rr := by
  rw [List.map_map]
  have : rr.map (vertsOf ∘ maskOf) = rr.map id := List.map_congr_left fun s h => (hs s h).verts
  rw [this, List.map_id]
theorem mask_ne {s : List Int} (h : Sim s) : maskOf s ≠ 0 := fun e => by
  have := h.verts
  rw [e] at this
  have h2 := h.pos
  rw [← this] at h2
  exact absurd h2 (by decide)
theorem masks_fit {rr : List (List Int)} (hs : ∀ s ∈ rr, Sim s) : ∀ f ∈ rr.map maskOf, f < 1024 ∧ f ≠ 0 := fun f hf => by
  obtain ⟨s, h, rfl⟩ := List.mem_map.1 hf
  exact ⟨maskOf_lt s (fun v hv => (hs s h).bd v hv), mask_ne (hs s h)⟩
end Go.Proofs.YtljmfpifhbfdcaaDoor
