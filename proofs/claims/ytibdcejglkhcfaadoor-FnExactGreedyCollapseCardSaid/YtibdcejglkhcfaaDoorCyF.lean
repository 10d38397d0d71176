/-
  The model's l05Put: a simplex and its faces into a complex.
-/
import Derived.Test.YtibdcejglkhcfaaDoorPL
namespace Go.Proofs.YtibdcejglkhcfaaDoor
open Go.RowKit
set_option linter.unusedVariables false
set_option linter.unusedSimpArgs false

theorem gr_refl (w : World) (r : Option Nat) : w.grownBy w r := ⟨rfl, rfl, rfl, Nat.le_refl _, fun _ _ _ => rfl⟩
theorem gr_below {w w' : World} (h : Below w.heap.size w w') (r : Option Nat) : w.grownBy w' r := ⟨h.os, h.tape, h.output, h.size, fun k hk _ => h.block k hk⟩
theorem gr_set (w : World) (b : Nat) (x : Value) : w.grownBy (w.setCell ⟨b, 0, none⟩ x) (some b) := gb_set (gr_refl w (some b)) x
def RetPut (B cb : Nat) (yy : List (List Int)) (s : List Int) (w : World) (e : Ending) (w' : World) : Prop :=
  e = .returned (.tuple #[]) ∧ w.grownBy w' (some cb) ∧ ∃ yy', CpS B cb w' yy' ∧ Cpx yy' ∧ ∀ x, x ∈ yy' ↔ x ∈ yy ∨ Face x s
/-- A row of slices is in no block of numbers. -/
theorem apart {B1 B2 n : Nat} {w : World} {v a : Value} {xs : List Value} {s : List Int} (h : w.ownsRow B1 25 1 v n xs) (hx : ∀ u ∈ xs, ∃ b m c, u = .slice b m c) (h0 : 0 < n) (ha : OwnI B2 w a s) (hs : 0 < s.length) : ∀ g, a.ownBlock = some g → v.ownBlock ≠ some g := by
  intro g hg hv
  have h' := h
  obtain ⟨hl, ⟨rfl, hn⟩ | ⟨g1, cap, cur, rfl, hB, hcur, r⟩⟩ := h
  · omega
  · obtain rfl : g1 = g := by simpa [Value.ownBlock] using hv
    have ha' := ha.out
    obtain ⟨_, ⟨rfl, _⟩ | ⟨g2, c2, _, rfl, _⟩⟩ := ha
    · simp [Value.ownBlock] at hg
    obtain rfl : g2 = g1 := by simpa [Value.ownBlock] using hg
    have c1 := World.ownsRow.cellAt ha' 0 (by omega)
    have c2 := World.ownsRow.cellAt h' 0 (by omega)
    rw [c1] at c2
    have hi0 : (iv s)[0]? = some (.int .i64 s[0]) := by simp [iv, hs]
    rw [hi0] at c2
    have hx0 : xs[0]? = some xs[0] := List.getElem?_eq_getElem (by omega)
    obtain ⟨b, m, c, e⟩ := hx xs[0] (List.getElem_mem (by omega))
    rw [hx0, e] at c2
    cases c2
theorem src_one (w : World) (u : Value) (t : TypeId) : SrcAt (w.alloc (.cells #[u] t)) (.slice (some ⟨w.heap.size, 0, none⟩) 1 1) [u] :=
  ⟨_, 1, rfl, by simp, .inr ⟨w.heap.size, 0, rfl, .inr (by simp), fun j x hj => by have := row_one w u t j x hj; rw [Addr.add_lit] at this; exact this⟩⟩
theorem OwnR.sls {B E : Nat} {w : World} {v : Value} {L : List Value} {zz : List (List Int)} (h : OwnR B E w v L zz) : ∀ u ∈ L, ∃ b m c, u = .slice b m c := fun u hu => by
  obtain ⟨i, hi, rfl⟩ := List.getElem_of_mem hu
  have hz : i < zz.length := by rw [← h.len]; exact hi
  obtain ⟨a, c, e⟩ := (h.own i L[i] zz[i] (List.getElem?_eq_getElem hi) (List.getElem?_eq_getElem hz)).slice
  exact ⟨_, _, _, e⟩
theorem ownsRow_kept2 {B n : Nat} {T : TypeId} {w w' : World} {v : Value} {xs : List Value} {b : Nat} (h : w.ownsRow B T 1 v n xs) (hg : w.grownBy w' (some b)) (hne : v.ownBlock ≠ some b) : w'.ownsRow B T 1 v n xs := World.ownsRow.kept h hg (.inr hne)
theorem OwnR.setNot2 {B E b o : Nat} {w : World} {v : Value} {L : List Value} {zz : List (List Int)} (h : OwnR B E w v L zz) (h1 : v.ownBlock ≠ some b) (h2 : ∀ (i : Nat) (u : Value), L[i]? = some u → u.ownBlock ≠ some b) (x : Value) : OwnR B E (w.setCell ⟨b, o, none⟩ x) v L zz := by
  have hgs : w.grownBy (w.setCell ⟨b, o, none⟩ x) (some b) := gb_set (gr_refl w (some b)) (o := o) x
  exact ⟨h.len, ownsRow_kept2 h.row hgs h1, fun j u ys hj hy => ownsRow_kept2 (h.own j u ys hj hy).out hgs (h2 j u hj), h.off, h.sep, by simpa using h.le, h.top, h.tops⟩
theorem CpS.make {B cb k g7 cap7 : Nat} {w3 w7 : World} {u va x : Value} {L : List Value} {zz : List (List Int)} {s : List Int} (o3 : OwnR B w3.heap.size w3 u L zz) (hB7 : Below w3.heap.size w3 w7) (hk : k ≤ zz.length) (hBw : B ≤ w3.heap.size)
    (hr : w7.ownsRow w3.heap.size 25 1 (.slice (some ⟨g7, 0, none⟩) (zz.length + 1) cap7) (zz.length + 1) (L.take k ++ va :: L.drop k)) (ha : OwnI w3.heap.size w7 va s) (hne : ∀ g, va.ownBlock = some g → (Value.slice (some ⟨g7, 0, none⟩) (zz.length + 1) cap7).ownBlock ≠ some g)
    (hp : PtC w7 cb x) (hf : w7.frozen? ⟨cb, 0, none⟩ = false) (hcb : cb < w3.heap.size) (hLc : ∀ u ∈ L, u.ownBlock ≠ some cb) : CpS B cb (w7.setCell ⟨cb, 0, none⟩ (.slice (some ⟨g7, 0, none⟩) (zz.length + 1) cap7)) (zz.take k ++ s :: zz.drop k) := by
  have hlen : (zz.take k ++ s :: zz.drop k).length = zz.length + 1 := by rw [List.length_append, List.length_cons, List.length_take, List.length_drop]; omega
  have o7 := o3.insert hB7 hk hBw hr ha hne
  have hgc : g7 ≠ cb := by have := (hr.lt g7 rfl).1; omega
  have hLc' : ∀ u ∈ L.take k ++ va :: L.drop k, u.ownBlock ≠ some cb := fun u hu => by
    rw [List.mem_append, List.mem_cons] at hu
    rcases hu with hu | rfl | hu
    · exact hLc u (List.mem_of_mem_take hu)
    · exact fun e => by have := (ha.out.lt cb e).1; omega
    · exact hLc u (List.mem_of_mem_drop hu)
  have o8 := OwnR.setNot2 o7 (b := cb) (o := 0) (by simp [Value.ownBlock]; exact hgc) (fun i u hi => hLc' u (List.mem_of_getElem? hi)) (.slice (some ⟨g7, 0, none⟩) (zz.length + 1) cap7)
  obtain ⟨_, ⟨e, _⟩ | ⟨g2, c2, _, e, _, _, h1, h2, _⟩⟩ := hr
  · cases e
  · injection e with e1 e2 e3
    subst e3
    refine ⟨g7, cap7, _, by rw [hlen]; exact PtC.set hp _, (World.frozen?_setCell _ _ _ _).trans hf, ?_, by rw [hlen]; exact h1, h2, hgc, hLc'⟩
    rw [hlen]
    simpa using o8
theorem ownsRow_ptr {B n : Nat} {T : TypeId} {w : World} {v : Value} {xs : List Value} (h : w.ownsRow B T 1 v n xs) (h0 : 0 < n) : ∃ g c, v = .slice (some ⟨g, 0, none⟩) n c := by
  obtain ⟨_, ⟨e, h'⟩ | ⟨g2, c2, _, e, _⟩⟩ := h
  · omega
  · exact ⟨g2, c2, e⟩
theorem sls_ins {L : List Value} {va : Value} {k : Nat} (h : ∀ u ∈ L, ∃ b m c, u = .slice b m c) (ha : ∃ b m c, va = .slice b m c) : ∀ u ∈ L.take k ++ va :: L.drop k, ∃ b m c, u = .slice b m c := fun u hu => by
  rw [List.mem_append, List.mem_cons] at hu
  rcases hu with hu | rfl | hu
  · exact h u (List.mem_of_mem_take hu)
  · exact ha
  · exact h u (List.mem_of_mem_drop hu)
end Go.Proofs.YtibdcejglkhcfaaDoor
