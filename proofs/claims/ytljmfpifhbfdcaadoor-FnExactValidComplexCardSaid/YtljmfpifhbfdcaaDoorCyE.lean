/-
  Lists of simplices that have all faces: one more simplex; a complex of the model's own in memory, and one more row in it at its place.
-/
import Derived.Test.YtljmfpifhbfdcaaDoorCyD
namespace Go.Proofs.YtljmfpifhbfdcaaDoor
open Go.RowKit
set_option linter.unusedVariables false
set_option linter.unusedSimpArgs false

/-- In order, simplices all, and with all faces. -/
structure Cpx (L : List (List Int)) : Prop where
  ord : Ord L
  sim : ∀ z ∈ L, Sim z
  clo : ∀ z ∈ L, ∀ x, Face x z → x ∈ L
theorem Cpx.nil : Cpx [] := ⟨List.Pairwise.nil, fun z hz => by simp at hz, fun z hz => by simp at hz⟩
theorem Cpx.len {L : List (List Int)} (h : Cpx L) : L.length ≤ 1024 := by
  have hn : (L.map maskOf).Nodup := by
    refine List.pairwise_map.2 (List.Pairwise.imp_of_mem (fun {a b} ha hb hab e => hab ?_) h.ord.nodup)
    rw [← (h.sim a ha).verts, ← (h.sim b hb).verts, e]
  have := List.Nodup.length_le_of_subset (l₂ := List.range 1024) hn (fun f hf => by
    obtain ⟨z, hz, rfl⟩ := List.mem_map.1 hf
    exact List.mem_range.2 (maskOf_lt z (fun v hv => (h.sim z hz).bd v hv)))
  simpa using this
theorem sub_erase : ∀ {x s : List Int}, x.Sublist s → x = s ∨ ∃ j, j < s.length ∧ x.Sublist (s.eraseIdx j)
  | _, _, .slnil => .inl rfl
  | _, _, .cons a h => .inr ⟨0, by simp, by simpa using h⟩
  | _, _, .cons_cons a h => by
    rcases sub_erase h with e | ⟨j, hj, h'⟩
    · exact .inl (by rw [e])
    · exact .inr ⟨j + 1, by simpa using hj, by simpa using h'.cons_cons a⟩
/-- A list without the number at a place. -/
def dropAt (s : List Int) (j : Nat) : List Int := s.take j ++ s.drop (j + 1)
theorem dropAt_is (s : List Int) (j : Nat) : dropAt s j = s.eraseIdx j := by unfold dropAt; rw [List.eraseIdx_eq_take_drop_succ]
theorem face_drop {x s : List Int} : Face x s ↔ x ≠ [] ∧ (x = s ∨ ∃ j, j < s.length ∧ Face x (dropAt s j)) := by
  unfold Face
  constructor
  · rintro ⟨h0, h⟩
    refine ⟨h0, ?_⟩
    rcases sub_erase h with e | ⟨j, hj, h'⟩
    · exact .inl e
    · exact .inr ⟨j, hj, h0, by rw [dropAt_is]; exact h'⟩
  · rintro ⟨h0, rfl | ⟨j, hj, _, h'⟩⟩
    · exact ⟨h0, List.Sublist.refl _⟩
    · rw [dropAt_is] at h'; exact ⟨h0, h'.trans (List.eraseIdx_sublist s j)⟩
theorem Sim.drop {s : List Int} (h : Sim s) (h1 : 1 < s.length) {j : Nat} (hj : j < s.length) : Sim (dropAt s j) := by
  refine h.face ⟨fun e => ?_, by rw [dropAt_is]; exact List.eraseIdx_sublist s j⟩
  have : (dropAt s j).length = 0 := by rw [e]; rfl
  unfold dropAt at this
  rw [List.length_append, List.length_take, List.length_drop] at this
  omega
theorem dropAt_len {s : List Int} {j : Nat} (hj : j < s.length) : (dropAt s j).length + 1 = s.length := by
  unfold dropAt; rw [List.length_append, List.length_take, List.length_drop]; omega
/-- The faces of some simplices' sides, and then the simplex itself. -/
theorem Cpx.put {L : List (List Int)} {s : List Int} (h : Cpx L) (hs : Sim s) (hf : ∀ j, j < s.length → 1 < s.length → ∀ x, Face x (dropAt s j) → x ∈ L) (hn : s ∉ L) {k : Nat} (hk : k ≤ L.length) (h1 : ∀ i (hi : i < k), befB (L[i]'(by omega)) s = true) (h2 : ∀ hk' : k < L.length, befB L[k] s = false) :
    Cpx (L.take k ++ s :: L.drop k) := by
  have hm : ∀ x, x ∈ L.take k ++ s :: L.drop k ↔ x ∈ L ∨ x = s := fun x => by
    have : x ∈ L ↔ x ∈ L.take k ∨ x ∈ L.drop k := by rw [← List.mem_append, List.take_append_drop]
    rw [List.mem_append, List.mem_cons, this]
    constructor
    · rintro (h | h | h)
      · exact .inl (.inl h)
      · exact .inr h
      · exact .inl (.inr h)
    · rintro ((h | h) | h)
      · exact .inl h
      · exact .inr (.inr h)
      · exact .inr (.inl h)
  refine ⟨h.ord.place hn hk h1 h2, fun z hz => ?_, fun z hz x hx => ?_⟩
  · rcases (hm z).1 hz with e | rfl
    · exact h.sim z e
    · exact hs
  · rcases (hm z).1 hz with e | rfl
    · exact (hm x).2 (.inl (h.clo z e x hx))
    · obtain ⟨h0, rfl | ⟨j, hj, hx'⟩⟩ := face_drop.1 hx
      · exact (hm _).2 (.inr rfl)
      · refine (hm x).2 (.inl (hf j hj ?_ x hx'))
        have := dropAt_len hj
        cases hd : dropAt z j with
        | nil => rw [hd] at hx'; exact absurd (List.sublist_nil.1 hx'.2) hx'.1
        | cons a t => rw [hd] at this; simp at this; omega
theorem put_mem {L : List (List Int)} {s x : List Int} {k : Nat} : x ∈ L.take k ++ s :: L.drop k ↔ x ∈ L ∨ x = s := by
  have : x ∈ L ↔ x ∈ L.take k ∨ x ∈ L.drop k := by rw [← List.mem_append, List.take_append_drop]
  rw [List.mem_append, List.mem_cons, this]
  constructor
  · rintro (h | h | h)
    · exact .inl (.inl h)
    · exact .inr h
    · exact .inl (.inr h)
  · rintro ((h | h) | h)
    · exact .inl h
    · exact .inr (.inr h)
    · exact .inr (.inl h)
theorem ins_at {α : Type} {l : List α} {k : Nat} (hk : k ≤ l.length) (x : α) (i : Nat) : (l.take k ++ x :: l.drop k)[i]? = if i < k then l[i]? else if i = k then some x else l[i - 1]? := by
  have hlk : (l.take k).length = k := by rw [List.length_take]; omega
  by_cases h1 : i < k
  · rw [if_pos h1, List.getElem?_append_left (by omega), List.getElem?_take, if_pos h1]
  · rw [if_neg h1, List.getElem?_append_right (by omega), hlk]
    by_cases h2 : i = k
    · subst h2; simp
    · rw [if_neg h2]
      obtain ⟨d, hd⟩ : ∃ d, i - k = d + 1 := ⟨i - k - 1, by omega⟩
      rw [hd, List.getElem?_cons_succ, List.getElem?_drop]
      congr 1; omega
theorem OwnR.insert {B k : Nat} {w w' : World} {u v a : Value} {L : List Value} {zz : List (List Int)} {s : List Int} (h : OwnR B w.heap.size w u L zz) (hb : Below w.heap.size w w') (hk : k ≤ zz.length) (hB : B ≤ w.heap.size)
    (hr : w'.ownsRow w.heap.size 38 1 v (zz.length + 1) (L.take k ++ a :: L.drop k)) (ha : OwnI w.heap.size w' a s) (hne : ∀ g, a.ownBlock = some g → v.ownBlock ≠ some g) :
    OwnR B w'.heap.size w' v (L.take k ++ a :: L.drop k) (zz.take k ++ s :: zz.drop k) := by
  have hkL : k ≤ L.length := by rw [h.len]; exact hk
  have hlen : (zz.take k ++ s :: zz.drop k).length = zz.length + 1 := by rw [List.length_append, List.length_cons, List.length_take, List.length_drop]; omega
  have hlenL : (L.take k ++ a :: L.drop k).length = L.length + 1 := by rw [List.length_append, List.length_cons, List.length_take, List.length_drop]; omega
  have spl : ∀ (i : Nat) (x : Value), (L.take k ++ a :: L.drop k)[i]? = some x → (i = k ∧ x = a) ∨ ∃ i0, L[i0]? = some x ∧ (zz.take k ++ s :: zz.drop k)[i]? = zz[i0]? ∧ ((i < k ∧ i0 = i) ∨ (k < i ∧ i0 + 1 = i)) := fun i x hx => by
    rw [ins_at hkL] at hx
    rw [ins_at hk]
    by_cases h1 : i < k
    · rw [if_pos h1] at hx ⊢; exact .inr ⟨i, hx, rfl, .inl ⟨h1, rfl⟩⟩
    · rw [if_neg h1] at hx ⊢
      by_cases h2 : i = k
      · rw [if_pos h2] at hx; exact .inl ⟨h2, by injection hx with e; exact e.symm⟩
      · rw [if_neg h2] at hx ⊢; exact .inr ⟨i - 1, hx, rfl, .inr ⟨by omega, by omega⟩⟩
  have hag : ∀ g, a.ownBlock = some g → w.heap.size ≤ g ∧ g < w'.heap.size := fun g hg => ha.out.lt g hg
  refine ⟨by rw [hlenL, hlen, h.len], by rw [hlen]; exact ownsRow_mono hr hB, fun i x ys h1 h2 => ?_, fun i x g h1 h2 h3 => ?_, fun i j x y g h1 h2 h3 h4 => ?_, Nat.le_refl _, fun g hg => (hr.lt g hg).2, fun i x g h1 h2 => ?_⟩
  · rcases spl i x h1 with ⟨rfl, rfl⟩ | ⟨i0, hx, hz, _⟩
    · rw [ins_at hk, if_neg (by omega), if_pos rfl] at h2
      injection h2 with e; subst e
      exact ha.mono hB
    · rw [hz] at h2
      exact (h.own i0 x ys hx h2).on hb
  · rcases spl i x h1 with ⟨rfl, rfl⟩ | ⟨i0, hx, hz, _⟩
    · exact hne g h2 h3
    · have := h.tops i0 x g hx h2; have := (hr.lt g h3).1; omega
  · rcases spl i x h1 with ⟨rfl, rfl⟩ | ⟨i0, hx, _, hi⟩
    · rcases spl j y h2 with ⟨rfl, rfl⟩ | ⟨j0, hy, _, hj⟩
      · rfl
      · have := h.tops j0 y g hy h4; have := hag g h3; omega
    · rcases spl j y h2 with ⟨rfl, rfl⟩ | ⟨j0, hy, _, hj⟩
      · have := h.tops i0 x g hx h3; have := hag g h4; omega
      · have := h.sep i0 j0 x y g hx hy h3 h4; omega
  · rcases spl i x h1 with ⟨rfl, rfl⟩ | ⟨i0, hx, _, _⟩
    · exact (hag g h2).2
    · have := h.tops i0 x g hx h2; have := hb.size; omega
/-- A complex of the model's own: its cell, and the rows in blocks of their own. -/
def CpS (B cb : Nat) (w : World) (yy : List (List Int)) : Prop :=
  ∃ g cap L, PtC w cb (.slice (some ⟨g, 0, none⟩) yy.length cap) ∧ w.frozen? ⟨cb, 0, none⟩ = false ∧ OwnR B w.heap.size w (.slice (some ⟨g, 0, none⟩) yy.length cap) L yy ∧ yy.length ≤ cap ∧ cap ≤ maxLen ∧ g ≠ cb ∧ ∀ u ∈ L, u.ownBlock ≠ some cb
theorem CpS.on {B cb : Nat} {w w' : World} {yy : List (List Int)} (h : CpS B cb w yy) (hb : Below w.heap.size w w') : CpS B cb w' yy := by
  obtain ⟨g, cap, L, p, f, o, r⟩ := h
  exact ⟨g, cap, L, p.on hb, (hb.frozen (p := ⟨cb, 0, none⟩) p.1).trans f, (o.on hb).wide hb.size (Nat.le_refl _), r⟩
theorem OwnR.rowsAt {B : Nat} {w : World} {v : Value} {L : List Value} {zz : List (List Int)} (h : OwnR B w.heap.size w v L zz) (hc : Cpx zz) : RowsAt w v zz :=
  h.at (by have := hc.len; omega) fun z hz => by have := (hc.sim z hz).le; omega
theorem OwnR.ones {B E : Nat} {w : World} {v : Value} {L : List Value} {zz : List (List Int)} (h : OwnR B E w v L zz) : ∀ u ∈ L, u.oneCell' = true := fun u hu => by
  obtain ⟨i, hi, rfl⟩ := List.getElem_of_mem hu
  have hz : i < zz.length := by rw [← h.len]; exact hi
  obtain ⟨a, c, e⟩ := (h.own i L[i] zz[i] (List.getElem?_eq_getElem hi) (List.getElem?_eq_getElem hz)).slice
  rw [e]; rfl
theorem OwnR.srcTake {B g n cap k : Nat} {w : World} {L : List Value} {zz : List (List Int)} (h : OwnR B w.heap.size w (.slice (some ⟨g, 0, none⟩) n cap) L zz) (hn : n = zz.length) (hl : zz.length ≤ 1048576) (hk : k ≤ n) : SrcAt w (.slice (some ⟨g, 0, none⟩) k cap) (L.take k) := by
  subst hn
  have hL := h.len
  refine ⟨_, cap, by rw [List.length_take]; congr 1; omega, by rw [List.length_take]; omega, .inr ⟨g, 0, rfl, .inr (h.row.lt g rfl).2, fun j u hj => ?_⟩⟩
  rw [List.getElem?_take] at hj
  split at hj
  · rw [Nat.zero_add, World.ownsRow.cellAt h.row j (by have := (List.getElem?_eq_some_iff.1 hj).1; omega)]; exact hj
  · cases hj
theorem OwnR.srcDrop {B g n cap k : Nat} {w : World} {L : List Value} {zz : List (List Int)} (h : OwnR B w.heap.size w (.slice (some ⟨g, 0, none⟩) n cap) L zz) (hn : n = zz.length) (hl : zz.length ≤ 1048576) (hk : k ≤ n) : SrcAt w (.slice (some ⟨g, k, none⟩) (n - k) (cap - k)) (L.drop k) := by
  subst hn
  have hL := h.len
  refine ⟨_, cap - k, by rw [List.length_drop, hL], by rw [List.length_drop]; omega, .inr ⟨g, k, rfl, .inr (h.row.lt g rfl).2, fun j u hj => ?_⟩⟩
  rw [List.getElem?_drop] at hj
  rw [World.ownsRow.cellAt h.row (k + j) (by have := (List.getElem?_eq_some_iff.1 hj).1; omega)]; exact hj
end Go.Proofs.YtljmfpifhbfdcaaDoor
