/-
  Slices of slices of int64: what they read as, and such slices of the call's own: each row in a block of its own.
-/
import Derived.Test.YtdihcmohpbgmmaaDoorPB
namespace Go.Proofs.YtdihcmohpbgmmaaDoor
open Go.RowKit
set_option linter.unusedVariables false

/-- All numbers of some rows, counted. -/
def tot : List (List Int) → Nat
  | [] => 0
  | z :: zz => z.length + tot zz
theorem tot_append (a b : List (List Int)) : tot (a ++ b) = tot a + tot b := by
  induction a with
  | nil => simp [tot]
  | cons z zz ih => simp only [List.cons_append, tot]; omega
theorem tot_take_succ (zz : List (List Int)) (k : Nat) (h : k < zz.length) : tot (zz.take (k + 1)) = tot (zz.take k) + zz[k].length := by
  rw [List.take_succ_eq_append_getElem h, tot_append]; simp [tot]
theorem tot_take_le (zz : List (List Int)) : ∀ k, tot (zz.take k) ≤ tot zz := fun k => by
  have := tot_append (zz.take k) (zz.drop k)
  rw [List.take_append_drop] at this; omega
theorem tot_row_le (zz : List (List Int)) (k : Nat) (h : k < zz.length) : zz[k].length ≤ tot zz := by
  have := tot_take_le zz (k + 1)
  rw [tot_take_succ zz k h] at this; omega
/-- A slice of slices that reads as the rows zz. -/
def RowsAt (w : World) (v : Value) (zz : List (List Int)) : Prop :=
  ∃ a cap, v = .slice a zz.length cap ∧ zz.length ≤ 1048576 ∧ (zz = [] ∨ ∃ b off, a = some ⟨b, off, none⟩ ∧ b < w.heap.size ∧ ∀ i (h : i < zz.length), ∃ u, w.cell? ⟨b, off + i, none⟩ = some u ∧ IntsAt w u zz[i])
theorem RowsAt.on {w w' : World} {v : Value} {zz : List (List Int)} (h : RowsAt w v zz) (hb : Below w.heap.size w w') : RowsAt w' v zz := by
  obtain ⟨a, cap, rfl, hl, rfl | ⟨b, off, rfl, hbk, hc⟩⟩ := h
  · exact ⟨a, cap, rfl, hl, .inl rfl⟩
  · refine ⟨_, cap, rfl, hl, .inr ⟨b, off, rfl, Nat.lt_of_lt_of_le hbk hb.size, fun i hi => ?_⟩⟩
    obtain ⟨u, h1, h2⟩ := hc i hi
    exact ⟨u, (hb.cell (p := ⟨b, off + i, none⟩) hbk).trans h1, h2.on hb⟩
theorem RowsAt.drew {w : World} {v : Value} {zz : List (List Int)} (h : RowsAt w v zz) : RowsAt w.drew v zz := h
theorem RowsAt.drewN {w : World} {v : Value} {zz : List (List Int)} (h : RowsAt w v zz) (n : Nat) : RowsAt (w.drewN n) v zz := h
theorem IntsAt.slice {w : World} {v : Value} {zs : List Int} (h : IntsAt w v zs) : ∃ a cap, v = .slice a zs.length cap := by
  obtain ⟨a, cap, rfl, _⟩ := h; exact ⟨a, cap, rfl⟩
theorem RowsAt.slice {w : World} {v : Value} {zz : List (List Int)} (h : RowsAt w v zz) : ∃ a cap, v = .slice a zz.length cap := by
  obtain ⟨a, cap, rfl, _⟩ := h; exact ⟨a, cap, rfl⟩
/-- A slice of slices in memory of the call's own, from block B on and before E: each row in a block of its own. -/
structure OwnR (B E : Nat) (w : World) (v : Value) (L : List Value) (zz : List (List Int)) : Prop where
  len : L.length = zz.length
  row : w.ownsRow B 40 1 v zz.length L
  own : ∀ (i : Nat) (u : Value) (zs : List Int), L[i]? = some u → zz[i]? = some zs → OwnI B w u zs
  off : ∀ (i : Nat) (u : Value) (g : Nat), L[i]? = some u → u.ownBlock = some g → v.ownBlock ≠ some g
  sep : ∀ (i j : Nat) (u x : Value) (g : Nat), L[i]? = some u → L[j]? = some x → u.ownBlock = some g → x.ownBlock = some g → i = j
  le : E ≤ w.heap.size
  top : ∀ (g : Nat), v.ownBlock = some g → g < E
  tops : ∀ (i : Nat) (u : Value) (g : Nat), L[i]? = some u → u.ownBlock = some g → g < E
def OwnRX (B E : Nat) (w : World) (v : Value) (zz : List (List Int)) : Prop := ∃ L, OwnR B E w v L zz
theorem OwnI.fr {B B' E' : Nat} {w w' : World} {v : Value} {zs : List Int} (h : OwnI B w v zs) (f : Fr B' E' w w') (hd : ∀ g, v.ownBlock = some g → g < B' ∨ E' ≤ g) : OwnI B w' v zs := by
  obtain ⟨hx, ⟨rfl, hn⟩ | ⟨g, cap, cur, rfl, hB, hcur, r⟩⟩ := h
  · exact ⟨hx, .inl ⟨rfl, hn⟩⟩
  · refine ⟨hx, .inr ⟨g, cap, cur, rfl, hB, ?_, r⟩⟩
    rw [f.2.2.2.2 g (Array.getElem?_eq_some_iff.1 hcur).1 (hd g rfl)]; exact hcur
theorem ownsRow_fr {B B' E' n s : Nat} {t : TypeId} {w w' : World} {v : Value} {xs : List Value} (h : w.ownsRow B t s v n xs) (f : Fr B' E' w w') (hd : ∀ g, v.ownBlock = some g → g < B' ∨ E' ≤ g) : w'.ownsRow B t s v n xs := by
  obtain ⟨hx, ⟨rfl, hn⟩ | ⟨g, cap, cur, rfl, hB, hcur, r⟩⟩ := h
  · exact ⟨hx, .inl ⟨rfl, hn⟩⟩
  · refine ⟨hx, .inr ⟨g, cap, cur, rfl, hB, ?_, r⟩⟩
    rw [f.2.2.2.2 g (Array.getElem?_eq_some_iff.1 hcur).1 (hd g rfl)]; exact hcur
theorem ownsRow_on {B n s : Nat} {t : TypeId} {w w' : World} {v : Value} {xs : List Value} (h : w.ownsRow B t s v n xs) (hb : Below w.heap.size w w') : w'.ownsRow B t s v n xs := by
  obtain ⟨hx, ⟨rfl, hn⟩ | ⟨g, cap, cur, rfl, hB, hcur, r⟩⟩ := h
  · exact ⟨hx, .inl ⟨rfl, hn⟩⟩
  · refine ⟨hx, .inr ⟨g, cap, cur, rfl, hB, ?_, r⟩⟩
    rw [hb.block g (Array.getElem?_eq_some_iff.1 hcur).1]; exact hcur
theorem ownsRow_mono {B C n s : Nat} {t : TypeId} {w : World} {v : Value} {xs : List Value} (h : w.ownsRow B t s v n xs) (hC : C ≤ B) : w.ownsRow C t s v n xs := by
  obtain ⟨hx, h | ⟨g, cap, cur, e, hB, r⟩⟩ := h
  · exact ⟨hx, .inl h⟩
  · exact ⟨hx, .inr ⟨g, cap, cur, e, Nat.le_trans hC hB, r⟩⟩
theorem OwnR.on {B E : Nat} {w w' : World} {v : Value} {L : List Value} {zz : List (List Int)} (h : OwnR B E w v L zz) (hb : Below w.heap.size w w') : OwnR B E w' v L zz :=
  ⟨h.len, ownsRow_on h.row hb, fun i u zs h1 h2 => (h.own i u zs h1 h2).on hb, h.off, h.sep, Nat.le_trans h.le hb.size, h.top, h.tops⟩
theorem OwnR.mono {B C E : Nat} {w : World} {v : Value} {L : List Value} {zz : List (List Int)} (h : OwnR B E w v L zz) (hC : C ≤ B) : OwnR C E w v L zz :=
  ⟨h.len, ownsRow_mono h.row hC, fun i u zs h1 h2 => (h.own i u zs h1 h2).mono hC, h.off, h.sep, h.le, h.top, h.tops⟩
theorem OwnR.wide {B E F : Nat} {w : World} {v : Value} {L : List Value} {zz : List (List Int)} (h : OwnR B E w v L zz) (hF : E ≤ F) (hw : F ≤ w.heap.size) : OwnR B F w v L zz :=
  ⟨h.len, h.row, h.own, h.off, h.sep, hw, fun g hg => Nat.lt_of_lt_of_le (h.top g hg) hF, fun i u g h1 h2 => Nat.lt_of_lt_of_le (h.tops i u g h1 h2) hF⟩
theorem OwnR.lo {B E : Nat} {w : World} {v : Value} {L : List Value} {zz : List (List Int)} (h : OwnR B E w v L zz) {i : Nat} {u : Value} {g : Nat} (h1 : L[i]? = some u) (h2 : u.ownBlock = some g) : B ≤ g ∧ g < w.heap.size := by
  have hi : i < zz.length := by rw [← h.len]; exact (List.getElem?_eq_some_iff.1 h1).1
  exact (h.own i u zz[i] h1 (List.getElem?_eq_getElem hi)).out.lt g h2
theorem OwnR.fr {B E B' E' : Nat} {w w' : World} {v : Value} {L : List Value} {zz : List (List Int)} (h : OwnR B E w v L zz) (f : Fr B' E' w w') (hd : E ≤ B' ∨ E' ≤ B) : OwnR B E w' v L zz := by
  refine ⟨h.len, ownsRow_fr h.row f fun g hg => ?_, fun i u zs h1 h2 => (h.own i u zs h1 h2).fr f fun g hg => ?_, h.off, h.sep, Nat.le_trans h.le f.2.2.2.1, h.top, h.tops⟩
  · have h1 := (h.row.lt g hg).1
    have h2 := h.top g hg
    omega
  · have h3 := (h.lo h1 hg).1
    have h4 := h.tops i u g h1 hg
    omega
theorem OwnR.slice {B E : Nat} {w : World} {v : Value} {L : List Value} {zz : List (List Int)} (h : OwnR B E w v L zz) : ∃ a cap, v = .slice a zz.length cap := by
  obtain ⟨_, ⟨rfl, hn⟩ | ⟨g, cap, cur, rfl, _⟩⟩ := h.row
  · exact ⟨none, 0, by rw [hn]⟩
  · exact ⟨_, cap, rfl⟩
theorem OwnR.form {B E : Nat} {w : World} {v : Value} {L : List Value} {zz : List (List Int)} (h : OwnR B E w v L zz) : zz = [] ∧ v = .slice none 0 0 ∨
    ∃ g cap, v = .slice (some ⟨g, 0, none⟩) zz.length cap ∧ B ≤ g ∧ g < E ∧ g < w.heap.size ∧ ∀ j u, L[j]? = some u → w.cell? ⟨g, j, none⟩ = some u := by
  obtain ⟨hx, ⟨rfl, hn⟩ | ⟨g, cap, cur, rfl, hg, hcur, r⟩⟩ := h.row
  · exact .inl ⟨List.eq_nil_of_length_eq_zero hn, rfl⟩
  · refine .inr ⟨g, cap, rfl, hg, h.top g rfl, (Array.getElem?_eq_some_iff.1 hcur).1, fun j u hj => ?_⟩
    have hjl : j < zz.length := by rw [← h.len]; exact (List.getElem?_eq_some_iff.1 hj).1
    rw [World.ownsRow.cellAt h.row j (by omega)]; exact hj
theorem OwnR.at {B E : Nat} {w : World} {v : Value} {L : List Value} {zz : List (List Int)} (h : OwnR B E w v L zz) (hl : zz.length ≤ 1048576) (ht : ∀ zs ∈ zz, zs.length ≤ 1048576) : RowsAt w v zz := by
  rcases h.form with ⟨rfl, rfl⟩ | ⟨g, cap, rfl, _, _, hg, hc⟩
  · exact ⟨none, 0, rfl, hl, .inl rfl⟩
  · refine ⟨_, cap, rfl, hl, .inr ⟨g, 0, rfl, hg, fun i hi => ?_⟩⟩
    have hi' : i < L.length := by rw [h.len]; exact hi
    refine ⟨L[i], by rw [Nat.zero_add]; exact hc i _ (List.getElem?_eq_getElem hi'), (h.own i _ _ (List.getElem?_eq_getElem hi') (List.getElem?_eq_getElem hi)).at (ht _ (List.getElem_mem hi))⟩
/-- How many numbers rows may have. -/
def FitR (zz : List (List Int)) : Prop := zz.length ≤ 1048576 ∧ tot zz ≤ 1048576
theorem mem_tot {zz : List (List Int)} {zs : List Int} (h : zs ∈ zz) : zs.length ≤ tot zz := by
  obtain ⟨i, hi, rfl⟩ := List.getElem_of_mem h
  exact tot_row_le zz i hi
theorem FitR.row {zz : List (List Int)} (h : FitR zz) : ∀ zs ∈ zz, zs.length ≤ 1048576 := fun zs hz => Nat.le_trans (mem_tot hz) h.2
theorem OwnRX.at {B E : Nat} {w : World} {v : Value} {zz : List (List Int)} (h : OwnRX B E w v zz) (hl : FitR zz) : RowsAt w v zz := by
  obtain ⟨L, h⟩ := h; exact h.at hl.1 hl.row
theorem OwnRX.on {B E : Nat} {w w' : World} {v : Value} {zz : List (List Int)} (h : OwnRX B E w v zz) (hb : Below w.heap.size w w') : OwnRX B E w' v zz := by
  obtain ⟨L, h⟩ := h; exact ⟨L, h.on hb⟩
theorem OwnRX.fr {B E B' E' : Nat} {w w' : World} {v : Value} {zz : List (List Int)} (h : OwnRX B E w v zz) (f : Fr B' E' w w') (hd : E ≤ B' ∨ E' ≤ B) : OwnRX B E w' v zz := by
  obtain ⟨L, h⟩ := h; exact ⟨L, h.fr f hd⟩
theorem OwnRX.drewN {B E : Nat} {w : World} {v : Value} {zz : List (List Int)} (h : OwnRX B E w v zz) (n : Nat) : OwnRX B E (w.drewN n) v zz := by
  obtain ⟨L, h⟩ := h; exact ⟨L, h.len, h.row, h.own, h.off, h.sep, h.le, h.top, h.tops⟩
theorem OwnRX.alloc {B E : Nat} {w : World} {v : Value} {zz : List (List Int)} (h : OwnRX B E w v zz) (o : Obj) : OwnRX B E (w.alloc o) v zz := h.on ((Below.refl _ _).alloc (Nat.le_refl _) o)
theorem OwnRX.slice {B E : Nat} {w : World} {v : Value} {zz : List (List Int)} (h : OwnRX B E w v zz) : ∃ a cap, v = .slice a zz.length cap := by
  obtain ⟨L, h⟩ := h; exact h.slice
theorem OwnRX.mono {B C E : Nat} {w : World} {v : Value} {zz : List (List Int)} (h : OwnRX B E w v zz) (hC : C ≤ B) : OwnRX C E w v zz := by
  obtain ⟨L, h⟩ := h; exact ⟨L, h.mono hC⟩
theorem OwnRX.wide {B E F : Nat} {w : World} {v : Value} {zz : List (List Int)} (h : OwnRX B E w v zz) (hF : E ≤ F) (hw : F ≤ w.heap.size) : OwnRX B F w v zz := by
  obtain ⟨L, h⟩ := h; exact ⟨L, h.wide hF hw⟩
/-- Rows of the call's own, whatever the heap has grown to. -/
def OwnRI (B : Nat) (w : World) (v : Value) (zz : List (List Int)) : Prop := OwnRX B w.heap.size w v zz
theorem OwnRI.on {B : Nat} {w w' : World} {v : Value} {zz : List (List Int)} (h : OwnRI B w v zz) (hb : Below w.heap.size w w') : OwnRI B w' v zz := (OwnRX.on h hb).wide hb.size (Nat.le_refl _)
theorem OwnRI.slice {B : Nat} {w : World} {v : Value} {zz : List (List Int)} (h : OwnRI B w v zz) : ∃ a cap, v = .slice a zz.length cap := OwnRX.slice h
theorem OwnRI.mono {B C : Nat} {w : World} {v : Value} {zz : List (List Int)} (h : OwnRI B w v zz) (hC : C ≤ B) : OwnRI C w v zz := OwnRX.mono h hC
theorem OwnRX.of {B C : Nat} {w : World} {v : Value} {zz : List (List Int)} (h : OwnRI B w v zz) (hC : C ≤ B) : OwnRX C w.heap.size w v zz := OwnRX.mono h hC
theorem OwnRI.at {B : Nat} {w : World} {v : Value} {zz : List (List Int)} (h : OwnRI B w v zz) (hl : FitR zz) : RowsAt w v zz := OwnRX.at h hl
theorem OwnRI.nul (B : Nat) (w : World) : OwnRI B w (.slice none 0 0) [] :=
  ⟨[], rfl, World.ownsRow_nil _ _ _ _, fun i u zs h _ => by simp at h, fun i u g h _ => by simp at h, fun i j u x g h _ _ _ => by simp at h, Nat.le_refl _, fun g h => by simp [Value.ownBlock] at h, fun i u g h _ => by simp at h⟩
/-- A row more at the end. -/
theorem OwnRI.push {B : Nat} {w w1 w2 : World} {v v2 u : Value} {zz : List (List Int)} {zs : List Int} {o : Obj} {L : List Value} (h : OwnR B w.heap.size w v L zz) (hu : OwnI w.heap.size w1 u zs) (hb : Below w.heap.size w w1) (hB : B ≤ w.heap.size)
    (hr : w2.ownsRow B 40 1 v2 (zz.length + 1) (L ++ [u])) (hg : (w1.alloc o).grownBy w2 v.ownBlock) (hv : ∀ g, v2.ownBlock = some g → v.ownBlock = some g ∨ w1.heap.size ≤ g) : OwnRI B w2 v2 (zz ++ [zs]) := by
  have hs1 := hb.size
  have hs2 := hg.size
  rw [World.size_alloc] at hs2
  have kept : ∀ (x : Value) (ys : List Int), OwnI B w1 x ys → (∀ g, x.ownBlock = some g → v.ownBlock ≠ some g) → OwnI B w2 x ys := fun x ys hx hne => by
    have hx' := World.ownsRow.alloc hx.out o
    refine hx'.kept hg ?_
    cases hxo : x.ownBlock with
    | none => exact .inl rfl
    | some g => exact .inr (fun e => hne g hxo e.symm)
  have lo : ∀ (i : Nat) (x : Value) (g : Nat), L[i]? = some x → x.ownBlock = some g → g < w.heap.size := fun i x g h1 h2 => (h.lo h1 h2).2
  have hug : ∀ g, u.ownBlock = some g → w.heap.size ≤ g ∧ g < w1.heap.size := fun g hg => hu.out.lt g hg
  have hvg : ∀ g, v.ownBlock = some g → g < w.heap.size := fun g hg => (h.row.lt g hg).2
  have spl : ∀ (i : Nat) (x : Value), (L ++ [u])[i]? = some x → L[i]? = some x ∨ (i = L.length ∧ x = u) := fun i x hx => by
    rcases Nat.lt_trichotomy i L.length with hi | hi | hi
    · rw [List.getElem?_append_left hi] at hx; exact .inl hx
    · subst hi; rw [List.getElem?_append_right (Nat.le_refl _)] at hx; simp at hx; exact .inr ⟨rfl, hx.symm⟩
    · rw [List.getElem?_append_right (by omega)] at hx
      have : i - L.length ≠ 0 := by omega
      obtain ⟨k, hk⟩ : ∃ k, i - L.length = k + 1 := ⟨i - L.length - 1, by omega⟩
      rw [hk] at hx; simp at hx
  refine ⟨L ++ [u], by simp [h.len], by simpa using hr, fun i x ys h1 h2 => ?_, fun i x g h1 h2 h3 => ?_, fun i j x y g h1 h2 h3 h4 => ?_, Nat.le_refl _, fun g hg => (hr.lt g hg).2, fun i x g h1 h2 => ?_⟩
  · rcases spl i x h1 with h1' | ⟨rfl, rfl⟩
    · have hi : i < zz.length := by rw [← h.len]; exact (List.getElem?_eq_some_iff.1 h1').1
      rw [List.getElem?_append_left hi] at h2
      exact kept x ys ((h.own i x ys h1' h2).on hb) fun g hg => h.off i x g h1' hg
    · rw [h.len, List.getElem?_append_right (Nat.le_refl _)] at h2
      simp at h2
      subst h2
      exact kept x zs (hu.mono hB) fun g hg e => by have := (hug g hg).1; have := hvg g e; omega
  · rcases spl i x h1 with h1' | ⟨rfl, rfl⟩
    · rcases hv g h3 with e | e
      · exact h.off i x g h1' h2 e
      · have := lo i x g h1' h2; omega
    · have := hug g h2
      rcases hv g h3 with e | e
      · have := hvg g e; omega
      · omega
  · rcases spl i x h1 with h1' | ⟨rfl, rfl⟩
    · rcases spl j y h2 with h2' | ⟨rfl, rfl⟩
      · exact h.sep i j x y g h1' h2' h3 h4
      · have := lo i x g h1' h3; have := hug g h4; omega
    · rcases spl j y h2 with h2' | ⟨rfl, rfl⟩
      · have := lo j y g h2' h4; have := hug g h3; omega
      · rfl
  · rcases spl i x h1 with h1' | ⟨rfl, rfl⟩
    · have := lo i x g h1' h2; omega
    · have := hug g h2; omega
/-! ### Rows that came in -/
/-- A slice that reads as the numbers zs, whatever its length. -/
def IntsRaw (w : World) (v : Value) (zs : List Int) : Prop :=
  ∃ a cap, v = .slice a zs.length cap ∧ zs.length ≤ 9223372036854775807 ∧ (zs = [] ∨ ∃ b off, a = some ⟨b, off, none⟩ ∧ b < w.heap.size ∧ ∀ j (h : j < zs.length), w.cell? ⟨b, off + j, none⟩ = some (.int .i64 zs[j]))
def RowsRaw (w : World) (v : Value) (zz : List (List Int)) : Prop :=
  ∃ a cap, v = .slice a zz.length cap ∧ zz.length ≤ 9223372036854775807 ∧ (zz = [] ∨ ∃ b off, a = some ⟨b, off, none⟩ ∧ b < w.heap.size ∧ ∀ i (h : i < zz.length), ∃ u, w.cell? ⟨b, off + i, none⟩ = some u ∧ IntsRaw w u zz[i])
theorem IntsRaw.on {w w' : World} {v : Value} {zs : List Int} (h : IntsRaw w v zs) (hb : Below w.heap.size w w') : IntsRaw w' v zs := by
  obtain ⟨a, cap, rfl, hl, rfl | ⟨b, off, rfl, hbk, hc⟩⟩ := h
  · exact ⟨a, cap, rfl, hl, .inl rfl⟩
  · exact ⟨_, cap, rfl, hl, .inr ⟨b, off, rfl, Nat.lt_of_lt_of_le hbk hb.size, fun j hj => (hb.cell (p := ⟨b, off + j, none⟩) hbk).trans (hc j hj)⟩⟩
theorem RowsRaw.on {w w' : World} {v : Value} {zz : List (List Int)} (h : RowsRaw w v zz) (hb : Below w.heap.size w w') : RowsRaw w' v zz := by
  obtain ⟨a, cap, rfl, hl, rfl | ⟨b, off, rfl, hbk, hc⟩⟩ := h
  · exact ⟨a, cap, rfl, hl, .inl rfl⟩
  · refine ⟨_, cap, rfl, hl, .inr ⟨b, off, rfl, Nat.lt_of_lt_of_le hbk hb.size, fun i hi => ?_⟩⟩
    obtain ⟨u, h1, h2⟩ := hc i hi
    exact ⟨u, (hb.cell (p := ⟨b, off + i, none⟩) hbk).trans h1, h2.on hb⟩
theorem RowsRaw.drewN {w : World} {v : Value} {zz : List (List Int)} (h : RowsRaw w v zz) (n : Nat) : RowsRaw (w.drewN n) v zz := h
theorem IntsRaw.at {w : World} {v : Value} {zs : List Int} (h : IntsRaw w v zs) (hl : zs.length ≤ 1048576) : IntsAt w v zs := by
  obtain ⟨a, cap, rfl, _, h⟩ := h
  exact ⟨a, cap, rfl, hl, h⟩
theorem RowsRaw.at {w : World} {v : Value} {zz : List (List Int)} (h : RowsRaw w v zz) (hl : zz.length ≤ 1048576) (ht : tot zz ≤ 1048576) : RowsAt w v zz := by
  obtain ⟨a, cap, rfl, _, h | ⟨b, off, rfl, hb, hc⟩⟩ := h
  · exact ⟨a, cap, rfl, hl, .inl h⟩
  · refine ⟨_, cap, rfl, hl, .inr ⟨b, off, rfl, hb, fun i hi => ?_⟩⟩
    obtain ⟨u, h1, h2⟩ := hc i hi
    exact ⟨u, h1, h2.at (Nat.le_trans (tot_row_le zz i hi) ht)⟩
theorem IntsAt.raw {w : World} {v : Value} {zs : List Int} (h : IntsAt w v zs) : IntsRaw w v zs := by
  obtain ⟨a, cap, rfl, hl, h⟩ := h
  exact ⟨a, cap, rfl, by omega, h⟩
theorem RowsAt.raw {w : World} {v : Value} {zz : List (List Int)} (h : RowsAt w v zz) : RowsRaw w v zz := by
  obtain ⟨a, cap, rfl, hl, h | ⟨b, off, rfl, hb, hc⟩⟩ := h
  · exact ⟨a, cap, rfl, by omega, .inl h⟩
  · refine ⟨_, cap, rfl, by omega, .inr ⟨b, off, rfl, hb, fun i hi => ?_⟩⟩
    obtain ⟨u, h1, h2⟩ := hc i hi
    exact ⟨u, h1, h2.raw⟩
theorem RowsRaw.slice {w : World} {v : Value} {zz : List (List Int)} (h : RowsRaw w v zz) : ∃ a cap, v = .slice a zz.length cap := by
  obtain ⟨a, cap, rfl, _⟩ := h; exact ⟨a, cap, rfl⟩
theorem RowsRaw.len {w : World} {v : Value} {zz : List (List Int)} (h : RowsRaw w v zz) : zz.length ≤ 9223372036854775807 := by
  obtain ⟨a, cap, rfl, hl, _⟩ := h; exact hl
theorem own_le {B E : Nat} {w : World} {v : Value} {zz : List (List Int)} (h : OwnRX B E w v zz) : E ≤ w.heap.size := by
  obtain ⟨L, h⟩ := h; exact h.le
theorem rowsRaw_nil (w : World) : RowsRaw w (.slice none 0 0) [] := ⟨none, 0, rfl, Nat.zero_le _, .inl rfl⟩
theorem addr_spot {w : World} {x : Addr} {v : Value} (h : w.cell? x = some v) : ∃ b off, x = ⟨b, off, none⟩ ∧ b < w.heap.size := by
  obtain ⟨b, off, spot⟩ := x
  have hs : spot = none := by simpa using World.cell?_spot h
  subst hs
  exact ⟨b, off, rfl, World.block_lt_of_cell? w _ h⟩
theorem rowsRaw_in {w : World} {a : Addr} {len cap base : Nat} {A : Nat → Option Addr} {L C : Nat → Nat} {Z : Nat → List Int} (hl : len ≤ cap) (hm : cap ≤ maxLen)
    (h : ∀ r, r < cap → w.cell? (a.add r) = some (.slice (A r) (L r) (C r)) ∧ L r ≤ C r ∧ C r ≤ maxLen ∧ (Z r).length = C r ∧ (∀ n ∈ Z r, (Lit.int .i64 n).wf = true) ∧ (A r = none → C r = 0) ∧
      ∀ a', A r = some a' → base ≤ a'.block ∧ ∀ c, c < C r → w.cell? (a'.add c) = some (.int .i64 ((Z r).getD c 0))) :
    RowsRaw w (.slice (some a) len cap) ((List.range len).map fun r => (Z r).take (L r)) := by
  have hml : len ≤ 9223372036854775807 := by unfold maxLen at hm; omega
  refine ⟨some a, cap, by simp, by simpa using hml, ?_⟩
  by_cases h0 : len = 0
  · subst h0; exact .inl rfl
  · have h1 := (h 0 (by omega)).1
    rw [show a.add 0 = a by simp [Addr.add]] at h1
    obtain ⟨b, off, rfl, hb⟩ := addr_spot h1
    refine .inr ⟨b, off, rfl, hb, fun i hi => ?_⟩
    have hi' : i < len := by simpa using hi
    obtain ⟨c1, c2, c3, c4, _, c6, c7⟩ := h i (by omega)
    rw [Addr.add_lit] at c1
    refine ⟨_, c1, ?_⟩
    have e : ((List.range len).map fun r => (Z r).take (L r))[i] = (Z i).take (L i) := by simp
    rw [e]
    have el : ((Z i).take (L i)).length = L i := by rw [List.length_take]; omega
    refine ⟨A i, C i, by rw [el], by rw [el]; unfold maxLen at c3; omega, ?_⟩
    cases hA : A i with
    | none =>
      left
      have := c6 hA
      exact List.eq_nil_of_length_eq_zero (by rw [el]; omega)
    | some a' =>
      by_cases hL : L i = 0
      · left; exact List.eq_nil_of_length_eq_zero (by rw [el]; exact hL)
      · right
        obtain ⟨_, d⟩ := c7 a' hA
        have h1 := d 0 (by omega)
        rw [show a'.add 0 = a' by simp [Addr.add]] at h1
        obtain ⟨b', off', rfl, hb'⟩ := addr_spot h1
        refine ⟨b', off', rfl, hb', fun j hj => ?_⟩
        have hj' : j < L i := by rw [el] at hj; exact hj
        have := d j (by omega)
        rw [Addr.add_lit] at this
        rw [this, List.getElem_take]
        simp [List.getD, List.getElem?_eq_getElem (show j < (Z i).length by omega)]
/-! ### An append of one value: where the row lies then -/
theorem run_append_place {P : Program} (w : World) (base : Nat) (t ty e : TypeId) (i : TypeInfo) (z : Value) (bytes : Nat) (ht : P.underlying t = some (.slice e)) (hi : P.info? e = some i) (hz : i.zero = some z)
    (hsize : i.size = 1) (hby : i.bytes = bytes) (hzs : z.cells.size = 1) (v : Value) (n : Nat) (xs : List Value) (hown : w.ownsRow base e 1 v n xs)
    (a : Addr) (c : Nat) (u : Value) (hnew : ∀ j x, [u][j]? = some x → w.cell? (a.add j) = some x) (h1 : ∀ x ∈ [u], x.oneCell' = true)
    (h63 : n + 1 ≤ maxLen) (hbytes : (n + 1) * bytes ≤ 140737488355328) (hbase : base ≤ w.heap.size) :
    ∃ v' w', (Builtin.append_ #[t, t] ty #[v, .slice (some a) 1 c]).run P w = .ok v' w' ∧ w'.ownsRow base e 1 v' (n + 1) (xs ++ [u]) ∧ w.grownBy w' v.ownBlock ∧
      ∀ g, v'.ownBlock = some g → v.ownBlock = some g ∨ w.heap.size ≤ g := by
  obtain ⟨v', w', hr, h2, h3, h4⟩ := run_append_own (P := P) w base t ty e i z 1 bytes ht hi hz hsize hby hzs (by decide) v n xs hown a 1 c [u] rfl hnew h1 h63 hbytes hbase
  refine ⟨v', w', hr, h2, h3, fun g hg => ?_⟩
  have hsmall : n + 1 ≤ 9223372036854775807 := by simp only [maxLen] at h63; omega
  subst hby
  rcases hown.2 with ⟨rfl, rfl⟩ | ⟨b, cap, cur, rfl, hbg, hcur, hnc, hcm, hcs, htake⟩
  · have hr2 := run_append_nil (P := P) w t ty e i z ht hi hz a 1 c [u] (by rw [hsize]; rfl) hnew (by omega) (by omega) (by have hb := hbytes; simp only [Nat.zero_add] at hb; omega)
    have e := hr.symm.trans hr2
    simp only [Result.ok.injEq] at e
    rw [e.1] at hg
    simp [Value.ownBlock] at hg
    exact .inr (by omega)
  · by_cases hroom : n + 1 ≤ cap
    · have hr2 := run_append_room (P := P) w t ty e i ht hi b n cap cur hcur a 1 c [u] (by rw [hsize]; rfl) hnew h1 hroom (by rw [hsize]; simp; omega)
      have e := hr.symm.trans hr2
      simp only [Result.ok.injEq] at e
      rw [e.1] at hg
      exact .inl hg
    · have holds : ∀ j x, xs[j]? = some x → w.cell? ((⟨b, 0, none⟩ : Addr).add j) = some x := hown.cells (g := b) rfl
      have hr2 := run_append_grow (P := P) w t ty e i z ht hi hz ⟨b, 0, none⟩ n cap xs (by rw [hsize]; exact hown.1) holds a 1 c [u] (by rw [hsize]; rfl) hnew (by omega) (by omega) (growslice_fits (by omega) hbytes)
      have e := hr.symm.trans hr2
      simp only [Result.ok.injEq] at e
      rw [e.1] at hg
      simp [Value.ownBlock] at hg
      exact .inr (by omega)
theorem wpList_append_place {P : Program} (w : World) {ops : Array Oper} {rest : List Oper} {o : Oper} {a : Act} {Q : Exit → Act → World → Prop} (hgd : o.guard = none) (s x : Operand) (t : TypeId)
    (ho : o.op = .call { callee := .builtin .append, args := #[s, x], argTypes := #[t, t] })
    (base : Nat) (e : TypeId) (i : TypeInfo) (z : Value) (bytes : Nat) (ht : P.underlying t = some (.slice e)) (hi : P.info? e = some i) (hz : i.zero = some z)
    (hsize : i.size = 1) (hby : i.bytes = bytes) (hzs : z.cells.size = 1)
    (v : Value) (n : Nat) (xs : List Value) (hs : a.eval s = v) (hown : w.ownsRow base e 1 v n xs)
    (ad : Addr) (c : Nat) (u : Value) (hx : a.eval x = .slice (some ad) 1 c) (hnews : ∀ j y, [u][j]? = some y → w.cell? (ad.add j) = some y) (h1 : ∀ y ∈ [u], y.oneCell' = true)
    (h63 : n + 1 ≤ maxLen) (hbytes : (n + 1) * bytes ≤ 140737488355328) (hbase : base ≤ w.heap.size)
    (h : ∀ v' w', w'.ownsRow base e 1 v' (n + 1) (xs ++ [u]) → w.grownBy w' v.ownBlock → (∀ g, v'.ownBlock = some g → v.ownBlock = some g ∨ w.heap.size ≤ g) → wpList P ops Q rest (a.put o.dst v') w') : wpList P ops Q (o :: rest) a w := by
  obtain ⟨v', w', hr, h2, h3, h4⟩ := run_append_place (P := P) w base t o.type e i z bytes ht hi hz hsize hby hzs v n xs hown ad c u hnews h1 h63 hbytes hbase
  refine wpList_plain hgd fun K hK => ?_
  unfold Oper.wp
  simp [execOp, ho, resolve, invoke, builtin, hs, hx, hr, Result.andThen]
  exact hK _ _ (h v' w' h2 h3 h4)
/-- A slice that stands alone in a new block. -/
theorem row_val (w : World) (u : Value) (t : TypeId) : ∀ (j : Nat) (x : Value), [u][j]? = some x → (w.alloc (.cells #[u] t)).cell? ((⟨w.heap.size, 0, none⟩ : Addr).add j) = some x := by
  intro j x h
  rcases j with _ | j
  · simp only [List.getElem?_cons_zero, Option.some.injEq] at h
    subst h
    rw [Addr.add_lit, World.cell?_alloc_at _ _ _ _ rfl]; rfl
  · simp at h
end Go.Proofs.YtdihcmohpbgmmaaDoor
