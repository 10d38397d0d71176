/-
  SkeletonOf of the model and of the program.
  SkeletonOf of the model.
-/
import Derived.Test.YtibdcejglkhcfaaGreatDoorCzF
import Derived.Test.YtibdcejglkhcfaaGreatDoorCyM
import Derived.Deep.RegionLaw
import Derived.Deep.AppendLies
namespace Go.Proofs.YtibdcejglkhcfaaGreatDoor
open Go.RowKit
set_option linter.unusedVariables false
set_option linter.unusedSimpArgs false

/-- The simplices up to a dimension, of the first k. -/
def sklK (zz : List (List Int)) (d : Int) (k : Nat) : List (List Int) := (zz.take k).filter fun t => decide ((t.length : Int) ≤ d + 1)
theorem sklK_yes {zz : List (List Int)} {d : Int} {k : Nat} (hk : k < zz.length) (h : (zz[k].length : Int) ≤ d + 1) : sklK zz d (k + 1) = sklK zz d k ++ [zz[k]] := by
  unfold sklK; rw [List.take_succ_eq_append_getElem hk, List.filter_append]; simp [h]
theorem sklK_no {zz : List (List Int)} {d : Int} {k : Nat} (hk : k < zz.length) (h : ¬ (zz[k].length : Int) ≤ d + 1) : sklK zz d (k + 1) = sklK zz d k := by
  unfold sklK; rw [List.take_succ_eq_append_getElem hk, List.filter_append]; simp [h]
theorem sklK_len (zz : List (List Int)) (d : Int) (k : Nat) : (sklK zz d k).length ≤ k := by
  unfold sklK; exact Nat.le_trans (List.length_filter_le _ _) (by rw [List.length_take]; omega)
def SklIs (zz : List (List Int)) (d : Int) (yy : List (List Int)) (c : Int) : Prop :=
  (¬ OkC zz ∧ yy = [] ∧ c = 1) ∨ (OkC zz ∧ ¬ (0 ≤ d ∧ d ≤ 3) ∧ yy = [] ∧ c = 2) ∨ (OkC zz ∧ (0 ≤ d ∧ d ≤ 3) ∧ yy = sklK zz d zz.length ∧ c = 0)
theorem skl_has (zz : List (List Int)) (d : Int) : ∃ yy c, SklIs zz d yy c := by
  by_cases h : OkC zz
  · by_cases h1 : 0 ≤ d ∧ d ≤ 3
    · exact ⟨_, _, .inr (.inr ⟨h, h1, rfl, rfl⟩)⟩
    · exact ⟨_, _, .inr (.inl ⟨h, h1, rfl, rfl⟩)⟩
  · exact ⟨_, _, .inl ⟨h, rfl, rfl⟩⟩
theorem SklIs.fit {zz : List (List Int)} {d : Int} {yy : List (List Int)} {c : Int} (h : SklIs zz d yy c) : FitR yy := by
  rcases h with ⟨_, rfl, _⟩ | ⟨_, _, rfl, _⟩ | ⟨ho, _, rfl, _⟩
  · exact ⟨by simp, by simp [tot]⟩
  · exact ⟨by simp, by simp [tot]⟩
  · have hl := sklK_len zz d zz.length
    have h48 := ho.2
    have h4 := tot_four (zz := sklK zz d zz.length) fun z hz => by
      unfold sklK at hz
      exact (ho.1.sim z (List.mem_of_mem_take (List.mem_filter.1 hz).1)).le
    exact ⟨by omega, by omega⟩
/-- A complex that grows row by row in a variable of its own. -/
def SkS (B Lk : Nat) (w : World) (zz : List (List Int)) : Prop :=
  ∃ v L, PtC w Lk v ∧ w.frozen? ⟨Lk, 0, none⟩ = false ∧ OwnR B w.heap.size w v L zz ∧ v.ownBlock ≠ some Lk ∧ ∀ u ∈ L, u.ownBlock ≠ some Lk
theorem cloneK_any {u : Value} {zs : List Int} {w : World} (h : IntsC w u zs) (hl : zs.length ≤ 2097152) : Calls Tryz.prog 114 #[u] w fun e w' => RetL zs w e w' := by
  have hs := h.src hl
  obtain ⟨_, a, cap, rfl, h1, _, ⟨rfl, rfl⟩ | ⟨g, off, rfl⟩⟩ := h
  · obtain rfl : zs = [] := List.length_eq_zero_iff.1 (by omega)
    exact cloneI_nil w
  · refine (cloneI_some (xs := iv zs) w hs (by rw [iv_len]) iv_one).mono ?_
    rintro e w' ⟨v, rfl, ho, -, hb⟩
    have h2 : OwnI w.heap.size w' v zs := by unfold OwnI; exact ho
    exact ⟨v, rfl, h2, hb⟩
theorem sk_cell {Lk : Nat} {wr a w7 : World} {v : Value} (hg : a.grownBy w7 v.ownBlock) (p : PtC wr Lk v) (f : wr.frozen? ⟨Lk, 0, none⟩ = false) (n1 : v.ownBlock ≠ some Lk) (hb : Below wr.heap.size wr a) : w7.cell? ⟨Lk, 0, none⟩ = some v ∧ w7.frozen? ⟨Lk, 0, none⟩ = false := by
  have pa := p.on hb
  have fa := (hb.frozen (p := ⟨Lk, 0, none⟩) p.1).trans f
  have hk : w7.heap[Lk]? = a.heap[Lk]? := hg.block Lk pa.1 (fun e => n1 e.symm)
  exact ⟨by rw [World.cell?_of_block hk]; exact pa.2, by rw [World.frozen?_of_block hk]; exact fa⟩
theorem OwnR.rowZ {B E z : Nat} {w w' : World} {v : Value} {L : List Value} {zz : List (List Int)} (h : OwnR B E w v L zz) (hz : zz.length = z) (hb : Below w.heap.size w w') : w'.ownsRow B 25 1 v z L := by
  have h1 := (h.on hb).row
  rw [hz] at h1; exact h1
theorem OwnI.growing {B : Nat} {w w' : World} {v : Value} {zs : List Int} {r : Option Nat} (h : OwnI B w v zs) (hg : w.grownBy w' r) (hne : ∀ k, r = some k → v.ownBlock ≠ some k) : OwnI B w' v zs := by
  refine World.ownsRow.kept h.out hg ?_
  cases hv : v.ownBlock with
  | none => exact .inl rfl
  | some k => exact .inr fun e => hne k e.symm hv
theorem OwnR.pushM {B E : Nat} {w1 w2 : World} {v v2 u : Value} {zz : List (List Int)} {zs : List Int} {L : List Value} (h : OwnR B E w1 v L zz) (hu : OwnI E w1 u zs) (hB : B ≤ E)
    (hr : w2.ownsRow B 25 1 v2 (zz.length + 1) (L ++ [u])) (hg : w1.grownBy w2 v.ownBlock) (hv : ∀ g, v2.ownBlock = some g → v.ownBlock = some g ∨ (E ≤ g ∧ u.ownBlock ≠ some g)) : OwnR B w2.heap.size w2 v2 (L ++ [u]) (zz ++ [zs]) := by
  have hug : ∀ g, u.ownBlock = some g → E ≤ g ∧ g < w1.heap.size := fun g hg => hu.out.lt g hg
  have spl : ∀ (i : Nat) (x : Value), (L ++ [u])[i]? = some x → L[i]? = some x ∨ (i = L.length ∧ x = u) := fun i x hx => by
    rcases Nat.lt_trichotomy i L.length with hi | hi | hi
    · rw [List.getElem?_append_left hi] at hx; exact .inl hx
    · subst hi; rw [List.getElem?_append_right (Nat.le_refl _)] at hx; simp at hx; exact .inr ⟨rfl, hx.symm⟩
    · rw [List.getElem?_append_right (by omega)] at hx
      obtain ⟨k, hk⟩ : ∃ k, i - L.length = k + 1 := ⟨i - L.length - 1, by omega⟩
      rw [hk] at hx; simp at hx
  refine ⟨by simp [h.len], by simpa using hr, fun i x ys h1 h2 => ?_, fun i x g h1 h2 h3 => ?_, fun i j x y g h1 h2 h3 h4 => ?_, Nat.le_refl _, fun g hg => (hr.lt g hg).2, fun i x g h1 h2 => ?_⟩
  · rcases spl i x h1 with h1' | ⟨rfl, rfl⟩
    · have hi : i < zz.length := by rw [← h.len]; exact (List.getElem?_eq_some_iff.1 h1').1
      rw [List.getElem?_append_left hi] at h2
      exact (h.own i x ys h1' h2).growing hg fun k hk hx => h.off i x k h1' hx hk
    · rw [h.len, List.getElem?_append_right (Nat.le_refl _)] at h2
      simp at h2
      subst h2
      exact (hu.mono hB).growing hg fun k hk hx => by have := (hug k hx).1; have := h.top k hk; omega
  · rcases spl i x h1 with h1' | ⟨rfl, rfl⟩
    · rcases hv g h3 with e | e
      · exact h.off i x g h1' h2 e
      · have := h.tops i x g h1' h2; omega
    · rcases hv g h3 with e | e
      · have := hug g h2; have := h.top g e; omega
      · exact e.2 h2
  · rcases spl i x h1 with h1' | ⟨rfl, rfl⟩
    · rcases spl j y h2 with h2' | ⟨rfl, rfl⟩
      · exact h.sep i j x y g h1' h2' h3 h4
      · have := h.tops i x g h1' h3; have := hug g h4; omega
    · rcases spl j y h2 with h2' | ⟨rfl, rfl⟩
      · have := h.tops j y g h2' h4; have := hug g h3; omega
      · rfl
  · have hsz := hg.size
    rcases spl i x h1 with h1' | ⟨rfl, rfl⟩
    · have := h.tops i x g h1' h2; have := h.le; omega
    · have := hug g h2; omega
theorem SkS.push {B Lk g cap n : Nat} {wr W w7 : World} {v u : Value} {L : List Value} {zz : List (List Int)} {zs : List Int} (hn : zz.length = n) (p : PtC wr Lk v) (f : wr.frozen? ⟨Lk, 0, none⟩ = false) (o : OwnR B wr.heap.size wr v L zz) (n1 : v.ownBlock ≠ some Lk) (n2 : ∀ u ∈ L, u.ownBlock ≠ some Lk)
    (hB : B ≤ wr.heap.size) (hW : Below wr.heap.size wr W) (hu : OwnI wr.heap.size W u zs) (hown : w7.ownsRow B 25 1 (.slice (some ⟨g, 0, none⟩) (n + 1) cap) (n + 1) (L ++ [u])) (hgrow : W.grownBy w7 v.ownBlock) (hat : v.ownBlock = some g ∨ g = W.heap.size) :
    SkS B Lk (w7.setCell ⟨Lk, 0, none⟩ (.slice (some ⟨g, 0, none⟩) (n + 1) cap)) (zz ++ [zs]) := by
  subst hn
  have hs := hW.size
  have hl := p.1
  have hug : ∀ k, u.ownBlock = some k → wr.heap.size ≤ k ∧ k < W.heap.size := fun k hk => hu.out.lt k hk
  have o7 := OwnR.pushM (o.on hW) hu hB hown hgrow (fun k hk => by
    have hk' : g = k := by simpa [Value.ownBlock] using hk
    subst hk'
    rcases hat with e | e
    · exact .inl e
    · exact .inr ⟨by omega, fun e2 => by have := hug _ e2; omega⟩)
  have hgl : (Value.slice (some ⟨g, 0, none⟩) (zz.length + 1) cap).ownBlock ≠ some Lk := fun e => by
    have e' : g = Lk := by simpa [Value.ownBlock] using e
    subst e'
    rcases hat with e | e
    · exact n1 e
    · omega
  have hL : ∀ x ∈ L ++ [u], x.ownBlock ≠ some Lk := fun x hx => by
    rw [List.mem_append, List.mem_singleton] at hx
    rcases hx with hx | rfl
    · exact n2 x hx
    · exact fun e => by have := hug _ e; omega
  have pW := p.on hW
  have hb : w7.heap[Lk]? = W.heap[Lk]? := hgrow.block Lk pW.1 (fun e => n1 e.symm)
  have p7 : PtC w7 Lk v := ⟨Nat.lt_of_lt_of_le pW.1 hgrow.size, by rw [World.cell?_of_block hb]; exact pW.2⟩
  have f7 : w7.frozen? ⟨Lk, 0, none⟩ = false := by rw [World.frozen?_of_block hb]; exact (hW.frozen (p := ⟨Lk, 0, none⟩) hl).trans f
  refine ⟨_, _, PtC.set p7 _, (World.frozen?_setCell _ _ _ _).trans f7, ?_, hgl, hL⟩
  have := OwnR.setNot2 o7 (b := Lk) (o := 0) hgl (fun i x hi => hL x (List.mem_of_getElem? hi)) (.slice (some ⟨g, 0, none⟩) (zz.length + 1) cap)
  simpa using this
theorem sk_below {B K Lk : Nat} {a wr W w7 : World} {v x : Value} {n : Nat} {xs : List Value} (hB : Below K a wr) (hW : Below wr.heap.size wr W) (hgrow : W.grownBy w7 v.ownBlock) (hK : K ≤ wr.heap.size) (hKL : K ≤ Lk) (ho : wr.ownsRow B 25 1 v n xs) (hKB : K ≤ B) : Below K a (w7.setCell ⟨Lk, 0, none⟩ x) :=
  ((hB.trans (hW.mono hK)).grown hgrow (Nat.le_trans hK hW.size) (fun q hq => Nat.le_trans hKB (ho.lt q hq).1)).setCell (p := ⟨Lk, 0, none⟩) hKL _
theorem row_oneJ (w : World) (u : Value) (t : TypeId) (n : Nat) (hn : n = w.heap.size) : ∀ (j : Nat) (x : Value), [u][j]? = some x → (w.alloc (.cells #[u] t)).cell? ((⟨n, 0, none⟩ : Addr).add j) = some x := by
  subst hn; exact row_val w u t
end Go.Proofs.YtibdcejglkhcfaaGreatDoor

namespace Go.Proofs.YtibdcejglkhcfaaGreatDoor
open Go.RowKit
set_option linter.unusedVariables false
set_option linter.unusedSimpArgs false

theorem CpS.sk {B cb : Nat} {w : World} {yy : List (List Int)} (h : CpS B cb w yy) : SkS B cb w yy := by
  obtain ⟨g, cap, L, p, f, o, _, _, hne, hL⟩ := h
  exact ⟨_, L, p, f, o, fun e => hne (by simpa [Value.ownBlock] using e), hL⟩
theorem sk_res {B Lk K : Nat} {wr W w7 : World} {v x : Value} {n : Nat} {xs : List Value} (h : ResC wr K) (hW : Below wr.heap.size wr W) (hgrow : W.grownBy w7 v.ownBlock) (ho : wr.ownsRow B 25 1 v n xs) (hK : K < B) (hKL : K ≠ Lk) : ResC (w7.setCell ⟨Lk, 0, none⟩ x) K := by
  have h1 := h.on hW
  have hk : w7.heap[K]? = W.heap[K]? := hgrow.block K h1.1.1 (fun e => by have := (ho.lt K e.symm).1; omega)
  exact ⟨PtC.far ⟨Nat.lt_of_lt_of_le h1.1.1 hgrow.size, by rw [World.cell?_of_block hk]; exact h1.1.2⟩ hKL _, (World.frozen?_setCell _ _ _ _).trans (by rw [World.frozen?_of_block hk]; exact h1.2)⟩
end Go.Proofs.YtibdcejglkhcfaaGreatDoor
