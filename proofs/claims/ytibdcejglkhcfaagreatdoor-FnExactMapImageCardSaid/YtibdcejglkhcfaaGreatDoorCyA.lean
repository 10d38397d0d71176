/-
  Closures, plainly: the list, in order, of all faces of some simplices.
-/
import Derived.Test.YtibdcejglkhcfaaGreatDoorPJ
import Derived.Test.YtibdcejglkhcfaaGreatDoorCxV
namespace Go.Proofs.YtibdcejglkhcfaaGreatDoor
open Go.RowKit
set_option linter.unusedVariables false

/-- Faces of a simplex by their masks. -/
def facM (s : List Int) : List Nat := subM (maskOf s)
def allM (zz : List (List Int)) : List Nat := zz.flatMap facM
theorem allM_take {zz : List (List Int)} {k : Nat} (h : k < zz.length) : allM (zz.take (k + 1)) = allM (zz.take k) ++ facM zz[k] := by
  unfold allM; rw [List.take_succ_eq_append_getElem h, List.flatMap_append]; simp
theorem Sim.four {s : List Int} (h : Sim s) : (vertsOf (maskOf s)).length ≤ 4 := by rw [h.verts]; exact h.le
theorem facM_lt {s : List Int} (h : Sim s) {f : Nat} (hf : f ∈ facM s) : f < 1024 ∧ f ≠ 0 := by
  have hm := maskOf_lt s (fun v hv => h.bd v hv)
  obtain ⟨h0, hs⟩ := (mem_subM hm h.four).1 hf
  rw [subM_and] at hs
  have := @Nat.and_le_right f (maskOf s)
  exact ⟨by omega, h0⟩
theorem mem_facM {s : List Int} (h : Sim s) {x : List Int} : x ∈ (facM s).map vertsOf ↔ Face x s := by
  have hm := maskOf_lt s (fun v hv => h.bd v hv)
  rw [List.mem_map]
  constructor
  · rintro ⟨f, hf, rfl⟩
    obtain ⟨h1, h2⟩ := facM_lt h hf
    exact (face_iff h h1 h2).2 ((mem_subM hm h.four).1 hf).2
  · intro hx
    have sx := h.face hx
    have hmx := maskOf_lt x (fun v hv => sx.bd v hv)
    have h0 : maskOf x ≠ 0 := fun e => by
      have := sx.verts
      rw [e] at this
      exact hx.1 (by rw [← this]; decide)
    refine ⟨maskOf x, (mem_subM hm h.four).2 ⟨h0, (face_iff h hmx h0).1 (by rw [sx.verts]; exact hx)⟩, sx.verts⟩
/-- A face of one of some simplices. -/
def Fac (zz : List (List Int)) (x : List Int) : Prop := ∃ s ∈ zz, Face x s
theorem mem_allM {zz : List (List Int)} (h : ∀ s ∈ zz, Sim s) {x : List Int} : x ∈ (allM zz).map vertsOf ↔ Fac zz x := by
  unfold allM
  rw [List.map_flatMap, List.mem_flatMap]
  constructor
  · rintro ⟨s, hs, hx⟩; exact ⟨s, hs, (mem_facM (h s hs)).1 hx⟩
  · rintro ⟨s, hs, hx⟩; exact ⟨s, hs, (mem_facM (h s hs)).2 hx⟩
theorem allM_lt {zz : List (List Int)} (h : ∀ s ∈ zz, Sim s) {f : Nat} (hf : f ∈ allM zz) : f < 1024 ∧ f ≠ 0 := by
  obtain ⟨s, hs, hx⟩ := List.mem_flatMap.1 hf
  exact facM_lt (h s hs) hx
noncomputable def cloL (zz : List (List Int)) : List (List Int) := Classical.choose (ord_ex ((allM zz).map vertsOf))
theorem cloL_ord (zz : List (List Int)) : Ord (cloL zz) := (Classical.choose_spec (ord_ex ((allM zz).map vertsOf))).1
theorem cloL_mem {zz : List (List Int)} (h : ∀ s ∈ zz, Sim s) {x : List Int} : x ∈ cloL zz ↔ Fac zz x := ((Classical.choose_spec (ord_ex ((allM zz).map vertsOf))).2 x).trans (mem_allM h)
theorem cloL_is {zz L : List (List Int)} (h : ∀ s ∈ zz, Sim s) (ho : Ord L) (hm : ∀ x, x ∈ L ↔ Fac zz x) : L = cloL zz := ho.ext (cloL_ord zz) fun x => by rw [hm, cloL_mem h]
theorem verts_inj {f g : Nat} (hf : f < 1024) (hg : g < 1024) (h : vertsOf f = vertsOf g) : f = g := by rw [← mask_verts hf, ← mask_verts hg, h]
theorem nodup_verts {fs : List Nat} (hn : fs.Nodup) (hf : ∀ f ∈ fs, f < 1024) : (fs.map vertsOf).Nodup := by
  induction fs with
  | nil => simp
  | cons f fs ih =>
    have hn' := List.nodup_cons.1 hn
    rw [List.map_cons, List.nodup_cons]
    refine ⟨fun hm => ?_, ih hn'.2 fun g hg => hf g (by simp [hg])⟩
    obtain ⟨g, hg, e⟩ := List.mem_map.1 hm
    exact hn'.1 (by rw [← verts_inj (hf g (by simp [hg])) (hf f (by simp)) e]; exact hg)
/-- The sets of a map of all faces, once each: as many as the closure has simplices, and in order they are the closure. -/
theorem sets_perm {zz : List (List Int)} {fs : List Nat} (h : ∀ s ∈ zz, Sim s) (hn : fs.Nodup) (hm : ∀ f, f ∈ fs ↔ f ∈ allM zz) : (fs.map vertsOf).Perm (cloL zz) := by
  have hf : ∀ f ∈ fs, f < 1024 := fun f hf => (allM_lt h ((hm f).1 hf)).1
  refine (List.perm_ext_iff_of_nodup (nodup_verts hn hf) (cloL_ord zz).nodup).2 fun x => ?_
  rw [cloL_mem h, ← mem_allM h, List.mem_map, List.mem_map]
  constructor
  · rintro ⟨f, hf, e⟩; exact ⟨f, (hm f).1 hf, e⟩
  · rintro ⟨f, hf, e⟩; exact ⟨f, (hm f).2 hf, e⟩
theorem sorted_ord : ∀ {L : List (List Int)}, L.Nodup → (∀ i j (hi : i < L.length) (hj : j < L.length), i < j → befB L[j] L[i] = false) → Ord L := by
  intro L hn hs
  refine List.pairwise_iff_getElem.2 fun i j hi hj hij => ?_
  cases h : befB L[i] L[j] with
  | true => rfl
  | false => exact absurd (befB_total h (hs i j hi hj hij)) (fun e => (List.pairwise_iff_getElem.1 hn) i j hi hj hij e)
theorem sets_clo {zz L : List (List Int)} {fs : List Nat} (h : ∀ s ∈ zz, Sim s) (hn : fs.Nodup) (hm : ∀ f, f ∈ fs ↔ f ∈ allM zz) (hp : L.Perm (fs.map vertsOf)) (hs : ∀ i j (hi : i < L.length) (hj : j < L.length), i < j → befB L[j] L[i] = false) : L = cloL zz := by
  have hp2 := hp.trans (sets_perm h hn hm)
  have hnd : L.Nodup := hp2.nodup_iff.2 (cloL_ord zz).nodup
  exact (sorted_ord hnd hs).ext (cloL_ord zz) fun x => hp2.mem_iff
/-- All are simplices. -/
def simsB (zz : List (List Int)) : Bool := zz.all simB
theorem simsB_iff {zz : List (List Int)} : simsB zz = true ↔ ∀ s ∈ zz, Sim s := by
  unfold simsB; rw [List.all_eq_true]; exact ⟨fun h s hs => sim_iff.1 (h s hs), fun h s hs => sim_iff.2 (h s hs)⟩
/-- What ClosureOf answers. -/
def CloIs (zz yy : List (List Int)) (c : Int) : Prop :=
  (simsB zz = false ∧ yy = [] ∧ c = 1) ∨ (simsB zz = true ∧ (48 < zz.length ∨ 48 < (cloL zz).length) ∧ yy = [] ∧ c = 5) ∨ (simsB zz = true ∧ zz.length ≤ 48 ∧ (cloL zz).length ≤ 48 ∧ yy = cloL zz ∧ c = 0)
theorem clo_has (zz : List (List Int)) : ∃ yy c, CloIs zz yy c := by
  by_cases h : simsB zz = true
  · by_cases h1 : 48 < zz.length ∨ 48 < (cloL zz).length
    · exact ⟨_, _, .inr (.inl ⟨h, h1, rfl, rfl⟩)⟩
    · exact ⟨_, _, .inr (.inr ⟨h, by omega, by omega, rfl, rfl⟩)⟩
  · exact ⟨_, _, .inl ⟨by simpa using h, rfl, rfl⟩⟩
theorem CloIs.one {zz y1 y2 : List (List Int)} {c1 c2 : Int} (h : CloIs zz y1 c1) (g : CloIs zz y2 c2) : y1 = y2 ∧ c1 = c2 := by
  rcases h with ⟨a, rfl, rfl⟩ | ⟨a, b, rfl, rfl⟩ | ⟨a, b, b', rfl, rfl⟩ <;> rcases g with ⟨d, rfl, rfl⟩ | ⟨d, e, rfl, rfl⟩ | ⟨d, e, e', rfl, rfl⟩
  · exact ⟨rfl, rfl⟩
  · rw [a] at d; cases d
  · rw [a] at d; cases d
  · rw [a] at d; cases d
  · exact ⟨rfl, rfl⟩
  · omega
  · rw [a] at d; cases d
  · omega
  · exact ⟨rfl, rfl⟩
theorem allM_len {zz : List (List Int)} (h : ∀ s ∈ zz, Sim s) : (allM zz).length ≤ 15 * zz.length := by
  induction zz with
  | nil => simp [allM]
  | cons s zz ih =>
    have h1 := subM_len (maskOf_lt s (fun v hv => (h s (by simp)).bd v hv)) (h s (by simp)).four
    have h2 := ih fun t ht => h t (by simp [ht])
    unfold allM at h2 ⊢
    rw [List.flatMap_cons, List.length_append, List.length_cons]
    show (subM (maskOf s)).length + _ ≤ _
    omega
end Go.Proofs.YtibdcejglkhcfaaGreatDoor
