/-
  LinkOf, plainly.
-/
import Derived.Test.YtljmfpifhbfdcaaDoorCzC
import Derived.Test.YtljmfpifhbfdcaaDoorCzA
import Derived.Test.YtljmfpifhbfdcaaDoorCyN
import Derived.Test.YtljmfpifhbfdcaaDoorCyL
namespace Go.Proofs.YtljmfpifhbfdcaaDoor
open Go.RowKit
set_option linter.unusedVariables false
set_option linter.unusedSimpArgs false

/-- The numbers of t that are not in s. -/
def difL (t s : List Int) : List Int := t.filter fun v => decide (v ∉ s)
theorem mem_difL {t s : List Int} {v : Int} : v ∈ difL t s ↔ v ∈ t ∧ v ∉ s := by simp [difL]
theorem dif_face {t s : List Int} (h : difL t s ≠ []) : Face (difL t s) t := ⟨h, List.filter_sublist⟩
theorem dif_mask {s t : List Int} (hs : Sim s) (ht : Sim t) : maskOf t &&& (65535 - maskOf s) = maskOf (difL t s) := by
  have m1 := maskOf_lt s (fun v hv => hs.bd v hv)
  have m2 := maskOf_lt t (fun v hv => ht.bd v hv)
  apply Nat.eq_of_testBit_eq
  intro x
  rw [andn_bit (by omega) (by omega), maskOf_bit t fun v hv => (ht.bd v hv).1, maskOf_bit s fun v hv => (hs.bd v hv).1,
    maskOf_bit (difL t s) fun v hv => (ht.bd v (mem_difL.1 hv).1).1]
  rw [Bool.eq_iff_iff]
  simp only [Bool.and_eq_true, Bool.not_eq_true', decide_eq_true_eq, decide_eq_false_iff_not, mem_difL]
theorem difL_snoc_in {t s : List Int} {k : Nat} (hk : k < t.length) (h : t[k] ∈ s) : difL (t.take (k + 1)) s = difL (t.take k) s := by
  unfold difL; rw [List.take_succ_eq_append_getElem hk, List.filter_append]; simp [h]
theorem difL_snoc_out {t s : List Int} {k : Nat} (hk : k < t.length) (h : t[k] ∉ s) : difL (t.take (k + 1)) s = difL (t.take k) s ++ [t[k]] := by
  unfold difL; rw [List.take_succ_eq_append_getElem hk, List.filter_append]; simp [h]
theorem difL_len (t s : List Int) : (difL t s).length ≤ t.length := List.length_filter_le _ _
/-- What is left of the simplices with some indices. -/
def difI (zz : List (List Int)) (s : List Int) (i : Int) : List Int := difL (zz.getD i.toNat []) s
def rests (zz : List (List Int)) (s : List Int) (is : List Int) : List (List Int) := (is.map (difI zz s)).filter fun x => decide (x ≠ [])
theorem rests_yes {zz : List (List Int)} {s : List Int} {is : List Int} {k : Nat} (hk : k < is.length) (h : difI zz s is[k] ≠ []) : rests zz s (is.take (k + 1)) = rests zz s (is.take k) ++ [difI zz s is[k]] := by
  unfold rests; rw [List.take_succ_eq_append_getElem hk, List.map_append, List.filter_append]; simp [h]
theorem rests_no {zz : List (List Int)} {s : List Int} {is : List Int} {k : Nat} (hk : k < is.length) (h : difI zz s is[k] = []) : rests zz s (is.take (k + 1)) = rests zz s (is.take k) := by
  unfold rests; rw [List.take_succ_eq_append_getElem hk, List.map_append, List.filter_append]; simp [h]
theorem rests_len (zz : List (List Int)) (s : List Int) (is : List Int) : (rests zz s is).length ≤ is.length := by
  unfold rests; exact Nat.le_trans (List.length_filter_le _ _) (by simp)
theorem mem_staK {zz : List (List Int)} {s : List Int} {k : Nat} {i : Int} : i ∈ staK zz s k ↔ ∃ j : Nat, j < k ∧ i = (j : Int) ∧ parB s (zz.getD j []) = true := by
  unfold staK
  simp only [List.mem_map, List.mem_filter, List.mem_range]
  constructor
  · rintro ⟨j, ⟨h1, h2⟩, rfl⟩; exact ⟨j, h1, rfl, h2⟩
  · rintro ⟨j, h1, rfl, h2⟩; exact ⟨j, ⟨h1, h2⟩, rfl⟩
theorem sta_get {zz : List (List Int)} {s : List Int} {k : Nat} (hk : k < (staK zz s zz.length).length) : ∃ j : Nat, ∃ h : j < zz.length, (staK zz s zz.length)[k] = (j : Int) ∧ difI zz s (staK zz s zz.length)[k] = difL zz[j] s := by
  obtain ⟨j, h1, h2, _⟩ := mem_staK.1 (List.getElem_mem hk)
  refine ⟨j, h1, h2, ?_⟩
  unfold difI; rw [h2]; simp [List.getD, h1]
theorem mem_rests {zz : List (List Int)} {s x : List Int} : x ∈ rests zz s (staK zz s zz.length) ↔ x ≠ [] ∧ ∃ t ∈ zz, parB s t = true ∧ x = difL t s := by
  unfold rests
  rw [List.mem_filter, List.mem_map, decide_eq_true_eq]
  constructor
  · rintro ⟨⟨i, hi, rfl⟩, h0⟩
    obtain ⟨j, h1, rfl, h2⟩ := mem_staK.1 hi
    refine ⟨h0, zz[j], List.getElem_mem h1, ?_, ?_⟩
    · rw [List.getD_eq_getElem?_getD, List.getElem?_eq_getElem h1] at h2; exact h2
    · unfold difI; simp [List.getD, h1]
  · rintro ⟨h0, t, ht, hp, rfl⟩
    obtain ⟨j, h1, rfl⟩ := List.getElem_of_mem ht
    refine ⟨⟨(j : Int), mem_staK.2 ⟨j, h1, rfl, by simpa [List.getD, h1] using hp⟩, ?_⟩, h0⟩
    unfold difI; simp [List.getD, h1]
theorem rests_sim {zz : List (List Int)} (ho : OkC zz) {s : List Int} : ∀ x ∈ rests zz s (staK zz s zz.length), Sim x := fun x hx => by
  obtain ⟨h0, t, ht, _, rfl⟩ := mem_rests.1 hx
  exact (ho.1.sim t ht).face (dif_face h0)
theorem rests_sub {zz : List (List Int)} {s : List Int} {is : List Int} {k : Nat} : ∀ x ∈ rests zz s (is.take k), x ∈ rests zz s is := fun x hx => by
  unfold rests at hx ⊢
  rw [List.mem_filter, List.mem_map] at hx ⊢
  obtain ⟨⟨i, hi, e⟩, h⟩ := hx
  exact ⟨⟨i, List.mem_of_mem_take hi, e⟩, h⟩
theorem rests_clo {zz : List (List Int)} (ho : OkC zz) {s : List Int} (hz : s ∈ zz) : ∀ x, Fac (rests zz s (staK zz s zz.length)) x → x ∈ rests zz s (staK zz s zz.length) := by
  rintro x ⟨r, hr, hx⟩
  obtain ⟨_, t, ht, hp, rfl⟩ := mem_rests.1 hr
  have st := ho.1.sim t ht
  rw [parB_iff] at hp
  have hs := ho.1.sim s hz
  refine mem_rests.2 ⟨hx.1, t.filter (fun v => decide (v ∈ s) || decide (v ∈ x)), ?_, ?_, ?_⟩
  · refine ho.1.clo t ht _ ⟨fun e => ?_, List.filter_sublist⟩
    have h1 := List.length_pos_iff.1 (show 0 < s.length by have := hs.pos; omega)
    obtain ⟨v, hv⟩ := List.exists_mem_of_ne_nil s h1
    have : v ∈ t.filter (fun v => decide (v ∈ s) || decide (v ∈ x)) := List.mem_filter.2 ⟨hp v hv, by simp [hv]⟩
    rw [e] at this; simp at this
  · rw [parB_iff]; intro v hv; exact List.mem_filter.2 ⟨hp v hv, by simp [hv]⟩
  · have xt : x.Sublist t := hx.2.trans List.filter_sublist
    refine rise_ext (st.rise.sublist xt) (List.Pairwise.filter _ (List.Pairwise.filter _ st.rise)) fun v => ?_
    rw [mem_difL, List.mem_filter]
    constructor
    · intro hv
      have := mem_difL.1 (hx.2.subset hv)
      exact ⟨⟨this.1, by simp [hv]⟩, this.2⟩
    · rintro ⟨⟨_, h2⟩, h3⟩
      simp only [Bool.or_eq_true, decide_eq_true_eq] at h2
      exact h2.resolve_left h3
theorem rests_nodup {zz : List (List Int)} (ho : OkC zz) {s : List Int} : (rests zz s (staK zz s zz.length)).Nodup := by
  unfold rests
  refine List.Pairwise.filter _ ?_
  refine List.pairwise_map.2 (List.Pairwise.imp_of_mem (R := fun a b => a < b) (fun {a b} ha hb hab e => ?_) ?_)
  · obtain ⟨i, h1, rfl, p1⟩ := mem_staK.1 ha
    obtain ⟨j, h2, rfl, p2⟩ := mem_staK.1 hb
    rw [List.getD_eq_getElem?_getD, List.getElem?_eq_getElem h1, Option.getD_some, parB_iff] at p1
    rw [List.getD_eq_getElem?_getD, List.getElem?_eq_getElem h2, Option.getD_some, parB_iff] at p2
    unfold difI at e
    simp only [Int.toNat_natCast, List.getD_eq_getElem?_getD, List.getElem?_eq_getElem h1, List.getElem?_eq_getElem h2, Option.getD_some] at e
    have : zz[i] = zz[j] := by
      refine rise_ext (ho.sim h1).rise (ho.sim h2).rise fun v => ?_
      by_cases hv : v ∈ s
      · exact ⟨fun _ => p2 v hv, fun _ => p1 v hv⟩
      · have h := @mem_difL zz[i] s v
        rw [e, mem_difL] at h
        constructor
        · intro h4; exact (h.2 ⟨h4, hv⟩).1
        · intro h4; exact (h.1 ⟨h4, hv⟩).1
    have := ho.1.inj h1 h2 this
    omega
  · unfold staK
    rw [List.pairwise_map]
    refine List.Pairwise.imp (fun h => by omega) (List.Pairwise.filter _ List.pairwise_lt_range)
noncomputable def lnkL (zz : List (List Int)) (s : List Int) : List (List Int) := cloL (rests zz s (staK zz s zz.length))
def LnkIs (zz : List (List Int)) (k : Int) (yy : List (List Int)) (c : Int) : Prop :=
  (¬ OkC zz ∧ yy = [] ∧ c = 1) ∨ (OkC zz ∧ ¬ (0 ≤ k ∧ k ≤ (zz.length : Int) - 1) ∧ yy = [] ∧ c = 2) ∨ (OkC zz ∧ (∃ i : Nat, ∃ h : i < zz.length, k = (i : Int) ∧ yy = lnkL zz zz[i]) ∧ c = 0)
theorem lnk_has (zz : List (List Int)) (k : Int) : ∃ yy c, LnkIs zz k yy c := by
  by_cases h : OkC zz
  · by_cases h1 : 0 ≤ k ∧ k ≤ (zz.length : Int) - 1
    · exact ⟨_, _, .inr (.inr ⟨h, ⟨k.toNat, by omega, by omega, rfl⟩, rfl⟩)⟩
    · exact ⟨_, _, .inr (.inl ⟨h, h1, rfl, rfl⟩)⟩
  · exact ⟨_, _, .inl ⟨h, rfl, rfl⟩⟩
theorem lnk_len {zz : List (List Int)} (ho : OkC zz) {s : List Int} (hz : s ∈ zz) : (lnkL zz s).length ≤ 48 := by
  have h1 : (lnkL zz s).length ≤ (rests zz s (staK zz s zz.length)).length := by
    refine List.Nodup.length_le_of_subset (cloL_ord _).nodup fun x hx => ?_
    exact rests_clo ho hz x ((cloL_mem (rests_sim ho)).1 hx)
  have := rests_len zz s (staK zz s zz.length)
  have := staK_len zz s zz.length
  have := ho.2
  omega
theorem LnkIs.fit {zz : List (List Int)} {k : Int} {yy : List (List Int)} {c : Int} (h : LnkIs zz k yy c) : FitR yy := by
  rcases h with ⟨_, rfl, _⟩ | ⟨_, _, rfl, _⟩ | ⟨ho, ⟨i, hi, _, rfl⟩, _⟩
  · exact ⟨by simp, by simp [tot]⟩
  · exact ⟨by simp, by simp [tot]⟩
  · have hl := lnk_len ho (List.getElem_mem hi)
    have h4 := tot_four (zz := lnkL zz zz[i]) fun z hz => by
      obtain ⟨s, hs, hf⟩ := (cloL_mem (rests_sim ho)).1 hz
      exact ((rests_sim ho s hs).face hf).le
    exact ⟨by omega, by omega⟩
end Go.Proofs.YtljmfpifhbfdcaaDoor
