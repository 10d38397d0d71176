/-
  PartsOf, plainly: the vertices and the edges of a complex as lists.
-/
import Derived.Test.YtljmfpifhbfdcaaDoorCzM
import Derived.Test.YtljmfpifhbfdcaaDoorCyL
import Derived.Test.YtljmfpifhbfdcaaDoorCyN
import Derived.Test.YtljmfpifhbfdcaaDoorCzC
namespace Go.Proofs.YtljmfpifhbfdcaaDoor
open Go.RowKit
set_option linter.unusedVariables false
set_option linter.unusedSimpArgs false

theorem filter_down {q : Nat → Bool} : ∀ {n : Nat}, (∀ i j, i < j → j < n → q j = true → q i = true) → ∃ m, m ≤ n ∧ (List.range n).filter q = List.range m
  | 0, _ => ⟨0, Nat.le_refl _, rfl⟩
  | n + 1, h => by
    rw [List.range_succ, List.filter_append]
    by_cases hq : q n = true
    · refine ⟨n + 1, Nat.le_refl _, ?_⟩
      rw [List.range_succ]
      congr 1
      · rw [List.filter_eq_self]
        intro i hi
        exact h i n (List.mem_range.1 hi) (Nat.lt_succ_self n) hq
      · simp [hq]
    · obtain ⟨m, hm, e⟩ := filter_down (q := q) (n := n) fun i j hij hj => h i j hij (by omega)
      exact ⟨m, by omega, by rw [e]; simp [hq]⟩
theorem bef_len {a b : List Int} (h : befB a b = true) : a.length ≤ b.length := by
  unfold befB at h
  have := of_decide_eq_true h
  rcases this with h | h
  · omega
  · omega
theorem OkC.lens {zz : List (List Int)} (ho : OkC zz) {i j : Nat} (hij : i < j) (hj : j < zz.length) : (zz[i]'(by omega)).length ≤ zz[j].length :=
  bef_len ((List.pairwise_iff_getElem.1 ho.1.ord) i j (by omega) hj hij)
/-- The vertices come first. -/
theorem ver_first {zz : List (List Int)} (ho : OkC zz) : ∃ m, m ≤ zz.length ∧ ofK zz 0 zz.length = (List.range m).map fun (i : Nat) => (i : Int) := by
  obtain ⟨m, hm, e⟩ := filter_down (q := fun i => decide (((zz.getD i []).length : Int) = 0 + 1)) (n := zz.length) (fun i j hij hj h => by
    have hi : i < zz.length := by omega
    have h' := of_decide_eq_true h
    have h1 := ho.lens hij hj
    have h2 := (ho.sim hi).pos
    simp only [List.getD_eq_getElem?_getD, List.getElem?_eq_getElem hj, List.getElem?_eq_getElem hi, Option.getD_some] at h' ⊢
    exact decide_eq_true (by omega))
  exact ⟨m, hm, by unfold ofK; rw [e]⟩
def vsL (zz : List (List Int)) : List Int := (ofK zz 0 zz.length).map fun i => (zz.getD i.toNat []).getD 0 0
def esL (zz : List (List Int)) : List (Int × Int) := (ofK zz 1 zz.length).map fun i => ((zz.getD i.toNat []).getD 0 0, (zz.getD i.toNat []).getD 1 0)
theorem mem_ofK {zz : List (List Int)} {d : Int} {k : Nat} {i : Int} : i ∈ ofK zz d k ↔ ∃ j : Nat, j < k ∧ i = (j : Int) ∧ ((zz.getD j []).length : Int) = d + 1 := by
  unfold ofK
  simp only [List.mem_map, List.mem_filter, List.mem_range, decide_eq_true_eq]
  constructor
  · rintro ⟨j, ⟨h1, h2⟩, rfl⟩; exact ⟨j, h1, rfl, h2⟩
  · rintro ⟨j, h1, rfl, h2⟩; exact ⟨j, ⟨h1, h2⟩, rfl⟩
theorem vsL_len (zz : List (List Int)) : (vsL zz).length = (ofK zz 0 zz.length).length := by simp [vsL]
theorem esL_len (zz : List (List Int)) : (esL zz).length = (ofK zz 1 zz.length).length := by simp [esL]
theorem one_of {t : List Int} (h : t.length = 1) : t = [t.getD 0 0] := by
  match t, h with
  | [a], _ => rfl
theorem two_of {t : List Int} (h : t.length = 2) : t = [t.getD 0 0, t.getD 1 0] := by
  match t, h with
  | [a, b], _ => rfl
/-- The i-th vertex is the i-th simplex. -/
theorem ver_at {zz : List (List Int)} (ho : OkC zz) {i : Nat} (hi : i < (vsL zz).length) : ∃ h : i < zz.length, (ofK zz 0 zz.length)[i]'(by rw [← vsL_len]; exact hi) = (i : Int) ∧ zz[i] = [(vsL zz)[i]] := by
  have hi' : i < (ofK zz 0 zz.length).length := by rw [← vsL_len]; exact hi
  obtain ⟨m, hm, e⟩ := ver_first ho
  have hx : (ofK zz 0 zz.length)[i] = (i : Int) := by simp [e]
  have hmem := List.getElem_mem hi'
  rw [hx] at hmem
  obtain ⟨j, h1, h2, h3⟩ := mem_ofK.1 hmem
  obtain rfl : i = j := by omega
  rw [List.getD_eq_getElem?_getD, List.getElem?_eq_getElem h1, Option.getD_some] at h3
  refine ⟨h1, hx, ?_⟩
  have hv : (vsL zz)[i] = zz[i].getD 0 0 := by
    simp only [vsL, List.getElem_map]
    rw [hx]
    simp [List.getD_eq_getElem?_getD, List.getElem?_eq_getElem h1]
  rw [hv]
  exact one_of (by omega)
/-- A vertex is found at its place. -/
theorem ver_find {zz : List (List Int)} (ho : OkC zz) {a : Int} (ha : [a] ∈ zz) : ∃ i : Nat, ∃ h : i < (vsL zz).length, fndI [a] zz 0 = (i : Int) ∧ (vsL zz)[i] = a := by
  obtain ⟨k, hk, e1, e2⟩ := fndI_yes (i := 0) ha
  have hm : (k : Int) ∈ ofK zz 0 zz.length := mem_ofK.2 ⟨k, hk, rfl, by simp [List.getD_eq_getElem?_getD, List.getElem?_eq_getElem hk, e2]⟩
  obtain ⟨m, hm', e⟩ := ver_first ho
  have hkm : k < (vsL zz).length := by
    rw [vsL_len, e, List.length_map, List.length_range]
    rw [e] at hm
    obtain ⟨j, hj, h⟩ := List.mem_map.1 hm
    have := List.mem_range.1 hj
    omega
  obtain ⟨h, _, hz⟩ := ver_at ho hkm
  rw [e2] at hz
  injection hz with hz
  exact ⟨k, hkm, by omega, hz.symm⟩
/-- The k-th edge. -/
theorem edg_at {zz : List (List Int)} (ho : OkC zz) {k : Nat} (hk : k < (esL zz).length) : ∃ j : Nat, ∃ h : j < zz.length, (ofK zz 1 zz.length)[k]'(by rw [← esL_len]; exact hk) = (j : Int) ∧ zz[j] = [(esL zz)[k].1, (esL zz)[k].2] ∧ (esL zz)[k].1 ∈ vsL zz ∧ (esL zz)[k].2 ∈ vsL zz ∧ [(esL zz)[k].1] ∈ zz ∧ [(esL zz)[k].2] ∈ zz := by
  have hk' : k < (ofK zz 1 zz.length).length := by rw [← esL_len]; exact hk
  obtain ⟨j, h1, h2, h3⟩ := mem_ofK.1 (List.getElem_mem hk')
  rw [List.getD_eq_getElem?_getD, List.getElem?_eq_getElem h1, Option.getD_some] at h3
  have he : (esL zz)[k] = (zz[j].getD 0 0, zz[j].getD 1 0) := by
    simp only [esL, List.getElem_map]
    rw [h2]
    simp [List.getD_eq_getElem?_getD, List.getElem?_eq_getElem h1]
  have hz := two_of (t := zz[j]) (by omega)
  have fa : [zz[j].getD 0 0] ∈ zz := ho.1.clo _ (List.getElem_mem h1) _ ⟨by simp, List.singleton_sublist.2 (by rw [hz]; simp)⟩
  have fb : [zz[j].getD 1 0] ∈ zz := ho.1.clo _ (List.getElem_mem h1) _ ⟨by simp, List.singleton_sublist.2 (by rw [hz]; simp)⟩
  have ia : zz[j].getD 0 0 ∈ vsL zz := by obtain ⟨i, h, _, e⟩ := ver_find ho fa; rw [← e]; exact List.getElem_mem h
  have ib : zz[j].getD 1 0 ∈ vsL zz := by obtain ⟨i, h, _, e⟩ := ver_find ho fb; rw [← e]; exact List.getElem_mem h
  rw [he]
  exact ⟨j, h1, h2, hz, ia, ib, fa, fb⟩
theorem edg_ver {zz : List (List Int)} (ho : OkC zz) : ∀ e ∈ esL zz, e.1 ∈ vsL zz ∧ e.2 ∈ vsL zz := fun e he => by
  obtain ⟨k, hk, rfl⟩ := List.getElem_of_mem he
  obtain ⟨_, _, _, _, h1, h2, _⟩ := edg_at ho hk
  exact ⟨h1, h2⟩
theorem vsL_bd {zz : List (List Int)} (ho : OkC zz) : ∀ v ∈ vsL zz, 0 ≤ v ∧ v ≤ 9 := fun v hv => by
  obtain ⟨i, hi, rfl⟩ := List.getElem_of_mem hv
  obtain ⟨h, _, e⟩ := ver_at ho hi
  exact (ho.sim h).bd _ (by rw [e]; simp)
theorem vsL_nodup {zz : List (List Int)} (ho : OkC zz) : (vsL zz).Nodup := by
  refine List.pairwise_iff_getElem.2 fun i j hi hj hij e => ?_
  obtain ⟨h1, _, e1⟩ := ver_at ho hi
  obtain ⟨h2, _, e2⟩ := ver_at ho hj
  have : zz[i] = zz[j] := by rw [e1, e2, e]
  have := ho.1.inj h1 h2 this
  omega
noncomputable def prtL (zz : List (List Int)) : List Int := (vsL zz).map (parts (esL zz))
def PrtIs (zz : List (List Int)) (yy : List Int) (c : Int) : Prop := (¬ OkC zz ∧ yy = [] ∧ c = 1) ∨ (OkC zz ∧ yy = prtL zz ∧ c = 0)
theorem prt_has (zz : List (List Int)) : ∃ yy c, PrtIs zz yy c := by
  by_cases h : OkC zz
  · exact ⟨_, _, .inr ⟨h, rfl, rfl⟩⟩
  · exact ⟨_, _, .inl ⟨h, rfl, rfl⟩⟩
theorem PrtIs.fit {zz : List (List Int)} {yy : List Int} {c : Int} (h : PrtIs zz yy c) : yy.length ≤ 1048576 := by
  rcases h with ⟨_, rfl, _⟩ | ⟨h, rfl, _⟩
  · simp
  · have := ofK_len zz 0 zz.length; have := h.2
    simp only [prtL, List.length_map, vsL_len]; omega
/-- A label is written at the place of a vertex. -/
theorem spr_set {vs : List Int} (hn : vs.Nodup) {f : Int → Int} {a b : Int} {i j : Nat} (hi : i < vs.length) (hj : j < vs.length) (ea : vs[i] = a) (eb : vs[j] = b) : ((vs.map f).set i (min (f a) (f b))).set j (min (f a) (f b)) = vs.map (spr f (a, b)) := by
  apply List.ext_getElem
  · simp
  · intro k h1 h2
    have hk : k < vs.length := by simpa using h1
    have inj : ∀ {x y : Nat} (hx : x < vs.length) (hy : y < vs.length), vs[x] = vs[y] → x = y := fun {x y} hx hy e => by
      rcases Nat.lt_trichotomy x y with h | h | h
      · exact absurd e ((List.pairwise_iff_getElem.1 hn) x y hx hy h)
      · exact h
      · exact absurd e.symm ((List.pairwise_iff_getElem.1 hn) y x hy hx h)
    rw [List.getElem_set, List.getElem_set, List.getElem_map, List.getElem_map]
    unfold spr
    dsimp only
    by_cases h1 : j = k
    · subst h1
      rw [if_pos rfl, if_pos (.inr eb)]
    · rw [if_neg h1]
      by_cases h2 : i = k
      · subst h2
        rw [if_pos rfl, if_pos (.inl ea)]
      · rw [if_neg h2, if_neg]
        rintro (e | e)
        · exact h2 (inj hi hk (ea.trans e.symm))
        · exact h1 (inj hj hk (eb.trans e.symm))
end Go.Proofs.YtljmfpifhbfdcaaDoor
