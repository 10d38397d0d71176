/-
  A slice of own rows behind the library's sort: the same rows, in order.
-/
import Derived.Test.YtibdcejglkhcfaaGreatDoorPK
namespace Go.Proofs.YtibdcejglkhcfaaGreatDoor
open Go.RowKit Go.Sort Go.Shelf Go.Lib
set_option linter.unusedVariables false
set_option linter.unusedSimpArgs false

theorem sep_pair {L : List Value} (h : ∀ (i j : Nat) (u x : Value) (g : Nat), L[i]? = some u → L[j]? = some x → u.ownBlock = some g → x.ownBlock = some g → i = j) :
    L.Pairwise fun u x => ∀ g, u.ownBlock = some g → x.ownBlock ≠ some g := by
  rw [List.pairwise_iff_getElem]
  intro i j hi hj hij g h1 h2
  have := h i j _ _ g (List.getElem?_eq_getElem hi) (List.getElem?_eq_getElem hj) h1 h2
  omega
theorem pair_sep {L : List Value} (h : L.Pairwise fun u x => ∀ g, u.ownBlock = some g → x.ownBlock ≠ some g) (i j : Nat) (u x : Value) (g : Nat) (h1 : L[i]? = some u) (h2 : L[j]? = some x) (h3 : u.ownBlock = some g) (h4 : x.ownBlock = some g) : i = j := by
  rw [List.pairwise_iff_getElem] at h
  obtain ⟨hi, rfl⟩ := List.getElem?_eq_some_iff.1 h1
  obtain ⟨hj, rfl⟩ := List.getElem?_eq_some_iff.1 h2
  rcases Nat.lt_trichotomy i j with a | a | a
  · exact absurd h4 (h i j hi hj a g h3)
  · exact a
  · exact absurd h3 (h j i hj hi a g h4)
/-- Own rows in another order, the slice's own block apart all as before. -/
theorem OwnR.perm {B E g cap : Nat} {w w' : World} {L L' : List Value} {zz ys : List (List Int)} (h : OwnR B E w (.slice (some ⟨g, 0, none⟩) zz.length cap) L zz) (hp : (L'.zip ys).Perm (L.zip zz)) (hl : L'.length = ys.length) (hy : ys.length = zz.length)
    (hr : w'.ownsRow B 25 1 (.slice (some ⟨g, 0, none⟩) zz.length cap) zz.length L') (hg : w.grownBy w' (some g)) : OwnR B E w' (.slice (some ⟨g, 0, none⟩) ys.length cap) L' ys := by
  have hLp : L'.Perm L := by
    have := hp.map Prod.fst
    rwa [List.map_fst_zip (by omega), List.map_fst_zip (by rw [h.len]; exact Nat.le_refl _)] at this
  have pick : ∀ (i : Nat) (u : Value), L'[i]? = some u → ∃ k, L[k]? = some u := fun i u hu => by
    have hm : u ∈ L := hLp.mem_iff.1 (List.mem_of_getElem? hu)
    obtain ⟨k, hk, e⟩ := List.getElem_of_mem hm
    exact ⟨k, by rw [List.getElem?_eq_getElem hk, e]⟩
  refine ⟨hl, by rw [hy]; exact hr, fun i u zs h1 h2 => ?_, fun i u g' h1 h2 => ?_, ?_, Nat.le_trans h.le hg.size, fun g' hg' => ?_, fun i u g' h1 h2 => ?_⟩
  · have hm : (u, zs) ∈ L'.zip ys := by
      have : (L'.zip ys)[i]? = some (u, zs) := by rw [List.getElem?_zip_eq_some]; exact ⟨h1, h2⟩
      exact List.mem_of_getElem? this
    have hm' := hp.mem_iff.1 hm
    obtain ⟨k, hk⟩ := List.getElem?_of_mem hm'
    rw [List.getElem?_zip_eq_some] at hk
    have ho := h.own k u zs hk.1 hk.2
    refine World.ownsRow.kept ho.out hg ?_
    cases ho' : u.ownBlock with
    | none => exact .inl rfl
    | some q => exact .inr (fun e => h.off k u q hk.1 ho' e.symm)
  · obtain ⟨k, hk⟩ := pick i u h1
    exact h.off k u g' hk h2
  · have := (sep_pair h.sep).perm hLp.symm (fun {x y} hxy g h1 h2 => hxy g h2 h1)
    exact pair_sep this
  · exact h.top g' hg'
  · obtain ⟨k, hk⟩ := pick i u h1
    exact h.tops k u g' hk h2
theorem perm_whole {α : Type} [Inhabited α] {d d' : Array α} (h : PermIn 0 d.size d d') : d'.toList.Perm d.toList := by
  have h2 := h.2.2
  have e1 : d.extract 0 d.size = d := by simp
  have e2 : d'.extract 0 d.size = d' := by rw [← h.1]; simp
  rwa [e1, e2] at h2
set_option maxRecDepth 100000 in
set_option maxHeartbeats 1600000 in
theorem sortRows_any {B : Nat} {w : World} {g cap Bl : Nat} {L : List Value} {zz : List (List Int)} (h : OwnR B w.heap.size w (.slice (some ⟨g, 0, none⟩) zz.length cap) L zz) (hB : w.cell? ⟨Bl, 0, none⟩ = some (.slice (some ⟨g, 0, none⟩) zz.length cap)) (hne : Bl ≠ g) (hl : Bl < w.heap.size)
    (hz : zz.length ≤ 1048576) (hrow : ∀ z ∈ zz, z ≠ [] ∧ z.length ≤ 1048576) :
    Calls Tryz.prog 91 #[.iface 22 (.slice (some ⟨g, 0, none⟩) zz.length cap), .func (.func 92) #[] #[.pointer (some ⟨Bl, 0, none⟩)]] w fun e w' =>
      e = .returned (.tuple #[]) ∧ ∃ L' ys, ys.Perm zz ∧ (∀ i j (hi : i < ys.length) (hj : j < ys.length), i < j → befB ys[j] ys[i] = false) ∧ OwnR B w'.heap.size w' (.slice (some ⟨g, 0, none⟩) ys.length cap) L' ys ∧ w.grownBy w' (some g) := by
  by_cases h2 : 2 ≤ zz.length
  · have hg : g < w.heap.size := (h.row.lt g rfl).2
    have hi' : ∀ i, i < zz.length → i < L.length := fun i hi => by rw [h.len]; exact hi
    have rk : ∀ i (hi : i < zz.length), RowOk w g (L[i]'(hi' i hi), zz[i]) := fun i hi => by
      have ho := h.own i _ _ (List.getElem?_eq_getElem (hi' i hi)) (List.getElem?_eq_getElem hi)
      obtain ⟨n1, n2⟩ := hrow _ (List.getElem_mem hi)
      rcases ho.form with ⟨e, _⟩ | ⟨b, c, e, hb, hbw, hc⟩
      · exact absurd e n1
      · refine ⟨b, c, e, fun hbg => ?_, hbw, n2, fun j hj => hc.1 j hj⟩
        subst hbg
        exact h.off i _ b (List.getElem?_eq_getElem (hi' i hi)) (by rw [e]; rfl) rfl
    obtain ⟨d, hd⟩ : ∃ d : Array { p : Value × List Int // RowOk w g p }, d = Array.ofFn fun i : Fin zz.length => ⟨(L[i.val]'(hi' i i.isLt), zz[i.val]), rk i i.isLt⟩ := ⟨_, rfl⟩
    have hds : d.size = zz.length := by rw [hd]; simp
    haveI : Inhabited { p : Value × List Int // RowOk w g p } := ⟨⟨(L[0]'(hi' 0 (by omega)), zz[0]'(by omega)), rk 0 (by omega)⟩⟩
    have hdl : d.toList.map (fun p => (p.1.1, p.1.2)) = L.zip zz := by
      apply List.ext_getElem
      · simp [hds, h.len]
      · intro i h1 h2
        have hi : i < zz.length := by simpa [hds] using h1
        simp [hd]
    have hH : Holds encR w g 0 d := by
      intro j hj
      have hj' : j < zz.length := by rw [← hds]; exact hj
      have e : encR d[j]! = L[j]'(hi' j hj') := by
        rw [getElem!_pos d j hj]
        subst hd
        simp [encR]
      rw [Nat.zero_add, e]
      refine ⟨?_, World.ownsRow.frozenAt h.row j⟩
      rw [World.ownsRow.cellAt h.row j (by omega)]
      exact List.getElem?_eq_getElem _
    have hs := sortSlice_any (cap := cap) (by omega) hH hg (by rw [hds]; exact hB) hne hl (by omega)
    rw [hds] at hs
    refine hs.mono ?_
    rintro e w' ⟨rfl, n, os, d', hp, hso, rfl⟩
    have hp0 : PermIn 0 d.size d d' := by rw [hds]; exact hp
    have hw := perm_whole hp0
    have hd's : d'.size = zz.length := hp.1.trans hds
    have hgb : w.grownBy (sortWorld encR w g 0 n d' os) (some g) := grownBy_put d'
    have hro : (sortWorld encR w g 0 n d' os).ownsRow B 25 1 (.slice (some ⟨g, 0, none⟩) zz.length cap) zz.length (d'.toList.map encR) := ownsRow_put d' h.row hd's
    have hyl : (d'.toList.map fun p => p.1.2).length = zz.length := by simp [hd's]
    have hzip : ((d'.toList.map encR).zip (d'.toList.map fun p => p.1.2)) = d'.toList.map (fun p => (p.1.1, p.1.2)) := by
      rw [List.zip_map']; rfl
    refine ⟨rfl, d'.toList.map encR, d'.toList.map fun p => p.1.2, ?_, ?_, ?_, hgb⟩
    · have := hw.map fun p => p.1.2
      have e : d.toList.map (fun p => p.1.2) = zz := by
        have := congrArg (List.map Prod.snd) hdl
        rw [List.map_map, List.map_snd_zip (by rw [h.len]; exact Nat.le_refl _)] at this
        exact this
      rwa [e] at this
    · intro i j hi hj hij
      have hi2 : i < d'.size := by simpa using hi
      have hj2 : j < d'.size := by simpa using hj
      have := hso i j (Nat.zero_le _) hij (by omega)
      rw [getElem!_pos d' i hi2, getElem!_pos d' j hj2] at this
      simp only [List.getElem_map, Array.getElem_toList]
      exact this
    · refine OwnR.perm (OwnR.wide h (Nat.le_refl _) (Nat.le_refl _)) ?_ (by simp) hyl hro hgb |>.wide hgb.size (Nat.le_refl _)
      rw [hzip, ← hdl]
      exact hw.map _
  · refine (sortSlice_tiny (Bl := Bl) (by omega)).mono ?_
    rintro e w' ⟨rfl, os, rfl⟩
    have hgr : w.grownBy (grow w os) (some g) := ⟨rfl, rfl, rfl, by rw [Go.Sort.size_grow]; exact Nat.le_add_right _ _, fun k hk _ => heap_grow_old _ _ hk⟩
    have hbl : Below w.heap.size w (grow w os) := ⟨rfl, rfl, rfl, by rw [Go.Sort.size_grow]; exact Nat.le_add_right _ _, fun k hk => heap_grow_old _ _ hk⟩
    exact ⟨rfl, L, zz, List.Perm.refl _, fun i j hi hj hij => by omega, (h.on hbl).wide hbl.size (Nat.le_refl _), hgr⟩
end Go.Proofs.YtibdcejglkhcfaaGreatDoor
