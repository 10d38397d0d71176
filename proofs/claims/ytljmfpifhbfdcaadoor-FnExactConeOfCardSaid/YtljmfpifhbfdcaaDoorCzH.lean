/-
  ConeOf, plainly; a new complex with one vertex.
-/
import Derived.Test.YtljmfpifhbfdcaaDoorCzG
namespace Go.Proofs.YtljmfpifhbfdcaaDoor
open Go.RowKit
set_option linter.unusedVariables false
set_option linter.unusedSimpArgs false

/-- The simplices of a cone. -/
def coneR (zz : List (List Int)) (v : Int) : List (List Int) := [v] :: zz.flatMap fun t => [t, insL v t]
/-- Those that have the new vertex, but for faces. -/
def tipsR (zz : List (List Int)) (v : Int) : List (List Int) := [v] :: zz.map (insL v)
theorem coneR_next {zz : List (List Int)} {v : Int} {k : Nat} (hk : k < zz.length) : coneR (zz.take (k + 1)) v = coneR (zz.take k) v ++ [zz[k], insL v zz[k]] := by
  unfold coneR; rw [List.take_succ_eq_append_getElem hk, List.flatMap_append]; simp
theorem tipsR_next {zz : List (List Int)} {v : Int} {k : Nat} (hk : k < zz.length) : tipsR (zz.take (k + 1)) v = tipsR (zz.take k) v ++ [insL v zz[k]] := by
  unfold tipsR; rw [List.take_succ_eq_append_getElem hk, List.map_append]; simp
theorem coneR_len (zz : List (List Int)) (v : Int) : (coneR zz v).length = 1 + 2 * zz.length := by
  unfold coneR
  rw [List.length_cons]
  induction zz with
  | nil => rfl
  | cons t zz ih => rw [List.flatMap_cons, List.length_append, List.length_cons]; simp at ih ⊢; omega
theorem mem_coneR {zz : List (List Int)} {v : Int} {x : List Int} : x ∈ coneR zz v ↔ x = [v] ∨ ∃ t ∈ zz, x = t ∨ x = insL v t := by
  unfold coneR; simp only [List.mem_cons, List.mem_flatMap, List.not_mem_nil, or_false]
theorem mem_tipsR {zz : List (List Int)} {v : Int} {x : List Int} : x ∈ tipsR zz v ↔ x = [v] ∨ ∃ t ∈ zz, x = insL v t := by
  unfold tipsR; simp only [List.mem_cons, List.mem_map]
  constructor
  · rintro (h | ⟨t, ht, e⟩)
    · exact .inl h
    · exact .inr ⟨t, ht, e.symm⟩
  · rintro (h | ⟨t, ht, e⟩)
    · exact .inl h
    · exact .inr ⟨t, ht, e.symm⟩
theorem no_apex {zz : List (List Int)} (ho : Cpx zz) {v : Int} (hn : [v] ∉ zz) {t : List Int} (ht : t ∈ zz) : v ∉ t := fun hv => hn (ho.clo t ht [v] ⟨by simp, List.singleton_sublist.2 hv⟩)
theorem one_sim {v : Int} (hv : 0 ≤ v ∧ v ≤ 9) : Sim [v] := ⟨by simp, by simp, by simp, fun x hx => by simp at hx; omega⟩
theorem ins_sim {t : List Int} (hs : Sim t) {v : Int} (hv : 0 ≤ v ∧ v ≤ 9) (h3 : t.length ≤ 3) : Sim (insL v t) := by
  refine ⟨?_, by have := insL_len (n := v) t; omega, insL_rise hs.rise, fun x hx => ?_⟩
  · exact List.length_pos_of_mem (mem_insL.2 (.inl rfl))
  · rcases mem_insL.1 hx with e | e
    · omega
    · exact hs.bd x e
theorem ins_mask {t : List Int} (hs : Sim t) {v : Int} (hv : 0 ≤ v ∧ v ≤ 9) : maskOf t ||| maskOf [v] = maskOf (insL v t) := by
  apply Nat.eq_of_testBit_eq
  intro x
  rw [Nat.testBit_or, maskOf_bit t fun u hu => (hs.bd u hu).1, maskOf_bit [v] fun u hu => by simp at hu; omega,
    maskOf_bit (insL v t) fun u hu => by rcases mem_insL.1 hu with e | e; · { omega }; · { exact (hs.bd u e).1 }]
  rw [Bool.eq_iff_iff]
  simp only [Bool.or_eq_true, decide_eq_true_eq, mem_insL, List.mem_singleton]
  exact Or.comm
theorem ins_inj {t u : List Int} {v : Int} (ht : t.Pairwise (· < ·)) (hu : u.Pairwise (· < ·)) (nt : v ∉ t) (nu : v ∉ u) (h : insL v t = insL v u) : t = u := by
  refine rise_ext ht hu fun x => ?_
  have := @mem_insL v x t
  rw [h, mem_insL] at this
  constructor
  · intro hx
    rcases this.2 (.inr hx) with e | e
    · subst e; exact absurd hx nt
    · exact e
  · intro hx
    rcases this.1 (.inr hx) with e | e
    · subst e; exact absurd hx nu
    · exact e
theorem flat_nodup {v : Int} : ∀ {zz : List (List Int)}, zz.Nodup → (∀ t ∈ zz, v ∉ t ∧ t.Pairwise (· < ·)) → (zz.flatMap fun t => [t, insL v t]).Nodup
  | [], _, _ => by simp
  | t :: zz, hn, h => by
    have hn' := List.nodup_cons.1 hn
    have ht := h t (by simp)
    have ne : ∀ u, v ∉ u → ∀ s, u ≠ insL v s := fun u hu s e => hu (by rw [e]; exact mem_insL.2 (.inl rfl))
    rw [List.flatMap_cons]
    refine List.nodup_append.2 ⟨?_, flat_nodup hn'.2 fun s hs => h s (by simp [hs]), fun a ha b hb e => ?_⟩
    · refine List.nodup_cons.2 ⟨fun hm => ?_, by simp⟩
      rw [List.mem_singleton] at hm
      exact ne t ht.1 t hm
    · subst e
      obtain ⟨s, hs, hb⟩ := List.mem_flatMap.1 hb
      have hs' := h s (by simp [hs])
      simp only [List.mem_cons, List.not_mem_nil, or_false] at ha hb
      rcases ha with rfl | rfl <;> rcases hb with e | e
      · exact hn'.1 (by rw [e]; exact hs)
      · exact ne _ ht.1 s e
      · exact ne _ hs'.1 t e.symm
      · exact hn'.1 (by rw [ins_inj ht.2 hs'.2 ht.1 hs'.1 e]; exact hs)
theorem coneR_nodup {zz : List (List Int)} (ho : Cpx zz) {v : Int} (hn : [v] ∉ zz) : (coneR zz v).Nodup := by
  refine List.nodup_cons.2 ⟨fun hm => ?_, flat_nodup ho.ord.nodup fun t ht => ⟨no_apex ho hn ht, (ho.sim t ht).rise⟩⟩
  obtain ⟨t, ht, h⟩ := List.mem_flatMap.1 hm
  simp only [List.mem_cons, List.not_mem_nil, or_false] at h
  rcases h with e | e
  · exact hn (by rw [e]; exact ht)
  · obtain ⟨u, hu⟩ := List.exists_mem_of_ne_nil t (List.length_pos_iff.1 (ho.sim t ht).pos)
    have : u ∈ [v] := by rw [e]; exact mem_insL.2 (.inr hu)
    rw [List.mem_singleton] at this
    subst this
    exact no_apex ho hn ht hu
theorem coneR_sim {zz : List (List Int)} (ho : Cpx zz) {v : Int} (hv : 0 ≤ v ∧ v ≤ 9) (h3 : ∀ t ∈ zz, t.length ≤ 3) : ∀ s ∈ coneR zz v, Sim s := fun s hs => by
  rcases mem_coneR.1 hs with rfl | ⟨t, ht, rfl | rfl⟩
  · exact one_sim hv
  · exact ho.sim _ ht
  · exact ins_sim (ho.sim t ht) hv (h3 t ht)
theorem tipsR_sim {zz : List (List Int)} (ho : Cpx zz) {v : Int} (hv : 0 ≤ v ∧ v ≤ 9) (h3 : ∀ t ∈ zz, t.length ≤ 3) : ∀ s ∈ tipsR zz v, Sim s := fun s hs => by
  rcases mem_tipsR.1 hs with rfl | ⟨t, ht, rfl⟩
  · exact one_sim hv
  · exact ins_sim (ho.sim t ht) hv (h3 t ht)
theorem fac_tips {zz : List (List Int)} (ho : Cpx zz) {v : Int} (hv : 0 ≤ v ∧ v ≤ 9) (h3 : ∀ t ∈ zz, t.length ≤ 3) {x : List Int} : Fac (tipsR zz v) x ↔ x ∈ coneR zz v := by
  constructor
  · rintro ⟨r, hr, hx⟩
    rcases mem_tipsR.1 hr with rfl | ⟨t, ht, rfl⟩
    · have hl := hx.2.length_le
      have hp := List.length_pos_iff.2 hx.1
      have : x = [v] := hx.2.eq_of_length (by simp at hl ⊢; omega)
      rw [this]; exact mem_coneR.2 (.inl rfl)
    · have hst := ho.sim t ht
      have hxr := (insL_rise (n := v) hst.rise).sublist hx.2
      have hsub : ∀ y ∈ x, y = v ∨ y ∈ t := fun y hy => mem_insL.1 (hx.2.subset hy)
      by_cases hvx : v ∈ x
      · by_cases he : x.filter (fun y => decide (y ≠ v)) = []
        · have : x = [v] := rise_ext hxr (by simp) fun y => by
            constructor
            · intro hy
              by_cases e : y = v
              · simp [e]
              · have : y ∈ x.filter (fun y => decide (y ≠ v)) := List.mem_filter.2 ⟨hy, by simp [e]⟩
                rw [he] at this; simp at this
            · intro hy; rw [List.mem_singleton] at hy; rw [hy]; exact hvx
          rw [this]; exact mem_coneR.2 (.inl rfl)
        · have hf : Face (x.filter fun y => decide (y ≠ v)) t := ⟨he, rise_sub (List.Pairwise.filter _ hxr) hst.rise fun y hy => by
            obtain ⟨h1, h2⟩ := List.mem_filter.1 hy
            exact (hsub y h1).resolve_left (by simpa using h2)⟩
          refine mem_coneR.2 (.inr ⟨_, ho.clo t ht _ hf, .inr ?_⟩)
          refine rise_ext hxr (insL_rise (List.Pairwise.filter _ hxr)) fun y => ?_
          rw [mem_insL, List.mem_filter]
          constructor
          · intro hy
            by_cases e : y = v
            · exact .inl e
            · exact .inr ⟨hy, by simp [e]⟩
          · rintro (e | ⟨h, _⟩)
            · rw [e]; exact hvx
            · exact h
      · have hf : Face x t := ⟨hx.1, rise_sub hxr hst.rise fun y hy => (hsub y hy).resolve_left fun e => hvx (by rw [← e]; exact hy)⟩
        exact mem_coneR.2 (.inr ⟨x, ho.clo t ht x hf, .inl rfl⟩)
  · intro hx
    rcases mem_coneR.1 hx with rfl | ⟨t, ht, rfl | rfl⟩
    · exact ⟨[v], mem_tipsR.2 (.inl rfl), by simp, List.Sublist.refl _⟩
    · refine ⟨insL v x, mem_tipsR.2 (.inr ⟨x, ht, rfl⟩), fun e => ?_, rise_sub (ho.sim x ht).rise (insL_rise (ho.sim x ht).rise) fun y hy => mem_insL.2 (.inr hy)⟩
      have := (ho.sim x ht).pos
      rw [e] at this; simp at this
    · refine ⟨insL v t, mem_tipsR.2 (.inr ⟨t, ht, rfl⟩), fun e => ?_, List.Sublist.refl _⟩
      have : v ∈ insL v t := mem_insL.2 (.inl rfl)
      rw [e] at this; simp at this
noncomputable def conL (zz : List (List Int)) (v : Int) : List (List Int) := cloL (tipsR zz v)
theorem conL_perm {zz : List (List Int)} (ho : Cpx zz) {v : Int} (hv : 0 ≤ v ∧ v ≤ 9) (hn : [v] ∉ zz) (h3 : ∀ t ∈ zz, t.length ≤ 3) : (conL zz v).Perm (coneR zz v) :=
  (List.perm_ext_iff_of_nodup (cloL_ord _).nodup (coneR_nodup ho hn)).2 fun x => (cloL_mem (tipsR_sim ho hv h3)).trans (fac_tips ho hv h3)
theorem conL_len {zz : List (List Int)} (ho : Cpx zz) {v : Int} (hv : 0 ≤ v ∧ v ≤ 9) (hn : [v] ∉ zz) (h3 : ∀ t ∈ zz, t.length ≤ 3) : (conL zz v).length = 1 + 2 * zz.length := by
  rw [(conL_perm ho hv hn h3).length_eq, coneR_len]
/-- The program's cone, sorted, is the model's. -/
theorem conL_sorted {zz : List (List Int)} (ho : Cpx zz) {v : Int} (hv : 0 ≤ v ∧ v ≤ 9) (hn : [v] ∉ zz) (h3 : ∀ t ∈ zz, t.length ≤ 3) {L : List (List Int)} (hp : L.Perm (coneR zz v)) (hs : ∀ i j (hi : i < L.length) (hj : j < L.length), i < j → befB L[j] L[i] = false) : L = conL zz v := by
  refine cloL_is (tipsR_sim ho hv h3) (sorted_ord (hp.nodup_iff.2 (coneR_nodup ho hn)) hs) fun x => ?_
  rw [hp.mem_iff, fac_tips ho hv h3]
/-- Cones that are too many, or of too high a dimension. -/
def ConIs (zz : List (List Int)) (v : Int) (yy : List (List Int)) (c : Int) : Prop :=
  (¬ OkC zz ∧ yy = [] ∧ c = 1) ∨ (OkC zz ∧ ¬ (0 ≤ v ∧ v ≤ 9) ∧ yy = [] ∧ c = 2) ∨ (OkC zz ∧ (0 ≤ v ∧ v ≤ 9) ∧ [v] ∈ zz ∧ yy = [] ∧ c = 4) ∨
  (OkC zz ∧ (0 ≤ v ∧ v ≤ 9) ∧ [v] ∉ zz ∧ ((((∃ t ∈ zz, 3 < t.length) ∨ 48 < 1 + 2 * zz.length) ∧ yy = [] ∧ c = 5) ∨ ((∀ t ∈ zz, t.length ≤ 3) ∧ 1 + 2 * zz.length ≤ 48 ∧ yy = conL zz v ∧ c = 0)))
theorem con_has (zz : List (List Int)) (v : Int) : ∃ yy c, ConIs zz v yy c := by
  by_cases h : OkC zz
  · by_cases h1 : 0 ≤ v ∧ v ≤ 9
    · by_cases h2 : [v] ∈ zz
      · exact ⟨_, _, .inr (.inr (.inl ⟨h, h1, h2, rfl, rfl⟩))⟩
      · by_cases h3 : (∃ t ∈ zz, 3 < t.length) ∨ 48 < 1 + 2 * zz.length
        · exact ⟨_, _, .inr (.inr (.inr ⟨h, h1, h2, .inl ⟨h3, rfl, rfl⟩⟩))⟩
        · refine ⟨_, _, .inr (.inr (.inr ⟨h, h1, h2, .inr ⟨fun t ht => ?_, ?_, rfl, rfl⟩⟩))⟩
          · rcases Nat.lt_or_ge 3 t.length with g | g
            · exact absurd (.inl ⟨t, ht, g⟩) h3
            · exact g
          · rcases Nat.lt_or_ge 48 (1 + 2 * zz.length) with g | g
            · exact absurd (.inr g) h3
            · exact g
    · exact ⟨_, _, .inr (.inl ⟨h, h1, rfl, rfl⟩)⟩
  · exact ⟨_, _, .inl ⟨h, rfl, rfl⟩⟩
theorem ConIs.fit {zz : List (List Int)} {v : Int} {yy : List (List Int)} {c : Int} (h : ConIs zz v yy c) : FitR yy := by
  have hnil : FitR [] := ⟨by simp, by simp [tot]⟩
  rcases h with ⟨_, rfl, _⟩ | ⟨_, _, rfl, _⟩ | ⟨_, _, _, rfl, _⟩ | ⟨ho, hv, hn, ⟨_, rfl, _⟩ | ⟨h3, hl, rfl, _⟩⟩
  · exact hnil
  · exact hnil
  · exact hnil
  · exact hnil
  · have hc := conL_len ho.1 hv hn h3
    have h4 := tot_four (zz := conL zz v) fun z hz => by
      obtain ⟨s, hs, hf⟩ := (cloL_mem (tipsR_sim ho.1 hv h3)).1 hz
      exact ((tipsR_sim ho.1 hv h3 s hs).face hf).le
    exact ⟨by omega, by omega⟩
theorem ints_one (w : World) (v : Int) (t : TypeId) : IntsAt (w.alloc (.cells #[.int .i64 v] t)) (.slice (some ⟨w.heap.size, 0, none⟩) 1 1) [v] :=
  ⟨_, 1, rfl, by simp, .inr ⟨w.heap.size, 0, rfl, by simp, fun j hj => by
    have hj0 : j = 0 := by simp at hj; exact hj
    subst hj0
    rw [World.cell?_alloc_at _ _ _ _ rfl]; rfl⟩⟩
theorem own_one (w : World) (v : Int) : OwnI w.heap.size (w.alloc (.cells #[.int .i64 v] 2)) (.slice (some ⟨w.heap.size, 0, none⟩) 1 1) [v] :=
  ⟨by simp [iv], .inr ⟨w.heap.size, 1, _, rfl, Nat.le_refl _, heap_alloc_new w _, Nat.le_refl _, by unfold maxLen; omega, rfl, by simp [iv]⟩⟩
/-- A new complex with one vertex. -/
theorem CpS.one (w : World) (v : Int) : CpS w.heap.size (w.heap.size + 2) (((w.alloc (.cells #[.int .i64 v] 2)).alloc (.cells #[.slice (some ⟨w.heap.size, 0, none⟩) 1 1] 38)).alloc (.cells #[.slice (some ⟨w.heap.size + 1, 0, none⟩) 1 1] 27)) [[v]] := by
  have h1 := own_one w v
  have hb2 : Below (w.alloc (.cells #[.int .i64 v] 2)).heap.size (w.alloc (.cells #[.int .i64 v] 2)) ((w.alloc (.cells #[.int .i64 v] 2)).alloc (.cells #[.slice (some ⟨w.heap.size, 0, none⟩) 1 1] 38)) := (Below.refl _ _).alloc (Nat.le_refl _) _
  have hg := heap_alloc_new (w.alloc (.cells #[.int .i64 v] 2)) (.cells #[.slice (some ⟨w.heap.size, 0, none⟩) 1 1] 38)
  have h2 := h1.on hb2
  generalize hW2 : (w.alloc (.cells #[.int .i64 v] 2)).alloc (.cells #[.slice (some ⟨w.heap.size, 0, none⟩) 1 1] 38) = W2 at h2 hg ⊢
  have hs2 : W2.heap.size = w.heap.size + 2 := by rw [← hW2]; simp
  rw [World.size_alloc] at hg
  have hb3 : Below W2.heap.size W2 (W2.alloc (.cells #[.slice (some ⟨w.heap.size + 1, 0, none⟩) 1 1] 27)) := (Below.refl _ _).alloc (Nat.le_refl _) _
  have h3 := h2.on hb3
  have hp := PtC.new W2 (.slice (some ⟨w.heap.size + 1, 0, none⟩) 1 1) 27
  have hf := World.frozen?_alloc_new W2 #[.slice (some ⟨w.heap.size + 1, 0, none⟩) 1 1] 27 0
  have hg3 : (W2.alloc (.cells #[.slice (some ⟨w.heap.size + 1, 0, none⟩) 1 1] 27)).heap[w.heap.size + 1]? = some (.cells #[.slice (some ⟨w.heap.size, 0, none⟩) 1 1] 38) := by
    rw [heap_alloc_old _ _ (by omega)]; exact hg
  have hs3 : (W2.alloc (.cells #[.slice (some ⟨w.heap.size + 1, 0, none⟩) 1 1] 27)).heap.size = w.heap.size + 3 := by rw [World.size_alloc, hs2]
  rw [hs2] at hp hf
  generalize W2.alloc (.cells #[.slice (some ⟨w.heap.size + 1, 0, none⟩) 1 1] 27) = W3 at h3 hp hf hg3 hs3
  refine ⟨w.heap.size + 1, 1, [.slice (some ⟨w.heap.size, 0, none⟩) 1 1], hp, hf, ⟨rfl, ⟨rfl, .inr ⟨w.heap.size + 1, 1, _, rfl, by omega, hg3, Nat.le_refl _, by unfold maxLen; omega, rfl, rfl⟩⟩, ?_, ?_, ?_, Nat.le_refl _, ?_, ?_⟩, Nat.le_refl _, by unfold maxLen; omega, by omega, ?_⟩
  · intro i u zs hu hz
    cases i with
    | zero => simp at hu hz; subst hu hz; exact h3
    | succ i => simp at hu
  · intro i u g hu hgu e
    cases i with
    | zero => simp at hu; subst hu; simp [Value.ownBlock] at hgu e; omega
    | succ i => simp at hu
  · intro i j u x g hu hx h1 h2
    cases i with
    | zero => cases j with
      | zero => rfl
      | succ j => simp at hx
    | succ i => simp at hu
  · intro g e; simp [Value.ownBlock] at e; omega
  · intro i u g hu hgu
    cases i with
    | zero => simp at hu; subst hu; simp [Value.ownBlock] at hgu; omega
    | succ i => simp at hu
  · intro u hu
    rw [List.mem_singleton] at hu; subst hu
    simp [Value.ownBlock]
end Go.Proofs.YtljmfpifhbfdcaaDoor
