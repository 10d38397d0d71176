/-
  A result cell for a complex, a new complex of the model's own, and what keeps them.
  LinkOf, plainly.
  A number put to its place, cones plainly, and a complex of one vertex of the model's own.
-/
import Derived.Test.YtibdcejglkhcfaaGreatDoorPM
import Derived.Test.YtibdcejglkhcfaaGreatDoorCzA
import Derived.Test.YtibdcejglkhcfaaGreatDoorCyN
import Derived.Test.YtibdcejglkhcfaaGreatDoorCyL
namespace Go.Proofs.YtibdcejglkhcfaaGreatDoor
open Go.RowKit
set_option linter.unusedVariables false
set_option linter.unusedSimpArgs false

/-- The cell of a result that is still empty. -/
def ResC (w : World) (L : Nat) : Prop := PtC w L (.slice none 0 0) ∧ w.frozen? ⟨L, 0, none⟩ = false
theorem ResC.on {w w' : World} {L : Nat} (h : ResC w L) (hb : Below w.heap.size w w') : ResC w' L := ⟨h.1.on hb, (hb.frozen (p := ⟨L, 0, none⟩) h.1.1).trans h.2⟩
theorem ResC.gr {w w' : World} {L cb : Nat} (h : ResC w L) (hg : w.grownBy w' (some cb)) (hne : L ≠ cb) : ResC w' L :=
  ⟨⟨Nat.lt_of_lt_of_le h.1.1 hg.size, by rw [World.cell?_of_block (hg.block L h.1.1 (fun e => hne (by injection e)))]; exact h.1.2⟩, by rw [World.frozen?_of_block (hg.block L h.1.1 (fun e => hne (by injection e)))]; exact h.2⟩
theorem ResC.new (w : World) : ResC (w.alloc (.cells #[.slice none 0 0] 27)) w.heap.size := ⟨PtC.new w _ _, World.frozen?_alloc_new w _ _ _⟩
theorem gr_on {w a b : World} {r : Option Nat} (hg : w.grownBy a r) (hb : Below a.heap.size a b) : w.grownBy b r :=
  ⟨hb.os.trans hg.os, hb.tape.trans hg.tape, hb.output.trans hg.output, Nat.le_trans hg.size hb.size, fun k hk hr => (hb.block k (Nat.lt_of_lt_of_le hk hg.size)).trans (hg.block k hk hr)⟩
theorem gr_tr {w a b : World} {r : Option Nat} (hg : w.grownBy a r) (hb : a.grownBy b r) : w.grownBy b r :=
  ⟨hb.os.trans hg.os, hb.tape.trans hg.tape, hb.output.trans hg.output, Nat.le_trans hg.size hb.size, fun k hk hr => (hb.block k (Nat.lt_of_lt_of_le hk hg.size) hr).trans (hg.block k hk hr)⟩
theorem OwnI.gr {B cb : Nat} {w w' : World} {v : Value} {zs : List Int} (h : OwnI B w v zs) (hg : w.grownBy w' (some cb)) (hne : v.ownBlock ≠ some cb) : OwnI B w' v zs := World.ownsRow.kept h.out hg (.inr hne)
theorem OwnI.notAt {B cb : Nat} {w : World} {v : Value} {zs : List Int} (h : OwnI B w v zs) (hne : cb < B) : v.ownBlock ≠ some cb := fun e => by have := (h.out.lt cb e).1; omega
theorem CpS.fresh (w : World) : CpS w.heap.size (w.heap.size + 1) ((w.alloc (.cells #[] 25)).alloc (.cells #[.slice (some ⟨w.heap.size, 0, none⟩) 0 0] 27)) [] := by
  have hC := PtC.new (w.alloc (.cells #[] 25)) (.slice (some ⟨w.heap.size, 0, none⟩) 0 0) 27
  have hF := World.frozen?_alloc_new (w.alloc (.cells #[] 25)) #[.slice (some ⟨w.heap.size, 0, none⟩) 0 0] 27 0
  rw [World.size_alloc] at hC hF
  have hG : ((w.alloc (.cells #[] 25)).alloc (.cells #[.slice (some ⟨w.heap.size, 0, none⟩) 0 0] 27)).heap[w.heap.size]? = some (.cells #[] 25) := by
    rw [heap_alloc_old _ _ (by simp)]
    exact heap_alloc_new w (.cells #[] 25)
  exact CpS.start hC.2 hC.1 hF hG (by omega) w.heap.size (Nat.le_refl _)
/-- What l05Put leaves, of a complex and of a result's cell. -/
theorem CpS.cell {B cb : Nat} {w : World} {yy : List (List Int)} (h : CpS B cb w yy) : ∃ g cap L, w.cell? ⟨cb, 0, none⟩ = some (.slice (some ⟨g, 0, none⟩) yy.length cap) ∧ OwnR B w.heap.size w (.slice (some ⟨g, 0, none⟩) yy.length cap) L yy := by
  obtain ⟨g, cap, L, p, _, o, _⟩ := h
  exact ⟨g, cap, L, p.2, o⟩
/-- Some sets, in order, once each and closed under faces, are the closure of themselves. -/
theorem cloL_self {rr L : List (List Int)} (hs : ∀ s ∈ rr, Sim s) (hc : ∀ x, Fac rr x → x ∈ rr) (hn : rr.Nodup) (hp : L.Perm rr) (ho : ∀ i j (hi : i < L.length) (hj : j < L.length), i < j → befB L[j] L[i] = false) : L = cloL rr := by
  refine cloL_is hs (sorted_ord (hp.nodup_iff.2 hn) ho) fun x => ?_
  rw [hp.mem_iff]
  exact ⟨fun hx => ⟨x, hx, fun e => by have := (hs x hx).pos; rw [e] at this; simp at this, List.Sublist.refl x⟩, hc x⟩
theorem verts_masks {rr : List (List Int)} (hs : ∀ s ∈ rr, Sim s) : (rr.map maskOf).map vertsOf = rr := by
  rw [List.map_map]
  have : rr.map (vertsOf ∘ maskOf) = rr.map id := List.map_congr_left fun s h => (hs s h).verts
  rw [this, List.map_id]
theorem mask_ne {s : List Int} (h : Sim s) : maskOf s ≠ 0 := fun e => by
  have := h.verts
  rw [e] at this
  have h2 := h.pos
  rw [← this] at h2
  exact absurd h2 (by decide)
theorem masks_fit {rr : List (List Int)} (hs : ∀ s ∈ rr, Sim s) : ∀ f ∈ rr.map maskOf, f < 1024 ∧ f ≠ 0 := fun f hf => by
  obtain ⟨s, h, rfl⟩ := List.mem_map.1 hf
  exact ⟨maskOf_lt s (fun v hv => (hs s h).bd v hv), mask_ne (hs s h)⟩
end Go.Proofs.YtibdcejglkhcfaaGreatDoor

namespace Go.Proofs.YtibdcejglkhcfaaGreatDoor
open Go.RowKit
set_option linter.unusedVariables false
set_option linter.unusedSimpArgs false

/-- The numbers of t that are not in s. -/
def difL (t s : List Int) : List Int := t.filter fun v => decide (v ∉ s)
theorem mem_difL {t s : List Int} {v : Int} : v ∈ difL t s ↔ v ∈ t ∧ v ∉ s := by simp [difL]
theorem dif_face {t s : List Int} (h : difL t s ≠ []) : Face (difL t s) t := ⟨h, List.filter_sublist⟩
theorem dif_mask {s t : List Int} (hs : Sim s) (ht : Sim t) : maskOf t &&& (65535 - maskOf s) = maskOf (difL t s) := by
  have m1 := maskOf_lt s (fun v hv => hs.bd v hv)
  have m2 := maskOf_lt t (fun v hv => ht.bd v hv)
  apply Nat.eq_of_testBit_eq
  intro x
  rw [andn_bit (by omega) (by omega), maskOf_bit t fun v hv => (ht.bd v hv).1, maskOf_bit s fun v hv => (hs.bd v hv).1,
    maskOf_bit (difL t s) fun v hv => (ht.bd v (mem_difL.1 hv).1).1]
  rw [Bool.eq_iff_iff]
  simp only [Bool.and_eq_true, Bool.not_eq_true', decide_eq_true_eq, decide_eq_false_iff_not, mem_difL]
theorem difL_snoc_in {t s : List Int} {k : Nat} (hk : k < t.length) (h : t[k] ∈ s) : difL (t.take (k + 1)) s = difL (t.take k) s := by
  unfold difL; rw [List.take_succ_eq_append_getElem hk, List.filter_append]; simp [h]
theorem difL_snoc_out {t s : List Int} {k : Nat} (hk : k < t.length) (h : t[k] ∉ s) : difL (t.take (k + 1)) s = difL (t.take k) s ++ [t[k]] := by
  unfold difL; rw [List.take_succ_eq_append_getElem hk, List.filter_append]; simp [h]
theorem difL_len (t s : List Int) : (difL t s).length ≤ t.length := List.length_filter_le _ _
/-- What is left of the simplices with some indices. -/
def difI (zz : List (List Int)) (s : List Int) (i : Int) : List Int := difL (zz.getD i.toNat []) s
def rests (zz : List (List Int)) (s : List Int) (is : List Int) : List (List Int) := (is.map (difI zz s)).filter fun x => decide (x ≠ [])
theorem rests_yes {zz : List (List Int)} {s : List Int} {is : List Int} {k : Nat} (hk : k < is.length) (h : difI zz s is[k] ≠ []) : rests zz s (is.take (k + 1)) = rests zz s (is.take k) ++ [difI zz s is[k]] := by
  unfold rests; rw [List.take_succ_eq_append_getElem hk, List.map_append, List.filter_append]; simp [h]
theorem rests_no {zz : List (List Int)} {s : List Int} {is : List Int} {k : Nat} (hk : k < is.length) (h : difI zz s is[k] = []) : rests zz s (is.take (k + 1)) = rests zz s (is.take k) := by
  unfold rests; rw [List.take_succ_eq_append_getElem hk, List.map_append, List.filter_append]; simp [h]
theorem rests_len (zz : List (List Int)) (s : List Int) (is : List Int) : (rests zz s is).length ≤ is.length := by
  unfold rests; exact Nat.le_trans (List.length_filter_le _ _) (by simp)
theorem mem_staK {zz : List (List Int)} {s : List Int} {k : Nat} {i : Int} : i ∈ staK zz s k ↔ ∃ j : Nat, j < k ∧ i = (j : Int) ∧ parB s (zz.getD j []) = true := by
  unfold staK
  simp only [List.mem_map, List.mem_filter, List.mem_range]
  constructor
  · rintro ⟨j, ⟨h1, h2⟩, rfl⟩; exact ⟨j, h1, rfl, h2⟩
  · rintro ⟨j, h1, rfl, h2⟩; exact ⟨j, ⟨h1, h2⟩, rfl⟩
theorem sta_get {zz : List (List Int)} {s : List Int} {k : Nat} (hk : k < (staK zz s zz.length).length) : ∃ j : Nat, ∃ h : j < zz.length, (staK zz s zz.length)[k] = (j : Int) ∧ difI zz s (staK zz s zz.length)[k] = difL zz[j] s := by
  obtain ⟨j, h1, h2, _⟩ := mem_staK.1 (List.getElem_mem hk)
  refine ⟨j, h1, h2, ?_⟩
  unfold difI; rw [h2]; simp [List.getD, h1]
theorem mem_rests {zz : List (List Int)} {s x : List Int} : x ∈ rests zz s (staK zz s zz.length) ↔ x ≠ [] ∧ ∃ t ∈ zz, parB s t = true ∧ x = difL t s := by
  unfold rests
  rw [List.mem_filter, List.mem_map, decide_eq_true_eq]
  constructor
  · rintro ⟨⟨i, hi, rfl⟩, h0⟩
    obtain ⟨j, h1, rfl, h2⟩ := mem_staK.1 hi
    refine ⟨h0, zz[j], List.getElem_mem h1, ?_, ?_⟩
    · rw [List.getD_eq_getElem?_getD, List.getElem?_eq_getElem h1] at h2; exact h2
    · unfold difI; simp [List.getD, h1]
  · rintro ⟨h0, t, ht, hp, rfl⟩
    obtain ⟨j, h1, rfl⟩ := List.getElem_of_mem ht
    refine ⟨⟨(j : Int), mem_staK.2 ⟨j, h1, rfl, by simpa [List.getD, h1] using hp⟩, ?_⟩, h0⟩
    unfold difI; simp [List.getD, h1]
theorem rests_sim {zz : List (List Int)} (ho : OkC zz) {s : List Int} : ∀ x ∈ rests zz s (staK zz s zz.length), Sim x := fun x hx => by
  obtain ⟨h0, t, ht, _, rfl⟩ := mem_rests.1 hx
  exact (ho.1.sim t ht).face (dif_face h0)
theorem rests_sub {zz : List (List Int)} {s : List Int} {is : List Int} {k : Nat} : ∀ x ∈ rests zz s (is.take k), x ∈ rests zz s is := fun x hx => by
  unfold rests at hx ⊢
  rw [List.mem_filter, List.mem_map] at hx ⊢
  obtain ⟨⟨i, hi, e⟩, h⟩ := hx
  exact ⟨⟨i, List.mem_of_mem_take hi, e⟩, h⟩
theorem rests_clo {zz : List (List Int)} (ho : OkC zz) {s : List Int} (hz : s ∈ zz) : ∀ x, Fac (rests zz s (staK zz s zz.length)) x → x ∈ rests zz s (staK zz s zz.length) := by
  rintro x ⟨r, hr, hx⟩
  obtain ⟨_, t, ht, hp, rfl⟩ := mem_rests.1 hr
  have st := ho.1.sim t ht
  rw [parB_iff] at hp
  have hs := ho.1.sim s hz
  refine mem_rests.2 ⟨hx.1, t.filter (fun v => decide (v ∈ s) || decide (v ∈ x)), ?_, ?_, ?_⟩
  · refine ho.1.clo t ht _ ⟨fun e => ?_, List.filter_sublist⟩
    have h1 := List.length_pos_iff.1 (show 0 < s.length by have := hs.pos; omega)
    obtain ⟨v, hv⟩ := List.exists_mem_of_ne_nil s h1
    have : v ∈ t.filter (fun v => decide (v ∈ s) || decide (v ∈ x)) := List.mem_filter.2 ⟨hp v hv, by simp [hv]⟩
    rw [e] at this; simp at this
  · rw [parB_iff]; intro v hv; exact List.mem_filter.2 ⟨hp v hv, by simp [hv]⟩
  · have xt : x.Sublist t := hx.2.trans List.filter_sublist
    refine rise_ext (st.rise.sublist xt) (List.Pairwise.filter _ (List.Pairwise.filter _ st.rise)) fun v => ?_
    rw [mem_difL, List.mem_filter]
    constructor
    · intro hv
      have := mem_difL.1 (hx.2.subset hv)
      exact ⟨⟨this.1, by simp [hv]⟩, this.2⟩
    · rintro ⟨⟨_, h2⟩, h3⟩
      simp only [Bool.or_eq_true, decide_eq_true_eq] at h2
      exact h2.resolve_left h3
theorem rests_nodup {zz : List (List Int)} (ho : OkC zz) {s : List Int} : (rests zz s (staK zz s zz.length)).Nodup := by
  unfold rests
  refine List.Pairwise.filter _ ?_
  refine List.pairwise_map.2 (List.Pairwise.imp_of_mem (R := fun a b => a < b) (fun {a b} ha hb hab e => ?_) ?_)
  · obtain ⟨i, h1, rfl, p1⟩ := mem_staK.1 ha
    obtain ⟨j, h2, rfl, p2⟩ := mem_staK.1 hb
    rw [List.getD_eq_getElem?_getD, List.getElem?_eq_getElem h1, Option.getD_some, parB_iff] at p1
    rw [List.getD_eq_getElem?_getD, List.getElem?_eq_getElem h2, Option.getD_some, parB_iff] at p2
    unfold difI at e
    simp only [Int.toNat_natCast, List.getD_eq_getElem?_getD, List.getElem?_eq_getElem h1, List.getElem?_eq_getElem h2, Option.getD_some] at e
    have : zz[i] = zz[j] := by
      refine rise_ext (ho.sim h1).rise (ho.sim h2).rise fun v => ?_
      by_cases hv : v ∈ s
      · exact ⟨fun _ => p2 v hv, fun _ => p1 v hv⟩
      · have h := @mem_difL zz[i] s v
        rw [e, mem_difL] at h
        constructor
        · intro h4; exact (h.2 ⟨h4, hv⟩).1
        · intro h4; exact (h.1 ⟨h4, hv⟩).1
    have := ho.1.inj h1 h2 this
    omega
  · unfold staK
    rw [List.pairwise_map]
    refine List.Pairwise.imp (fun h => by omega) (List.Pairwise.filter _ List.pairwise_lt_range)
noncomputable def lnkL (zz : List (List Int)) (s : List Int) : List (List Int) := cloL (rests zz s (staK zz s zz.length))
def LnkIs (zz : List (List Int)) (k : Int) (yy : List (List Int)) (c : Int) : Prop :=
  (¬ OkC zz ∧ yy = [] ∧ c = 1) ∨ (OkC zz ∧ ¬ (0 ≤ k ∧ k ≤ (zz.length : Int) - 1) ∧ yy = [] ∧ c = 2) ∨ (OkC zz ∧ (∃ i : Nat, ∃ h : i < zz.length, k = (i : Int) ∧ yy = lnkL zz zz[i]) ∧ c = 0)
theorem lnk_has (zz : List (List Int)) (k : Int) : ∃ yy c, LnkIs zz k yy c := by
  by_cases h : OkC zz
  · by_cases h1 : 0 ≤ k ∧ k ≤ (zz.length : Int) - 1
    · exact ⟨_, _, .inr (.inr ⟨h, ⟨k.toNat, by omega, by omega, rfl⟩, rfl⟩)⟩
    · exact ⟨_, _, .inr (.inl ⟨h, h1, rfl, rfl⟩)⟩
  · exact ⟨_, _, .inl ⟨h, rfl, rfl⟩⟩
theorem lnk_len {zz : List (List Int)} (ho : OkC zz) {s : List Int} (hz : s ∈ zz) : (lnkL zz s).length ≤ 48 := by
  have h1 : (lnkL zz s).length ≤ (rests zz s (staK zz s zz.length)).length := by
    refine List.Nodup.length_le_of_subset (cloL_ord _).nodup fun x hx => ?_
    exact rests_clo ho hz x ((cloL_mem (rests_sim ho)).1 hx)
  have := rests_len zz s (staK zz s zz.length)
  have := staK_len zz s zz.length
  have := ho.2
  omega
theorem LnkIs.fit {zz : List (List Int)} {k : Int} {yy : List (List Int)} {c : Int} (h : LnkIs zz k yy c) : FitR yy := by
  rcases h with ⟨_, rfl, _⟩ | ⟨_, _, rfl, _⟩ | ⟨ho, ⟨i, hi, _, rfl⟩, _⟩
  · exact ⟨by simp, by simp [tot]⟩
  · exact ⟨by simp, by simp [tot]⟩
  · have hl := lnk_len ho (List.getElem_mem hi)
    have h4 := tot_four (zz := lnkL zz zz[i]) fun z hz => by
      obtain ⟨s, hs, hf⟩ := (cloL_mem (rests_sim ho)).1 hz
      exact ((rests_sim ho s hs).face hf).le
    exact ⟨by omega, by omega⟩
end Go.Proofs.YtibdcejglkhcfaaGreatDoor

namespace Go.Proofs.YtibdcejglkhcfaaGreatDoor
open Go.RowKit
set_option linter.unusedVariables false
set_option linter.unusedSimpArgs false

/-- A number put to its place, once. -/
def insL (n : Int) : List Int → List Int
  | [] => [n]
  | z :: zs => if z < n then z :: insL n zs else if z = n then z :: zs else n :: z :: zs
theorem insL_at {n : Int} : ∀ {zs : List Int} {i : Nat} (hi : i < zs.length), (∀ j (h : j < zs.length), j < i → zs[j] < n) → n ≤ zs[i] → insL n zs = zs.take i ++ (if zs[i] = n then [] else [n]) ++ zs.drop i
  | [], i, hi, _, _ => absurd hi (Nat.not_lt_zero i)
  | z :: zs, 0, hi, _, h => by
    have h' : n ≤ z := h
    unfold insL
    rw [if_neg (by omega)]
    by_cases e : z = n
    · rw [if_pos e, if_pos (by simpa using e)]; simp
    · rw [if_neg e, if_neg (by simpa using e)]; simp
  | z :: zs, i + 1, hi, ha, h => by
    have h0 : z < n := ha 0 (by simp) (by omega)
    have hi' : i < zs.length := by simpa using hi
    unfold insL
    rw [if_pos h0, insL_at hi' (fun j hj hji => ha (j + 1) (by simpa using hj) (by omega)) (by simpa using h)]
    simp
theorem insL_end {n : Int} : ∀ {zs : List Int}, (∀ z ∈ zs, z < n) → insL n zs = zs ++ [n]
  | [], _ => rfl
  | z :: zs, h => by
    unfold insL
    rw [if_pos (h z (by simp)), insL_end (fun x hx => h x (by simp [hx]))]; rfl
theorem mem_insL {n x : Int} : ∀ {zs : List Int}, x ∈ insL n zs ↔ x = n ∨ x ∈ zs
  | [] => by simp [insL]
  | z :: zs => by
    unfold insL
    split
    · rw [List.mem_cons, mem_insL, List.mem_cons]
      constructor
      · rintro (h | h | h)
        · exact .inr (.inl h)
        · exact .inl h
        · exact .inr (.inr h)
      · rintro (h | h | h)
        · exact .inr (.inl h)
        · exact .inl h
        · exact .inr (.inr h)
    · split
      · rename_i h1 h2
        subst h2
        rw [List.mem_cons]
        constructor
        · exact fun h => .inr h
        · rintro (h | h)
          · exact .inl h
          · exact h
      · rw [List.mem_cons]
theorem insL_rise {n : Int} : ∀ {zs : List Int}, zs.Pairwise (· < ·) → (insL n zs).Pairwise (· < ·)
  | [], _ => by simp [insL]
  | z :: zs, h => by
    have h' := List.pairwise_cons.1 h
    unfold insL
    split
    · rename_i h1
      refine List.pairwise_cons.2 ⟨fun x hx => ?_, insL_rise h'.2⟩
      rcases mem_insL.1 hx with e | e
      · subst e; exact h1
      · exact h'.1 x e
    · split
      · exact h
      · rename_i h1 h2
        refine List.pairwise_cons.2 ⟨fun x hx => ?_, h⟩
        rcases List.mem_cons.1 hx with e | e
        · omega
        · have := h'.1 x e; omega
theorem insL_len {n : Int} : ∀ (zs : List Int), (insL n zs).length ≤ zs.length + 1
  | [] => by simp [insL]
  | z :: zs => by
    unfold insL
    have := insL_len (n := n) zs
    split
    · simp; omega
    · split <;> simp
def PutInv (n : Int) (zs : List Int) (k : Nat) (d : Bool) (ys : List Int) : Prop :=
  (d = false ∧ ys = zs.take k ∧ ∀ j (h : j < zs.length), j < k → zs[j] < n) ∨ (d = true ∧ ys ++ zs.drop k = insL n zs)
theorem PutInv.len {n : Int} {zs : List Int} {k : Nat} {d : Bool} {ys : List Int} (h : PutInv n zs k d ys) : ys.length ≤ zs.length + 1 := by
  rcases h with ⟨_, rfl, _⟩ | ⟨_, e⟩
  · rw [List.length_take]; omega
  · have := insL_len (n := n) zs; rw [← e, List.length_append] at this; omega
theorem PutInv.small {n : Int} {zs : List Int} {k : Nat} {ys : List Int} (h : PutInv n zs k false ys) (hk : k < zs.length) (hs : zs[k] < n) : PutInv n zs (k + 1) false (ys ++ [zs[k]]) := by
  rcases h with ⟨_, rfl, ha⟩ | ⟨e, _⟩
  · refine .inl ⟨rfl, by rw [List.take_succ_eq_append_getElem hk], fun j hj hjk => ?_⟩
    by_cases e : j = k
    · subst e; exact hs
    · exact ha j hj (by omega)
  · cases e
theorem PutInv.same {n : Int} {zs : List Int} {k : Nat} {ys : List Int} (h : PutInv n zs k false ys) (hk : k < zs.length) (hs : zs[k] = n) : PutInv n zs (k + 1) true (ys ++ [zs[k]]) := by
  rcases h with ⟨_, rfl, ha⟩ | ⟨e, _⟩
  · refine .inr ⟨rfl, ?_⟩
    rw [insL_at hk ha (by omega), if_pos hs, List.append_nil, List.append_assoc, List.singleton_append, ← List.drop_eq_getElem_cons hk]
  · cases e
theorem PutInv.great {n : Int} {zs : List Int} {k : Nat} {ys : List Int} (h : PutInv n zs k false ys) (hk : k < zs.length) (hs : n < zs[k]) : PutInv n zs (k + 1) true ((ys ++ [n]) ++ [zs[k]]) := by
  rcases h with ⟨_, rfl, ha⟩ | ⟨e, _⟩
  · refine .inr ⟨rfl, ?_⟩
    rw [insL_at hk ha (by omega), if_neg (by omega), List.drop_eq_getElem_cons hk]; simp
  · cases e
theorem PutInv.after {n : Int} {zs : List Int} {k : Nat} {ys : List Int} (h : PutInv n zs k true ys) (hk : k < zs.length) : PutInv n zs (k + 1) true (ys ++ [zs[k]]) := by
  rcases h with ⟨e, _⟩ | ⟨_, e⟩
  · cases e
  · refine .inr ⟨rfl, ?_⟩
    rw [List.append_assoc, List.singleton_append, ← List.drop_eq_getElem_cons hk]; exact e
theorem PutInv.endNo {n : Int} {zs : List Int} {ys : List Int} (h : PutInv n zs zs.length false ys) : ys ++ [n] = insL n zs := by
  rcases h with ⟨_, rfl, ha⟩ | ⟨e, _⟩
  · rw [List.take_length, insL_end fun z hz => ?_]
    obtain ⟨j, hj, rfl⟩ := List.getElem_of_mem hz; exact ha j hj hj
  · cases e
theorem PutInv.endYes {n : Int} {zs : List Int} {ys : List Int} (h : PutInv n zs zs.length true ys) : ys = insL n zs := by
  rcases h with ⟨e, _⟩ | ⟨_, e⟩
  · cases e
  · simpa using e
set_option maxRecDepth 100000 in
set_option maxHeartbeats 6400000 in
theorem l00Put_any {v : Value} {zs : List Int} {n : Int} {w : World} (hv : IntsAt w v zs) :
    Calls Tryz.prog 128 #[v, .int .i64 n] w fun e w' => RetN (insL n zs) w e w' := by
  obtain ⟨i0, hi0, iz0, iz1, iz2⟩ := info_parts info2
  obtain ⟨a, c, rfl, hl, k1⟩ := hv.any
  have K1 := Lib.hid k1
  have hm : OwnI w.heap.size (w.alloc (.cells #[] 2)) (.slice (some ⟨w.heap.size, 0, none⟩) 0 0) [] := World.ownsRow_made (base := w.heap.size) (e := 2) (size := 1) w #[] 0 (Nat.le_refl _) (Nat.zero_le _) rfl
  have HM := Lib.hid hm
  have AL : Hid (Below w.heap.size w (w.alloc (.cells #[] 2))) := (Below.refl _ w).alloc (Nat.le_refl _) _
  clear k1 hm hv
  go_enter Tryz.func128, Tryz.ntmps128
  go_wp2_with fail
  go_loopw [5, 6, 7] (fun sv sd si wr => ∃ (k : Nat) (d : Bool) (ys : List Int), k ≤ zs.length ∧ si = .int .i64 (k : Int) ∧ sd = .bool d ∧ Hid (PutInv n zs k d ys) ∧ Hid (OwnI w.heap.size wr sv ys) ∧ Hid (Below w.heap.size w wr)) (fun _ _ i _ => zs.length - (intOf i).toNat)
  case atStart => exact ⟨0, false, [], Nat.zero_le _, rfl, rfl, .inl ⟨rfl, rfl, fun j _ h => absurd h (Nat.not_lt_zero j)⟩, HM, AL⟩
  case round =>
    clear HM AL
    obtain ⟨k, d, ys, hk, rfl, rfl, HI, HY, HB⟩ := hrel
    have hs := HB.out.size
    have i0' : 0 ≤ (k : Int) := by omega
    have hyl := HI.out.len
    by_cases hlt : k < zs.length
    · have i1 : (k : Int) < (zs.length : Int) := by omega
      obtain ⟨b, o, rfl, hb, g1'⟩ := K1.out k hlt
      have g1 : wr.cell? ⟨b, o + k, none⟩ = some (.int .i64 zs[k]) := (HB.out.cell (p := ⟨b, o + k, none⟩) hb).trans g1'
      obtain ⟨ya, yc, rfl⟩ := HY.out.slice
      have G1 := Lib.hid g1'
      clear g1'
      have arm := fun (x : Int) (W : World) (zl : List Int) (h : OwnI w.heap.size W (.slice ya zl.length yc) zl) => World.ownsRow.alloc h.out (.cells #[.int .i64 x] 2)
      cases d with
      | true =>
        have HN := Lib.hid (HI.out.after hlt)
        generalize zs[k] = x at g1 G1 HN
        go_wp2_with (at_builtin; refine wpList_append_own _ rfl _ _ 25 rfl w.heap.size 2 i0 (.int .i64 0) 1 8 Tryz.underlying25 hi0 iz0 iz1 iz2 rfl (by decide) _ _ _ rfl (World.ownsRow.alloc HY.out.out (.cells #[.int .i64 x] 2)) ⟨wr.heap.size, 0, none⟩ 1 1 [.int .i64 x] rfl rfl (row_oneS _ _ _ _ (by first | rfl | simp)) (by first | rfl | (intro u hu; simp at hu; subst hu; rfl)) (by unfold maxLen; omega) (by omega) (by first | omega | (simp; omega)) ?_; intro v2 w10 hown3 hgrow _)
        have HO2 : Hid (OwnI w.heap.size w10 v2 (ys ++ [x])) := pushU hown3
        have HB2 := Lib.hid (below_pushU HB.out (Nat.le_refl _) (by first | omega | (simp; omega)) HY.out hgrow)
        clear hown3 hgrow arm
        go_wp2_with fail
        go_roundw
        case rel => exact ⟨k + 1, true, _, by omega, by go_num, rfl, HN, HO2, HB2⟩
        case measure => simp [intOf]; omega
      | false =>
        rcases Int.lt_trichotomy zs[k] n with hc | hc | hc
        · have HN := Lib.hid (HI.out.small hlt hc)
          generalize zs[k] = x at g1 G1 HN hc
          have h1 : ¬ x ≥ n := by omega
          have h2 : decide (x ≥ n) = false := decide_eq_false h1
          go_wp2_with (at_builtin; refine wpList_append_own _ rfl _ _ 25 rfl w.heap.size 2 i0 (.int .i64 0) 1 8 Tryz.underlying25 hi0 iz0 iz1 iz2 rfl (by decide) _ _ _ rfl (World.ownsRow.alloc HY.out.out (.cells #[.int .i64 x] 2)) ⟨wr.heap.size, 0, none⟩ 1 1 [.int .i64 x] rfl rfl (row_oneS _ _ _ _ (by first | rfl | simp)) (by first | rfl | (intro u hu; simp at hu; subst hu; rfl)) (by unfold maxLen; omega) (by omega) (by first | omega | (simp; omega)) ?_; intro v2 w10 hown3 hgrow _)
          have HO2 : Hid (OwnI w.heap.size w10 v2 (ys ++ [x])) := pushU hown3
          have HB2 := Lib.hid (below_pushU HB.out (Nat.le_refl _) (by first | omega | (simp; omega)) HY.out hgrow)
          clear hown3 hgrow arm
          go_wp2_with fail
          go_roundw
          case rel => exact ⟨k + 1, false, _, by omega, by go_num, rfl, HN, HO2, HB2⟩
          case measure => simp [intOf]; omega
        · have HN := Lib.hid (HI.out.same hlt hc)
          generalize zs[k] = x at g1 G1 HN hc
          have h1 : x ≥ n := by omega
          have h2 : decide (x ≥ n) = true := decide_eq_true h1
          have h3 : ¬ x > n := by omega
          have h4 : decide (x > n) = false := decide_eq_false h3
          clear hc
          go_wp2_with (at_builtin; refine wpList_append_own _ rfl _ _ 25 rfl w.heap.size 2 i0 (.int .i64 0) 1 8 Tryz.underlying25 hi0 iz0 iz1 iz2 rfl (by decide) _ _ _ rfl (World.ownsRow.alloc HY.out.out (.cells #[.int .i64 x] 2)) ⟨wr.heap.size, 0, none⟩ 1 1 [.int .i64 x] rfl rfl (row_oneS _ _ _ _ (by first | rfl | simp)) (by first | rfl | (intro u hu; simp at hu; subst hu; rfl)) (by unfold maxLen; omega) (by omega) (by first | omega | (simp; omega)) ?_; intro v2 w10 hown3 hgrow _)
          have HO2 : Hid (OwnI w.heap.size w10 v2 (ys ++ [x])) := pushU hown3
          have HB2 := Lib.hid (below_pushU HB.out (Nat.le_refl _) (by first | omega | (simp; omega)) HY.out hgrow)
          clear hown3 hgrow arm
          go_wp2_with fail
          go_roundw
          case rel => exact ⟨k + 1, true, _, by omega, by go_num, rfl, HN, HO2, HB2⟩
          case measure => simp [intOf]; omega
        · have HN := Lib.hid (HI.out.great hlt hc)
          generalize zs[k] = x at g1 G1 HN hc
          have h1 : x ≥ n := by omega
          have h2 : decide (x ≥ n) = true := decide_eq_true h1
          have h3 : x > n := by omega
          have h4 : decide (x > n) = true := decide_eq_true h3
          go_wp2_with (first | (at_builtin; refine wpList_append_own _ rfl _ _ 25 rfl w.heap.size 2 i0 (.int .i64 0) 1 8 Tryz.underlying25 hi0 iz0 iz1 iz2 rfl (by decide) _ _ _ rfl (World.ownsRow.alloc HY.out.out (.cells #[.int .i64 n] 2)) ⟨wr.heap.size, 0, none⟩ 1 1 [.int .i64 n] rfl rfl (row_oneS _ _ _ _ (by first | rfl | simp)) (by first | rfl | (intro u hu; simp at hu; subst hu; rfl)) (by unfold maxLen; omega) (by omega) (by first | omega | (simp; omega)) ?_; intro v2 w10 hown3 hgrow _; have HO2 : Hid (OwnI w.heap.size w10 v2 (ys ++ [n])) := pushU hown3; have HB2 := Lib.hid (below_pushU HB.out (Nat.le_refl _) (by first | omega | (simp; omega)) HY.out hgrow); have g2 : w10.cell? ⟨b, o + k, none⟩ = some (.int .i64 x) := (HB2.out.cell (p := ⟨b, o + k, none⟩) hb).trans G1.out; have hyl2 : (ys ++ [n]).length ≤ zs.length + 2 := (by rw [List.length_append, List.length_singleton]; omega); have hs2 := HB2.out.size; clear hown3 hgrow; generalize ys ++ [n] = y2 at HO2 HN hyl2; obtain ⟨za, zc, rfl⟩ := HO2.out.slice) | (at_builtin; refine wpList_append_own _ rfl _ _ 25 rfl w.heap.size 2 i0 (.int .i64 0) 1 8 Tryz.underlying25 hi0 iz0 iz1 iz2 rfl (by decide) _ _ _ rfl (World.ownsRow.alloc HO2.out.out (.cells #[.int .i64 x] 2)) ⟨w10.heap.size, 0, none⟩ 1 1 [.int .i64 x] rfl rfl (row_oneS _ _ _ _ (by first | rfl | simp)) (by first | rfl | (intro u hu; simp at hu; subst hu; rfl)) (by unfold maxLen; omega) (by omega) (by first | omega | (simp; omega)) ?_; intro v3 w11 hown3 hgrow _))
          have HO3 : Hid (OwnI w.heap.size w11 v3 (y2 ++ [x])) := pushU hown3
          have HB3 := Lib.hid (below_pushU HB2.out (Nat.le_refl _) (by first | omega | (simp; omega)) HO2.out hgrow)
          clear hown3 hgrow
          go_wp2_with fail
          go_roundw
          case rel => exact ⟨k + 1, true, _, by omega, by go_num, rfl, HN, HO3, HB3⟩
          case measure => simp [intOf]; omega
    · obtain rfl : k = zs.length := by omega
      obtain ⟨ya, yc, rfl⟩ := HY.out.slice
      cases d with
      | true =>
        have HE := Lib.hid (HI.out.endYes)
        go_wp2_with fail
        go_ret
        exact ⟨_, rfl, by rw [← HE.out]; exact HY.out, HB.out⟩
      | false =>
        have HE := Lib.hid (HI.out.endNo)
        go_wp2_with (at_builtin; refine wpList_append_own _ rfl _ _ 25 rfl w.heap.size 2 i0 (.int .i64 0) 1 8 Tryz.underlying25 hi0 iz0 iz1 iz2 rfl (by decide) _ _ _ rfl (World.ownsRow.alloc HY.out.out (.cells #[.int .i64 n] 2)) ⟨wr.heap.size, 0, none⟩ 1 1 [.int .i64 n] rfl rfl (row_oneS _ _ _ _ (by first | rfl | simp)) (by first | rfl | (intro u hu; simp at hu; subst hu; rfl)) (by unfold maxLen; omega) (by omega) (by first | omega | (simp; omega)) ?_; intro v2 w10 hown3 hgrow _)
        have HO2 : Hid (OwnI w.heap.size w10 v2 (ys ++ [n])) := pushU hown3
        have HB2 := Lib.hid (below_pushU HB.out (Nat.le_refl _) (by first | omega | (simp; omega)) HY.out hgrow)
        clear hown3 hgrow
        go_wp2_with fail
        go_ret
        exact ⟨_, rfl, by rw [← HE.out]; exact HO2.out, HB2.out⟩
end Go.Proofs.YtibdcejglkhcfaaGreatDoor
