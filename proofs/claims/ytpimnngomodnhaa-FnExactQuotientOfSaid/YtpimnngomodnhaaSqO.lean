/-
  QuotientOf of the model.
-/
import Derived.Test.YtpimnngomodnhaaSqM
import Derived.Test.YtpimnngomodnhaaSqJ
import Derived.Test.YtpimnngomodnhaaSpY
import Derived.Test.YtpimnngomodnhaaGbv
namespace Go.Proofs.Ytpimnngomodnhaa
open Go.RowKit
open Lin
set_option linter.unusedVariables false
set_option linter.unusedSectionVars false

theorem one_src_at {w : World} {g : Nat} {u : Value} (hg : g < w.heap.size) (h : w.cell? ⟨g, 0, none⟩ = some u) : SrcAt w (.slice (some ⟨g, 0, none⟩) 1 1) [u] :=
  ⟨_, 1, rfl, by simp, .inr ⟨g, 0, rfl, .inr hg, fun j x hj => by
    rcases j with _ | j
    · simp at hj; subst hj; exact h
    · simp at hj⟩⟩
section
variable {q : Nat} [NeZero q]
theorem quoR_start (N s r : Nat) (A B : Mt q) : quoR N s A (quoP N s r A B s) = [] := by
  unfold quoR
  rw [List.map_eq_nil_iff, List.filter_eq_nil_iff]
  intro c hc
  unfold quoP at hc
  rw [List.mem_filter, List.mem_range] at hc
  simp
  exact hc.1
theorem quoR_yes {N s r i : Nat} {A B : Mt q} (h : Piv (turn (stack s B A)) N (s + i)) : quoR N s A (quoP N s r A B (s + (i + 1))) = quoR N s A (quoP N s r A B (s + i)) ++ [rowL N A i] := by
  rw [← Nat.add_assoc, quoP_yes h, quoR_app, quoR_one N s A (Nat.le_add_right s i), Nat.add_sub_cancel_left]
theorem quoR_no {N s r i : Nat} {A B : Mt q} (h : ¬ Piv (turn (stack s B A)) N (s + i)) : quoR N s A (quoP N s r A B (s + (i + 1))) = quoR N s A (quoP N s r A B (s + i)) := by
  rw [← Nat.add_assoc, quoP_no h]
/-- What the loop keeps: the rows lead the same vectors to 0 as those up to the i-th, and there are as many as their rank. -/
def ExtT (N s : Nat) (A B : Mt q) (i t : Nat) (T : Mt q) : Prop := (∀ v, Ker t N T v ↔ Ker (s + i) N (stack s B A) v) ∧ (red t T N).piv.length = t ∧ t ≤ s + i
theorem ExtT.start {N s : Nat} {A B : Mt q} (hB : (red s B N).piv.length = s) : ExtT N s A B 0 s B :=
  ⟨fun v => ker_congr (fun i j hi hj => (stack_top hi).symm) v, hB, by omega⟩
theorem ExtT.yes (hf : FldP q) {N s i t : Nat} {A B T : Mt q} (h : ExtT N s A B i t T) (hp : Piv (turn (stack s B A)) N (s + i)) :
    (basOf (t + 1) N (adj t T (A i))).length = t + 1 ∧ ExtT N s A B (i + 1) (t + 1) (adj t T (A i)) := by
  have e : (stack s B A (s + i)) = A i := by funext k; exact stack_low
  obtain ⟨h1, -, -, h4⟩ := grow_row hf h.1
  have h4 := h4 hp
  rw [e] at h1 h4
  rw [h.2.1] at h4
  exact ⟨by unfold basOf; rw [rowsOf_len]; exact h4, fun v => by rw [h1 v]; rfl, h4, by have := h.2.2; omega⟩
theorem ExtT.no (hf : FldP q) {N s i t : Nat} {A B T : Mt q} (h : ExtT N s A B i t T) (hp : ¬ Piv (turn (stack s B A)) N (s + i)) :
    (basOf (t + 1) N (adj t T (A i))).length = t ∧ ExtT N s A B (i + 1) t T := by
  have e : (stack s B A (s + i)) = A i := by funext k; exact stack_low
  obtain ⟨-, h2, h3, -⟩ := grow_row hf h.1
  have h2 := h2.2 hp
  have h3 := h3 hp
  rw [e] at h2
  rw [h.2.1] at h2
  exact ⟨by unfold basOf; rw [rowsOf_len]; exact h2, fun v => by rw [h3 v]; rfl, h.2.1, by have := h.2.2; omega⟩
end
/-- A slice of rows whose numbers lie in an older world. -/
def RowsK (w0 w : World) (v : Value) (m : Nat) (R : Nat → List Int) : Prop :=
  ∃ L : List Value, L.length = m ∧ SrcAt w v L ∧ (∀ u ∈ L, u.oneCell' = true) ∧ ∀ i (h : i < L.length), IntsC w0 L[i] (R i)
theorem RowsC.toK {w : World} {v : Value} {m : Nat} {R : Nat → List Int} (h : RowsC w v m R) : RowsK w w v m R := h.list
theorem RowsK.on {w0 w w' : World} {v : Value} {m : Nat} {R : Nat → List Int} (h : RowsK w0 w v m R) (hb : Below w.heap.size w w') : RowsK w0 w' v m R := by
  obtain ⟨L, h1, h2, h3, h4⟩ := h
  exact ⟨L, h1, h2.on hb, h3, h4⟩
theorem RowsK.slice {w0 w : World} {v : Value} {m : Nat} {R : Nat → List Int} (h : RowsK w0 w v m R) : ∃ a c, v = .slice a m c := by
  obtain ⟨L, rfl, ⟨a, c, rfl, _⟩, _⟩ := h
  exact ⟨a, c, rfl⟩
theorem SrcAt.gbv {a w : World} {x : Value} {news : List Value} {g : Option Nat} (h : SrcAt a x news) (hg : a.grownBy w g) (hne : ∀ k, g = some k → x.ownBlock ≠ some k) : SrcAt w x news := by
  obtain ⟨ad, c, rfl, hl, h | ⟨b, off, rfl, hbk, hc⟩⟩ := h
  · exact ⟨ad, c, rfl, hl, .inl h⟩
  · refine ⟨_, c, rfl, hl, .inr ⟨b, off, rfl, ?_, fun j u hj => ?_⟩⟩
    · rcases hbk with h | h
      · exact .inl h
      · exact .inr (Nat.lt_of_lt_of_le h hg.size)
    · rcases hbk with rfl | h
      · simp at hj
      · exact (gbv_cell hg h (fun k hk e => hne k hk (by rw [e]; rfl)) _).trans (hc j u hj)
theorem own_srcAt {w : World} {B n : Nat} {t : TypeId} {v : Value} {L : List Value} (h : w.ownsRow B t 1 v n L) (hl : L.length = n) (hn : n ≤ 2097152) : SrcAt w v L := by
  have h' := h
  subst hl
  obtain ⟨hx, ⟨rfl, h0⟩ | ⟨g, cap, cur, rfl, hg, hcur, _⟩⟩ := h
  · have hL := List.length_eq_zero_iff.1 h0
    subst hL
    exact ⟨none, 0, rfl, by simp, .inl ⟨rfl, rfl, rfl⟩⟩
  · refine ⟨_, cap, rfl, hn, .inr ⟨g, 0, rfl, .inr (h'.lt g rfl).2, fun j u hj => ?_⟩⟩
    have := h'.cells (g := g) rfl j u hj
    rw [Addr.add_lit] at this
    exact this
/-- The rows behind an append of one more. -/
theorem rowsK_adj {q N t : Nat} [NeZero q] {T : Mt q} {x : Nat → Fin q} {w0 w3 : World} {v3 v : Value} {Ls : List Value} (hs : SrcAt w3 v3 (Ls ++ [v])) (hlen : Ls.length = t)
    (h1 : ∀ u ∈ Ls, u.oneCell' = true) (HI : ∀ i (h : i < Ls.length), IntsC w0 Ls[i] (rowL N T i)) (hv : v.oneCell' = true) (hx : IntsC w0 v (bL N x)) : RowsK w0 w3 v3 (t + 1) (rowL N (adj t T x)) := by
  refine ⟨Ls ++ [v], by simp [hlen], hs, fun u hu => ?_, fun i hi => ?_⟩
  · rcases List.mem_append.1 hu with h | h
    · exact h1 u h
    · rw [List.mem_singleton.1 h]; exact hv
  · rw [rowL_adj]
    by_cases e : i < t
    · rw [if_pos e, List.getElem_append_left (by omega)]
      exact HI i (by omega)
    · rw [if_neg e]
      have hi' := hi
      rw [List.length_append, hlen] at hi'
      obtain rfl : i = t := by simp at hi'; omega
      have : (Ls ++ [v])[i] = v := by rw [List.getElem_append_right (by omega)]; simp [hlen]
      rw [this]
      exact hx
/-- The rows behind an append of one more, as they lie. -/
theorem rows_adj {q N t B : Nat} [NeZero q] {T : Mt q} {x : Nat → Fin q} {w0 w3 : World} {v3 v : Value} {Ls : List Value} (hv3 : w3.ownsRow B 24 1 v3 (t + 1) (Ls ++ [v])) (hlen : Ls.length = t) (ht : t ≤ 1048576)
    (HI : ∀ i (h : i < Ls.length), IntsC w0 Ls[i] (rowL N T i)) (hx : IntsC w0 v (bL N x)) (hb : Below w0.heap.size w0 w3) : RowsC w3 v3 (t + 1) (rowL N (adj t T x)) := by
  refine RowsC.of_own2 hv3 (by omega) fun i u hiu => ?_
  rw [rowL_adj]
  by_cases e : i < t
  · rw [if_pos e]
    rw [List.getElem?_append_left (by omega)] at hiu
    have hh := HI i (by omega)
    rw [List.getElem?_eq_getElem (by omega)] at hiu
    injection hiu with hiu
    rw [hiu] at hh
    exact hh.on hb
  · rw [if_neg e]
    have hin := (List.getElem?_eq_some_iff.1 hiu).1
    rw [List.length_append, hlen] at hin
    obtain rfl : i = t := by simp at hin; omega
    rw [List.getElem?_append_right (by omega)] at hiu
    have : u = v := by rw [hlen, Nat.sub_self] at hiu; simpa using hiu.symm
    rw [this]
    exact hx.on hb
set_option maxRecDepth 100000 in
set_option maxHeartbeats 6400000 in
theorem l04Ext_any {q N s r : Nat} [NeZero q] {A B : Mt q} {u v : Value} {w : World} (hu : RowsC w u s (rowL N B)) (hv : RowsC w v r (rowL N A)) (hq : IsPr (q : Int)) (hs : s ≤ 32) (hr : r ≤ 32) (hN : N ≤ 32) (hB : (red s B N).piv.length = s) :
    Calls Try.prog 75 #[.int .i64 (q : Int), .int .i64 (N : Int), u, v] w fun e w' => RetR w (quoL N s r A B) e w' := by
  obtain ⟨i0, hi0, iz0, iz1, iz2⟩ := info_parts info_r
  have HQ := Lib.hid hq
  have HF : Hid (FldP q) := fd_of hq
  have HBL : Hid ((basOf s N B).length = s) := by show _ = _; unfold basOf; rw [rowsOf_len]; exact hB
  have HST := Lib.hid (ExtT.start (A := A) hB)
  have HVV := Lib.hid hv
  obtain ⟨Ls0, hL0, hsrc, h1, hI⟩ := hu.list
  have HSRC0 := Lib.hid hsrc
  have H10 := Lib.hid h1
  have HI0 : Hid (∀ i (h : i < Ls0.length), IntsC w Ls0[i] (rowL N B i)) := hI
  have HL0 := Lib.hid hL0
  have hsN : s * N ≤ 1048576 := Nat.le_trans (Nat.mul_le_mul hs hN) (by decide)
  obtain ⟨a, c, rfl, -, -⟩ := hu
  obtain ⟨a2, c2, rfl, -, -⟩ := hv
  have HM := Lib.hid (own_made w w.heap.size w.heap.size 24 rfl (Nat.le_refl _))
  have HQL : Hid (quoL N s r A B = quoR N s A (quoP N s r A B (s + r))) := rfl
  generalize quoL N s r A B = zq at HQL ⊢
  clear hq hsrc h1 hI hL0 hB
  go_enter Try.func75, Try.ntmps75
  go_wp2_with (at_builtin; refine wp_append_src rfl _ _ 28 rfl w.heap.size 24 i0 (.slice none 0 0) 24 Try.underlying28 hi0 iz0 iz1 iz2 rfl _ 0 [] rfl HM.out _ Ls0 rfl (HSRC0.out.on ((Below.refl _ _).alloc (Nat.le_refl _) _)) H10.out (by omega) (by omega) (by simp) ?_; intro v2 w2 hv2 hg2; have hb2 : Below w.heap.size w w2 := ((Below.refl w.heap.size w).alloc (Nat.le_refl _) _).grown hg2 (by simp) (fun k hk => (HM.out.lt k hk).1); have hs2 := hb2.size; rw [HL0.out, Nat.zero_add, List.nil_append] at hv2; obtain ⟨v2a, v2c, rfl⟩ := row_slice hv2)
  have hrc : RowsC w2 (.slice v2a s v2c) s (rowL N B) := RowsC.of_own hv2 (by omega) HL0.out (fun i h => (HI0.out i h).on hb2)
  have HRC := Lib.hid hrc
  have HB2 := Lib.hid hb2
  clear hv2 hg2 hrc hb2
  refine (l04Basis_any HRC.out HQ.out (by omega) (by omega) hsN).mono ?_
  rintro e w3 ⟨v3, rfl, ho, hb⟩
  obtain ⟨va, vc, rfl⟩ := ho.slice
  simp only [HBL.out] at ho ⊢
  have HB3 := Lib.hid (HB2.out.trans (hb.mono hs2))
  have HRC := Lib.hid (HRC.out.on hb)
  have HV3 := Lib.hid (HVV.out.on HB3.out)
  have hs3 := HB3.out.size
  clear hb ho
  have HX0 := Lib.hid (OwnRI.made w3 w3.heap.size (Nat.le_refl _))
  have HK0 := Lib.hid ((Below.refl w3.heap.size w3).alloc (Nat.le_refl _) (.cells #[] 24))
  have HRC0 := Lib.hid (HRC.out.toK.on HK0.out)
  have HQ0 := Lib.hid (quoR_start N s r A B)
  go_wp2_with fail
  go_loopw [12, 9, 10, 11] (fun si sr sm so wr => ∃ (i t : Nat) (T : Mt q), i ≤ r ∧ si = .int .i64 (i : Int) ∧ sm = .int .i64 (t : Int) ∧ Hid (ExtT N s A B i t T) ∧ Hid (RowsK w3 wr sr t (rowL N T)) ∧ Hid (OwnRI w3.heap.size wr so (quoR N s A (quoP N s r A B (s + i)))) ∧ Hid (Below w3.heap.size w3 wr)) (fun si _ _ _ _ => r - (intOf si).toNat)
  case atStart => exact ⟨0, s, B, Nat.zero_le _, rfl, rfl, HST.out, HRC0.out, (by rw [Nat.add_zero, HQ0.out]; exact HX0.out), HK0.out⟩
  case round =>
    obtain ⟨i, t, T, hi, rfl, rfl, HT, HR, HX, HK⟩ := hrel
    have htl : t ≤ s + i := HT.out.2.2
    have sk := HK.out.size
    obtain ⟨Ls, hLs, hsrc, h1, hI3⟩ := HR.out
    have HSRC := Lib.hid hsrc
    have H1 := Lib.hid h1
    have HI3 : Hid (∀ i (h : i < Ls.length), IntsC w3 Ls[i] (rowL N T i)) := hI3
    have HI : Hid (∀ i (h : i < Ls.length), IntsC wr Ls[i] (rowL N T i)) := fun i h => (hI3 i h).on HK.out
    have HLS := Lib.hid hLs
    obtain ⟨sra, src, rfl⟩ := HR.out.slice
    clear hLs hsrc h1 hI3
    by_cases hlt : i < r
    · have i00 : (0 : Int) ≤ (i : Int) := by omega
      have i01 : (i : Int) < (r : Int) := by omega
      obtain ⟨Hr, ro, rc, ur, e, hHr3, d3, hui⟩ := HV3.out.at hlt
      simp only [Value.slice.injEq, true_and] at e
      obtain ⟨rfl, rfl⟩ := e
      obtain ⟨ua, uc, rfl⟩ := hui.1.slice
      rw [rowL_len] at d3 hui
      have HUI3 : Hid (IntsC w3 (.slice ua N uc) (bL N (A i))) := hui
      have HUI := Lib.hid (HUI3.out.on HK.out)
      have d0 := (HK.out.cell (p := ⟨Hr, ro + i, none⟩) hHr3).trans d3
      have hHr' : Hr < wr.heap.size := by omega
      clear hui d3
      have HMa : Hid ((wr.alloc (.cells #[] 24)).drew.ownsRow wr.heap.size 24 1 (.slice (some ⟨wr.heap.size, 0, none⟩) 0 0) 0 []) := own_made wr.drew _ _ _ rfl (Nat.le_refl _)
      have HMb : Hid (((wr.alloc (.cells #[] 24)).alloc (.cells #[.slice ua N uc] 24)).drew.ownsRow wr.heap.size 24 1 (.slice (some ⟨wr.heap.size, 0, none⟩) 0 0) 0 []) := HMa.out.alloc _
      have HMc : Hid (((wr.alloc (.cells #[.slice ua N uc] 24)).alloc (.cells #[] 24)).drew.ownsRow wr.heap.size 24 1 (.slice (some ⟨wr.heap.size + 1, 0, none⟩) 0 0) 0 []) := own_made (wr.alloc (.cells #[.slice ua N uc] 24)).drew _ _ _ (by simp) (by omega)
      have HCb : Hid (((wr.alloc (.cells #[] 24)).alloc (.cells #[.slice ua N uc] 24)).drew.cell? ⟨wr.heap.size + 1, 0, none⟩ = some (.slice ua N uc)) := World.cell?_alloc_at (w := (wr.alloc (.cells #[] 24)).drew) _ _ _ _ (by simp)
      have HCc : Hid (((wr.alloc (.cells #[.slice ua N uc] 24)).alloc (.cells #[] 24)).drew.cell? ⟨wr.heap.size, 0, none⟩ = some (.slice ua N uc)) := (World.cell?_alloc_lt (w := (wr.alloc (.cells #[.slice ua N uc] 24)).drew) _ _ (by show wr.heap.size < _; simp)).trans (World.cell?_alloc_at (w := wr.drew) _ _ _ _ rfl)
      go_wp2_with fail
      go_region_held3 (fun w' => w'.cell? ⟨Hr, ro + i, none⟩ = some (.slice ua N uc)) (go_keep)
        (first
          | (refine step_append_srcP (by rfl) _ _ _ (by rfl) wr.heap.size 24 i0 (.slice none 0 0) 24 Try.underlying28 hi0 iz0 iz1 iz2 (by rfl) (.slice (some ⟨wr.heap.size, 0, none⟩) 0 0) 0 [] (by with_reducible exact HMa.out) (by rfl) _ Ls (by rfl) (HSRC.out.on (by repeat (first | with_reducible exact Below.refl _ _ | with_reducible refine drew_below ?_ | with_reducible refine al1 ?_ _))) H1.out (by omega) (by omega) (by simp only [World.size_alloc, World.size_drew]; omega) ?_; intro v4 w4 hv4 hg4 hp4; have hb4 : Below wr.heap.size wr w4 := Below.grown (by repeat (first | with_reducible exact Below.refl _ _ | with_reducible refine drew_below ?_ | with_reducible refine al1 ?_ _)) hg4 (by simp only [World.size_alloc, World.size_drew]; omega) (fun k hk => by simp [Value.ownBlock] at hk; omega); have hs4 := hb4.size; rw [HLS.out, Nat.zero_add, List.nil_append] at hv4; obtain ⟨v4a, v4c, rfl⟩ := row_slice hv4; have dd := (hb4.cell (p := ⟨Hr, ro + i, none⟩) hHr').trans d0)
          | (refine step_append_srcP (by rfl) _ _ _ (by rfl) wr.heap.size 24 i0 (.slice none 0 0) 24 Try.underlying28 hi0 iz0 iz1 iz2 (by rfl) (.slice (some ⟨wr.heap.size, 0, none⟩) 0 0) 0 [] (by with_reducible exact HMb.out) (by rfl) _ Ls (by rfl) (HSRC.out.on (by repeat (first | with_reducible exact Below.refl _ _ | with_reducible refine drew_below ?_ | with_reducible refine al1 ?_ _))) H1.out (by omega) (by omega) (by simp only [World.size_alloc, World.size_drew]; omega) ?_; intro v4 w4 hv4 hg4 hp4; have hb4 : Below wr.heap.size wr w4 := Below.grown (by repeat (first | with_reducible exact Below.refl _ _ | with_reducible refine drew_below ?_ | with_reducible refine al1 ?_ _)) hg4 (by simp only [World.size_alloc, World.size_drew]; omega) (fun k hk => by simp [Value.ownBlock] at hk; omega); have hs4 := hb4.size; rw [HLS.out, Nat.zero_add, List.nil_append] at hv4; obtain ⟨v4a, v4c, rfl⟩ := row_slice hv4; have dd := (hb4.cell (p := ⟨Hr, ro + i, none⟩) hHr').trans d0; have c9 := (gbv_cell hg4 (b := wr.heap.size + 1) (by simp) (fun k hk => by simp [Value.ownBlock] at hk; omega) 0).trans HCb.out; have h9 : wr.heap.size + 1 < w4.heap.size := (by have := hg4.size; simp only [World.size_alloc, World.size_drew] at this; omega))
          | (refine step_append_srcP (by rfl) _ _ _ (by rfl) wr.heap.size 24 i0 (.slice none 0 0) 24 Try.underlying28 hi0 iz0 iz1 iz2 (by rfl) (.slice (some ⟨wr.heap.size + 1, 0, none⟩) 0 0) 0 [] (by with_reducible exact HMc.out) (by rfl) _ Ls (by rfl) (HSRC.out.on (by repeat (first | with_reducible exact Below.refl _ _ | with_reducible refine drew_below ?_ | with_reducible refine al1 ?_ _))) H1.out (by omega) (by omega) (by simp only [World.size_alloc, World.size_drew]; omega) ?_; intro v4 w4 hv4 hg4 hp4; have hb4 : Below wr.heap.size wr w4 := Below.grown (by repeat (first | with_reducible exact Below.refl _ _ | with_reducible refine drew_below ?_ | with_reducible refine al1 ?_ _)) hg4 (by simp only [World.size_alloc, World.size_drew]; omega) (fun k hk => by simp [Value.ownBlock] at hk; omega); have hs4 := hb4.size; rw [HLS.out, Nat.zero_add, List.nil_append] at hv4; obtain ⟨v4a, v4c, rfl⟩ := row_slice hv4; have dd := (hb4.cell (p := ⟨Hr, ro + i, none⟩) hHr').trans d0; have c8 := (gbv_cell hg4 (b := wr.heap.size) (by simp; omega) (fun k hk => by simp [Value.ownBlock] at hk; omega) 0).trans HCc.out; have h8 : wr.heap.size < w4.heap.size := (by have := hg4.size; simp only [World.size_alloc, World.size_drew] at this; omega))
          | (refine step_append_srcP (by rfl) _ _ _ (by rfl) wr.heap.size 24 i0 (.slice none 0 0) 24 Try.underlying28 hi0 iz0 iz1 iz2 (by rfl) _ t Ls (by with_reducible exact hv4.alloc _) (by rfl) (.slice (some ⟨w4.heap.size, 0, none⟩) 1 1) [.slice ua N uc] (by rfl) (row_src _ _) (fun y hy => by simp at hy; rw [hy]; rfl) (by omega) (by omega) (by simp only [World.size_alloc]; omega) ?_; intro v5 w5 hv5 hg5 hp5; have hb5 : Below wr.heap.size wr w5 := Below.grown (al1 hb4 _) hg5 (by simp only [World.size_alloc]; omega) (fun k hk => (hv4.lt k hk).1); have hs5 := hb5.size; simp only [List.length_cons, List.length_nil, Nat.zero_add] at hv5; have hra := rows_adj (x := A i) hv5 HLS.out (by omega) HI.out HUI.out hb5; obtain ⟨v5a, v5c, rfl⟩ := row_slice hv5; have dd2 := (hb5.cell (p := ⟨Hr, ro + i, none⟩) hHr').trans d0)
          | (refine step_append_srcP (by rfl) _ _ _ (by rfl) wr.heap.size 24 i0 (.slice none 0 0) 24 Try.underlying28 hi0 iz0 iz1 iz2 (by rfl) _ t Ls (by with_reducible exact hv4) (by rfl) (.slice (some ⟨wr.heap.size + 1, 0, none⟩) 1 1) [.slice ua N uc] (by rfl) (one_src_at h9 c9) (fun y hy => by simp at hy; rw [hy]; rfl) (by omega) (by omega) hs4 ?_; intro v5 w5 hv5 hg5 hp5; have hb5 : Below wr.heap.size wr w5 := Below.grown hb4 hg5 hs4 (fun k hk => (hv4.lt k hk).1); have hs5 := hb5.size; simp only [List.length_cons, List.length_nil, Nat.zero_add] at hv5; have hra := rows_adj (x := A i) hv5 HLS.out (by omega) HI.out HUI.out hb5; obtain ⟨v5a, v5c, rfl⟩ := row_slice hv5; have dd2 := (hb5.cell (p := ⟨Hr, ro + i, none⟩) hHr').trans d0)
          | (refine step_append_srcP (by rfl) _ _ _ (by rfl) wr.heap.size 24 i0 (.slice none 0 0) 24 Try.underlying28 hi0 iz0 iz1 iz2 (by rfl) _ t Ls (by with_reducible exact hv4) (by rfl) (.slice (some ⟨wr.heap.size, 0, none⟩) 1 1) [.slice ua N uc] (by rfl) (one_src_at h8 c8) (fun y hy => by simp at hy; rw [hy]; rfl) (by omega) (by omega) hs4 ?_; intro v5 w5 hv5 hg5 hp5; have hb5 : Below wr.heap.size wr w5 := Below.grown hb4 hg5 hs4 (fun k hk => (hv4.lt k hk).1); have hs5 := hb5.size; simp only [List.length_cons, List.length_nil, Nat.zero_add] at hv5; have hra := rows_adj (x := A i) hv5 HLS.out (by omega) HI.out HUI.out hb5; obtain ⟨v5a, v5c, rfl⟩ := row_slice hv5; have dd2 := (hb5.cell (p := ⟨Hr, ro + i, none⟩) hHr').trans d0))
      all_goals
        have HRA := Lib.hid hra
        have HB5 := Lib.hid hb5
        have HOW := Lib.hid hv5
        have ht1N : (t + 1) * N ≤ 1048576 := Nat.le_trans (Nat.mul_le_mul (show t + 1 ≤ 128 by omega) hN) (by decide)
        have HTN := Lib.hid ht1N
        clear hra hb5 hv5 hg5 hp5 hv4 hg4 hp4 hb4 dd HSRC HI HMa HMb HMc HCb HCc ht1N
        by_cases hp : Piv (turn (stack s B A)) N (s + i)
        · obtain ⟨hl, hT2⟩ := HT.out.yes HF.out hp
          have HT2 := Lib.hid hT2
          have HQY := Lib.hid (quoR_yes (r := r) hp)
          obtain ⟨t1, ht1⟩ : ∃ x, t + 1 = x := ⟨_, rfl⟩
          rw [ht1] at hl HT2 HRA HTN HOW ⊢
          have HT1 : Hid (t + 1 = t1) := ht1
          have HXw := Lib.hid HX.out
          have HL5 := Lib.hid hl
          have gt1 : (t : Int) < (t1 : Int) := by omega
          have wt1 : IntKind.i64.wrap ((t : Int) + 1) = (t1 : Int) := by rw [show ((t : Int) + 1) = (t1 : Int) by omega]; exact IntWalk.i64_in _ (by omega)
          have t1b : t1 ≤ 128 := by omega
          clear hp hl hT2 ht1
          go_wp2_with fail
          with_reducible refine Calls.mono (l04Basis_any HRA.out HQ.out (by omega) (by omega) HTN.out) ?_
          rintro e w6 ⟨v6, rfl, ho, hb⟩
          obtain ⟨va6, vc6, rfl⟩ := ho.slice
          simp only [HL5.out] at ho ⊢
          have HB6 := Lib.hid (HB5.out.trans (hb.mono HB5.out.size))
          have HB56 := Lib.hid hb
          have d6 := (HB6.out.cell (p := ⟨Hr, ro + i, none⟩) hHr').trans d0
          have HUI6 := Lib.hid (HUI.out.on HB6.out)
          have HX6 := Lib.hid (HX.out.on HB6.out)
          have HK6 := Lib.hid (HK.out.trans (HB6.out.mono sk))
          have s6 := HK6.out.size
          clear ho hb dd2 HB5 HRA HX HK
          go_wp2_with fail
          refine (l00Own_any HUI6.out (by rw [bL_len]; omega)).mono ?_
          rintro e w7 ⟨v7, rfl, ho7, hb7⟩
          have HC := Lib.hid ho7
          have HBC := Lib.hid hb7
          obtain ⟨xa, xc, rfl⟩ := ho7.slice
          have s7 := hb7.size
          have HB57 := Lib.hid (HB56.out.trans (hb7.mono HB56.out.size))
          obtain ⟨L0, hL⟩ := HX6.out
          have HL := Lib.hid hL
          obtain ⟨M, hM⟩ : ∃ M, (quoR N s A (quoP N s r A B (s + i))).length = M := ⟨_, rfl⟩
          have hM2 : M ≤ s + i := by rw [← hM]; exact Nat.le_trans (quoR_len _ _ _ _) (quoP_len _ _ _ _ _ _)
          have HM2 := Lib.hid hM
          have hso := HX6.out.slice
          rw [hM] at hso
          obtain ⟨ya, yc, hy⟩ := hso
          rw [bL_len] at HC ⊢
          clear ho7 hb7 hL hM
          subst hy
          go_wp2_with (at_builtin; refine wpList_append_place _ rfl _ _ 28 rfl w3.heap.size 24 i0 (.slice none 0 0) 24 Try.underlying28 hi0 iz0 iz1 iz2 rfl _ M L0 rfl (by have h := (HL.out.on HBC.out).row; rw [HM2.out] at h; exact h.alloc _) ⟨w7.heap.size, 0, none⟩ _ (.slice xa N xc) rfl (row_val _ _ _) (fun y hy => by simp at hy; rw [hy]; rfl) (by unfold maxLen; omega) (by omega) (by rw [World.size_alloc]; omega) ?_; intro v8 w8 hr8 hg8 hv8)
          have hp8 := OwnRI.push HL.out HC.out HBC.out (by omega) (by rw [HM2.out]; exact hr8) hg8 (fun g hg => (hv8 g hg).imp id (fun h => by rw [World.size_alloc] at h; omega))
          have hk8 := below_pushR HK6.out (Nat.le_refl _) (by omega) HX6.out HBC.out hg8
          have hne : ∀ k, (Value.slice ya M yc).ownBlock = some k → (Value.slice v5a t1 v5c).ownBlock ≠ some k := fun k hk e => by
            have e1 := (HOW.out.lt k e).1
            obtain ⟨L1, hL1⟩ := HXw.out
            have e2 := (hL1.row.lt k hk).2
            omega
          have hsw := (own_srcAt (HOW.out) (by rw [List.length_append, HLS.out]; exact HT1.out) (by omega)).on HB57.out
          have hsx := (hsw.on (al1 (Below.refl _ _) (.cells #[.slice xa N xc] 24))).gbv hg8 hne
          have hkk := rowsK_adj (x := A i) hsx HLS.out H1.out HI3.out rfl HUI3.out
          rw [HT1.out] at hkk
          have HKK := Lib.hid hkk
          have HX8 : Hid (OwnRI w3.heap.size w8 v8 (quoR N s A (quoP N s r A B (s + (i + 1))))) := by show OwnRI _ _ _ _; rw [HQY.out]; exact hp8
          have HK8 := Lib.hid hk8
          clear hp8 hk8 hr8 hg8 hv8 HC HBC HL hsw hsx hkk hne
          go_wp2
          go_roundw
          case rel => exact ⟨i + 1, t1, adj t T (A i), by omega, by go_num, rfl, HT2.out, HKK.out, HX8.out, HK8.out⟩
          case measure => simp [intOf]; omega
        · obtain ⟨hl, hT2⟩ := HT.out.no HF.out hp
          have HT2 := Lib.hid hT2
          have HQY := Lib.hid (quoR_no (r := r) hp)
          obtain ⟨t1, ht1⟩ : ∃ x, t + 1 = x := ⟨_, rfl⟩
          rw [ht1] at hl HRA HTN ⊢
          have HL5 := Lib.hid hl
          have t1b : t1 ≤ 128 := by omega
          clear hp hl hT2 ht1
          go_wp2_with fail
          with_reducible refine Calls.mono (l04Basis_any HRA.out HQ.out (by omega) (by omega) HTN.out) ?_
          rintro e w6 ⟨v6, rfl, ho, hb⟩
          obtain ⟨va6, vc6, rfl⟩ := ho.slice
          simp only [HL5.out] at ho ⊢
          have HB6 := Lib.hid (HB5.out.trans (hb.mono HB5.out.size))
          have hx8 := HX.out.on HB6.out
          rw [← HQY.out] at hx8
          have HX8 := Lib.hid hx8
          clear hx8
          have HK8 := Lib.hid (HK.out.trans (HB6.out.mono sk))
          have HR8 := Lib.hid (HR.out.on HB6.out)
          clear ho hb HX HK
          go_wp2
          go_roundw
          case rel => exact ⟨i + 1, t, T, by omega, by go_num, rfl, HT2.out, HR8.out, HX8.out, HK8.out⟩
          case measure => simp [intOf]; omega
    · obtain rfl : i = r := by omega
      have HB9 := Lib.hid (HB3.out.trans (HK.out.mono hs3))
      have HXE := HX.out
      rw [← HQL.out] at HXE
      have HXE := Lib.hid HXE
      clear HX
      go_wp2
      go_ret
      exact ⟨_, rfl, HXE.out.mono hs3, HB9.out⟩
set_option maxRecDepth 100000 in
set_option maxHeartbeats 6400000 in
theorem specQuo_b {p n q m k : Int} {u v : Value} {xx yy : List (List Int)} {w : World} (hu : RowsD w u xx) (hv : RowsD w v yy) (h : TwoK p n xx q m yy k) (hk : k ≠ 0) :
    Calls Try.prog 35 #[.agg #[.int .i64 p, .int .i64 n, u], .agg #[.int .i64 q, .int .i64 m, v]] w fun e w' => RetRC [] k w e w' := by
  have HU := Lib.hid hu
  have HV := Lib.hid hv
  have HK := Lib.hid h
  have ek : (k != 0) = true := by simpa using hk
  obtain ⟨a1, c1, rfl⟩ := hu.1.slice
  obtain ⟨a2, c2, rfl⟩ := hv.1.slice
  clear hu hv h hk
  have Pa0 := PtV.new1 w p n (.slice a1 xx.length c1) 32 (.cells #[.int .i64 q, .int .i64 m, .slice a2 yy.length c2] 32)
  have Pb0 := PtV.new (w.alloc (.cells #[.int .i64 p, .int .i64 n, .slice a1 xx.length c1] 32)) q m (.slice a2 yy.length c2) 32
  rw [World.size_alloc] at Pb0
  have bb := al1 (al1 (Below.refl w.heap.size w) (.cells #[.int .i64 p, .int .i64 n, .slice a1 xx.length c1] 32)) (.cells #[.int .i64 q, .int .i64 m, .slice a2 yy.length c2] 32)
  go_enter Try.func35, Try.ntmps35
  go_wp2_with fail
  generalize hW : ((w.alloc (.cells #[.int .i64 p, .int .i64 n, .slice a1 xx.length c1] 32)).alloc (.cells #[.int .i64 q, .int .i64 m, .slice a2 yy.length c2] 32)) = W0 at bb Pa0 Pb0 ⊢
  have Pa := Lib.hid Pa0
  have Pb := Lib.hid Pb0
  have HB := Lib.hid bb
  have hz0 := bb.size
  clear hW bb Pa0 Pb0
  refine (l04Two_is Pa.out Pb.out (HU.out.on HB.out) (HV.out.on HB.out) HK.out).mono ?_
  rintro e w1 ⟨rfl, hb⟩
  have HB := Lib.hid (HB.out.trans (hb.mono HB.out.size))
  have Pa := Lib.hid (Pa.out.on hb)
  have Pb := Lib.hid (Pb.out.on hb)
  have hz1 := HB.out.size
  clear hb
  go_wp2_with fail
  go_ret2
  exact ⟨_, rfl, OwnRI.nul _ _, HB.out⟩
theorem has_T {q N r : Nat} [NeZero q] {A : Mt q} {x : Nat → Fin q} {T : Bool} (hf : FldP q) (hA : (red r A N).piv.length = r) (h : T = true ↔ In r N A x) : (((red (r + 1) (adj r A x) N).piv.length : Int) == (r : Int)) = T := by
  have h1 := has_iff hf (m := r) (n := N) (A := A) (x := x)
  rw [hA] at h1
  cases T with
  | true => rw [h1.2 (h.1 rfl)]; simp
  | false =>
    simp only [beq_eq_false_iff_ne, ne_eq]
    intro e
    have := h.2 (h1.1 (by omega))
    cases this
set_option maxRecDepth 100000 in
set_option maxHeartbeats 6400000 in
theorem specQuo_n {q N r s : Nat} [NeZero q] {A B : Mt q} {u v : Value} {xx yy : List (List Int)} {w : World} (hu : RowsD w u xx) (hv : RowsD w v yy) (hA : VIs q N xx q N r A) (hB : VIs q N yy q N s B) (hin : ¬ ∀ i, i < s → In r N A (B i)) :
    Calls Try.prog 35 #[.agg #[.int .i64 (q : Int), .int .i64 (N : Int), u], .agg #[.int .i64 (q : Int), .int .i64 (N : Int), v]] w fun e w' => RetRC [] 6 w e w' := by
  have HU := Lib.hid hu
  have HV := Lib.hid hv
  have HK : Hid (TwoK (q : Int) N xx q N yy 0) := .inr (.inr ⟨hA.ok, hB.ok, rfl, rfl, rfl⟩)
  have HPR := Lib.hid hA.pr
  have HF : Hid (FldP q) := fd_of hA.pr
  have HAP := Lib.hid hA.piv
  have HBP := Lib.hid hB.piv
  have HIN := Lib.hid hin
  have HRA := Lib.hid (hA.rowsC hu)
  have HRB := Lib.hid (hB.rowsC hv)
  have hr32 := hA.mis.m32
  have hs32 := hB.mis.m32
  have hN32 := hA.n32
  have hl1 := hA.len
  have hl2 := hB.len
  obtain ⟨a1, c1, rfl⟩ := hu.1.slice
  obtain ⟨a2, c2, rfl⟩ := hv.1.slice
  rw [hl1] at HU HRA ⊢
  rw [hl2] at HV HRB ⊢
  clear hu hv hA hB hl1 hl2 hin
  have Pa0 := PtV.new1 w (q : Int) (N : Int) (.slice a1 r c1) 32 (.cells #[.int .i64 (q : Int), .int .i64 (N : Int), .slice a2 s c2] 32)
  have Pb0 := PtV.new (w.alloc (.cells #[.int .i64 (q : Int), .int .i64 (N : Int), .slice a1 r c1] 32)) (q : Int) (N : Int) (.slice a2 s c2) 32
  rw [World.size_alloc] at Pb0
  have bb := al1 (al1 (Below.refl w.heap.size w) (.cells #[.int .i64 (q : Int), .int .i64 (N : Int), .slice a1 r c1] 32)) (.cells #[.int .i64 (q : Int), .int .i64 (N : Int), .slice a2 s c2] 32)
  go_enter Try.func35, Try.ntmps35
  go_wp2_with fail
  generalize hW : ((w.alloc (.cells #[.int .i64 (q : Int), .int .i64 (N : Int), .slice a1 r c1] 32)).alloc (.cells #[.int .i64 (q : Int), .int .i64 (N : Int), .slice a2 s c2] 32)) = W0 at bb Pa0 Pb0 ⊢
  have Pa := Lib.hid Pa0
  have Pb := Lib.hid Pb0
  have HB := Lib.hid bb
  have hz0 := bb.size
  clear hW bb Pa0 Pb0
  refine (l04Two_is Pa.out Pb.out (HU.out.on HB.out) (HV.out.on HB.out) HK.out).mono ?_
  rintro e w1 ⟨rfl, hb⟩
  have HB := Lib.hid (HB.out.trans (hb.mono HB.out.size))
  have Pa := Lib.hid (Pa.out.on hb)
  have Pb := Lib.hid (Pb.out.on hb)
  have hz1 := HB.out.size
  clear hb
  have HRA := Lib.hid (HRA.out.on HB.out)
  have HRB := Lib.hid (HRB.out.on HB.out)
  clear HU HV HK
  obtain ⟨lB, y0, y1, y2⟩ := Pb.out
  go_wp2_with fail
  clear lB y0 y1 y2
  go_loopw [7] (fun si wr => ∃ i : Nat, i ≤ s ∧ si = .int .i64 (i : Int) ∧ Hid (∀ j, j < i → In r N A (B j)) ∧ Hid (Below w1.heap.size w1 wr)) (fun si _ => s - (intOf si).toNat)
  case atStart => exact ⟨0, Nat.zero_le _, rfl, fun j hj => absurd hj (Nat.not_lt_zero j), Below.refl _ _⟩
  case round =>
    obtain ⟨i, hi, rfl, HX, HK⟩ := hrel
    have sk := HK.out.size
    have Pa2 := Lib.hid (Pa.out.on HK.out)
    obtain ⟨lB, y0, y1, y2⟩ := Pb.out.on HK.out
    by_cases hlt : i < s
    · have i00 : (0 : Int) ≤ (i : Int) := by omega
      have i01 : (i : Int) < (s : Int) := by omega
      obtain ⟨Hr, ro, rc, ur, e, hHr, d0, hui⟩ := HRB.out.at hlt
      simp only [Value.slice.injEq, true_and] at e
      obtain ⟨rfl, rfl⟩ := e
      obtain ⟨ua, uc, rfl⟩ := hui.1.slice
      rw [rowL_len] at d0 hui
      have d1 := (HK.out.cell (p := ⟨Hr, ro + i, none⟩) hHr).trans d0
      have HUI : Hid (IntsC wr (.slice ua N uc) (bL N (B i))) := hui.on HK.out
      clear hui d0
      by_cases hin : In r N A (B i)
      · have HT := Lib.hid (has_T (T := true) HF.out HAP.out ⟨fun _ => hin, fun _ => rfl⟩)
        have HX2 : Hid (∀ j, j < i + 1 → In r N A (B j)) := fun j hj => by
          by_cases e : j < i
          · exact HX.out j e
          · obtain rfl : j = i := by omega
            exact hin
        clear hin
        go_wp2_with fail
        refine (l04Has_is Pa2.out (HRA.out.on HK.out) HUI.out HPR.out hr32 hN32 HT.out).mono ?_
        rintro e w2 ⟨rfl, hb⟩
        have HK3 := Lib.hid (HK.out.trans (hb.mono sk))
        clear hb
        go_wp2_with fail
        go_roundw
        case rel => exact ⟨i + 1, by omega, by go_num, HX2.out, HK3.out⟩
        case measure => simp [intOf]; omega
      · have HT := Lib.hid (has_T (T := false) HF.out HAP.out ⟨fun h => Bool.noConfusion h, fun h => absurd h hin⟩)
        clear hin
        go_wp2_with fail
        refine (l04Has_is Pa2.out (HRA.out.on HK.out) HUI.out HPR.out hr32 hN32 HT.out).mono ?_
        rintro e w2 ⟨rfl, hb⟩
        have HK3 := Lib.hid (HB.out.trans ((HK.out.trans (hb.mono sk)).mono hz1))
        clear hb
        go_wp2_with fail
        go_ret2
        exact ⟨_, rfl, OwnRI.nul _ _, HK3.out⟩
    · obtain rfl : i = s := by omega
      exact absurd HX.out HIN.out
set_option maxRecDepth 100000 in
set_option maxHeartbeats 6400000 in
theorem specQuo_y {q N r s : Nat} [NeZero q] {A B : Mt q} {u v : Value} {xx yy : List (List Int)} {w : World} (hu : RowsD w u xx) (hv : RowsD w v yy) (hA : VIs q N xx q N r A) (hB : VIs q N yy q N s B) (hin : ∀ i, i < s → In r N A (B i)) :
    Calls Try.prog 35 #[.agg #[.int .i64 (q : Int), .int .i64 (N : Int), u], .agg #[.int .i64 (q : Int), .int .i64 (N : Int), v]] w fun e w' => RetRC (quoL N s r A B) 0 w e w' := by
  have HU := Lib.hid hu
  have HV := Lib.hid hv
  have HK : Hid (TwoK (q : Int) N xx q N yy 0) := .inr (.inr ⟨hA.ok, hB.ok, rfl, rfl, rfl⟩)
  have HPR := Lib.hid hA.pr
  have HF : Hid (FldP q) := fd_of hA.pr
  have HAP := Lib.hid hA.piv
  have HBP := Lib.hid hB.piv
  have HIN := Lib.hid hin
  have HRA := Lib.hid (hA.rowsC hu)
  have HRB := Lib.hid (hB.rowsC hv)
  have hr32 := hA.mis.m32
  have hs32 := hB.mis.m32
  have hN32 := hA.n32
  have hl1 := hA.len
  have hl2 := hB.len
  obtain ⟨a1, c1, rfl⟩ := hu.1.slice
  obtain ⟨a2, c2, rfl⟩ := hv.1.slice
  rw [hl1] at HU HRA ⊢
  rw [hl2] at HV HRB ⊢
  clear hu hv hA hB hl1 hl2 hin
  have Pa0 := PtV.new1 w (q : Int) (N : Int) (.slice a1 r c1) 32 (.cells #[.int .i64 (q : Int), .int .i64 (N : Int), .slice a2 s c2] 32)
  have Pb0 := PtV.new (w.alloc (.cells #[.int .i64 (q : Int), .int .i64 (N : Int), .slice a1 r c1] 32)) (q : Int) (N : Int) (.slice a2 s c2) 32
  rw [World.size_alloc] at Pb0
  have bb := al1 (al1 (Below.refl w.heap.size w) (.cells #[.int .i64 (q : Int), .int .i64 (N : Int), .slice a1 r c1] 32)) (.cells #[.int .i64 (q : Int), .int .i64 (N : Int), .slice a2 s c2] 32)
  go_enter Try.func35, Try.ntmps35
  go_wp2_with fail
  generalize hW : ((w.alloc (.cells #[.int .i64 (q : Int), .int .i64 (N : Int), .slice a1 r c1] 32)).alloc (.cells #[.int .i64 (q : Int), .int .i64 (N : Int), .slice a2 s c2] 32)) = W0 at bb Pa0 Pb0 ⊢
  have Pa := Lib.hid Pa0
  have Pb := Lib.hid Pb0
  have HB := Lib.hid bb
  have hz0 := bb.size
  clear hW bb Pa0 Pb0
  refine (l04Two_is Pa.out Pb.out (HU.out.on HB.out) (HV.out.on HB.out) HK.out).mono ?_
  rintro e w1 ⟨rfl, hb⟩
  have HB := Lib.hid (HB.out.trans (hb.mono HB.out.size))
  have Pa := Lib.hid (Pa.out.on hb)
  have Pb := Lib.hid (Pb.out.on hb)
  have hz1 := HB.out.size
  clear hb
  have HRA := Lib.hid (HRA.out.on HB.out)
  have HRB := Lib.hid (HRB.out.on HB.out)
  clear HU HV HK
  obtain ⟨lB, y0, y1, y2⟩ := Pb.out
  go_wp2_with fail
  clear lB y0 y1 y2
  go_loopw [7] (fun si wr => ∃ i : Nat, i ≤ s ∧ si = .int .i64 (i : Int) ∧ Hid (∀ j, j < i → In r N A (B j)) ∧ Hid (Below w1.heap.size w1 wr)) (fun si _ => s - (intOf si).toNat)
  case atStart => exact ⟨0, Nat.zero_le _, rfl, fun j hj => absurd hj (Nat.not_lt_zero j), Below.refl _ _⟩
  case round =>
    obtain ⟨i, hi, rfl, HX, HK⟩ := hrel
    have sk := HK.out.size
    have Pa2 := Lib.hid (Pa.out.on HK.out)
    obtain ⟨lB, y0, y1, y2⟩ := Pb.out.on HK.out
    by_cases hlt : i < s
    · have i00 : (0 : Int) ≤ (i : Int) := by omega
      have i01 : (i : Int) < (s : Int) := by omega
      obtain ⟨Hr, ro, rc, ur, e, hHr, d0, hui⟩ := HRB.out.at hlt
      simp only [Value.slice.injEq, true_and] at e
      obtain ⟨rfl, rfl⟩ := e
      obtain ⟨ua, uc, rfl⟩ := hui.1.slice
      rw [rowL_len] at d0 hui
      have d1 := (HK.out.cell (p := ⟨Hr, ro + i, none⟩) hHr).trans d0
      have HUI : Hid (IntsC wr (.slice ua N uc) (bL N (B i))) := hui.on HK.out
      clear hui d0
      by_cases hin : In r N A (B i)
      · have HT := Lib.hid (has_T (T := true) HF.out HAP.out ⟨fun _ => hin, fun _ => rfl⟩)
        have HX2 : Hid (∀ j, j < i + 1 → In r N A (B j)) := fun j hj => by
          by_cases e : j < i
          · exact HX.out j e
          · obtain rfl : j = i := by omega
            exact hin
        clear hin
        go_wp2_with fail
        refine (l04Has_is Pa2.out (HRA.out.on HK.out) HUI.out HPR.out hr32 hN32 HT.out).mono ?_
        rintro e w2 ⟨rfl, hb⟩
        have HK3 := Lib.hid (HK.out.trans (hb.mono sk))
        clear hb
        go_wp2_with fail
        go_roundw
        case rel => exact ⟨i + 1, by omega, by go_num, HX2.out, HK3.out⟩
        case measure => simp [intOf]; omega
      · exact absurd (HIN.out i hlt) hin
    · obtain rfl : i = s := by omega
      obtain ⟨lA, x0, x1, x2⟩ := Pa2.out
      have HB2 := Lib.hid (HB.out.trans (HK.out.mono hz1))
      go_wp2_with fail
      refine (l04Ext_any (HRB.out.on HK.out) (HRA.out.on HK.out) HPR.out hs32 hr32 hN32 HBP.out).mono ?_
      rintro e w2 ⟨v2, rfl, ho, hb⟩
      have HO := Lib.hid ho
      have HB3 := Lib.hid (HB2.out.trans (hb.mono (by omega)))
      clear ho hb
      go_wp2_with fail
      go_ret2
      exact ⟨_, rfl, HO.out.mono (by omega), HB3.out⟩
theorem specQuo_any {p n q m k : Int} {u v : Value} {xx yy Z : List (List Int)} {w : World} (hu : RowsD w u xx) (hv : RowsD w v yy) (h : QuoRes p n xx q m yy Z k) :
    Calls Try.prog 35 #[.agg #[.int .i64 p, .int .i64 n, u], .agg #[.int .i64 q, .int .i64 m, v]] w fun e w' => RetRC Z k w e w' := by
  rcases h with ⟨c, hc, h0, rfl, rfl⟩ | ⟨rfl, rfl, u', _, M, r, s, A, B, hA, hB, ⟨hin, rfl, rfl⟩ | ⟨hin, rfl, rfl⟩⟩
  · exact specQuo_b hu hv hc h0
  · obtain ⟨rfl, rfl⟩ : p = u' ∧ n = M := ⟨hA.p, hA.n⟩
    exact specQuo_n hu hv hA hB hin
  · obtain ⟨rfl, rfl⟩ : p = u' ∧ n = M := ⟨hA.p, hA.n⟩
    exact specQuo_y hu hv hA hB hin
end Go.Proofs.Ytpimnngomodnhaa
