/-
  ClosureOf of the model.
  ClosureOf of the model, in whole; both closures.
  ValidComplex of the model (l05Ok), and of the program.
  ValidComplex of the model and of the program.
-/
import Derived.Test.YtibdcejglkhcfaaGreatDoorCyF
import Derived.Test.YtibdcejglkhcfaaGreatDoorCxC
namespace Go.Proofs.YtibdcejglkhcfaaGreatDoor
open Go.RowKit
set_option linter.unusedVariables false
set_option linter.unusedSimpArgs false

/-- A slice of slices that reads as some rows, each with its capacity. -/
def RowsQ (w : World) (v : Value) (zz : List (List Int)) : Prop := ∃ a c, v = .slice a zz.length c ∧ zz.length ≤ 1048576 ∧ ∀ i (h : i < zz.length), ∃ b o u, a = some ⟨b, o, none⟩ ∧ b < w.heap.size ∧ w.cell? ⟨b, o + i, none⟩ = some u ∧ IntsC w u zz[i]
theorem RowsQ.on {w w' : World} {v : Value} {zz : List (List Int)} (h : RowsQ w v zz) (hb : Below w.heap.size w w') : RowsQ w' v zz := by
  obtain ⟨a, c, rfl, hl, k⟩ := h
  refine ⟨a, c, rfl, hl, fun i hi => ?_⟩
  obtain ⟨b, o, u, e, h1, h2, h3⟩ := k i hi
  exact ⟨b, o, u, e, Nat.lt_of_lt_of_le h1 hb.size, (hb.cell (p := ⟨b, o + i, none⟩) h1).trans h2, h3.on hb⟩
theorem RowsQ.drew {w : World} {v : Value} {zz : List (List Int)} (h : RowsQ w v zz) : RowsQ w.drew v zz := h
theorem RowsQ.rows {w : World} {v : Value} {zz : List (List Int)} (h : RowsQ w v zz) : RowsAt w v zz := by
  obtain ⟨a, c, rfl, hl, k⟩ := h
  refine ⟨a, c, rfl, hl, ?_⟩
  rcases Nat.eq_zero_or_pos zz.length with h0 | h0
  · exact .inl (List.eq_nil_of_length_eq_zero h0)
  · obtain ⟨b, o, u, rfl, h1, _⟩ := k 0 h0
    refine .inr ⟨b, o, rfl, h1, fun i hi => ?_⟩
    obtain ⟨b', o', u, e, _, h2, h3⟩ := k i hi
    injection e with e; injection e with e1 e2 e3; subst e1 e2
    exact ⟨u, h2, h3.1⟩
theorem OwnRX.atQ {B E : Nat} {w : World} {v : Value} {zz : List (List Int)} (h : OwnRX B E w v zz) (hl : FitR zz) : RowsQ w v zz := by
  obtain ⟨a, c, rfl, hlen, k⟩ := (h.at hl).any
  obtain ⟨L, ho⟩ := h
  refine ⟨a, c, rfl, hlen, fun i hi => ?_⟩
  obtain ⟨b, o, u, rfl, h1, h2, h3⟩ := k i hi
  obtain ⟨g, e⟩ : ∃ g, b = g ∧ o = 0 := by
    obtain ⟨_, ⟨e, _⟩ | ⟨g2, c2, _, e, _⟩⟩ := ho.row
    · cases e
    · injection e with e1; injection e1 with e2; injection e2 with e3 e4; exact ⟨g2, e3, e4⟩
  obtain ⟨rfl, rfl⟩ := e
  have hL : i < L.length := by rw [ho.len]; exact hi
  have hc := World.ownsRow.cellAt ho.row i (by omega)
  rw [Nat.zero_add] at h2
  have hu : L[i]? = some u := by rw [← hc]; exact h2
  exact ⟨b, 0, u, rfl, h1, by rw [Nat.zero_add]; exact h2, (ho.own i u zz[i] hu (List.getElem?_eq_getElem hi)).atC (by obtain ⟨_, _, _, h4, _⟩ := h3; exact h4)⟩
theorem OwnRI.atQ {B : Nat} {w : World} {v : Value} {zz : List (List Int)} (h : OwnRI B w v zz) (hl : FitR zz) : RowsQ w v zz := OwnRX.atQ h hl
theorem CpS.start {w : World} {cb g : Nat} (h1 : w.cell? ⟨cb, 0, none⟩ = some (.slice (some ⟨g, 0, none⟩) 0 0)) (h2 : cb < w.heap.size) (h3 : w.frozen? ⟨cb, 0, none⟩ = false) (hg : w.heap[g]? = some (.cells #[] 25)) (hne : g ≠ cb) (B : Nat) (hB : B ≤ g) : CpS B cb w [] := by
  have hgl := (Array.getElem?_eq_some_iff.1 hg).1
  refine ⟨g, 0, [], ⟨h2, h1⟩, h3, ⟨rfl, ⟨rfl, .inr ⟨g, 0, #[], rfl, hB, hg, Nat.le_refl _, Nat.zero_le _, rfl, by simp⟩⟩, fun i u zs h => by simp at h, fun i u k h => by simp at h, fun i j u x k h => by simp at h, Nat.le_refl _, fun k hk => ?_, fun i u k h => by simp at h⟩, Nat.le_refl _, Nat.zero_le _, hne, fun u hu => by simp at hu⟩
  have : g = k := by simpa [Value.ownBlock] using hk
  omega
def RetCl (zz : List (List Int)) (w : World) (e : Ending) (w' : World) : Prop :=
  ∃ v, e = .returned (.agg #[v]) ∧ OwnRI w.heap.size w' v (cloL zz) ∧ Below w.heap.size w w'
theorem below_gr {B cb : Nat} {a w w' : World} (h : Below B a w) (hg : w.grownBy w' (some cb)) (hB : B ≤ w.heap.size) (hc : B ≤ cb) : Below B a w' := h.grown hg hB (fun k hk => by injection hk with e; omega)
set_option maxRecDepth 100000 in
set_option maxHeartbeats 6400000 in
theorem l05Clo_is {v : Value} {zz : List (List Int)} {w : World} (hv : RowsQ w v zz) (hs : ∀ s ∈ zz, Sim s) :
    Calls Tryz.prog 37 #[v] w fun e w' => RetCl zz w e w' := by
  obtain ⟨a, c, rfl, hl, k1⟩ := hv
  have K1 := Lib.hid k1
  have HS := Lib.hid hs
  clear k1 hs
  go_enter Tryz.func37, Tryz.ntmps37
  go_wp2_with fail
  have hA : Below w.heap.size w (((w.alloc (.cells #[.slice none 0 0] 27)).alloc (.cells #[] 25)).alloc (.cells #[.slice (some ⟨w.heap.size + 1, 0, none⟩) 0 0] 27)) := al1 (al1 ((Below.refl _ w).alloc (Nat.le_refl _) _) _) _
  have hR0 := ((PtC.new w (.slice none 0 0) 27).on ((Below.refl _ _).alloc (Nat.le_refl _) (.cells #[] 25))).on ((Below.refl _ _).alloc (Nat.le_refl _) (.cells #[.slice (some ⟨w.heap.size + 1, 0, none⟩) 0 0] 27))
  have hZ0 : (((w.alloc (.cells #[.slice none 0 0] 27)).alloc (.cells #[] 25)).alloc (.cells #[.slice (some ⟨w.heap.size + 1, 0, none⟩) 0 0] 27)).frozen? ⟨w.heap.size, 0, none⟩ = false := by
    rw [((Below.refl _ _).alloc (Nat.le_refl _) _).frozen (p := ⟨w.heap.size, 0, none⟩) (by show w.heap.size < _; simp; omega), ((Below.refl _ _).alloc (Nat.le_refl _) _).frozen (p := ⟨w.heap.size, 0, none⟩) (by simp)]
    exact World.frozen?_alloc_new w _ _ _
  have hC0 := PtC.new ((w.alloc (.cells #[.slice none 0 0] 27)).alloc (.cells #[] 25)) (.slice (some ⟨w.heap.size + 1, 0, none⟩) 0 0) 27
  have hF0 := World.frozen?_alloc_new ((w.alloc (.cells #[.slice none 0 0] 27)).alloc (.cells #[] 25)) #[.slice (some ⟨w.heap.size + 1, 0, none⟩) 0 0] 27 0
  have hG0 : (((w.alloc (.cells #[.slice none 0 0] 27)).alloc (.cells #[] 25)).alloc (.cells #[.slice (some ⟨w.heap.size + 1, 0, none⟩) 0 0] 27)).heap[w.heap.size + 1]? = some (.cells #[] 25) := by
    rw [heap_alloc_old _ _ (by simp)]
    have := heap_alloc_new (w.alloc (.cells #[.slice none 0 0] 27)) (.cells #[] 25)
    rwa [World.size_alloc] at this
  have hsz : ((w.alloc (.cells #[.slice none 0 0] 27)).alloc (.cells #[] 25)).heap.size = w.heap.size + 1 + 1 := by simp
  rw [hsz] at hC0 hF0
  obtain ⟨cb, hcb⟩ : ∃ cb, w.heap.size + 1 + 1 = cb := ⟨_, rfl⟩
  rw [hcb] at hC0 hF0 ⊢
  have hcs := CpS.start hC0.2 hC0.1 hF0 hG0 (by omega) (w.heap.size + 1) (Nat.le_refl _)
  generalize ((w.alloc (.cells #[.slice none 0 0] 27)).alloc (.cells #[] 25)).alloc (.cells #[.slice (some ⟨w.heap.size + 1, 0, none⟩) 0 0] 27) = W0 at hA hR0 hZ0 hcs ⊢
  have HA := Lib.hid hA
  have HR0 := Lib.hid hR0
  have HZ0 := Lib.hid hZ0
  have HC0 := Lib.hid hcs
  clear hA hR0 hZ0 hC0 hF0 hG0 hcs hsz
  have hcw : w.heap.size < cb := by omega
  clear hcb
  go_loopw [4] (fun si wr => ∃ (k : Nat) (yy : List (List Int)), k ≤ zz.length ∧ si = .int .i64 (k : Int) ∧ Hid (CpS (w.heap.size + 1) cb wr yy) ∧ Hid (Cpx yy) ∧ Hid (∀ x, x ∈ yy ↔ Fac (zz.take k) x) ∧ Hid (PtC wr w.heap.size (.slice none 0 0)) ∧ Hid (wr.frozen? ⟨w.heap.size, 0, none⟩ = false) ∧ Hid (Below w.heap.size w wr)) (fun i _ => zz.length - (intOf i).toNat)
  case atStart => exact ⟨0, [], Nat.zero_le _, rfl, HC0, Cpx.nil, fun x => by simp [Fac], HR0, HZ0, HA⟩
  case round =>
    clear HC0 HR0 HZ0 HA
    obtain ⟨k, yy, hk, rfl, HC, HX, HM, HR, HZ, HB⟩ := hrel
    by_cases hlt : k < zz.length
    · obtain ⟨b, o, u, rfl, hb, c1', i1'⟩ := K1.out k hlt
      have c1 : wr.cell? ⟨b, o + k, none⟩ = some u := (HB.out.cell (p := ⟨b, o + k, none⟩) hb).trans c1'
      have i0 : 0 ≤ (k : Int) := by omega
      have i1 : (k : Int) < (zz.length : Int) := by omega
      have hsk := HS.out _ (List.getElem_mem hlt)
      have htk : zz.take (k + 1) = zz.take k ++ [zz[k]] := List.take_succ_eq_append_getElem hlt
      obtain ⟨s, hs⟩ : ∃ s, zz[k] = s := ⟨_, rfl⟩
      rw [hs] at i1' hsk htk
      have HT := Lib.hid htk
      clear hs htk c1'
      have hpu := l05Put_any s.length (w.heap.size + 1) cb yy s u wr (Nat.le_refl _) hsk HC.out HX.out (fun w' hg => i1'.on (below_gr HB.out hg HB.out.size (by omega)))
      clear i1' hsk
      go_wp2_with (go_at_call 84; refine hpu.mono ?_; rintro e w6 ⟨rfl, hg6, yy', hc6, hx6, hm6⟩)
      have n1 : w.heap.size ≠ cb := by omega
      have HC6 := Lib.hid hc6
      have HX6 := Lib.hid hx6
      have HB6 := Lib.hid (below_gr HB.out hg6 HB.out.size (by omega))
      have HR6 : Hid (PtC w6 w.heap.size (.slice none 0 0)) := ⟨Nat.lt_of_lt_of_le HR.out.1 hg6.size, by rw [World.cell?_of_block (hg6.block w.heap.size HR.out.1 (fun e => n1 (by injection e)))]; exact HR.out.2⟩
      have HZ6 : Hid (w6.frozen? ⟨w.heap.size, 0, none⟩ = false) := by
        show _ = _
        rw [World.frozen?_of_block (hg6.block w.heap.size HR.out.1 (fun e => n1 (by injection e)))]; exact HZ.out
      have HM6 : Hid (∀ x, x ∈ yy' ↔ Fac (zz.take (k + 1)) x) := fun x => by
        rw [hm6 x, HM.out x, HT.out]
        unfold Fac
        constructor
        · rintro (⟨t, ht, h⟩ | h)
          · exact ⟨t, by rw [List.mem_append]; exact .inl ht, h⟩
          · exact ⟨s, by simp, h⟩
        · rintro ⟨t, ht, h⟩
          rw [List.mem_append, List.mem_singleton] at ht
          rcases ht with ht | rfl
          · exact .inl ⟨t, ht, h⟩
          · exact .inr h
      clear hpu hc6 hx6 hm6 hg6
      go_roundw
      case rel => exact ⟨k + 1, yy', by omega, by go_num, HC6, HX6, HM6, HR6, HZ6, HB6⟩
      case measure => simp [intOf]; omega
    · obtain rfl : k = zz.length := by omega
      have hm := HM.out
      rw [List.take_length] at hm
      have hy := cloL_is HS.out HX.out.ord hm
      obtain ⟨g, cap, L, p, f, o, _, _, _, _⟩ := HC.out
      have q1 := p.2
      have q2 := HR.out.2
      have q3 := HZ.out
      have HO := Lib.hid o
      have HY := Lib.hid hy
      clear hm o p f HC hy
      go_wp2_with fail
      refine bodyPost_ret (v := .agg #[.slice (some ⟨g, 0, none⟩) yy.length cap]) (by simp [results, Tryz.results37, go_sem, q2]) rfl ⟨_, rfl, ?_, HB.out.setCell (p := ⟨w.heap.size, 0, none⟩) (Nat.le_refl _) _⟩
      rw [← HY.out]
      exact OwnRI.mono (OwnRI.setOut (B := w.heap.size + 1) ⟨L, HO.out⟩ (Nat.lt_succ_self _) _) (Nat.le_succ _)
end Go.Proofs.YtibdcejglkhcfaaGreatDoor

namespace Go.Proofs.YtibdcejglkhcfaaGreatDoor
open Go.RowKit
set_option linter.unusedVariables false
set_option linter.unusedSimpArgs false

theorem tot_four : ∀ {zz : List (List Int)}, (∀ z ∈ zz, z.length ≤ 4) → tot zz ≤ 4 * zz.length
  | [], _ => by simp [tot]
  | z :: zz, h => by
    have h1 := h z (by simp)
    have h2 := tot_four (zz := zz) fun y hy => h y (by simp [hy])
    simp only [tot, List.length_cons]; omega
theorem CloIs.fit {zz yy : List (List Int)} {c : Int} (h : CloIs zz yy c) : FitR yy := by
  rcases h with ⟨_, rfl, _⟩ | ⟨_, _, rfl, _⟩ | ⟨hv, _, hl, rfl, _⟩
  · exact ⟨by simp, by simp [tot]⟩
  · exact ⟨by simp, by simp [tot]⟩
  · have h4 := tot_four (zz := cloL zz) fun z hz => by
      obtain ⟨s, hs, hf⟩ := (cloL_mem (simsB_iff.1 hv)).1 hz
      exact ((simsB_iff.1 hv s hs).face hf).le
    exact ⟨by omega, by omega⟩
end Go.Proofs.YtibdcejglkhcfaaGreatDoor

namespace Go.Proofs.YtibdcejglkhcfaaGreatDoor
open Go.RowKit
set_option linter.unusedVariables false
set_option linter.unusedSimpArgs false

/-- A valid complex. -/
def OkC (zz : List (List Int)) : Prop := Cpx zz ∧ zz.length ≤ 48
def OkIs (zz : List (List Int)) (T : Bool) : Prop := (T = true ∧ OkC zz) ∨ (T = false ∧ ¬ OkC zz)
theorem okIs_has (zz : List (List Int)) : ∃ T, OkIs zz T := by
  by_cases h : OkC zz
  · exact ⟨true, .inl ⟨rfl, h⟩⟩
  · exact ⟨false, .inr ⟨rfl, h⟩⟩
theorem OkIs.yes {zz : List (List Int)} {T : Bool} (h : OkIs zz T) (g : OkC zz) : T = true := by
  rcases h with ⟨h, _⟩ | ⟨_, h⟩
  · exact h
  · exact absurd g h
theorem OkIs.no {zz : List (List Int)} {T : Bool} (h : OkIs zz T) (g : ¬ OkC zz) : T = false := by
  rcases h with ⟨_, h⟩ | ⟨h, _⟩
  · exact absurd h g
  · exact h
theorem drop_face {z : List Int} (h : Sim z) {k : Nat} (hk : k < z.length) (h1 : 1 < z.length) : Face (dropAt z k) z := by
  refine ⟨fun e => ?_, by rw [dropAt_is]; exact List.eraseIdx_sublist z k⟩
  have := dropAt_len hk
  rw [e] at this; simp at this; omega
theorem OkC.sim {zz : List (List Int)} (h : OkC zz) {i : Nat} (hi : i < zz.length) : Sim zz[i] := h.1.sim _ (List.getElem_mem hi)
theorem OkC.bef {zz : List (List Int)} (h : OkC zz) {i : Nat} (hi : i + 1 < zz.length) : befB (zz[i]'(by omega)) zz[i + 1] = true := (List.pairwise_iff_getElem.1 h.1.ord) i (i + 1) (by omega) hi (Nat.lt_succ_self i)
theorem OkC.drop {zz : List (List Int)} (h : OkC zz) {z : List Int} (hz : z ∈ zz) {k : Nat} (hk : k < z.length) (h1 : 1 < z.length) : dropAt z k ∈ zz := h.1.clo z hz _ (drop_face (h.1.sim z hz) hk h1)
theorem ok_of {zz : List (List Int)} (hl : zz.length ≤ 48) (h1 : ∀ i (h : i < zz.length), Sim zz[i]) (h2 : ∀ i (h : i + 1 < zz.length), befB (zz[i]'(by omega)) zz[i + 1] = true) (h3 : ∀ i (h : i < zz.length) k, k < zz[i].length → 1 < zz[i].length → dropAt zz[i] k ∈ zz) : OkC zz := by
  have hlt : ∀ d i (h : i + d + 1 < zz.length), befB (zz[i]'(by omega)) (zz[i + d + 1]'h) = true := by
    intro d
    induction d with
    | zero => exact fun i h => h2 i h
    | succ d ih =>
      intro i h
      exact befB_trans (ih i (by omega)) (h2 (i + d + 1) (by omega))
  refine ⟨⟨List.pairwise_iff_getElem.2 fun i j hi hj hij => ?_, fun z hz => ?_, ?_⟩, hl⟩
  · have := hlt (j - i - 1) i (by omega)
    have e : i + (j - i - 1) + 1 = j := by omega
    simpa [e] using this
  · obtain ⟨i, hi, rfl⟩ := List.getElem_of_mem hz; exact h1 i hi
  · have key : ∀ n z, z.length ≤ n → z ∈ zz → ∀ x, Face x z → x ∈ zz := by
      intro n
      induction n with
      | zero => intro z hn hz x hx; have := hx.2.length_le; have := List.length_pos_iff.2 hx.1; omega
      | succ n ih =>
        intro z hn hz x hx
        obtain ⟨h0, rfl | ⟨j, hj, hx'⟩⟩ := face_drop.1 hx
        · exact hz
        · have hdl := dropAt_len hj
          have := hx'.2.length_le
          have := List.length_pos_iff.2 hx'.1
          obtain ⟨i, hi, rfl⟩ := List.getElem_of_mem hz
          exact ih _ (by omega) (h3 i hi j hj (by omega)) x hx'
    exact fun z hz x hx => key z.length z (Nat.le_refl _) hz x hx
set_option maxRecDepth 100000 in
set_option maxHeartbeats 12800000 in
theorem l05Ok_is {L : Nat} {v : Value} {zz : List (List Int)} {T : Bool} {w : World} (p : PtC w L v) (hq : RowsQ w v zz) (hT : OkIs zz T) :
    Calls Tryz.prog 73 #[.pointer (some ⟨L, 0, none⟩)] w fun e w' => e = .returned (.bool T) ∧ Below w.heap.size w w' := by
  have HQ := Lib.hid hq
  obtain ⟨a, c, rfl, hl, k1⟩ := hq
  have K1 := Lib.hid k1
  have P := Lib.hid p
  have HT := Lib.hid hT
  have q0 := p.2
  clear k1 p hT
  by_cases h48 : 48 < zz.length
  · have h1 : (48 : Int) < (zz.length : Int) := by omega
    obtain rfl := HT.out.no (fun h => by have := h.2; omega)
    go_enter Tryz.func73, Tryz.ntmps73
    go_wp2_with fail
    go_ret
    exact ⟨rfl, Below.refl _ _⟩
  · have h1 : ¬ (48 : Int) < (zz.length : Int) := by omega
    go_enter Tryz.func73, Tryz.ntmps73
    go_wp2_with fail
    clear q0
    go_loopw [3] (fun si wr => ∃ (i : Nat), i ≤ zz.length ∧ si = .int .i64 (i : Int) ∧ Hid (∀ j (h : j < zz.length), j < i → Sim zz[j]) ∧ Hid (∀ j (h : j + 1 < zz.length), j + 1 < i → befB (zz[j]'(by omega)) zz[j + 1] = true) ∧ Hid (∀ j (h : j < zz.length), j < i → ∀ k, k < zz[j].length → 1 < zz[j].length → dropAt zz[j] k ∈ zz) ∧ Hid (Below w.heap.size w wr)) (fun i _ => zz.length - (intOf i).toNat)
    case atStart => exact ⟨0, Nat.zero_le _, rfl, fun j _ hj => absurd hj (Nat.not_lt_zero j), fun j _ hj => absurd hj (Nat.not_lt_zero _), fun j _ hj => absurd hj (Nat.not_lt_zero j), Below.refl _ _⟩
    case round =>
      obtain ⟨i, hi, rfl, H1, H2, H3, HB⟩ := hrel
      have q1 := (P.out.on HB.out).2
      by_cases hlt : i < zz.length
      · obtain ⟨b, o, u, rfl, hb, c1', i1'⟩ := K1.out i hlt
        have c1 : wr.cell? ⟨b, o + i, none⟩ = some u := (HB.out.cell (p := ⟨b, o + i, none⟩) hb).trans c1'
        have I0 : Hid (∀ w', Below w.heap.size w w' → IntsC w' u zz[i]) := fun w' hb' => i1'.on hb'
        obtain ⟨ua, uc, rfl⟩ : ∃ ua uc, u = .slice ua zz[i].length uc := by obtain ⟨x1, x2, e, _⟩ := i1'.1; exact ⟨x1, x2, e⟩
        clear c1' i1'
        have i0 : 0 ≤ (i : Int) := by omega
        have i1 : (i : Int) < (zz.length : Int) := by omega
        have hmz : Hid (zz[i] ∈ zz) := List.getElem_mem hlt
        obtain ⟨s, hs⟩ : ∃ s, zz[i] = s := ⟨_, rfl⟩
        have HSK := Lib.hid hs
        rw [hs] at I0 hmz c1
        clear hs
        by_cases hv : simB s = true
        · have hsim := sim_iff.1 hv
          have hs4 := hsim.le
          have hs1 := hsim.pos
          have HSIM := Lib.hid hsim
          clear hsim
          rcases Nat.eq_zero_or_pos i with h0 | h0
          · have g3 : ¬ (i : Int) > 0 := by omega
            have HBF : Hid (∀ j (h : j + 1 < zz.length), j + 1 < i + 1 → befB (zz[j]'(by omega)) zz[j + 1] = true) := fun j h hj => by omega
            clear h0
            go_wp2_with (go_at_call 116; refine (l05Sim_is (I0.out _ HB.out).1 hv).mono ?_; rintro e w' ⟨rfl, n2, rfl⟩)
            have HB2 := Lib.hid (below_drewX HB.out n2)
            go_loopw [5] (fun si wr => ∃ (k : Nat), k ≤ s.length ∧ si = .int .i64 (k : Int) ∧ Hid (∀ j, j < k → 1 < s.length → dropAt s j ∈ zz) ∧ Hid (Below w.heap.size w wr)) (fun i _ => s.length - (intOf i).toNat)
            case atStart => exact ⟨0, Nat.zero_le _, rfl, fun j hj => absurd hj (Nat.not_lt_zero j), HB2⟩
            case round =>
              clear HB2
              obtain ⟨k, hk, rfl, HD, HW⟩ := hrel
              by_cases hgo : k < s.length ∧ 1 < s.length
              · obtain ⟨hkl, hk1⟩ := hgo
                have t1 : (k : Int) < (s.length : Int) := by omega
                have t2 : (s.length : Int) > 1 := by omega
                have hdl := dropAt_len hkl
                by_cases hm : dropAt s k ∈ zz
                · obtain ⟨k', _, hf, _⟩ := fndI_yes (i := 0) hm
                  rw [Int.zero_add] at hf
                  have hn : ¬ ((k' : Nat) : Int) < 0 := by omega
                  go_wp2_with (first | (go_at_call 118; refine (l05Drop_any (I0.out _ HW.out) (by omega) hkl).mono ?_; rintro e w5 ⟨x5, rfl, ho5, hb5⟩; have HB5 := Lib.hid (HW.out.trans (hb5.mono HW.out.size)); have HX5 : Hid (OwnI _ w5 x5 (dropAt s k)) := ho5) | (go_at_call 83; refine (l05Find_is (P.out.on HB5.out) (HQ.out.on HB5.out).rows (HX5.out.at (by omega)) hf).mono ?_; rintro e w6 ⟨rfl, n6, rfl⟩))
                  go_roundw
                  case rel =>
                    refine ⟨k + 1, by omega, by go_num, ?_, below_drewX HB5.out n6⟩
                    intro j hj h1j
                    by_cases e : j = k
                    · subst e; exact hm
                    · exact HD.out j (by omega) h1j
                  case measure => simp [intOf]; omega
                · have hf := fndI_no (i := 0) hm
                  obtain rfl := HT.out.no (fun h => hm (h.drop hmz.out hkl hk1))
                  go_wp2_with (first | (go_at_call 118; refine (l05Drop_any (I0.out _ HW.out) (by omega) hkl).mono ?_; rintro e w5 ⟨x5, rfl, ho5, hb5⟩; have HB5 := Lib.hid (HW.out.trans (hb5.mono HW.out.size)); have HX5 : Hid (OwnI _ w5 x5 (dropAt s k)) := ho5) | (go_at_call 83; refine (l05Find_is (P.out.on HB5.out) (HQ.out.on HB5.out).rows (HX5.out.at (by omega)) hf).mono ?_; rintro e w6 ⟨rfl, n6, rfl⟩))
                  go_ret
                  exact ⟨rfl, below_drewX HB5.out n6⟩
              · have hall : ∀ j, j < s.length → 1 < s.length → dropAt s j ∈ zz := fun j hj h1 => HD.out j (by omega) h1
                have fin : Hid (∀ j (h : j < zz.length), j < i + 1 → Sim zz[j]) ∧ Hid (∀ j (h : j < zz.length), j < i + 1 → ∀ k, k < zz[j].length → 1 < zz[j].length → dropAt zz[j] k ∈ zz) := by
                  refine ⟨fun j h hj => ?_, fun j h hj => ?_⟩
                  · by_cases e : j = i
                    · subst e; rw [HSK.out]; exact HSIM.out
                    · exact H1.out j h (by omega)
                  · by_cases e : j = i
                    · subst e; rw [HSK.out]; exact hall
                    · exact H3.out j h (by omega)
                clear hall
                by_cases t1 : k < s.length
                · have t1' : (k : Int) < (s.length : Int) := by omega
                  have t2 : ¬ (s.length : Int) > 1 := by omega
                  go_wp2_with fail
                  go_roundw
                  case rel => exact ⟨i + 1, by omega, by go_num, fin.1, HBF, fin.2, HW⟩
                  case measure => simp [intOf]; omega
                · have t1' : ¬ (k : Int) < (s.length : Int) := by omega
                  go_wp2_with fail
                  go_roundw
                  case rel => exact ⟨i + 1, by omega, by go_num, fin.1, HBF, fin.2, HW⟩
                  case measure => simp [intOf]; omega
          · obtain ⟨q, rfl⟩ : ∃ q, i = q + 1 := ⟨i - 1, by omega⟩
            obtain ⟨b', o', u2, e, hb2, c2', j1'⟩ := K1.out q (by omega)
            injection e with e; injection e with ea eb ec; subst ea eb
            have c2 : wr.cell? ⟨b, o + q, none⟩ = some u2 := (HB.out.cell (p := ⟨b, o + q, none⟩) hb).trans c2'
            have J0 : Hid (∀ w', Below w.heap.size w w' → IntsC w' u2 (zz[q]'(by omega))) := fun w' hb' => j1'.on hb'
            clear c2' j1'
            have g3 : ((q + 1 : Nat) : Int) > 0 := by omega
            have e1 : ((q + 1 : Nat) : Int) - 1 = (q : Int) := by omega
            have e2 : IntKind.i64.wrap (((q + 1 : Nat) : Int) - 1) = (q : Int) := by rw [e1]; exact IntWalk.i64_in _ (by omega)
            have i2 : 0 ≤ (q : Int) := by omega
            have i3 : (q : Int) < (zz.length : Int) := by omega
            cases hbf : befB (zz[q]'(by omega)) s with
            | true =>
              have HBF : Hid (∀ j (h : j + 1 < zz.length), j + 1 < q + 1 + 1 → befB (zz[j]'(by omega)) zz[j + 1] = true) := fun j h hj => by
                by_cases e : j = q
                · subst e; rw [HSK.out]; exact hbf
                · exact H2.out j h (by omega)
              go_wp2_with (first | (go_at_call 116; refine (l05Sim_is (I0.out _ HB.out).1 hv).mono ?_; rintro e w' ⟨rfl, n2, rfl⟩; have HB1 := Lib.hid (below_drewX HB.out n2)) | (go_at_call 117; refine (l05Bef_is (J0.out _ HB1.out).1 (I0.out _ HB1.out).1).mono ?_; rintro e w' ⟨rfl, n3, rfl⟩; rw [hbf]))
              have HB2 : Hid (Below w.heap.size w (wr.drewN (n2 + n3))) := below_drewX HB.out _
              go_loopw [5] (fun si wr => ∃ (k : Nat), k ≤ s.length ∧ si = .int .i64 (k : Int) ∧ Hid (∀ j, j < k → 1 < s.length → dropAt s j ∈ zz) ∧ Hid (Below w.heap.size w wr)) (fun i _ => s.length - (intOf i).toNat)
              case atStart => exact ⟨0, Nat.zero_le _, rfl, fun j hj => absurd hj (Nat.not_lt_zero j), HB2⟩
              case round =>
                clear HB2
                obtain ⟨k, hk, rfl, HD, HW⟩ := hrel
                by_cases hgo : k < s.length ∧ 1 < s.length
                · obtain ⟨hkl, hk1⟩ := hgo
                  have t1 : (k : Int) < (s.length : Int) := by omega
                  have t2 : (s.length : Int) > 1 := by omega
                  have hdl := dropAt_len hkl
                  by_cases hm : dropAt s k ∈ zz
                  · obtain ⟨k', _, hf, _⟩ := fndI_yes (i := 0) hm
                    rw [Int.zero_add] at hf
                    have hn : ¬ ((k' : Nat) : Int) < 0 := by omega
                    go_wp2_with (first | (go_at_call 118; refine (l05Drop_any (I0.out _ HW.out) (by omega) hkl).mono ?_; rintro e w5 ⟨x5, rfl, ho5, hb5⟩; have HB5 := Lib.hid (HW.out.trans (hb5.mono HW.out.size)); have HX5 : Hid (OwnI _ w5 x5 (dropAt s k)) := ho5) | (go_at_call 83; refine (l05Find_is (P.out.on HB5.out) (HQ.out.on HB5.out).rows (HX5.out.at (by omega)) hf).mono ?_; rintro e w6 ⟨rfl, n6, rfl⟩))
                    go_roundw
                    case rel =>
                      refine ⟨k + 1, by omega, by go_num, ?_, below_drewX HB5.out n6⟩
                      intro j hj h1j
                      by_cases e : j = k
                      · subst e; exact hm
                      · exact HD.out j (by omega) h1j
                    case measure => simp [intOf]; omega
                  · have hf := fndI_no (i := 0) hm
                    obtain rfl := HT.out.no (fun h => hm (h.drop hmz.out hkl hk1))
                    go_wp2_with (first | (go_at_call 118; refine (l05Drop_any (I0.out _ HW.out) (by omega) hkl).mono ?_; rintro e w5 ⟨x5, rfl, ho5, hb5⟩; have HB5 := Lib.hid (HW.out.trans (hb5.mono HW.out.size)); have HX5 : Hid (OwnI _ w5 x5 (dropAt s k)) := ho5) | (go_at_call 83; refine (l05Find_is (P.out.on HB5.out) (HQ.out.on HB5.out).rows (HX5.out.at (by omega)) hf).mono ?_; rintro e w6 ⟨rfl, n6, rfl⟩))
                    go_ret
                    exact ⟨rfl, below_drewX HB5.out n6⟩
                · have hall : ∀ j, j < s.length → 1 < s.length → dropAt s j ∈ zz := fun j hj h1 => HD.out j (by omega) h1
                  have fin : Hid (∀ j (h : j < zz.length), j < (q + 1) + 1 → Sim zz[j]) ∧ Hid (∀ j (h : j < zz.length), j < (q + 1) + 1 → ∀ k, k < zz[j].length → 1 < zz[j].length → dropAt zz[j] k ∈ zz) := by
                    refine ⟨fun j h hj => ?_, fun j h hj => ?_⟩
                    · by_cases e : j = (q + 1)
                      · subst e; rw [HSK.out]; exact HSIM.out
                      · exact H1.out j h (by omega)
                    · by_cases e : j = (q + 1)
                      · subst e; rw [HSK.out]; exact hall
                      · exact H3.out j h (by omega)
                  clear hall
                  by_cases t1 : k < s.length
                  · have t1' : (k : Int) < (s.length : Int) := by omega
                    have t2 : ¬ (s.length : Int) > 1 := by omega
                    go_wp2_with fail
                    go_roundw
                    case rel => exact ⟨(q + 1) + 1, by omega, by go_num, fin.1, HBF, fin.2, HW⟩
                    case measure => simp [intOf]; omega
                  · have t1' : ¬ (k : Int) < (s.length : Int) := by omega
                    go_wp2_with fail
                    go_roundw
                    case rel => exact ⟨(q + 1) + 1, by omega, by go_num, fin.1, HBF, fin.2, HW⟩
                    case measure => simp [intOf]; omega
            | false =>
              obtain rfl := HT.out.no (fun h => by have := h.bef (i := q) hlt; rw [HSK.out, hbf] at this; cases this)
              go_wp2_with (first | (go_at_call 116; refine (l05Sim_is (I0.out _ HB.out).1 hv).mono ?_; rintro e w' ⟨rfl, n2, rfl⟩; have HB1 := Lib.hid (below_drewX HB.out n2)) | (go_at_call 117; refine (l05Bef_is (J0.out _ HB1.out).1 (I0.out _ HB1.out).1).mono ?_; rintro e w' ⟨rfl, n3, rfl⟩; rw [hbf]))
              go_ret
              exact ⟨rfl, below_drewX HB.out _⟩
        · have hv' : simB s = false := by simpa using hv
          obtain rfl := HT.out.no (fun h => hv (sim_iff.2 (by rw [← HSK.out]; exact h.sim hlt)))
          go_wp2_with (go_at_call 116; refine (l05Sim_is (I0.out _ HB.out).1 hv').mono ?_; rintro e w' ⟨rfl, n2, rfl⟩)
          go_ret
          exact ⟨rfl, below_drewX HB.out n2⟩
      · obtain rfl := HT.out.yes (ok_of (by omega) (fun j hj => H1.out j hj (by omega)) (fun j hj => H2.out j hj (by omega)) (fun j hj => H3.out j hj (by omega)))
        go_wp2_with fail
        go_ret
        exact ⟨rfl, HB.out⟩
end Go.Proofs.YtibdcejglkhcfaaGreatDoor

namespace Go.Proofs.YtibdcejglkhcfaaGreatDoor
open Go.RowKit
set_option linter.unusedVariables false
set_option linter.unusedSimpArgs false

theorem okC_clo {zz : List (List Int)} (h : OkC zz) : CloIs zz zz 0 := by
  have e : zz = cloL zz := cloL_is h.1.sim h.1.ord fun x => ⟨fun hx => ⟨x, hx, fun e => by have := (h.1.sim x hx).pos; rw [e] at this; simp at this, List.Sublist.refl x⟩, fun ⟨s, hs, hf⟩ => h.1.clo s hs x hf⟩
  exact .inr (.inr ⟨simsB_iff.2 h.1.sim, h.2, by rw [← e]; exact h.2, e, rfl⟩)
theorem clo_okC {zz yy : List (List Int)} {c : Int} (h : CloIs zz yy c) (h0 : c = 0) : OkC yy := by
  rcases h with ⟨_, _, rfl⟩ | ⟨_, _, _, rfl⟩ | ⟨hv, _, hl, rfl, _⟩
  · cases h0
  · cases h0
  · have hs := simsB_iff.1 hv
    refine ⟨⟨cloL_ord zz, fun z hz => ?_, fun z hz x hx => ?_⟩, hl⟩
    · obtain ⟨s, h1, h2⟩ := (cloL_mem hs).1 hz
      exact (hs s h1).face h2
    · obtain ⟨s, h1, h2⟩ := (cloL_mem hs).1 hz
      exact (cloL_mem hs).2 ⟨s, h1, hx.1, hx.2.trans h2.2⟩
theorem OkC.fit {zz : List (List Int)} (h : OkC zz) : FitR zz := (okC_clo h).fit
set_option maxRecDepth 100000 in
set_option maxHeartbeats 3200000 in
theorem implVal_is {u : Value} {zz : List (List Int)} {T : Bool} {w : World} (hu : RowsAt w u zz) (h : OkIs zz T) (hTz : Tz w) :
    Calls Tryz.prog 75 #[.agg #[u]] w fun e w' => e = .returned (.bool T) ∧ Below w.heap.size w w' := by
  obtain ⟨yy, cc, hC⟩ := clo_has zz
  have HU := Lib.hid hu
  obtain ⟨a1, c1, rfl⟩ := hu.slice
  have HT := Lib.hid h
  have al0 : Below w.heap.size w (w.alloc (.cells #[.slice a1 zz.length c1] 27)) := (Below.refl _ w).alloc (Nat.le_refl _) _
  have P0 := Lib.hid (PtC.new w (.slice a1 zz.length c1) 27)
  have U0 := Lib.hid (HU.out.on al0)
  have AL := Lib.hid al0
  have TZ := Lib.hid (hTz.on AL.out)
  clear h hu al0 hTz
  have HC := Lib.hid hC
  rcases hC with ⟨_, he, rfl⟩ | ⟨_, _, he, rfl⟩ | ⟨_, _, _, he, rfl⟩
  · clear he
    obtain rfl := HT.out.no (fun g => by have := (CloIs.one HC.out (okC_clo g)).2; cases this)
    go_enter Tryz.func75, Tryz.ntmps75
    go_wp2_with fail
    refine (implClo_is U0.out HC.out TZ.out).mono ?_
    rintro e w2 ⟨v, rfl, ho, hb⟩
    obtain ⟨va, vc, rfl⟩ := ho.slice
    have hb4 := hb.alloc hb.size (.cells #[.slice va yy.length vc] 27)
    have p2 := P0.out.on hb
    have pn := p2.ne
    have pn' := Ne.symm pn
    have p4 := p2.2
    have p4' := (P0.out.on hb4).2
    have p5 := (PtC.new w2 (.slice va yy.length vc) 27).2
    have HO4 := Lib.hid (ho.alloc (.cells #[.slice va yy.length vc] 27))
    have HB4 := Lib.hid hb4
    clear ho hb hb4 p2
    go_wp2_with fail
    go_ret
    exact ⟨rfl, AL.out.trans (HB4.out.mono AL.out.size)⟩
  · clear he
    obtain rfl := HT.out.no (fun g => by have := (CloIs.one HC.out (okC_clo g)).2; cases this)
    go_enter Tryz.func75, Tryz.ntmps75
    go_wp2_with fail
    refine (implClo_is U0.out HC.out TZ.out).mono ?_
    rintro e w2 ⟨v, rfl, ho, hb⟩
    obtain ⟨va, vc, rfl⟩ := ho.slice
    have hb4 := hb.alloc hb.size (.cells #[.slice va yy.length vc] 27)
    have p2 := P0.out.on hb
    have pn := p2.ne
    have pn' := Ne.symm pn
    have p4 := p2.2
    have p4' := (P0.out.on hb4).2
    have p5 := (PtC.new w2 (.slice va yy.length vc) 27).2
    have HO4 := Lib.hid (ho.alloc (.cells #[.slice va yy.length vc] 27))
    have HB4 := Lib.hid hb4
    clear ho hb hb4 p2
    go_wp2_with fail
    go_ret
    exact ⟨rfl, AL.out.trans (HB4.out.mono AL.out.size)⟩
  · clear he
    have hfit := HC.out.fit
    have hok := clo_okC HC.out rfl
    have hT : T = eqRB yy zz := by
      by_cases e : yy = zz
      · rw [HT.out.yes (by rw [← e]; exact hok)]; simp [eqRB, e]
      · rw [HT.out.no (fun g => e (CloIs.one HC.out (okC_clo g)).1)]; simp [eqRB, e]
    have HTT := Lib.hid hT
    clear hT hok
    go_enter Tryz.func75, Tryz.ntmps75
    go_wp2_with fail
    refine (implClo_is U0.out HC.out TZ.out).mono ?_
    rintro e w2 ⟨v, rfl, ho, hb⟩
    obtain ⟨va, vc, rfl⟩ := ho.slice
    have hb4 := hb.alloc hb.size (.cells #[.slice va yy.length vc] 27)
    have p2 := P0.out.on hb
    have pn := p2.ne
    have pn' := Ne.symm pn
    have p4 := p2.2
    have p4' := (P0.out.on hb4).2
    have p5 := (PtC.new w2 (.slice va yy.length vc) 27).2
    have HO4 := Lib.hid (ho.alloc (.cells #[.slice va yy.length vc] 27))
    have HB4 := Lib.hid hb4
    clear ho hb hb4 p2
    go_wp2_with fail
    refine (implSC_is (HO4.out.at hfit) (U0.out.on HB4.out) HTT.out).mono ?_
    rintro e w5 ⟨rfl, hb5⟩
    have HB5 := Lib.hid hb5
    clear hb5
    go_wp2_with fail
    go_ret
    exact ⟨rfl, (AL.out.trans (HB4.out.mono AL.out.size)).trans (HB5.out.mono (Nat.le_trans AL.out.size HB4.out.size))⟩
end Go.Proofs.YtibdcejglkhcfaaGreatDoor
