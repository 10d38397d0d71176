/-
  ClosureOf of the model.
-/
import Derived.Test.YtljmfpifhbfdcaaDoorCyF
import Derived.Test.YtljmfpifhbfdcaaDoorCxC
namespace Go.Proofs.YtljmfpifhbfdcaaDoor
open Go.RowKit
set_option linter.unusedVariables false
set_option linter.unusedSimpArgs false

/-- A slice of slices that reads as some rows, each with its capacity. -/
def RowsQ (w : World) (v : Value) (zz : List (List Int)) : Prop := ∃ a c, v = .slice a zz.length c ∧ zz.length ≤ 1048576 ∧ ∀ i (h : i < zz.length), ∃ b o u, a = some ⟨b, o, none⟩ ∧ b < w.heap.size ∧ w.cell? ⟨b, o + i, none⟩ = some u ∧ IntsC w u zz[i]
theorem RowsQ.on {w w' : World} {v : Value} {zz : List (List Int)} (h : RowsQ w v zz) (hb : Below w.heap.size w w') : RowsQ w' v zz := by
  obtain ⟨a, c, rfl, hl, k⟩ := h
  refine ⟨a, c, rfl, hl, fun i hi => ?_⟩
  obtain ⟨b, o, u, e, h1, h2, h3⟩ := k i hi
  exact ⟨b, o, u, e, Nat.lt_of_lt_of_le h1 hb.size, (hb.cell (p := ⟨b, o + i, none⟩) h1).trans h2, h3.on hb⟩
theorem RowsQ.drew {w : World} {v : Value} {zz : List (List Int)} (h : RowsQ w v zz) : RowsQ w.drew v zz := h
theorem RowsQ.rows {w : World} {v : Value} {zz : List (List Int)} (h : RowsQ w v zz) : RowsAt w v zz := by
  obtain ⟨a, c, rfl, hl, k⟩ := h
  refine ⟨a, c, rfl, hl, ?_⟩
  rcases Nat.eq_zero_or_pos zz.length with h0 | h0
  · exact .inl (List.eq_nil_of_length_eq_zero h0)
  · obtain ⟨b, o, u, rfl, h1, _⟩ := k 0 h0
    refine .inr ⟨b, o, rfl, h1, fun i hi => ?_⟩
    obtain ⟨b', o', u, e, _, h2, h3⟩ := k i hi
    injection e with e; injection e with e1 e2 e3; subst e1 e2
    exact ⟨u, h2, h3.1⟩
theorem OwnRX.atQ {B E : Nat} {w : World} {v : Value} {zz : List (List Int)} (h : OwnRX B E w v zz) (hl : FitR zz) : RowsQ w v zz := by
  obtain ⟨a, c, rfl, hlen, k⟩ := (h.at hl).any
  obtain ⟨L, ho⟩ := h
  refine ⟨a, c, rfl, hlen, fun i hi => ?_⟩
  obtain ⟨b, o, u, rfl, h1, h2, h3⟩ := k i hi
  obtain ⟨g, e⟩ : ∃ g, b = g ∧ o = 0 := by
    obtain ⟨_, ⟨e, _⟩ | ⟨g2, c2, _, e, _⟩⟩ := ho.row
    · cases e
    · injection e with e1; injection e1 with e2; injection e2 with e3 e4; exact ⟨g2, e3, e4⟩
  obtain ⟨rfl, rfl⟩ := e
  have hL : i < L.length := by rw [ho.len]; exact hi
  have hc := World.ownsRow.cellAt ho.row i (by omega)
  rw [Nat.zero_add] at h2
  have hu : L[i]? = some u := by rw [← hc]; exact h2
  exact ⟨b, 0, u, rfl, h1, by rw [Nat.zero_add]; exact h2, (ho.own i u zz[i] hu (List.getElem?_eq_getElem hi)).atC (by obtain ⟨_, _, _, h4, _⟩ := h3; exact h4)⟩
theorem OwnRI.atQ {B : Nat} {w : World} {v : Value} {zz : List (List Int)} (h : OwnRI B w v zz) (hl : FitR zz) : RowsQ w v zz := OwnRX.atQ h hl
theorem CpS.start {w : World} {cb g : Nat} (h1 : w.cell? ⟨cb, 0, none⟩ = some (.slice (some ⟨g, 0, none⟩) 0 0)) (h2 : cb < w.heap.size) (h3 : w.frozen? ⟨cb, 0, none⟩ = false) (hg : w.heap[g]? = some (.cells #[] 38)) (hne : g ≠ cb) (B : Nat) (hB : B ≤ g) : CpS B cb w [] := by
  have hgl := (Array.getElem?_eq_some_iff.1 hg).1
  refine ⟨g, 0, [], ⟨h2, h1⟩, h3, ⟨rfl, ⟨rfl, .inr ⟨g, 0, #[], rfl, hB, hg, Nat.le_refl _, Nat.zero_le _, rfl, by simp⟩⟩, fun i u zs h => by simp at h, fun i u k h => by simp at h, fun i j u x k h => by simp at h, Nat.le_refl _, fun k hk => ?_, fun i u k h => by simp at h⟩, Nat.le_refl _, Nat.zero_le _, hne, fun u hu => by simp at hu⟩
  have : g = k := by simpa [Value.ownBlock] using hk
  omega
def RetCl (zz : List (List Int)) (w : World) (e : Ending) (w' : World) : Prop :=
  ∃ v, e = .returned (.agg #[v]) ∧ OwnRI w.heap.size w' v (cloL zz) ∧ Below w.heap.size w w'
theorem below_gr {B cb : Nat} {a w w' : World} (h : Below B a w) (hg : w.grownBy w' (some cb)) (hB : B ≤ w.heap.size) (hc : B ≤ cb) : Below B a w' := h.grown hg hB (fun k hk => by injection hk with e; omega)
set_option maxRecDepth 100000 in
set_option maxHeartbeats 6400000 in
theorem l05Clo_is {v : Value} {zz : List (List Int)} {w : World} (hv : RowsQ w v zz) (hs : ∀ s ∈ zz, Sim s) :
    Calls Tryd.prog 53 #[v] w fun e w' => RetCl zz w e w' := by
  obtain ⟨a, c, rfl, hl, k1⟩ := hv
  have K1 := Lib.hid k1
  have HS := Lib.hid hs
  clear k1 hs
  go_enter Tryd.func53, Tryd.ntmps53
  go_wp2_with fail
  have hA : Below w.heap.size w (((w.alloc (.cells #[.slice none 0 0] 27)).alloc (.cells #[] 38)).alloc (.cells #[.slice (some ⟨w.heap.size + 1, 0, none⟩) 0 0] 27)) := al1 (al1 ((Below.refl _ w).alloc (Nat.le_refl _) _) _) _
  have hR0 := ((PtC.new w (.slice none 0 0) 27).on ((Below.refl _ _).alloc (Nat.le_refl _) (.cells #[] 38))).on ((Below.refl _ _).alloc (Nat.le_refl _) (.cells #[.slice (some ⟨w.heap.size + 1, 0, none⟩) 0 0] 27))
  have hZ0 : (((w.alloc (.cells #[.slice none 0 0] 27)).alloc (.cells #[] 38)).alloc (.cells #[.slice (some ⟨w.heap.size + 1, 0, none⟩) 0 0] 27)).frozen? ⟨w.heap.size, 0, none⟩ = false := by
    rw [((Below.refl _ _).alloc (Nat.le_refl _) _).frozen (p := ⟨w.heap.size, 0, none⟩) (by show w.heap.size < _; simp; omega), ((Below.refl _ _).alloc (Nat.le_refl _) _).frozen (p := ⟨w.heap.size, 0, none⟩) (by simp)]
    exact World.frozen?_alloc_new w _ _ _
  have hC0 := PtC.new ((w.alloc (.cells #[.slice none 0 0] 27)).alloc (.cells #[] 38)) (.slice (some ⟨w.heap.size + 1, 0, none⟩) 0 0) 27
  have hF0 := World.frozen?_alloc_new ((w.alloc (.cells #[.slice none 0 0] 27)).alloc (.cells #[] 38)) #[.slice (some ⟨w.heap.size + 1, 0, none⟩) 0 0] 27 0
  have hG0 : (((w.alloc (.cells #[.slice none 0 0] 27)).alloc (.cells #[] 38)).alloc (.cells #[.slice (some ⟨w.heap.size + 1, 0, none⟩) 0 0] 27)).heap[w.heap.size + 1]? = some (.cells #[] 38) := by
    rw [heap_alloc_old _ _ (by simp)]
    have := heap_alloc_new (w.alloc (.cells #[.slice none 0 0] 27)) (.cells #[] 38)
    rwa [World.size_alloc] at this
  have hsz : ((w.alloc (.cells #[.slice none 0 0] 27)).alloc (.cells #[] 38)).heap.size = w.heap.size + 1 + 1 := by simp
  rw [hsz] at hC0 hF0
  obtain ⟨cb, hcb⟩ : ∃ cb, w.heap.size + 1 + 1 = cb := ⟨_, rfl⟩
  rw [hcb] at hC0 hF0 ⊢
  have hcs := CpS.start hC0.2 hC0.1 hF0 hG0 (by omega) (w.heap.size + 1) (Nat.le_refl _)
  generalize ((w.alloc (.cells #[.slice none 0 0] 27)).alloc (.cells #[] 38)).alloc (.cells #[.slice (some ⟨w.heap.size + 1, 0, none⟩) 0 0] 27) = W0 at hA hR0 hZ0 hcs ⊢
  have HA := Lib.hid hA
  have HR0 := Lib.hid hR0
  have HZ0 := Lib.hid hZ0
  have HC0 := Lib.hid hcs
  clear hA hR0 hZ0 hC0 hF0 hG0 hcs hsz
  have hcw : w.heap.size < cb := by omega
  clear hcb
  go_loopw [4] (fun si wr => ∃ (k : Nat) (yy : List (List Int)), k ≤ zz.length ∧ si = .int .i64 (k : Int) ∧ Hid (CpS (w.heap.size + 1) cb wr yy) ∧ Hid (Cpx yy) ∧ Hid (∀ x, x ∈ yy ↔ Fac (zz.take k) x) ∧ Hid (PtC wr w.heap.size (.slice none 0 0)) ∧ Hid (wr.frozen? ⟨w.heap.size, 0, none⟩ = false) ∧ Hid (Below w.heap.size w wr)) (fun i _ => zz.length - (intOf i).toNat)
  case atStart => exact ⟨0, [], Nat.zero_le _, rfl, HC0, Cpx.nil, fun x => by simp [Fac], HR0, HZ0, HA⟩
  case round =>
    clear HC0 HR0 HZ0 HA
    obtain ⟨k, yy, hk, rfl, HC, HX, HM, HR, HZ, HB⟩ := hrel
    by_cases hlt : k < zz.length
    · obtain ⟨b, o, u, rfl, hb, c1', i1'⟩ := K1.out k hlt
      have c1 : wr.cell? ⟨b, o + k, none⟩ = some u := (HB.out.cell (p := ⟨b, o + k, none⟩) hb).trans c1'
      have i0 : 0 ≤ (k : Int) := by omega
      have i1 : (k : Int) < (zz.length : Int) := by omega
      have hsk := HS.out _ (List.getElem_mem hlt)
      have htk : zz.take (k + 1) = zz.take k ++ [zz[k]] := List.take_succ_eq_append_getElem hlt
      obtain ⟨s, hs⟩ : ∃ s, zz[k] = s := ⟨_, rfl⟩
      rw [hs] at i1' hsk htk
      have HT := Lib.hid htk
      clear hs htk c1'
      have hpu := l05Put_any s.length (w.heap.size + 1) cb yy s u wr (Nat.le_refl _) hsk HC.out HX.out (fun w' hg => i1'.on (below_gr HB.out hg HB.out.size (by omega)))
      clear i1' hsk
      go_wp2_with (go_at_call 76; refine hpu.mono ?_; rintro e w6 ⟨rfl, hg6, yy', hc6, hx6, hm6⟩)
      have n1 : w.heap.size ≠ cb := by omega
      have HC6 := Lib.hid hc6
      have HX6 := Lib.hid hx6
      have HB6 := Lib.hid (below_gr HB.out hg6 HB.out.size (by omega))
      have HR6 : Hid (PtC w6 w.heap.size (.slice none 0 0)) := ⟨Nat.lt_of_lt_of_le HR.out.1 hg6.size, by rw [World.cell?_of_block (hg6.block w.heap.size HR.out.1 (fun e => n1 (by injection e)))]; exact HR.out.2⟩
      have HZ6 : Hid (w6.frozen? ⟨w.heap.size, 0, none⟩ = false) := by
        show _ = _
        rw [World.frozen?_of_block (hg6.block w.heap.size HR.out.1 (fun e => n1 (by injection e)))]; exact HZ.out
      have HM6 : Hid (∀ x, x ∈ yy' ↔ Fac (zz.take (k + 1)) x) := fun x => by
        rw [hm6 x, HM.out x, HT.out]
        unfold Fac
        constructor
        · rintro (⟨t, ht, h⟩ | h)
          · exact ⟨t, by rw [List.mem_append]; exact .inl ht, h⟩
          · exact ⟨s, by simp, h⟩
        · rintro ⟨t, ht, h⟩
          rw [List.mem_append, List.mem_singleton] at ht
          rcases ht with ht | rfl
          · exact .inl ⟨t, ht, h⟩
          · exact .inr h
      clear hpu hc6 hx6 hm6 hg6
      go_roundw
      case rel => exact ⟨k + 1, yy', by omega, by go_num, HC6, HX6, HM6, HR6, HZ6, HB6⟩
      case measure => simp [intOf]; omega
    · obtain rfl : k = zz.length := by omega
      have hm := HM.out
      rw [List.take_length] at hm
      have hy := cloL_is HS.out HX.out.ord hm
      obtain ⟨g, cap, L, p, f, o, _, _, _, _⟩ := HC.out
      have q1 := p.2
      have q2 := HR.out.2
      have q3 := HZ.out
      have HO := Lib.hid o
      have HY := Lib.hid hy
      clear hm o p f HC hy
      go_wp2_with fail
      refine bodyPost_ret (v := .agg #[.slice (some ⟨g, 0, none⟩) yy.length cap]) (by simp [results, Tryd.results53, go_sem, q2]) rfl ⟨_, rfl, ?_, HB.out.setCell (p := ⟨w.heap.size, 0, none⟩) (Nat.le_refl _) _⟩
      rw [← HY.out]
      exact OwnRI.mono (OwnRI.setOut (B := w.heap.size + 1) ⟨L, HO.out⟩ (Nat.lt_succ_self _) _) (Nat.le_succ _)
end Go.Proofs.YtljmfpifhbfdcaaDoor
