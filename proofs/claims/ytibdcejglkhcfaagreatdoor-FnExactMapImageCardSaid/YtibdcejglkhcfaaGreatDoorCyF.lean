/-
  The model's l05Put: a simplex and its faces into a complex.
-/
import Derived.Test.YtibdcejglkhcfaaGreatDoorPL
namespace Go.Proofs.YtibdcejglkhcfaaGreatDoor
open Go.RowKit
set_option linter.unusedVariables false
set_option linter.unusedSimpArgs false

theorem gr_refl (w : World) (r : Option Nat) : w.grownBy w r := ⟨rfl, rfl, rfl, Nat.le_refl _, fun _ _ _ => rfl⟩
theorem gr_below {w w' : World} (h : Below w.heap.size w w') (r : Option Nat) : w.grownBy w' r := ⟨h.os, h.tape, h.output, h.size, fun k hk _ => h.block k hk⟩
theorem gr_set (w : World) (b : Nat) (x : Value) : w.grownBy (w.setCell ⟨b, 0, none⟩ x) (some b) := gb_set (gr_refl w (some b)) x
def RetPut (B cb : Nat) (yy : List (List Int)) (s : List Int) (w : World) (e : Ending) (w' : World) : Prop :=
  e = .returned (.tuple #[]) ∧ w.grownBy w' (some cb) ∧ ∃ yy', CpS B cb w' yy' ∧ Cpx yy' ∧ ∀ x, x ∈ yy' ↔ x ∈ yy ∨ Face x s
/-- A row of slices is in no block of numbers. -/
theorem apart {B1 B2 n : Nat} {w : World} {v a : Value} {xs : List Value} {s : List Int} (h : w.ownsRow B1 25 1 v n xs) (hx : ∀ u ∈ xs, ∃ b m c, u = .slice b m c) (h0 : 0 < n) (ha : OwnI B2 w a s) (hs : 0 < s.length) : ∀ g, a.ownBlock = some g → v.ownBlock ≠ some g := by
  intro g hg hv
  have h' := h
  obtain ⟨hl, ⟨rfl, hn⟩ | ⟨g1, cap, cur, rfl, hB, hcur, r⟩⟩ := h
  · omega
  · obtain rfl : g1 = g := by simpa [Value.ownBlock] using hv
    have ha' := ha.out
    obtain ⟨_, ⟨rfl, _⟩ | ⟨g2, c2, _, rfl, _⟩⟩ := ha
    · simp [Value.ownBlock] at hg
    obtain rfl : g2 = g1 := by simpa [Value.ownBlock] using hg
    have c1 := World.ownsRow.cellAt ha' 0 (by omega)
    have c2 := World.ownsRow.cellAt h' 0 (by omega)
    rw [c1] at c2
    have hi0 : (iv s)[0]? = some (.int .i64 s[0]) := by simp [iv, hs]
    rw [hi0] at c2
    have hx0 : xs[0]? = some xs[0] := List.getElem?_eq_getElem (by omega)
    obtain ⟨b, m, c, e⟩ := hx xs[0] (List.getElem_mem (by omega))
    rw [hx0, e] at c2
    cases c2
theorem src_one (w : World) (u : Value) (t : TypeId) : SrcAt (w.alloc (.cells #[u] t)) (.slice (some ⟨w.heap.size, 0, none⟩) 1 1) [u] :=
  ⟨_, 1, rfl, by simp, .inr ⟨w.heap.size, 0, rfl, .inr (by simp), fun j x hj => by have := row_one w u t j x hj; rw [Addr.add_lit] at this; exact this⟩⟩
theorem OwnR.sls {B E : Nat} {w : World} {v : Value} {L : List Value} {zz : List (List Int)} (h : OwnR B E w v L zz) : ∀ u ∈ L, ∃ b m c, u = .slice b m c := fun u hu => by
  obtain ⟨i, hi, rfl⟩ := List.getElem_of_mem hu
  have hz : i < zz.length := by rw [← h.len]; exact hi
  obtain ⟨a, c, e⟩ := (h.own i L[i] zz[i] (List.getElem?_eq_getElem hi) (List.getElem?_eq_getElem hz)).slice
  exact ⟨_, _, _, e⟩
theorem ownsRow_kept2 {B n : Nat} {T : TypeId} {w w' : World} {v : Value} {xs : List Value} {b : Nat} (h : w.ownsRow B T 1 v n xs) (hg : w.grownBy w' (some b)) (hne : v.ownBlock ≠ some b) : w'.ownsRow B T 1 v n xs := World.ownsRow.kept h hg (.inr hne)
theorem OwnR.setNot2 {B E b o : Nat} {w : World} {v : Value} {L : List Value} {zz : List (List Int)} (h : OwnR B E w v L zz) (h1 : v.ownBlock ≠ some b) (h2 : ∀ (i : Nat) (u : Value), L[i]? = some u → u.ownBlock ≠ some b) (x : Value) : OwnR B E (w.setCell ⟨b, o, none⟩ x) v L zz := by
  have hgs : w.grownBy (w.setCell ⟨b, o, none⟩ x) (some b) := gb_set (gr_refl w (some b)) (o := o) x
  exact ⟨h.len, ownsRow_kept2 h.row hgs h1, fun j u ys hj hy => ownsRow_kept2 (h.own j u ys hj hy).out hgs (h2 j u hj), h.off, h.sep, by simpa using h.le, h.top, h.tops⟩
theorem CpS.make {B cb k g7 cap7 : Nat} {w3 w7 : World} {u va x : Value} {L : List Value} {zz : List (List Int)} {s : List Int} (o3 : OwnR B w3.heap.size w3 u L zz) (hB7 : Below w3.heap.size w3 w7) (hk : k ≤ zz.length) (hBw : B ≤ w3.heap.size)
    (hr : w7.ownsRow w3.heap.size 25 1 (.slice (some ⟨g7, 0, none⟩) (zz.length + 1) cap7) (zz.length + 1) (L.take k ++ va :: L.drop k)) (ha : OwnI w3.heap.size w7 va s) (hne : ∀ g, va.ownBlock = some g → (Value.slice (some ⟨g7, 0, none⟩) (zz.length + 1) cap7).ownBlock ≠ some g)
    (hp : PtC w7 cb x) (hf : w7.frozen? ⟨cb, 0, none⟩ = false) (hcb : cb < w3.heap.size) (hLc : ∀ u ∈ L, u.ownBlock ≠ some cb) : CpS B cb (w7.setCell ⟨cb, 0, none⟩ (.slice (some ⟨g7, 0, none⟩) (zz.length + 1) cap7)) (zz.take k ++ s :: zz.drop k) := by
  have hlen : (zz.take k ++ s :: zz.drop k).length = zz.length + 1 := by rw [List.length_append, List.length_cons, List.length_take, List.length_drop]; omega
  have o7 := o3.insert hB7 hk hBw hr ha hne
  have hgc : g7 ≠ cb := by have := (hr.lt g7 rfl).1; omega
  have hLc' : ∀ u ∈ L.take k ++ va :: L.drop k, u.ownBlock ≠ some cb := fun u hu => by
    rw [List.mem_append, List.mem_cons] at hu
    rcases hu with hu | rfl | hu
    · exact hLc u (List.mem_of_mem_take hu)
    · exact fun e => by have := (ha.out.lt cb e).1; omega
    · exact hLc u (List.mem_of_mem_drop hu)
  have o8 := OwnR.setNot2 o7 (b := cb) (o := 0) (by simp [Value.ownBlock]; exact hgc) (fun i u hi => hLc' u (List.mem_of_getElem? hi)) (.slice (some ⟨g7, 0, none⟩) (zz.length + 1) cap7)
  obtain ⟨_, ⟨e, _⟩ | ⟨g2, c2, _, e, _, _, h1, h2, _⟩⟩ := hr
  · cases e
  · injection e with e1 e2 e3
    subst e3
    refine ⟨g7, cap7, _, by rw [hlen]; exact PtC.set hp _, (World.frozen?_setCell _ _ _ _).trans hf, ?_, by rw [hlen]; exact h1, h2, hgc, hLc'⟩
    rw [hlen]
    simpa using o8
theorem ownsRow_ptr {B n : Nat} {T : TypeId} {w : World} {v : Value} {xs : List Value} (h : w.ownsRow B T 1 v n xs) (h0 : 0 < n) : ∃ g c, v = .slice (some ⟨g, 0, none⟩) n c := by
  obtain ⟨_, ⟨e, h'⟩ | ⟨g2, c2, _, e, _⟩⟩ := h
  · omega
  · exact ⟨g2, c2, e⟩
theorem sls_ins {L : List Value} {va : Value} {k : Nat} (h : ∀ u ∈ L, ∃ b m c, u = .slice b m c) (ha : ∃ b m c, va = .slice b m c) : ∀ u ∈ L.take k ++ va :: L.drop k, ∃ b m c, u = .slice b m c := fun u hu => by
  rw [List.mem_append, List.mem_cons] at hu
  rcases hu with hu | rfl | hu
  · exact h u (List.mem_of_mem_take hu)
  · exact ha
  · exact h u (List.mem_of_mem_drop hu)
set_option maxRecDepth 100000 in
set_option maxHeartbeats 12800000 in
theorem l05Put_any (n : Nat) : ∀ (B cb : Nat) (yy : List (List Int)) (s : List Int) (v : Value) (w : World), s.length ≤ n → Sim s → CpS B cb w yy → Cpx yy → (∀ w', w.grownBy w' (some cb) → IntsC w' v s) →
    Calls Tryz.prog 84 #[.pointer (some ⟨cb, 0, none⟩), v] w fun e w' => RetPut B cb yy s w e w' := by
  induction n with
  | zero => intro B cb yy s v w hn hs; have := hs.pos; omega
  | succ n ih =>
  intro B cb yy s v w hn hs hc hx hv
  obtain ⟨i0, hi, hz0, hz1, hz2⟩ := info_parts info_r
  have HV := Lib.hid hv
  have HX := Lib.hid hx
  have HC := Lib.hid hc
  have HS := Lib.hid hs
  have IH := Lib.hid ih
  have hs4 := hs.le
  have hs1 := hs.pos
  obtain ⟨-, a, c, rfl, hvc, hvm, -⟩ := hv w (gr_refl _ _)
  obtain ⟨g0, cap0, L0, p0, f0, o0, _, _, _, _⟩ := hc
  have hi0 := (HV.out w (gr_refl _ _)).1
  have P0 := Lib.hid p0
  have R0 := Lib.hid (o0.rowsAt hx)
  have hBw : B ≤ w.heap.size := by have := o0.row.lt g0 rfl; omega
  have HI0 := Lib.hid hi0
  clear hv hx hs ih f0 o0 p0 hi0
  by_cases hin : s ∈ yy
  · obtain ⟨k, hk, hf, _⟩ := fndI_yes (i := 0) hin
    rw [Int.zero_add] at hf
    have hge : ((k : Nat) : Int) ≥ 0 := by omega
    have hge' : decide (((k : Nat) : Int) ≥ 0) = true := decide_eq_true hge
    go_enter Tryz.func84, Tryz.ntmps84
    go_wp2_with (go_at_call 83; refine (l05Find_is P0.out R0.out HI0.out hf).mono ?_; rintro e w' ⟨rfl, n2, rfl⟩)
    refine bodyPost_ret (results_none rfl _ _ _) rfl ?_
    refine ⟨rfl, gr_below (below_drewX (Below.refl _ _) _) _, yy, HC.out.on (below_drewX (Below.refl _ _) _), HX.out, fun x => ⟨.inl, ?_⟩⟩
    rintro (h | h)
    · exact h
    · exact HX.out.clo s hin x h
  · have hf := fndI_no (i := 0) hin
    have hlt0 : ¬ ((-1 : Int) ≥ 0) := by omega
    go_enter Tryz.func84, Tryz.ntmps84
    go_wp2_with (go_at_call 83; refine (l05Find_is P0.out R0.out HI0.out hf).mono ?_; rintro e w' ⟨rfl, n2, rfl⟩)
    have hb1 : Below w.heap.size w (w.drewN n2) := below_drewX (Below.refl _ _) _
    have HC1 := Lib.hid (HC.out.on hb1)
    have HG1 := Lib.hid (gr_below hb1 (some cb))
    generalize w.drewN n2 = W1 at HC1 HG1 ⊢
    clear hb1 HC P0 R0 HI0 hlt0
    go_loopw [4] (fun si wr => ∃ (j : Nat) (zz : List (List Int)), j ≤ s.length ∧ si = .int .i64 (j : Int) ∧ Hid (CpS B cb wr zz) ∧ Hid (Cpx zz) ∧ Hid (∀ x, x ∈ zz ↔ x ∈ yy ∨ ∃ i, i < j ∧ 1 < s.length ∧ Face x (dropAt s i)) ∧ Hid (w.grownBy wr (some cb))) (fun i _ => s.length - (intOf i).toNat)
    case atStart => exact ⟨0, yy, Nat.zero_le _, rfl, HC1, HX, fun x => ⟨.inl, fun h => h.elim id fun ⟨i, hi, _⟩ => absurd hi (Nat.not_lt_zero i)⟩, HG1⟩
    case round =>
      clear HC1 HG1 HX
      obtain ⟨j, zz, hj, rfl, HC, HX, HM, HG⟩ := hrel
      by_cases hgo : j < s.length ∧ 1 < s.length
      · obtain ⟨hlt, h1⟩ := hgo
        have e1 : (j : Int) < (s.length : Int) := by omega
        have e2 : (s.length : Int) > 1 := by omega
        have hds := HS.out.drop h1 hlt
        have hdl := dropAt_len hlt
        have hgw := HG.out.size
        have hcw : cb < wr.heap.size := by obtain ⟨_, _, _, p, _⟩ := HC.out; exact p.1
        go_wp2_with (go_at_call 118; refine (l05Drop_any (HV.out _ HG.out) (by omega) hlt).mono ?_; rintro e w5 ⟨u, rfl, hou, hb5⟩)
        have hou' : OwnI wr.heap.size w5 u (dropAt s j) := hou
        have hv5 : ∀ w', w5.grownBy w' (some cb) → IntsC w' u (dropAt s j) := fun w' hg => ((show OwnI wr.heap.size w' u (dropAt s j) from World.ownsRow.kept hou'.out hg (.inr fun e => by have := (hou'.out.lt cb e).1; omega)).atC (by omega))
        refine (IH.out B cb zz _ _ _ (by omega) hds (HC.out.on hb5) HX.out hv5).mono ?_
        rintro e w6 ⟨rfl, hg6, zz', hc6, hx6, hm6⟩
        have HC6 := Lib.hid hc6
        have HX6 := Lib.hid hx6
        have HG6 := Lib.hid ((HG.out.trans (gr_below hb5 (some cb))).trans hg6)
        have HM6 : Hid (∀ x, x ∈ zz' ↔ x ∈ yy ∨ ∃ i, i < j + 1 ∧ 1 < s.length ∧ Face x (dropAt s i)) := fun x => by
          rw [hm6 x, HM.out x]
          constructor
          · rintro ((h | ⟨i, hi, h⟩) | h)
            · exact .inl h
            · exact .inr ⟨i, by omega, h⟩
            · exact .inr ⟨j, by omega, h1, h⟩
          · rintro (h | ⟨i, hi, h, h'⟩)
            · exact .inl (.inl h)
            · by_cases e : i = j
              · subst e; exact .inr h'
              · exact .inl (.inr ⟨i, by omega, h, h'⟩)
        clear hc6 hx6 hm6 hg6 hv5 hou hou' hb5
        go_wp2_with fail
        go_roundw
        case rel => exact ⟨j + 1, zz', by omega, by go_num, HC6, HX6, HM6, HG6⟩
        case measure => simp [intOf]; omega
      · have hall : Hid (∀ i, i < s.length → 1 < s.length → ∀ x, Face x (dropAt s i) → x ∈ zz) := fun i hi h1 x hx => (HM.out x).2 (.inr ⟨i, by omega, h1, hx⟩)
        have hmem : Hid (∀ x, (x ∈ zz ∨ x = s) ↔ x ∈ yy ∨ Face x s) := fun x => by
          constructor
          · rintro (h | rfl)
            · rcases (HM.out x).1 h with h | ⟨i, hi, _, h⟩
              · exact .inl h
              · exact .inr (face_drop.2 ⟨h.1, .inr ⟨i, by omega, h⟩⟩)
            · exact .inr ⟨fun e => by rw [e] at hs1; simp at hs1, List.Sublist.refl _⟩
          · rintro (h | h)
            · exact .inl ((HM.out x).2 (.inl h))
            · obtain ⟨h0, e | ⟨i, hi, h'⟩⟩ := face_drop.1 h
              · exact .inr e
              · refine .inl (hall.out i hi ?_ x h')
                have := dropAt_len hi
                have := h'.2.length_le
                have := List.length_pos_iff.2 h'.1
                omega
        have hnz : s ∉ zz := fun h => by
          rcases (HM.out s).1 h with h | ⟨i, hi, _, h⟩
          · exact hin h
          · have := dropAt_len (s := s) (j := i) (by omega)
            have := h.2.length_le
            omega
        have HNZ := Lib.hid hnz
        have HAL := Lib.hid hall.out
        have HME := Lib.hid hmem.out
        clear HM hall hmem hnz
        obtain ⟨g, cap, L, p, f, o, hcap, hmax, hgc, hLc⟩ := HC.out
        have hzl := HX.out.len
        have HO := Lib.hid o
        have HP := Lib.hid p
        have HF := Lib.hid f
        have HR := Lib.hid (o.rowsAt HX.out)
        have HI := Lib.hid (HV.out wr HG.out).1
        have hgB := (o.row.lt g rfl)
        clear HC o p f
        by_cases hj1 : j < s.length
        · have e1 : (j : Int) < (s.length : Int) := by omega
          have e2 : ¬ (s.length : Int) > 1 := by omega
          go_wp2_with fail
          obtain ⟨w2, hw2⟩ : ∃ w2, w2 = wr := ⟨_, rfl⟩
          subst hw2
          go_loopw [5] (fun si wr => ∃ (k : Nat), k ≤ zz.length ∧ si = .int .i64 (k : Int) ∧ Hid (∀ i (h : i < zz.length), i < k → befB zz[i] s = true) ∧ Hid (Below w2.heap.size w2 wr)) (fun i _ => zz.length - (intOf i).toNat)
          case atStart => exact ⟨0, Nat.zero_le _, rfl, fun i _ hi => absurd hi (Nat.not_lt_zero i), Below.refl _ _⟩
          case round =>
            obtain ⟨k, hk, rfl, HB, HW⟩ := hrel
            have q1 := (HP.out.on HW.out).2
            have hzf := (HW.out.frozen (p := ⟨cb, 0, none⟩) HP.out.1).trans HF.out
            have hsw := HW.out.size
            have hpl := HP.out.1
            by_cases hlt : k < zz.length
            · have t1 : (k : Int) < (zz.length : Int) := by omega
              have t0 : 0 ≤ (k : Int) := by omega
              obtain ⟨x, g1, j1⟩ : ∃ x, wr.cell? ⟨g, k, none⟩ = some x ∧ IntsAt wr x zz[k] := by
                obtain ⟨a', c', e', _, hh⟩ := (HR.out.on HW.out).any
                obtain ⟨b1, o1, x, e1, _, h1, h2⟩ := hh k hlt
                injection e' with e2 e3 e4
                rw [← e2] at e1
                injection e1 with e5
                injection e5 with e6 e7 e8
                subst e6 e7
                rw [Nat.zero_add] at h1
                exact ⟨x, h1, h2⟩
              have I2 := Lib.hid (HI.out.on HW.out)
              have J1 := Lib.hid j1
              clear j1
              cases hbf : befB zz[k] s with
              | true =>
                go_wp2_with (go_at_call 117; refine (l05Bef_is J1.out I2.out).mono ?_; rintro e w' ⟨rfl, n3, rfl⟩; try rw [hbf])
                go_roundw
                case rel =>
                  refine ⟨k + 1, by omega, by go_num, ?_, below_drewX HW.out _⟩
                  intro i h hik
                  by_cases e : i = k
                  · subst e; exact hbf
                  · exact HB.out i h (by omega)
                case measure => simp [intOf]; omega
              | false =>
                have hkc : (k : Int) ≤ (cap : Int) := by omega
                have hkz : (k : Int) ≤ (zz.length : Int) := by omega
                have hck : ¬ cap = k := by omega
                go_wp2_with fail
                refine (l05Bef_is J1.out I2.out).mono ?_
                rintro e w3 ⟨rfl, hn3⟩
                rw [hbf]
                have hbw : Below w2.heap.size w2 w3 := by obtain ⟨n3, e⟩ := hn3; rw [e]; exact below_drewX HW.out _
                clear hn3 g1
                have o3 := (HO.out.on hbw).wide hbw.size (Nat.le_refl _)
                have p3 := HP.out.on hbw
                have f3 := (hbw.frozen (p := ⟨cb, 0, none⟩) HP.out.1).trans HF.out
                have hg3 := HG.out.trans (gr_below hbw (some cb))
                have hBw3 : B ≤ w3.heap.size := by have := hbw.size; omega
                have al0 : Below w3.heap.size w3 (w3.alloc (.cells #[] 25)) := (Below.refl _ _).alloc (Nat.le_refl _) _
                have q4 := (p3.on al0).2
                have hm := World.ownsRow_made (base := w3.heap.size) (e := 25) (size := 1) w3 #[] 0 (Nat.le_refl _) (Nat.zero_le _) rfl
                have S1 := Lib.hid ((o3.srcTake rfl (by omega) hk).on al0)
                have hkL : (L.take k).length = k := by rw [List.length_take, o3.len]; omega
                have hdL : (L.drop k).length = zz.length - k := by rw [List.length_drop, o3.len]
                have ones1 : Hid (∀ u ∈ L, u.oneCell' = true) := o3.ones
                have sls1 : Hid (∀ u ∈ L, ∃ b m c, u = .slice b m c) := o3.sls
                have SD : Hid (SrcAt w3 (.slice (some ⟨g, k, none⟩) (zz.length - k) (cap - k)) (L.drop k)) := o3.srcDrop rfl (by omega) hk
                have O3 := Lib.hid o3
                have P3 := Lib.hid p3
                have G3 := Lib.hid hg3
                have F3 := Lib.hid f3
                have HKL := Lib.hid hkL
                have HDL := Lib.hid hdL
                clear o3 p3 hg3 f3 hbw hkL hdL
                go_wp2_with (at_builtin; refine wp_append_src rfl _ _ 22 rfl w3.heap.size 25 i0 (.slice none 0 0) 24 Tryz.underlying22 hi hz0 hz1 hz2 rfl _ 0 [] rfl hm _ (L.take k) rfl S1.out (fun u hu => ones1.out u (List.mem_of_mem_take hu)) (by omega) (by omega) (by simp) ?_; intro v4 w4 hv4 hg4)
                have hB4 : Below w3.heap.size w3 w4 := al0.grown hg4 (by simp) (fun q hq => (hm.lt q hq).1)
                have hv4' : w4.ownsRow w3.heap.size 25 1 v4 k (L.take k) := by rw [HKL.out] at hv4; simpa using hv4
                clear hv4 hg4 q4
                refine (l00Own_any (HV.out _ (G3.out.trans (gr_below hB4 _))) (by omega)).mono ?_
                rintro e w5 ⟨va0, rfl, ha5, hb5⟩
                obtain ⟨vA, vC, rfl⟩ := ha5.slice
                have hB5 : Below w3.heap.size w3 w5 := hB4.trans (hb5.mono hB4.size)
                have al5 : Below w5.heap.size w5 (w5.alloc (.cells #[.slice vA s.length vC] 25)) := (Below.refl _ _).alloc (Nat.le_refl _) _
                have hv5 : (w5.alloc (.cells #[.slice vA s.length vC] 25)).ownsRow w3.heap.size 25 1 v4 k (L.take k) := ownsRow_on (ownsRow_on hv4' hb5) al5
                have hS5 := src_one w5 (.slice vA s.length vC) 25
                have hasl : ∃ b m c, Value.slice vA s.length vC = .slice b m c := ⟨_, _, _, rfl⟩
                have hone : ∀ u ∈ [Value.slice vA s.length vC], u.oneCell' = true := fun u hu => by rw [List.mem_singleton.1 hu]; rfl
                have hneV : (Value.slice vA s.length vC).ownBlock = none ∨ (Value.slice vA s.length vC).ownBlock ≠ v4.ownBlock := by
                  rcases hva : (Value.slice vA s.length vC).ownBlock with _ | q
                  · exact .inl rfl
                  · exact .inr fun e => by have h1 := (ha5.out.lt q hva).1; have h2 := (hv4'.lt q e.symm).2; omega
                have ha5' := ha5.on al5
                have hs5 := hB5.size
                have hs4' := hB4.size
                go_wp2_with (first | (at_builtin; refine wp_append_src rfl _ _ 22 rfl w3.heap.size 25 i0 (.slice none 0 0) 24 Tryz.underlying22 hi hz0 hz1 hz2 rfl _ k (L.take k) rfl hv5 _ [.slice vA s.length vC] rfl hS5 hone (by omega) (by omega) (by simp; omega) ?_; intro v6 w6 hv6 hg6; have hB6 : Below w3.heap.size w3 w6 := (hB5.alloc hs5 _).grown hg6 (by simp; omega) (fun q hq => (hv5.lt q hq).1); have q6 := (P3.out.on hB6).2; have f6 := (hB6.frozen (p := ⟨cb, 0, none⟩) P3.out.1).trans F3.out; have ha6 : OwnI w4.heap.size w6 (.slice vA s.length vC) s := World.ownsRow.kept ha5'.out hg6 hneV; have SD6 := Lib.hid (SD.out.on hB6); have ne6 := apart hv6 (fun u hu => by rw [List.mem_append, List.mem_singleton] at hu; rcases hu with hu | rfl; exact sls1.out u (List.mem_of_mem_take hu); exact hasl) (by simp) ha6 hs1; have hs6 := hB6.size) | (at_builtin; refine wp_append_src rfl _ _ 22 rfl w3.heap.size 25 i0 (.slice none 0 0) 24 Tryz.underlying22 hi hz0 hz1 hz2 rfl _ _ _ rfl hv6 _ (L.drop k) rfl SD6.out (fun u hu => ones1.out u (List.mem_of_mem_drop hu)) (by simp; omega) (by omega) hs6 ?_; intro v7 w7 hv7 hg7; have hB7 : Below w3.heap.size w3 w7 := hB6.grown hg7 hs6 (fun q hq => (hv6.lt q hq).1); have q7 := P3.out.on hB7; have f7 := (hB7.frozen (p := ⟨cb, 0, none⟩) P3.out.1).trans F3.out; have ha7 : OwnI w4.heap.size w7 (.slice vA s.length vC) s := World.ownsRow.kept ha6.out hg7 (by rcases hva : (Value.slice vA s.length vC).ownBlock with _ | q; exact .inl rfl; exact .inr fun e => ne6 q hva e.symm); have hv7' : w7.ownsRow w3.heap.size 25 1 v7 (zz.length + 1) (L.take k ++ Value.slice vA s.length vC :: L.drop k) := (by have e1 : k + [Value.slice vA s.length vC].length + (L.drop k).length = zz.length + 1 := by { rw [HDL.out]; simp; omega }; have e2 : L.take k ++ [Value.slice vA s.length vC] ++ L.drop k = L.take k ++ Value.slice vA s.length vC :: L.drop k := by { simp }; rw [e1, e2] at hv7; exact hv7); clear hv7; have ne7 := apart hv7' (sls_ins sls1.out hasl) (Nat.succ_pos _) ha7 hs1; obtain ⟨g7, cap7, rfl⟩ := ownsRow_ptr hv7' (Nat.succ_pos _); obtain ⟨q7l, q7c⟩ := q7))
                refine bodyPost_ret (results_none rfl _ _ _) rfl ?_
                refine ⟨rfl, (G3.out.trans (gr_below hB7 _)).trans (gr_set w7 cb _), _, CpS.make O3.out hB7 hk hBw3 hv7' (ha7.mono hs4') ne7 ⟨q7l, q7c⟩ f7 P3.out.1 hLc, HX.out.put HS.out (fun j hj h1 x hx => HAL.out j hj h1 x hx) HNZ.out hk (fun i hi => HB.out i (by omega) hi) (fun _ => hbf), fun x => put_mem.trans (HME.out x)⟩
            · have t1 : ¬ (k : Int) < (zz.length : Int) := by omega
              have hkc : (k : Int) ≤ (cap : Int) := by omega
              have hkz : (k : Int) ≤ (zz.length : Int) := by omega
              have t0 : 0 ≤ (k : Int) := by omega
              obtain ⟨w3, hw3⟩ : ∃ w3, w3 = wr := ⟨_, rfl⟩
              subst hw3
              have hbw := HW.out
              by_cases hck : cap = k
              · subst hck
                have o3 := (HO.out.on hbw).wide hbw.size (Nat.le_refl _)
                have p3 := HP.out.on hbw
                have f3 := (hbw.frozen (p := ⟨cb, 0, none⟩) HP.out.1).trans HF.out
                have hg3 := HG.out.trans (gr_below hbw (some cb))
                have hBw3 : B ≤ w3.heap.size := by have := hbw.size; omega
                have al0 : Below w3.heap.size w3 (w3.alloc (.cells #[] 25)) := (Below.refl _ _).alloc (Nat.le_refl _) _
                have q4 := (p3.on al0).2
                have hm := World.ownsRow_made (base := w3.heap.size) (e := 25) (size := 1) w3 #[] 0 (Nat.le_refl _) (Nat.zero_le _) rfl
                have S1 := Lib.hid ((o3.srcTake rfl (by omega) hk).on al0)
                have hkL : (L.take cap).length = cap := by rw [List.length_take, o3.len]; omega
                have hdL : (L.drop cap).length = zz.length - cap := by rw [List.length_drop, o3.len]
                have ones1 : Hid (∀ u ∈ L, u.oneCell' = true) := o3.ones
                have sls1 : Hid (∀ u ∈ L, ∃ b m c, u = .slice b m c) := o3.sls
                have SD : Hid (SrcAt w3 (.slice (some ⟨g, 0, none⟩) 0 0) (L.drop cap)) := by
                  have : L.drop cap = [] := List.drop_eq_nil_of_le (by rw [o3.len]; omega)
                  show SrcAt _ _ _
                  rw [this]
                  exact ⟨_, 0, rfl, by simp, .inr ⟨g, 0, rfl, .inl rfl, fun j u hj => by simp at hj⟩⟩
                have O3 := Lib.hid o3
                have P3 := Lib.hid p3
                have G3 := Lib.hid hg3
                have F3 := Lib.hid f3
                have HKL := Lib.hid hkL
                have HDL := Lib.hid hdL
                clear o3 p3 hg3 f3 hbw hkL hdL
                go_wp2_with (at_builtin; refine wp_append_src rfl _ _ 22 rfl w3.heap.size 25 i0 (.slice none 0 0) 24 Tryz.underlying22 hi hz0 hz1 hz2 rfl _ 0 [] rfl hm _ (L.take cap) rfl S1.out (fun u hu => ones1.out u (List.mem_of_mem_take hu)) (by omega) (by omega) (by simp) ?_; intro v4 w4 hv4 hg4)
                have hB4 : Below w3.heap.size w3 w4 := al0.grown hg4 (by simp) (fun q hq => (hm.lt q hq).1)
                have hv4' : w4.ownsRow w3.heap.size 25 1 v4 cap (L.take cap) := by rw [HKL.out] at hv4; simpa using hv4
                clear hv4 hg4 q4
                refine (l00Own_any (HV.out _ (G3.out.trans (gr_below hB4 _))) (by omega)).mono ?_
                rintro e w5 ⟨va0, rfl, ha5, hb5⟩
                obtain ⟨vA, vC, rfl⟩ := ha5.slice
                have hB5 : Below w3.heap.size w3 w5 := hB4.trans (hb5.mono hB4.size)
                have al5 : Below w5.heap.size w5 (w5.alloc (.cells #[.slice vA s.length vC] 25)) := (Below.refl _ _).alloc (Nat.le_refl _) _
                have hv5 : (w5.alloc (.cells #[.slice vA s.length vC] 25)).ownsRow w3.heap.size 25 1 v4 cap (L.take cap) := ownsRow_on (ownsRow_on hv4' hb5) al5
                have hS5 := src_one w5 (.slice vA s.length vC) 25
                have hasl : ∃ b m c, Value.slice vA s.length vC = .slice b m c := ⟨_, _, _, rfl⟩
                have hone : ∀ u ∈ [Value.slice vA s.length vC], u.oneCell' = true := fun u hu => by rw [List.mem_singleton.1 hu]; rfl
                have hneV : (Value.slice vA s.length vC).ownBlock = none ∨ (Value.slice vA s.length vC).ownBlock ≠ v4.ownBlock := by
                  rcases hva : (Value.slice vA s.length vC).ownBlock with _ | q
                  · exact .inl rfl
                  · exact .inr fun e => by have h1 := (ha5.out.lt q hva).1; have h2 := (hv4'.lt q e.symm).2; omega
                have ha5' := ha5.on al5
                have hs5 := hB5.size
                have hs4' := hB4.size
                go_wp2_with (first | (at_builtin; refine wp_append_src rfl _ _ 22 rfl w3.heap.size 25 i0 (.slice none 0 0) 24 Tryz.underlying22 hi hz0 hz1 hz2 rfl _ cap (L.take cap) rfl hv5 _ [.slice vA s.length vC] rfl hS5 hone (by omega) (by omega) (by simp; omega) ?_; intro v6 w6 hv6 hg6; have hB6 : Below w3.heap.size w3 w6 := (hB5.alloc hs5 _).grown hg6 (by simp; omega) (fun q hq => (hv5.lt q hq).1); have q6 := (P3.out.on hB6).2; have f6 := (hB6.frozen (p := ⟨cb, 0, none⟩) P3.out.1).trans F3.out; have ha6 : OwnI w4.heap.size w6 (.slice vA s.length vC) s := World.ownsRow.kept ha5'.out hg6 hneV; have SD6 := Lib.hid (SD.out.on hB6); have ne6 := apart hv6 (fun u hu => by rw [List.mem_append, List.mem_singleton] at hu; rcases hu with hu | rfl; exact sls1.out u (List.mem_of_mem_take hu); exact hasl) (by simp) ha6 hs1; have hs6 := hB6.size) | (at_builtin; refine wp_append_src rfl _ _ 22 rfl w3.heap.size 25 i0 (.slice none 0 0) 24 Tryz.underlying22 hi hz0 hz1 hz2 rfl _ _ _ rfl hv6 _ (L.drop cap) rfl SD6.out (fun u hu => ones1.out u (List.mem_of_mem_drop hu)) (by simp; omega) (by omega) hs6 ?_; intro v7 w7 hv7 hg7; have hB7 : Below w3.heap.size w3 w7 := hB6.grown hg7 hs6 (fun q hq => (hv6.lt q hq).1); have q7 := P3.out.on hB7; have f7 := (hB7.frozen (p := ⟨cb, 0, none⟩) P3.out.1).trans F3.out; have ha7 : OwnI w4.heap.size w7 (.slice vA s.length vC) s := World.ownsRow.kept ha6.out hg7 (by rcases hva : (Value.slice vA s.length vC).ownBlock with _ | q; exact .inl rfl; exact .inr fun e => ne6 q hva e.symm); have hv7' : w7.ownsRow w3.heap.size 25 1 v7 (zz.length + 1) (L.take cap ++ Value.slice vA s.length vC :: L.drop cap) := (by have e1 : cap + [Value.slice vA s.length vC].length + (L.drop cap).length = zz.length + 1 := by { rw [HDL.out]; simp; omega }; have e2 : L.take cap ++ [Value.slice vA s.length vC] ++ L.drop cap = L.take cap ++ Value.slice vA s.length vC :: L.drop cap := by { simp }; rw [e1, e2] at hv7; exact hv7); clear hv7; have ne7 := apart hv7' (sls_ins sls1.out hasl) (Nat.succ_pos _) ha7 hs1; obtain ⟨g7, cap7, rfl⟩ := ownsRow_ptr hv7' (Nat.succ_pos _); obtain ⟨q7l, q7c⟩ := q7))
                refine bodyPost_ret (results_none rfl _ _ _) rfl ?_
                refine ⟨rfl, (G3.out.trans (gr_below hB7 _)).trans (gr_set w7 cb _), _, CpS.make O3.out hB7 hk hBw3 hv7' (ha7.mono hs4') ne7 ⟨q7l, q7c⟩ f7 P3.out.1 hLc, HX.out.put HS.out (fun j hj h1 x hx => HAL.out j hj h1 x hx) HNZ.out hk (fun i hi => HB.out i (by omega) hi) (fun h => absurd h (by omega)), fun x => put_mem.trans (HME.out x)⟩
              · skip
                have o3 := (HO.out.on hbw).wide hbw.size (Nat.le_refl _)
                have p3 := HP.out.on hbw
                have f3 := (hbw.frozen (p := ⟨cb, 0, none⟩) HP.out.1).trans HF.out
                have hg3 := HG.out.trans (gr_below hbw (some cb))
                have hBw3 : B ≤ w3.heap.size := by have := hbw.size; omega
                have al0 : Below w3.heap.size w3 (w3.alloc (.cells #[] 25)) := (Below.refl _ _).alloc (Nat.le_refl _) _
                have q4 := (p3.on al0).2
                have hm := World.ownsRow_made (base := w3.heap.size) (e := 25) (size := 1) w3 #[] 0 (Nat.le_refl _) (Nat.zero_le _) rfl
                have S1 := Lib.hid ((o3.srcTake rfl (by omega) hk).on al0)
                have hkL : (L.take k).length = k := by rw [List.length_take, o3.len]; omega
                have hdL : (L.drop k).length = zz.length - k := by rw [List.length_drop, o3.len]
                have ones1 : Hid (∀ u ∈ L, u.oneCell' = true) := o3.ones
                have sls1 : Hid (∀ u ∈ L, ∃ b m c, u = .slice b m c) := o3.sls
                have SD : Hid (SrcAt w3 (.slice (some ⟨g, k, none⟩) (zz.length - k) (cap - k)) (L.drop k)) := o3.srcDrop rfl (by omega) hk
                have O3 := Lib.hid o3
                have P3 := Lib.hid p3
                have G3 := Lib.hid hg3
                have F3 := Lib.hid f3
                have HKL := Lib.hid hkL
                have HDL := Lib.hid hdL
                clear o3 p3 hg3 f3 hbw hkL hdL
                go_wp2_with (at_builtin; refine wp_append_src rfl _ _ 22 rfl w3.heap.size 25 i0 (.slice none 0 0) 24 Tryz.underlying22 hi hz0 hz1 hz2 rfl _ 0 [] rfl hm _ (L.take k) rfl S1.out (fun u hu => ones1.out u (List.mem_of_mem_take hu)) (by omega) (by omega) (by simp) ?_; intro v4 w4 hv4 hg4)
                have hB4 : Below w3.heap.size w3 w4 := al0.grown hg4 (by simp) (fun q hq => (hm.lt q hq).1)
                have hv4' : w4.ownsRow w3.heap.size 25 1 v4 k (L.take k) := by rw [HKL.out] at hv4; simpa using hv4
                clear hv4 hg4 q4
                refine (l00Own_any (HV.out _ (G3.out.trans (gr_below hB4 _))) (by omega)).mono ?_
                rintro e w5 ⟨va0, rfl, ha5, hb5⟩
                obtain ⟨vA, vC, rfl⟩ := ha5.slice
                have hB5 : Below w3.heap.size w3 w5 := hB4.trans (hb5.mono hB4.size)
                have al5 : Below w5.heap.size w5 (w5.alloc (.cells #[.slice vA s.length vC] 25)) := (Below.refl _ _).alloc (Nat.le_refl _) _
                have hv5 : (w5.alloc (.cells #[.slice vA s.length vC] 25)).ownsRow w3.heap.size 25 1 v4 k (L.take k) := ownsRow_on (ownsRow_on hv4' hb5) al5
                have hS5 := src_one w5 (.slice vA s.length vC) 25
                have hasl : ∃ b m c, Value.slice vA s.length vC = .slice b m c := ⟨_, _, _, rfl⟩
                have hone : ∀ u ∈ [Value.slice vA s.length vC], u.oneCell' = true := fun u hu => by rw [List.mem_singleton.1 hu]; rfl
                have hneV : (Value.slice vA s.length vC).ownBlock = none ∨ (Value.slice vA s.length vC).ownBlock ≠ v4.ownBlock := by
                  rcases hva : (Value.slice vA s.length vC).ownBlock with _ | q
                  · exact .inl rfl
                  · exact .inr fun e => by have h1 := (ha5.out.lt q hva).1; have h2 := (hv4'.lt q e.symm).2; omega
                have ha5' := ha5.on al5
                have hs5 := hB5.size
                have hs4' := hB4.size
                go_wp2_with (first | (at_builtin; refine wp_append_src rfl _ _ 22 rfl w3.heap.size 25 i0 (.slice none 0 0) 24 Tryz.underlying22 hi hz0 hz1 hz2 rfl _ k (L.take k) rfl hv5 _ [.slice vA s.length vC] rfl hS5 hone (by omega) (by omega) (by simp; omega) ?_; intro v6 w6 hv6 hg6; have hB6 : Below w3.heap.size w3 w6 := (hB5.alloc hs5 _).grown hg6 (by simp; omega) (fun q hq => (hv5.lt q hq).1); have q6 := (P3.out.on hB6).2; have f6 := (hB6.frozen (p := ⟨cb, 0, none⟩) P3.out.1).trans F3.out; have ha6 : OwnI w4.heap.size w6 (.slice vA s.length vC) s := World.ownsRow.kept ha5'.out hg6 hneV; have SD6 := Lib.hid (SD.out.on hB6); have ne6 := apart hv6 (fun u hu => by rw [List.mem_append, List.mem_singleton] at hu; rcases hu with hu | rfl; exact sls1.out u (List.mem_of_mem_take hu); exact hasl) (by simp) ha6 hs1; have hs6 := hB6.size) | (at_builtin; refine wp_append_src rfl _ _ 22 rfl w3.heap.size 25 i0 (.slice none 0 0) 24 Tryz.underlying22 hi hz0 hz1 hz2 rfl _ _ _ rfl hv6 _ (L.drop k) rfl SD6.out (fun u hu => ones1.out u (List.mem_of_mem_drop hu)) (by simp; omega) (by omega) hs6 ?_; intro v7 w7 hv7 hg7; have hB7 : Below w3.heap.size w3 w7 := hB6.grown hg7 hs6 (fun q hq => (hv6.lt q hq).1); have q7 := P3.out.on hB7; have f7 := (hB7.frozen (p := ⟨cb, 0, none⟩) P3.out.1).trans F3.out; have ha7 : OwnI w4.heap.size w7 (.slice vA s.length vC) s := World.ownsRow.kept ha6.out hg7 (by rcases hva : (Value.slice vA s.length vC).ownBlock with _ | q; exact .inl rfl; exact .inr fun e => ne6 q hva e.symm); have hv7' : w7.ownsRow w3.heap.size 25 1 v7 (zz.length + 1) (L.take k ++ Value.slice vA s.length vC :: L.drop k) := (by have e1 : k + [Value.slice vA s.length vC].length + (L.drop k).length = zz.length + 1 := by { rw [HDL.out]; simp; omega }; have e2 : L.take k ++ [Value.slice vA s.length vC] ++ L.drop k = L.take k ++ Value.slice vA s.length vC :: L.drop k := by { simp }; rw [e1, e2] at hv7; exact hv7); clear hv7; have ne7 := apart hv7' (sls_ins sls1.out hasl) (Nat.succ_pos _) ha7 hs1; obtain ⟨g7, cap7, rfl⟩ := ownsRow_ptr hv7' (Nat.succ_pos _); obtain ⟨q7l, q7c⟩ := q7))
                refine bodyPost_ret (results_none rfl _ _ _) rfl ?_
                refine ⟨rfl, (G3.out.trans (gr_below hB7 _)).trans (gr_set w7 cb _), _, CpS.make O3.out hB7 hk hBw3 hv7' (ha7.mono hs4') ne7 ⟨q7l, q7c⟩ f7 P3.out.1 hLc, HX.out.put HS.out (fun j hj h1 x hx => HAL.out j hj h1 x hx) HNZ.out hk (fun i hi => HB.out i (by omega) hi) (fun h => absurd h (by omega)), fun x => put_mem.trans (HME.out x)⟩
        · have e1 : ¬ (j : Int) < (s.length : Int) := by omega
          go_wp2_with fail
          obtain ⟨w2, hw2⟩ : ∃ w2, w2 = wr := ⟨_, rfl⟩
          subst hw2
          go_loopw [5] (fun si wr => ∃ (k : Nat), k ≤ zz.length ∧ si = .int .i64 (k : Int) ∧ Hid (∀ i (h : i < zz.length), i < k → befB zz[i] s = true) ∧ Hid (Below w2.heap.size w2 wr)) (fun i _ => zz.length - (intOf i).toNat)
          case atStart => exact ⟨0, Nat.zero_le _, rfl, fun i _ hi => absurd hi (Nat.not_lt_zero i), Below.refl _ _⟩
          case round =>
            obtain ⟨k, hk, rfl, HB, HW⟩ := hrel
            have q1 := (HP.out.on HW.out).2
            have hzf := (HW.out.frozen (p := ⟨cb, 0, none⟩) HP.out.1).trans HF.out
            have hsw := HW.out.size
            have hpl := HP.out.1
            by_cases hlt : k < zz.length
            · have t1 : (k : Int) < (zz.length : Int) := by omega
              have t0 : 0 ≤ (k : Int) := by omega
              obtain ⟨x, g1, j1⟩ : ∃ x, wr.cell? ⟨g, k, none⟩ = some x ∧ IntsAt wr x zz[k] := by
                obtain ⟨a', c', e', _, hh⟩ := (HR.out.on HW.out).any
                obtain ⟨b1, o1, x, e1, _, h1, h2⟩ := hh k hlt
                injection e' with e2 e3 e4
                rw [← e2] at e1
                injection e1 with e5
                injection e5 with e6 e7 e8
                subst e6 e7
                rw [Nat.zero_add] at h1
                exact ⟨x, h1, h2⟩
              have I2 := Lib.hid (HI.out.on HW.out)
              have J1 := Lib.hid j1
              clear j1
              cases hbf : befB zz[k] s with
              | true =>
                go_wp2_with (go_at_call 117; refine (l05Bef_is J1.out I2.out).mono ?_; rintro e w' ⟨rfl, n3, rfl⟩; try rw [hbf])
                go_roundw
                case rel =>
                  refine ⟨k + 1, by omega, by go_num, ?_, below_drewX HW.out _⟩
                  intro i h hik
                  by_cases e : i = k
                  · subst e; exact hbf
                  · exact HB.out i h (by omega)
                case measure => simp [intOf]; omega
              | false =>
                have hkc : (k : Int) ≤ (cap : Int) := by omega
                have hkz : (k : Int) ≤ (zz.length : Int) := by omega
                have hck : ¬ cap = k := by omega
                go_wp2_with fail
                refine (l05Bef_is J1.out I2.out).mono ?_
                rintro e w3 ⟨rfl, hn3⟩
                rw [hbf]
                have hbw : Below w2.heap.size w2 w3 := by obtain ⟨n3, e⟩ := hn3; rw [e]; exact below_drewX HW.out _
                clear hn3 g1
                have o3 := (HO.out.on hbw).wide hbw.size (Nat.le_refl _)
                have p3 := HP.out.on hbw
                have f3 := (hbw.frozen (p := ⟨cb, 0, none⟩) HP.out.1).trans HF.out
                have hg3 := HG.out.trans (gr_below hbw (some cb))
                have hBw3 : B ≤ w3.heap.size := by have := hbw.size; omega
                have al0 : Below w3.heap.size w3 (w3.alloc (.cells #[] 25)) := (Below.refl _ _).alloc (Nat.le_refl _) _
                have q4 := (p3.on al0).2
                have hm := World.ownsRow_made (base := w3.heap.size) (e := 25) (size := 1) w3 #[] 0 (Nat.le_refl _) (Nat.zero_le _) rfl
                have S1 := Lib.hid ((o3.srcTake rfl (by omega) hk).on al0)
                have hkL : (L.take k).length = k := by rw [List.length_take, o3.len]; omega
                have hdL : (L.drop k).length = zz.length - k := by rw [List.length_drop, o3.len]
                have ones1 : Hid (∀ u ∈ L, u.oneCell' = true) := o3.ones
                have sls1 : Hid (∀ u ∈ L, ∃ b m c, u = .slice b m c) := o3.sls
                have SD : Hid (SrcAt w3 (.slice (some ⟨g, k, none⟩) (zz.length - k) (cap - k)) (L.drop k)) := o3.srcDrop rfl (by omega) hk
                have O3 := Lib.hid o3
                have P3 := Lib.hid p3
                have G3 := Lib.hid hg3
                have F3 := Lib.hid f3
                have HKL := Lib.hid hkL
                have HDL := Lib.hid hdL
                clear o3 p3 hg3 f3 hbw hkL hdL
                go_wp2_with (at_builtin; refine wp_append_src rfl _ _ 22 rfl w3.heap.size 25 i0 (.slice none 0 0) 24 Tryz.underlying22 hi hz0 hz1 hz2 rfl _ 0 [] rfl hm _ (L.take k) rfl S1.out (fun u hu => ones1.out u (List.mem_of_mem_take hu)) (by omega) (by omega) (by simp) ?_; intro v4 w4 hv4 hg4)
                have hB4 : Below w3.heap.size w3 w4 := al0.grown hg4 (by simp) (fun q hq => (hm.lt q hq).1)
                have hv4' : w4.ownsRow w3.heap.size 25 1 v4 k (L.take k) := by rw [HKL.out] at hv4; simpa using hv4
                clear hv4 hg4 q4
                refine (l00Own_any (HV.out _ (G3.out.trans (gr_below hB4 _))) (by omega)).mono ?_
                rintro e w5 ⟨va0, rfl, ha5, hb5⟩
                obtain ⟨vA, vC, rfl⟩ := ha5.slice
                have hB5 : Below w3.heap.size w3 w5 := hB4.trans (hb5.mono hB4.size)
                have al5 : Below w5.heap.size w5 (w5.alloc (.cells #[.slice vA s.length vC] 25)) := (Below.refl _ _).alloc (Nat.le_refl _) _
                have hv5 : (w5.alloc (.cells #[.slice vA s.length vC] 25)).ownsRow w3.heap.size 25 1 v4 k (L.take k) := ownsRow_on (ownsRow_on hv4' hb5) al5
                have hS5 := src_one w5 (.slice vA s.length vC) 25
                have hasl : ∃ b m c, Value.slice vA s.length vC = .slice b m c := ⟨_, _, _, rfl⟩
                have hone : ∀ u ∈ [Value.slice vA s.length vC], u.oneCell' = true := fun u hu => by rw [List.mem_singleton.1 hu]; rfl
                have hneV : (Value.slice vA s.length vC).ownBlock = none ∨ (Value.slice vA s.length vC).ownBlock ≠ v4.ownBlock := by
                  rcases hva : (Value.slice vA s.length vC).ownBlock with _ | q
                  · exact .inl rfl
                  · exact .inr fun e => by have h1 := (ha5.out.lt q hva).1; have h2 := (hv4'.lt q e.symm).2; omega
                have ha5' := ha5.on al5
                have hs5 := hB5.size
                have hs4' := hB4.size
                go_wp2_with (first | (at_builtin; refine wp_append_src rfl _ _ 22 rfl w3.heap.size 25 i0 (.slice none 0 0) 24 Tryz.underlying22 hi hz0 hz1 hz2 rfl _ k (L.take k) rfl hv5 _ [.slice vA s.length vC] rfl hS5 hone (by omega) (by omega) (by simp; omega) ?_; intro v6 w6 hv6 hg6; have hB6 : Below w3.heap.size w3 w6 := (hB5.alloc hs5 _).grown hg6 (by simp; omega) (fun q hq => (hv5.lt q hq).1); have q6 := (P3.out.on hB6).2; have f6 := (hB6.frozen (p := ⟨cb, 0, none⟩) P3.out.1).trans F3.out; have ha6 : OwnI w4.heap.size w6 (.slice vA s.length vC) s := World.ownsRow.kept ha5'.out hg6 hneV; have SD6 := Lib.hid (SD.out.on hB6); have ne6 := apart hv6 (fun u hu => by rw [List.mem_append, List.mem_singleton] at hu; rcases hu with hu | rfl; exact sls1.out u (List.mem_of_mem_take hu); exact hasl) (by simp) ha6 hs1; have hs6 := hB6.size) | (at_builtin; refine wp_append_src rfl _ _ 22 rfl w3.heap.size 25 i0 (.slice none 0 0) 24 Tryz.underlying22 hi hz0 hz1 hz2 rfl _ _ _ rfl hv6 _ (L.drop k) rfl SD6.out (fun u hu => ones1.out u (List.mem_of_mem_drop hu)) (by simp; omega) (by omega) hs6 ?_; intro v7 w7 hv7 hg7; have hB7 : Below w3.heap.size w3 w7 := hB6.grown hg7 hs6 (fun q hq => (hv6.lt q hq).1); have q7 := P3.out.on hB7; have f7 := (hB7.frozen (p := ⟨cb, 0, none⟩) P3.out.1).trans F3.out; have ha7 : OwnI w4.heap.size w7 (.slice vA s.length vC) s := World.ownsRow.kept ha6.out hg7 (by rcases hva : (Value.slice vA s.length vC).ownBlock with _ | q; exact .inl rfl; exact .inr fun e => ne6 q hva e.symm); have hv7' : w7.ownsRow w3.heap.size 25 1 v7 (zz.length + 1) (L.take k ++ Value.slice vA s.length vC :: L.drop k) := (by have e1 : k + [Value.slice vA s.length vC].length + (L.drop k).length = zz.length + 1 := by { rw [HDL.out]; simp; omega }; have e2 : L.take k ++ [Value.slice vA s.length vC] ++ L.drop k = L.take k ++ Value.slice vA s.length vC :: L.drop k := by { simp }; rw [e1, e2] at hv7; exact hv7); clear hv7; have ne7 := apart hv7' (sls_ins sls1.out hasl) (Nat.succ_pos _) ha7 hs1; obtain ⟨g7, cap7, rfl⟩ := ownsRow_ptr hv7' (Nat.succ_pos _); obtain ⟨q7l, q7c⟩ := q7))
                refine bodyPost_ret (results_none rfl _ _ _) rfl ?_
                refine ⟨rfl, (G3.out.trans (gr_below hB7 _)).trans (gr_set w7 cb _), _, CpS.make O3.out hB7 hk hBw3 hv7' (ha7.mono hs4') ne7 ⟨q7l, q7c⟩ f7 P3.out.1 hLc, HX.out.put HS.out (fun j hj h1 x hx => HAL.out j hj h1 x hx) HNZ.out hk (fun i hi => HB.out i (by omega) hi) (fun _ => hbf), fun x => put_mem.trans (HME.out x)⟩
            · have t1 : ¬ (k : Int) < (zz.length : Int) := by omega
              have hkc : (k : Int) ≤ (cap : Int) := by omega
              have hkz : (k : Int) ≤ (zz.length : Int) := by omega
              have t0 : 0 ≤ (k : Int) := by omega
              obtain ⟨w3, hw3⟩ : ∃ w3, w3 = wr := ⟨_, rfl⟩
              subst hw3
              have hbw := HW.out
              by_cases hck : cap = k
              · subst hck
                have o3 := (HO.out.on hbw).wide hbw.size (Nat.le_refl _)
                have p3 := HP.out.on hbw
                have f3 := (hbw.frozen (p := ⟨cb, 0, none⟩) HP.out.1).trans HF.out
                have hg3 := HG.out.trans (gr_below hbw (some cb))
                have hBw3 : B ≤ w3.heap.size := by have := hbw.size; omega
                have al0 : Below w3.heap.size w3 (w3.alloc (.cells #[] 25)) := (Below.refl _ _).alloc (Nat.le_refl _) _
                have q4 := (p3.on al0).2
                have hm := World.ownsRow_made (base := w3.heap.size) (e := 25) (size := 1) w3 #[] 0 (Nat.le_refl _) (Nat.zero_le _) rfl
                have S1 := Lib.hid ((o3.srcTake rfl (by omega) hk).on al0)
                have hkL : (L.take cap).length = cap := by rw [List.length_take, o3.len]; omega
                have hdL : (L.drop cap).length = zz.length - cap := by rw [List.length_drop, o3.len]
                have ones1 : Hid (∀ u ∈ L, u.oneCell' = true) := o3.ones
                have sls1 : Hid (∀ u ∈ L, ∃ b m c, u = .slice b m c) := o3.sls
                have SD : Hid (SrcAt w3 (.slice (some ⟨g, 0, none⟩) 0 0) (L.drop cap)) := by
                  have : L.drop cap = [] := List.drop_eq_nil_of_le (by rw [o3.len]; omega)
                  show SrcAt _ _ _
                  rw [this]
                  exact ⟨_, 0, rfl, by simp, .inr ⟨g, 0, rfl, .inl rfl, fun j u hj => by simp at hj⟩⟩
                have O3 := Lib.hid o3
                have P3 := Lib.hid p3
                have G3 := Lib.hid hg3
                have F3 := Lib.hid f3
                have HKL := Lib.hid hkL
                have HDL := Lib.hid hdL
                clear o3 p3 hg3 f3 hbw hkL hdL
                go_wp2_with (at_builtin; refine wp_append_src rfl _ _ 22 rfl w3.heap.size 25 i0 (.slice none 0 0) 24 Tryz.underlying22 hi hz0 hz1 hz2 rfl _ 0 [] rfl hm _ (L.take cap) rfl S1.out (fun u hu => ones1.out u (List.mem_of_mem_take hu)) (by omega) (by omega) (by simp) ?_; intro v4 w4 hv4 hg4)
                have hB4 : Below w3.heap.size w3 w4 := al0.grown hg4 (by simp) (fun q hq => (hm.lt q hq).1)
                have hv4' : w4.ownsRow w3.heap.size 25 1 v4 cap (L.take cap) := by rw [HKL.out] at hv4; simpa using hv4
                clear hv4 hg4 q4
                refine (l00Own_any (HV.out _ (G3.out.trans (gr_below hB4 _))) (by omega)).mono ?_
                rintro e w5 ⟨va0, rfl, ha5, hb5⟩
                obtain ⟨vA, vC, rfl⟩ := ha5.slice
                have hB5 : Below w3.heap.size w3 w5 := hB4.trans (hb5.mono hB4.size)
                have al5 : Below w5.heap.size w5 (w5.alloc (.cells #[.slice vA s.length vC] 25)) := (Below.refl _ _).alloc (Nat.le_refl _) _
                have hv5 : (w5.alloc (.cells #[.slice vA s.length vC] 25)).ownsRow w3.heap.size 25 1 v4 cap (L.take cap) := ownsRow_on (ownsRow_on hv4' hb5) al5
                have hS5 := src_one w5 (.slice vA s.length vC) 25
                have hasl : ∃ b m c, Value.slice vA s.length vC = .slice b m c := ⟨_, _, _, rfl⟩
                have hone : ∀ u ∈ [Value.slice vA s.length vC], u.oneCell' = true := fun u hu => by rw [List.mem_singleton.1 hu]; rfl
                have hneV : (Value.slice vA s.length vC).ownBlock = none ∨ (Value.slice vA s.length vC).ownBlock ≠ v4.ownBlock := by
                  rcases hva : (Value.slice vA s.length vC).ownBlock with _ | q
                  · exact .inl rfl
                  · exact .inr fun e => by have h1 := (ha5.out.lt q hva).1; have h2 := (hv4'.lt q e.symm).2; omega
                have ha5' := ha5.on al5
                have hs5 := hB5.size
                have hs4' := hB4.size
                go_wp2_with (first | (at_builtin; refine wp_append_src rfl _ _ 22 rfl w3.heap.size 25 i0 (.slice none 0 0) 24 Tryz.underlying22 hi hz0 hz1 hz2 rfl _ cap (L.take cap) rfl hv5 _ [.slice vA s.length vC] rfl hS5 hone (by omega) (by omega) (by simp; omega) ?_; intro v6 w6 hv6 hg6; have hB6 : Below w3.heap.size w3 w6 := (hB5.alloc hs5 _).grown hg6 (by simp; omega) (fun q hq => (hv5.lt q hq).1); have q6 := (P3.out.on hB6).2; have f6 := (hB6.frozen (p := ⟨cb, 0, none⟩) P3.out.1).trans F3.out; have ha6 : OwnI w4.heap.size w6 (.slice vA s.length vC) s := World.ownsRow.kept ha5'.out hg6 hneV; have SD6 := Lib.hid (SD.out.on hB6); have ne6 := apart hv6 (fun u hu => by rw [List.mem_append, List.mem_singleton] at hu; rcases hu with hu | rfl; exact sls1.out u (List.mem_of_mem_take hu); exact hasl) (by simp) ha6 hs1; have hs6 := hB6.size) | (at_builtin; refine wp_append_src rfl _ _ 22 rfl w3.heap.size 25 i0 (.slice none 0 0) 24 Tryz.underlying22 hi hz0 hz1 hz2 rfl _ _ _ rfl hv6 _ (L.drop cap) rfl SD6.out (fun u hu => ones1.out u (List.mem_of_mem_drop hu)) (by simp; omega) (by omega) hs6 ?_; intro v7 w7 hv7 hg7; have hB7 : Below w3.heap.size w3 w7 := hB6.grown hg7 hs6 (fun q hq => (hv6.lt q hq).1); have q7 := P3.out.on hB7; have f7 := (hB7.frozen (p := ⟨cb, 0, none⟩) P3.out.1).trans F3.out; have ha7 : OwnI w4.heap.size w7 (.slice vA s.length vC) s := World.ownsRow.kept ha6.out hg7 (by rcases hva : (Value.slice vA s.length vC).ownBlock with _ | q; exact .inl rfl; exact .inr fun e => ne6 q hva e.symm); have hv7' : w7.ownsRow w3.heap.size 25 1 v7 (zz.length + 1) (L.take cap ++ Value.slice vA s.length vC :: L.drop cap) := (by have e1 : cap + [Value.slice vA s.length vC].length + (L.drop cap).length = zz.length + 1 := by { rw [HDL.out]; simp; omega }; have e2 : L.take cap ++ [Value.slice vA s.length vC] ++ L.drop cap = L.take cap ++ Value.slice vA s.length vC :: L.drop cap := by { simp }; rw [e1, e2] at hv7; exact hv7); clear hv7; have ne7 := apart hv7' (sls_ins sls1.out hasl) (Nat.succ_pos _) ha7 hs1; obtain ⟨g7, cap7, rfl⟩ := ownsRow_ptr hv7' (Nat.succ_pos _); obtain ⟨q7l, q7c⟩ := q7))
                refine bodyPost_ret (results_none rfl _ _ _) rfl ?_
                refine ⟨rfl, (G3.out.trans (gr_below hB7 _)).trans (gr_set w7 cb _), _, CpS.make O3.out hB7 hk hBw3 hv7' (ha7.mono hs4') ne7 ⟨q7l, q7c⟩ f7 P3.out.1 hLc, HX.out.put HS.out (fun j hj h1 x hx => HAL.out j hj h1 x hx) HNZ.out hk (fun i hi => HB.out i (by omega) hi) (fun h => absurd h (by omega)), fun x => put_mem.trans (HME.out x)⟩
              · skip
                have o3 := (HO.out.on hbw).wide hbw.size (Nat.le_refl _)
                have p3 := HP.out.on hbw
                have f3 := (hbw.frozen (p := ⟨cb, 0, none⟩) HP.out.1).trans HF.out
                have hg3 := HG.out.trans (gr_below hbw (some cb))
                have hBw3 : B ≤ w3.heap.size := by have := hbw.size; omega
                have al0 : Below w3.heap.size w3 (w3.alloc (.cells #[] 25)) := (Below.refl _ _).alloc (Nat.le_refl _) _
                have q4 := (p3.on al0).2
                have hm := World.ownsRow_made (base := w3.heap.size) (e := 25) (size := 1) w3 #[] 0 (Nat.le_refl _) (Nat.zero_le _) rfl
                have S1 := Lib.hid ((o3.srcTake rfl (by omega) hk).on al0)
                have hkL : (L.take k).length = k := by rw [List.length_take, o3.len]; omega
                have hdL : (L.drop k).length = zz.length - k := by rw [List.length_drop, o3.len]
                have ones1 : Hid (∀ u ∈ L, u.oneCell' = true) := o3.ones
                have sls1 : Hid (∀ u ∈ L, ∃ b m c, u = .slice b m c) := o3.sls
                have SD : Hid (SrcAt w3 (.slice (some ⟨g, k, none⟩) (zz.length - k) (cap - k)) (L.drop k)) := o3.srcDrop rfl (by omega) hk
                have O3 := Lib.hid o3
                have P3 := Lib.hid p3
                have G3 := Lib.hid hg3
                have F3 := Lib.hid f3
                have HKL := Lib.hid hkL
                have HDL := Lib.hid hdL
                clear o3 p3 hg3 f3 hbw hkL hdL
                go_wp2_with (at_builtin; refine wp_append_src rfl _ _ 22 rfl w3.heap.size 25 i0 (.slice none 0 0) 24 Tryz.underlying22 hi hz0 hz1 hz2 rfl _ 0 [] rfl hm _ (L.take k) rfl S1.out (fun u hu => ones1.out u (List.mem_of_mem_take hu)) (by omega) (by omega) (by simp) ?_; intro v4 w4 hv4 hg4)
                have hB4 : Below w3.heap.size w3 w4 := al0.grown hg4 (by simp) (fun q hq => (hm.lt q hq).1)
                have hv4' : w4.ownsRow w3.heap.size 25 1 v4 k (L.take k) := by rw [HKL.out] at hv4; simpa using hv4
                clear hv4 hg4 q4
                refine (l00Own_any (HV.out _ (G3.out.trans (gr_below hB4 _))) (by omega)).mono ?_
                rintro e w5 ⟨va0, rfl, ha5, hb5⟩
                obtain ⟨vA, vC, rfl⟩ := ha5.slice
                have hB5 : Below w3.heap.size w3 w5 := hB4.trans (hb5.mono hB4.size)
                have al5 : Below w5.heap.size w5 (w5.alloc (.cells #[.slice vA s.length vC] 25)) := (Below.refl _ _).alloc (Nat.le_refl _) _
                have hv5 : (w5.alloc (.cells #[.slice vA s.length vC] 25)).ownsRow w3.heap.size 25 1 v4 k (L.take k) := ownsRow_on (ownsRow_on hv4' hb5) al5
                have hS5 := src_one w5 (.slice vA s.length vC) 25
                have hasl : ∃ b m c, Value.slice vA s.length vC = .slice b m c := ⟨_, _, _, rfl⟩
                have hone : ∀ u ∈ [Value.slice vA s.length vC], u.oneCell' = true := fun u hu => by rw [List.mem_singleton.1 hu]; rfl
                have hneV : (Value.slice vA s.length vC).ownBlock = none ∨ (Value.slice vA s.length vC).ownBlock ≠ v4.ownBlock := by
                  rcases hva : (Value.slice vA s.length vC).ownBlock with _ | q
                  · exact .inl rfl
                  · exact .inr fun e => by have h1 := (ha5.out.lt q hva).1; have h2 := (hv4'.lt q e.symm).2; omega
                have ha5' := ha5.on al5
                have hs5 := hB5.size
                have hs4' := hB4.size
                go_wp2_with (first | (at_builtin; refine wp_append_src rfl _ _ 22 rfl w3.heap.size 25 i0 (.slice none 0 0) 24 Tryz.underlying22 hi hz0 hz1 hz2 rfl _ k (L.take k) rfl hv5 _ [.slice vA s.length vC] rfl hS5 hone (by omega) (by omega) (by simp; omega) ?_; intro v6 w6 hv6 hg6; have hB6 : Below w3.heap.size w3 w6 := (hB5.alloc hs5 _).grown hg6 (by simp; omega) (fun q hq => (hv5.lt q hq).1); have q6 := (P3.out.on hB6).2; have f6 := (hB6.frozen (p := ⟨cb, 0, none⟩) P3.out.1).trans F3.out; have ha6 : OwnI w4.heap.size w6 (.slice vA s.length vC) s := World.ownsRow.kept ha5'.out hg6 hneV; have SD6 := Lib.hid (SD.out.on hB6); have ne6 := apart hv6 (fun u hu => by rw [List.mem_append, List.mem_singleton] at hu; rcases hu with hu | rfl; exact sls1.out u (List.mem_of_mem_take hu); exact hasl) (by simp) ha6 hs1; have hs6 := hB6.size) | (at_builtin; refine wp_append_src rfl _ _ 22 rfl w3.heap.size 25 i0 (.slice none 0 0) 24 Tryz.underlying22 hi hz0 hz1 hz2 rfl _ _ _ rfl hv6 _ (L.drop k) rfl SD6.out (fun u hu => ones1.out u (List.mem_of_mem_drop hu)) (by simp; omega) (by omega) hs6 ?_; intro v7 w7 hv7 hg7; have hB7 : Below w3.heap.size w3 w7 := hB6.grown hg7 hs6 (fun q hq => (hv6.lt q hq).1); have q7 := P3.out.on hB7; have f7 := (hB7.frozen (p := ⟨cb, 0, none⟩) P3.out.1).trans F3.out; have ha7 : OwnI w4.heap.size w7 (.slice vA s.length vC) s := World.ownsRow.kept ha6.out hg7 (by rcases hva : (Value.slice vA s.length vC).ownBlock with _ | q; exact .inl rfl; exact .inr fun e => ne6 q hva e.symm); have hv7' : w7.ownsRow w3.heap.size 25 1 v7 (zz.length + 1) (L.take k ++ Value.slice vA s.length vC :: L.drop k) := (by have e1 : k + [Value.slice vA s.length vC].length + (L.drop k).length = zz.length + 1 := by { rw [HDL.out]; simp; omega }; have e2 : L.take k ++ [Value.slice vA s.length vC] ++ L.drop k = L.take k ++ Value.slice vA s.length vC :: L.drop k := by { simp }; rw [e1, e2] at hv7; exact hv7); clear hv7; have ne7 := apart hv7' (sls_ins sls1.out hasl) (Nat.succ_pos _) ha7 hs1; obtain ⟨g7, cap7, rfl⟩ := ownsRow_ptr hv7' (Nat.succ_pos _); obtain ⟨q7l, q7c⟩ := q7))
                refine bodyPost_ret (results_none rfl _ _ _) rfl ?_
                refine ⟨rfl, (G3.out.trans (gr_below hB7 _)).trans (gr_set w7 cb _), _, CpS.make O3.out hB7 hk hBw3 hv7' (ha7.mono hs4') ne7 ⟨q7l, q7c⟩ f7 P3.out.1 hLc, HX.out.put HS.out (fun j hj h1 x hx => HAL.out j hj h1 x hx) HNZ.out hk (fun i hi => HB.out i (by omega) hi) (fun h => absurd h (by omega)), fun x => put_mem.trans (HME.out x)⟩
end Go.Proofs.YtibdcejglkhcfaaGreatDoor
