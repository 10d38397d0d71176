/-
  ValidComplex of the model (l05Ok), and of the program.
-/
import Derived.Test.YtljmfpifhbfdcaaDoorCyH
namespace Go.Proofs.YtljmfpifhbfdcaaDoor
open Go.RowKit
set_option linter.unusedVariables false
set_option linter.unusedSimpArgs false

/-- A valid complex. -/
def OkC (zz : List (List Int)) : Prop := Cpx zz ∧ zz.length ≤ 48
def OkIs (zz : List (List Int)) (T : Bool) : Prop := (T = true ∧ OkC zz) ∨ (T = false ∧ ¬ OkC zz)
theorem okIs_has (zz : List (List Int)) : ∃ T, OkIs zz T := by
  by_cases h : OkC zz
  · exact ⟨true, .inl ⟨rfl, h⟩⟩
  · exact ⟨false, .inr ⟨rfl, h⟩⟩
theorem OkIs.yes {zz : List (List Int)} {T : Bool} (h : OkIs zz T) (g : OkC zz) : T = true := by
  rcases h with ⟨h, _⟩ | ⟨_, h⟩
  · exact h
  · exact absurd g h
theorem OkIs.no {zz : List (List Int)} {T : Bool} (h : OkIs zz T) (g : ¬ OkC zz) : T = false := by
  rcases h with ⟨_, h⟩ | ⟨h, _⟩
  · exact absurd h g
  · exact h
theorem drop_face {z : List Int} (h : Sim z) {k : Nat} (hk : k < z.length) (h1 : 1 < z.length) : Face (dropAt z k) z := by
  refine ⟨fun e => ?_, by rw [dropAt_is]; exact List.eraseIdx_sublist z k⟩
  have := dropAt_len hk
  rw [e] at this; simp at this; omega
theorem OkC.sim {zz : List (List Int)} (h : OkC zz) {i : Nat} (hi : i < zz.length) : Sim zz[i] := h.1.sim _ (List.getElem_mem hi)
theorem OkC.bef {zz : List (List Int)} (h : OkC zz) {i : Nat} (hi : i + 1 < zz.length) : befB (zz[i]'(by omega)) zz[i + 1] = true := (List.pairwise_iff_getElem.1 h.1.ord) i (i + 1) (by omega) hi (Nat.lt_succ_self i)
theorem OkC.drop {zz : List (List Int)} (h : OkC zz) {z : List Int} (hz : z ∈ zz) {k : Nat} (hk : k < z.length) (h1 : 1 < z.length) : dropAt z k ∈ zz := h.1.clo z hz _ (drop_face (h.1.sim z hz) hk h1)
theorem ok_of {zz : List (List Int)} (hl : zz.length ≤ 48) (h1 : ∀ i (h : i < zz.length), Sim zz[i]) (h2 : ∀ i (h : i + 1 < zz.length), befB (zz[i]'(by omega)) zz[i + 1] = true) (h3 : ∀ i (h : i < zz.length) k, k < zz[i].length → 1 < zz[i].length → dropAt zz[i] k ∈ zz) : OkC zz := by
  have hlt : ∀ d i (h : i + d + 1 < zz.length), befB (zz[i]'(by omega)) (zz[i + d + 1]'h) = true := by
    intro d
    induction d with
    | zero => exact fun i h => h2 i h
    | succ d ih =>
      intro i h
      exact befB_trans (ih i (by omega)) (h2 (i + d + 1) (by omega))
  refine ⟨⟨List.pairwise_iff_getElem.2 fun i j hi hj hij => ?_, fun z hz => ?_, ?_⟩, hl⟩
  · have := hlt (j - i - 1) i (by omega)
    have e : i + (j - i - 1) + 1 = j := by omega
    simpa [e] using this
  · obtain ⟨i, hi, rfl⟩ := List.getElem_of_mem hz; exact h1 i hi
  · have key : ∀ n z, z.length ≤ n → z ∈ zz → ∀ x, Face x z → x ∈ zz := by
      intro n
      induction n with
      | zero => intro z hn hz x hx; have := hx.2.length_le; have := List.length_pos_iff.2 hx.1; omega
      | succ n ih =>
        intro z hn hz x hx
        obtain ⟨h0, rfl | ⟨j, hj, hx'⟩⟩ := face_drop.1 hx
        · exact hz
        · have hdl := dropAt_len hj
          have := hx'.2.length_le
          have := List.length_pos_iff.2 hx'.1
          obtain ⟨i, hi, rfl⟩ := List.getElem_of_mem hz
          exact ih _ (by omega) (h3 i hi j hj (by omega)) x hx'
    exact fun z hz x hx => key z.length z (Nat.le_refl _) hz x hx
set_option maxRecDepth 100000 in
set_option maxHeartbeats 12800000 in
theorem l05Ok_is {L : Nat} {v : Value} {zz : List (List Int)} {T : Bool} {w : World} (p : PtC w L v) (hq : RowsQ w v zz) (hT : OkIs zz T) :
    Calls Tryd.prog 49 #[.pointer (some ⟨L, 0, none⟩)] w fun e w' => e = .returned (.bool T) ∧ Below w.heap.size w w' := by
  have HQ := Lib.hid hq
  obtain ⟨a, c, rfl, hl, k1⟩ := hq
  have K1 := Lib.hid k1
  have P := Lib.hid p
  have HT := Lib.hid hT
  have q0 := p.2
  clear k1 p hT
  by_cases h48 : 48 < zz.length
  · have h1 : (48 : Int) < (zz.length : Int) := by omega
    obtain rfl := HT.out.no (fun h => by have := h.2; omega)
    go_enter Tryd.func49, Tryd.ntmps49
    go_wp2_with fail
    go_ret
    exact ⟨rfl, Below.refl _ _⟩
  · have h1 : ¬ (48 : Int) < (zz.length : Int) := by omega
    go_enter Tryd.func49, Tryd.ntmps49
    go_wp2_with fail
    clear q0
    go_loopw [3] (fun si wr => ∃ (i : Nat), i ≤ zz.length ∧ si = .int .i64 (i : Int) ∧ Hid (∀ j (h : j < zz.length), j < i → Sim zz[j]) ∧ Hid (∀ j (h : j + 1 < zz.length), j + 1 < i → befB (zz[j]'(by omega)) zz[j + 1] = true) ∧ Hid (∀ j (h : j < zz.length), j < i → ∀ k, k < zz[j].length → 1 < zz[j].length → dropAt zz[j] k ∈ zz) ∧ Hid (Below w.heap.size w wr)) (fun i _ => zz.length - (intOf i).toNat)
    case atStart => exact ⟨0, Nat.zero_le _, rfl, fun j _ hj => absurd hj (Nat.not_lt_zero j), fun j _ hj => absurd hj (Nat.not_lt_zero _), fun j _ hj => absurd hj (Nat.not_lt_zero j), Below.refl _ _⟩
    case round =>
      obtain ⟨i, hi, rfl, H1, H2, H3, HB⟩ := hrel
      have q1 := (P.out.on HB.out).2
      by_cases hlt : i < zz.length
      · obtain ⟨b, o, u, rfl, hb, c1', i1'⟩ := K1.out i hlt
        have c1 : wr.cell? ⟨b, o + i, none⟩ = some u := (HB.out.cell (p := ⟨b, o + i, none⟩) hb).trans c1'
        have I0 : Hid (∀ w', Below w.heap.size w w' → IntsC w' u zz[i]) := fun w' hb' => i1'.on hb'
        obtain ⟨ua, uc, rfl⟩ : ∃ ua uc, u = .slice ua zz[i].length uc := by obtain ⟨x1, x2, e, _⟩ := i1'.1; exact ⟨x1, x2, e⟩
        clear c1' i1'
        have i0 : 0 ≤ (i : Int) := by omega
        have i1 : (i : Int) < (zz.length : Int) := by omega
        have hmz : Hid (zz[i] ∈ zz) := List.getElem_mem hlt
        obtain ⟨s, hs⟩ : ∃ s, zz[i] = s := ⟨_, rfl⟩
        have HSK := Lib.hid hs
        rw [hs] at I0 hmz c1
        clear hs
        by_cases hv : simB s = true
        · have hsim := sim_iff.1 hv
          have hs4 := hsim.le
          have hs1 := hsim.pos
          have HSIM := Lib.hid hsim
          clear hsim
          rcases Nat.eq_zero_or_pos i with h0 | h0
          · have g3 : ¬ (i : Int) > 0 := by omega
            have HBF : Hid (∀ j (h : j + 1 < zz.length), j + 1 < i + 1 → befB (zz[j]'(by omega)) zz[j + 1] = true) := fun j h hj => by omega
            clear h0
            go_wp2_with (go_at_call 52; refine (l05Sim_is (I0.out _ HB.out).1 hv).mono ?_; rintro e w' ⟨rfl, n2, rfl⟩)
            have HB2 := Lib.hid (below_drewX HB.out n2)
            go_loopw [5] (fun si wr => ∃ (k : Nat), k ≤ s.length ∧ si = .int .i64 (k : Int) ∧ Hid (∀ j, j < k → 1 < s.length → dropAt s j ∈ zz) ∧ Hid (Below w.heap.size w wr)) (fun i _ => s.length - (intOf i).toNat)
            case atStart => exact ⟨0, Nat.zero_le _, rfl, fun j hj => absurd hj (Nat.not_lt_zero j), HB2⟩
            case round =>
              clear HB2
              obtain ⟨k, hk, rfl, HD, HW⟩ := hrel
              by_cases hgo : k < s.length ∧ 1 < s.length
              · obtain ⟨hkl, hk1⟩ := hgo
                have t1 : (k : Int) < (s.length : Int) := by omega
                have t2 : (s.length : Int) > 1 := by omega
                have hdl := dropAt_len hkl
                by_cases hm : dropAt s k ∈ zz
                · obtain ⟨k', _, hf, _⟩ := fndI_yes (i := 0) hm
                  rw [Int.zero_add] at hf
                  have hn : ¬ ((k' : Nat) : Int) < 0 := by omega
                  go_wp2_with (first | (go_at_call 87; refine (l05Drop_any (I0.out _ HW.out) (by omega) hkl).mono ?_; rintro e w5 ⟨x5, rfl, ho5, hb5⟩; have HB5 := Lib.hid (HW.out.trans (hb5.mono HW.out.size)); have HX5 : Hid (OwnI _ w5 x5 (dropAt s k)) := ho5) | (go_at_call 61; refine (l05Find_is (P.out.on HB5.out) (HQ.out.on HB5.out).rows (HX5.out.at (by omega)) hf).mono ?_; rintro e w6 ⟨rfl, n6, rfl⟩))
                  go_roundw
                  case rel =>
                    refine ⟨k + 1, by omega, by go_num, ?_, below_drewX HB5.out n6⟩
                    intro j hj h1j
                    by_cases e : j = k
                    · subst e; exact hm
                    · exact HD.out j (by omega) h1j
                  case measure => simp [intOf]; omega
                · have hf := fndI_no (i := 0) hm
                  obtain rfl := HT.out.no (fun h => hm (h.drop hmz.out hkl hk1))
                  go_wp2_with (first | (go_at_call 87; refine (l05Drop_any (I0.out _ HW.out) (by omega) hkl).mono ?_; rintro e w5 ⟨x5, rfl, ho5, hb5⟩; have HB5 := Lib.hid (HW.out.trans (hb5.mono HW.out.size)); have HX5 : Hid (OwnI _ w5 x5 (dropAt s k)) := ho5) | (go_at_call 61; refine (l05Find_is (P.out.on HB5.out) (HQ.out.on HB5.out).rows (HX5.out.at (by omega)) hf).mono ?_; rintro e w6 ⟨rfl, n6, rfl⟩))
                  go_ret
                  exact ⟨rfl, below_drewX HB5.out n6⟩
              · have hall : ∀ j, j < s.length → 1 < s.length → dropAt s j ∈ zz := fun j hj h1 => HD.out j (by omega) h1
                have fin : Hid (∀ j (h : j < zz.length), j < i + 1 → Sim zz[j]) ∧ Hid (∀ j (h : j < zz.length), j < i + 1 → ∀ k, k < zz[j].length → 1 < zz[j].length → dropAt zz[j] k ∈ zz) := by
                  refine ⟨fun j h hj => ?_, fun j h hj => ?_⟩
                  · by_cases e : j = i
                    · subst e; rw [HSK.out]; exact HSIM.out
                    · exact H1.out j h (by omega)
                  · by_cases e : j = i
                    · subst e; rw [HSK.out]; exact hall
                    · exact H3.out j h (by omega)
                clear hall
                by_cases t1 : k < s.length
                · have t1' : (k : Int) < (s.length : Int) := by omega
                  have t2 : ¬ (s.length : Int) > 1 := by omega
                  go_wp2_with fail
                  go_roundw
                  case rel => exact ⟨i + 1, by omega, by go_num, fin.1, HBF, fin.2, HW⟩
                  case measure => simp [intOf]; omega
                · have t1' : ¬ (k : Int) < (s.length : Int) := by omega
                  go_wp2_with fail
                  go_roundw
                  case rel => exact ⟨i + 1, by omega, by go_num, fin.1, HBF, fin.2, HW⟩
                  case measure => simp [intOf]; omega
          · obtain ⟨q, rfl⟩ : ∃ q, i = q + 1 := ⟨i - 1, by omega⟩
            obtain ⟨b', o', u2, e, hb2, c2', j1'⟩ := K1.out q (by omega)
            injection e with e; injection e with ea eb ec; subst ea eb
            have c2 : wr.cell? ⟨b, o + q, none⟩ = some u2 := (HB.out.cell (p := ⟨b, o + q, none⟩) hb).trans c2'
            have J0 : Hid (∀ w', Below w.heap.size w w' → IntsC w' u2 (zz[q]'(by omega))) := fun w' hb' => j1'.on hb'
            clear c2' j1'
            have g3 : ((q + 1 : Nat) : Int) > 0 := by omega
            have e1 : ((q + 1 : Nat) : Int) - 1 = (q : Int) := by omega
            have e2 : IntKind.i64.wrap (((q + 1 : Nat) : Int) - 1) = (q : Int) := by rw [e1]; exact IntWalk.i64_in _ (by omega)
            have i2 : 0 ≤ (q : Int) := by omega
            have i3 : (q : Int) < (zz.length : Int) := by omega
            cases hbf : befB (zz[q]'(by omega)) s with
            | true =>
              have HBF : Hid (∀ j (h : j + 1 < zz.length), j + 1 < q + 1 + 1 → befB (zz[j]'(by omega)) zz[j + 1] = true) := fun j h hj => by
                by_cases e : j = q
                · subst e; rw [HSK.out]; exact hbf
                · exact H2.out j h (by omega)
              go_wp2_with (first | (go_at_call 52; refine (l05Sim_is (I0.out _ HB.out).1 hv).mono ?_; rintro e w' ⟨rfl, n2, rfl⟩; have HB1 := Lib.hid (below_drewX HB.out n2)) | (go_at_call 86; refine (l05Bef_is (J0.out _ HB1.out).1 (I0.out _ HB1.out).1).mono ?_; rintro e w' ⟨rfl, n3, rfl⟩; rw [hbf]))
              have HB2 : Hid (Below w.heap.size w (wr.drewN (n2 + n3))) := below_drewX HB.out _
              go_loopw [5] (fun si wr => ∃ (k : Nat), k ≤ s.length ∧ si = .int .i64 (k : Int) ∧ Hid (∀ j, j < k → 1 < s.length → dropAt s j ∈ zz) ∧ Hid (Below w.heap.size w wr)) (fun i _ => s.length - (intOf i).toNat)
              case atStart => exact ⟨0, Nat.zero_le _, rfl, fun j hj => absurd hj (Nat.not_lt_zero j), HB2⟩
              case round =>
                clear HB2
                obtain ⟨k, hk, rfl, HD, HW⟩ := hrel
                by_cases hgo : k < s.length ∧ 1 < s.length
                · obtain ⟨hkl, hk1⟩ := hgo
                  have t1 : (k : Int) < (s.length : Int) := by omega
                  have t2 : (s.length : Int) > 1 := by omega
                  have hdl := dropAt_len hkl
                  by_cases hm : dropAt s k ∈ zz
                  · obtain ⟨k', _, hf, _⟩ := fndI_yes (i := 0) hm
                    rw [Int.zero_add] at hf
                    have hn : ¬ ((k' : Nat) : Int) < 0 := by omega
                    go_wp2_with (first | (go_at_call 87; refine (l05Drop_any (I0.out _ HW.out) (by omega) hkl).mono ?_; rintro e w5 ⟨x5, rfl, ho5, hb5⟩; have HB5 := Lib.hid (HW.out.trans (hb5.mono HW.out.size)); have HX5 : Hid (OwnI _ w5 x5 (dropAt s k)) := ho5) | (go_at_call 61; refine (l05Find_is (P.out.on HB5.out) (HQ.out.on HB5.out).rows (HX5.out.at (by omega)) hf).mono ?_; rintro e w6 ⟨rfl, n6, rfl⟩))
                    go_roundw
                    case rel =>
                      refine ⟨k + 1, by omega, by go_num, ?_, below_drewX HB5.out n6⟩
                      intro j hj h1j
                      by_cases e : j = k
                      · subst e; exact hm
                      · exact HD.out j (by omega) h1j
                    case measure => simp [intOf]; omega
                  · have hf := fndI_no (i := 0) hm
                    obtain rfl := HT.out.no (fun h => hm (h.drop hmz.out hkl hk1))
                    go_wp2_with (first | (go_at_call 87; refine (l05Drop_any (I0.out _ HW.out) (by omega) hkl).mono ?_; rintro e w5 ⟨x5, rfl, ho5, hb5⟩; have HB5 := Lib.hid (HW.out.trans (hb5.mono HW.out.size)); have HX5 : Hid (OwnI _ w5 x5 (dropAt s k)) := ho5) | (go_at_call 61; refine (l05Find_is (P.out.on HB5.out) (HQ.out.on HB5.out).rows (HX5.out.at (by omega)) hf).mono ?_; rintro e w6 ⟨rfl, n6, rfl⟩))
                    go_ret
                    exact ⟨rfl, below_drewX HB5.out n6⟩
                · have hall : ∀ j, j < s.length → 1 < s.length → dropAt s j ∈ zz := fun j hj h1 => HD.out j (by omega) h1
                  have fin : Hid (∀ j (h : j < zz.length), j < (q + 1) + 1 → Sim zz[j]) ∧ Hid (∀ j (h : j < zz.length), j < (q + 1) + 1 → ∀ k, k < zz[j].length → 1 < zz[j].length → dropAt zz[j] k ∈ zz) := by
                    refine ⟨fun j h hj => ?_, fun j h hj => ?_⟩
                    · by_cases e : j = (q + 1)
                      · subst e; rw [HSK.out]; exact HSIM.out
                      · exact H1.out j h (by omega)
                    · by_cases e : j = (q + 1)
                      · subst e; rw [HSK.out]; exact hall
                      · exact H3.out j h (by omega)
                  clear hall
                  by_cases t1 : k < s.length
                  · have t1' : (k : Int) < (s.length : Int) := by omega
                    have t2 : ¬ (s.length : Int) > 1 := by omega
                    go_wp2_with fail
                    go_roundw
                    case rel => exact ⟨(q + 1) + 1, by omega, by go_num, fin.1, HBF, fin.2, HW⟩
                    case measure => simp [intOf]; omega
                  · have t1' : ¬ (k : Int) < (s.length : Int) := by omega
                    go_wp2_with fail
                    go_roundw
                    case rel => exact ⟨(q + 1) + 1, by omega, by go_num, fin.1, HBF, fin.2, HW⟩
                    case measure => simp [intOf]; omega
            | false =>
              obtain rfl := HT.out.no (fun h => by have := h.bef (i := q) hlt; rw [HSK.out, hbf] at this; cases this)
              go_wp2_with (first | (go_at_call 52; refine (l05Sim_is (I0.out _ HB.out).1 hv).mono ?_; rintro e w' ⟨rfl, n2, rfl⟩; have HB1 := Lib.hid (below_drewX HB.out n2)) | (go_at_call 86; refine (l05Bef_is (J0.out _ HB1.out).1 (I0.out _ HB1.out).1).mono ?_; rintro e w' ⟨rfl, n3, rfl⟩; rw [hbf]))
              go_ret
              exact ⟨rfl, below_drewX HB.out _⟩
        · have hv' : simB s = false := by simpa using hv
          obtain rfl := HT.out.no (fun h => hv (sim_iff.2 (by rw [← HSK.out]; exact h.sim hlt)))
          go_wp2_with (go_at_call 52; refine (l05Sim_is (I0.out _ HB.out).1 hv').mono ?_; rintro e w' ⟨rfl, n2, rfl⟩)
          go_ret
          exact ⟨rfl, below_drewX HB.out n2⟩
      · obtain rfl := HT.out.yes (ok_of (by omega) (fun j hj => H1.out j hj (by omega)) (fun j hj => H2.out j hj (by omega)) (fun j hj => H3.out j hj (by omega)))
        go_wp2_with fail
        go_ret
        exact ⟨rfl, HB.out⟩
end Go.Proofs.YtljmfpifhbfdcaaDoor
