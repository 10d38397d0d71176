/-
  The model's search for a simplex; a list without the number at a place.
-/
import Derived.Test.YtljmfpifhbfdcaaDoorCyC
namespace Go.Proofs.YtljmfpifhbfdcaaDoor
open Go.RowKit
set_option linter.unusedVariables false
set_option linter.unusedSimpArgs false

/-- The place of a simplex from place i on, or -1. -/
def fndI (s : List Int) : List (List Int) → Int → Int
  | [], _ => -1
  | z :: zz, i => if z = s then i else fndI s zz (i + 1)
theorem fndI_no {s : List Int} : ∀ {zz : List (List Int)} {i : Int}, s ∉ zz → fndI s zz i = -1
  | [], _, _ => rfl
  | z :: zz, i, h => by
    have h1 : ¬ z = s := fun e => h (by simp [e])
    rw [fndI, if_neg h1]
    exact fndI_no fun hm => h (by simp [hm])
theorem fndI_yes {s : List Int} : ∀ {zz : List (List Int)} {i : Int}, s ∈ zz → ∃ k, ∃ h : k < zz.length, fndI s zz i = i + (k : Int) ∧ zz[k] = s
  | [], _, h => by simp at h
  | z :: zz, i, h => by
    by_cases h1 : z = s
    · exact ⟨0, by simp, by simp [fndI, h1], by simp [h1]⟩
    · have h2 : s ∈ zz := by
        rcases List.mem_cons.1 h with e | e
        · exact absurd e.symm h1
        · exact e
      obtain ⟨k, hk, e1, e2⟩ := fndI_yes (i := i + 1) h2
      exact ⟨k + 1, by simp; exact hk, by rw [fndI, if_neg h1, e1]; push_cast; omega, by simpa using e2⟩
set_option maxRecDepth 100000 in
set_option maxHeartbeats 3200000 in
theorem l05Find_is {L : Nat} {u v : Value} {yy : List (List Int)} {s : List Int} {N : Int} {w : World} (p : PtC w L u) (hu : RowsAt w u yy) (hv : IntsAt w v s) (hN : fndI s yy 0 = N) :
    Calls Tryd.prog 61 #[.pointer (some ⟨L, 0, none⟩), v] w fun e w' => e = .returned (.int .i64 N) ∧ ∃ n, w' = w.drewN n := by
  obtain ⟨a1, c1, rfl, hl1, k1⟩ := hu.any
  have K1 := Lib.hid k1
  have P := Lib.hid p
  have HV := Lib.hid hv
  obtain ⟨a2, c2, rfl, hl2, _⟩ := hv.any
  clear k1 p hv hu
  have HN : Hid (fndI s (yy.drop 0) ((0 : Nat) : Int) = N) := hN
  clear hN
  go_enter Tryd.func61, Tryd.ntmps61
  go_wp2_with fail
  go_loopw [5] (fun i wr => ∃ k : Nat, k ≤ yy.length ∧ i = .int .i64 (k : Int) ∧ Hid (fndI s (yy.drop k) (k : Int) = N) ∧ Hid (∃ n, wr = w.drewN n)) (fun i _ => yy.length - (intOf i).toNat)
  case atStart => exact ⟨0, Nat.zero_le _, rfl, HN, 0, rfl⟩
  case round =>
    clear HN
    obtain ⟨k, hk, rfl, HC, HW⟩ := hrel
    have q1 : wr.cell? ⟨L, 0, none⟩ = some (.slice a1 yy.length c1) := by obtain ⟨n, e⟩ := HW.out; rw [e]; exact P.out.2
    by_cases hlt : k < yy.length
    · obtain ⟨b1, o1, x, rfl, hb1, g1', j1⟩ := K1.out k hlt
      have g1 : wr.cell? ⟨b1, o1 + k, none⟩ = some x := by obtain ⟨n, e⟩ := HW.out; rw [e]; exact g1'
      have I1 : Hid (IntsAt wr x yy[k]) := by obtain ⟨n, e⟩ := HW.out; show IntsAt _ _ _; rw [e]; exact j1.drewN n
      have I2 : Hid (IntsAt wr (.slice a2 s.length c2) s) := by obtain ⟨n, e⟩ := HW.out; show IntsAt _ _ _; rw [e]; exact HV.out.drewN n
      clear g1' j1
      have i0 : 0 ≤ (k : Int) := by omega
      have i1 : (k : Int) < (yy.length : Int) := by omega
      have hc := HC.out
      rw [List.drop_eq_getElem_cons hlt, fndI] at hc
      by_cases he : yy[k] = s
      · have HE := Lib.hid (eqB_yes he)
        rw [if_pos he] at hc
        obtain rfl := hc
        generalize yy[k] = z at I1 HE
        clear HC he
        go_wp2_with (go_at_call 97; refine (same00_is I1.out I2.out HE.out).mono ?_; rintro e w' ⟨rfl, n2, rfl⟩)
        go_ret
        exact ⟨rfl, by obtain ⟨n, e⟩ := HW.out; exact ⟨_, by rw [e, World.drewN_drewN]⟩⟩
      · have HE := Lib.hid (eqB_no he)
        rw [if_neg he] at hc
        have HC2 : Hid (fndI s (yy.drop (k + 1)) ((k + 1 : Nat) : Int) = N) := hc
        generalize yy[k] = z at I1 HE
        clear HC hc he
        go_wp2_with (go_at_call 97; refine (same00_is I1.out I2.out HE.out).mono ?_; rintro e w' ⟨rfl, n2, rfl⟩)
        go_roundw
        case rel => exact ⟨k + 1, by omega, by go_num, HC2, by obtain ⟨n, e⟩ := HW.out; exact ⟨_, by rw [e, World.drewN_drewN]⟩⟩
        case measure => simp [intOf]; omega
    · have hN : N = -1 := by rw [← HC.out, List.drop_eq_nil_of_le (by omega)]; rfl
      subst hN
      go_wp2
      go_ret
      exact ⟨rfl, HW.out⟩
set_option maxRecDepth 100000 in
set_option maxHeartbeats 3200000 in
theorem l05Drop_any {v : Value} {s : List Int} {k : Nat} {w : World} (hv : IntsC w v s) (hl : s.length ≤ 1048576) (hk : k < s.length) :
    Calls Tryd.prog 87 #[v, .int .i64 (k : Int)] w fun e w' => RetL (s.take k ++ s.drop (k + 1)) w e w' := by
  obtain ⟨i0, hi, hz0, hz1, hz2⟩ := info_parts info2
  obtain ⟨h1, a, c, rfl, hlc, hcm, h2⟩ := hv
  obtain ⟨b, o, c', e, hb, k1⟩ := h1.at1 (by omega)
  injection e with e1 e2 e3
  subst e1 e3
  have HT : Hid (IntsC w (.slice (some ⟨b, o, none⟩) k c) (s.take k)) := by
    have hlk : (s.take k).length = k := by rw [List.length_take]; omega
    refine ⟨⟨_, c, by rw [hlk], by omega, .inr ⟨b, o, rfl, hb, fun j hj => ?_⟩⟩, _, c, by rw [hlk], by omega, hcm, .inr ⟨b, o, rfl⟩⟩
    rw [hlk] at hj
    rw [List.getElem_take]; exact k1 j (by omega)
  by_cases hck : c = k + 1
  · subst hck
    have HD : Hid (IntsC w (.slice (some ⟨b, o, none⟩) 0 0) (s.drop (k + 1))) := by
      have hlk : (s.drop (k + 1)).length = 0 := by rw [List.length_drop]; omega
      exact ⟨⟨_, 0, by rw [hlk], by omega, .inl (List.drop_eq_nil_of_le (by omega))⟩, _, 0, by rw [hlk], by omega, by omega, .inr ⟨b, o, rfl⟩⟩
    have i0' : 0 ≤ (k : Int) := by omega
    have i1 : (k : Int) < (s.length : Int) := by omega
    go_enter Tryd.func87, Tryd.ntmps87
    go_wp2_with (first
      | (go_at_call 81; refine (l00Own_any HT.out (by rw [List.length_take]; omega)).mono ?_; rintro e wa ⟨va, rfl, hoa, hba⟩; have HSD := Lib.hid ((HD.out.on hba).src (by rw [List.length_drop]; omega)))
      | (at_builtin; refine wp_append_src rfl _ _ 38 rfl w.heap.size 2 i0 (.int .i64 0) 8 Tryd.underlying38 hi hz0 hz1 hz2 rfl _ (s.take k).length (iv (s.take k)) rfl hoa _ (iv (s.drop (k + 1))) rfl HSD.out iv_one (by rw [List.length_take]; omega) (by omega) hba.size ?_; intro v2 w2 hv2 hg2))
    have HB := Lib.hid (hba.grown hg2 hba.size (fun q hq => (hoa.out.lt q hq).1))
    have HV : Hid (OwnI w.heap.size w2 v2 (s.take k ++ s.drop (k + 1))) := by
      show World.ownsRow _ _ _ _ _ _ _
      simpa [iv, List.length_append] using hv2
    clear hv2 hg2
    go_wp2
    go_ret
    exact ⟨_, rfl, HV.out, HB.out⟩
  · have HD : Hid (IntsC w (.slice (some ⟨b, o + (k + 1), none⟩) (s.length - (k + 1)) (c - (k + 1))) (s.drop (k + 1))) := by
      have hlk : (s.drop (k + 1)).length = s.length - (k + 1) := List.length_drop
      refine ⟨⟨_, c - (k + 1), by rw [hlk], by omega, .inr ⟨b, o + (k + 1), rfl, hb, fun j hj => ?_⟩⟩, _, c - (k + 1), by rw [hlk], by omega, by omega, .inr ⟨b, o + (k + 1), rfl⟩⟩
      rw [hlk] at hj
      rw [List.getElem_drop]; have := k1 (k + 1 + j) (by omega); rwa [← Nat.add_assoc] at this
    have i0' : 0 ≤ (k : Int) := by omega
    have i1 : (k : Int) < (s.length : Int) := by omega
    go_enter Tryd.func87, Tryd.ntmps87
    go_wp2_with (first
      | (go_at_call 81; refine (l00Own_any HT.out (by rw [List.length_take]; omega)).mono ?_; rintro e wa ⟨va, rfl, hoa, hba⟩; have HSD := Lib.hid ((HD.out.on hba).src (by rw [List.length_drop]; omega)))
      | (at_builtin; refine wp_append_src rfl _ _ 38 rfl w.heap.size 2 i0 (.int .i64 0) 8 Tryd.underlying38 hi hz0 hz1 hz2 rfl _ (s.take k).length (iv (s.take k)) rfl hoa _ (iv (s.drop (k + 1))) rfl HSD.out iv_one (by rw [List.length_take]; omega) (by omega) hba.size ?_; intro v2 w2 hv2 hg2))
    have HB := Lib.hid (hba.grown hg2 hba.size (fun q hq => (hoa.out.lt q hq).1))
    have HV : Hid (OwnI w.heap.size w2 v2 (s.take k ++ s.drop (k + 1))) := by
      show World.ownsRow _ _ _ _ _ _ _
      simpa [iv, List.length_append] using hv2
    clear hv2 hg2
    go_wp2
    go_ret
    exact ⟨_, rfl, HV.out, HB.out⟩
end Go.Proofs.YtljmfpifhbfdcaaDoor
