/-
  EulerNumber of the model and of the program.
-/
import Derived.Test.YtljmfpifhbfdcaaDoorCyJ
namespace Go.Proofs.YtljmfpifhbfdcaaDoor
open Go.RowKit
set_option linter.unusedVariables false
set_option linter.unusedSimpArgs false

/-- The alternating sum of the numbers of simplices. -/
def eulS (s : List Int) : Int := if s.length % 2 = 1 then 1 else -1
def eul (zz : List (List Int)) : Int := (zz.map eulS).sum
theorem eul_next {zz : List (List Int)} {k : Nat} (h : k < zz.length) : eul (zz.take (k + 1)) = eul (zz.take k) + eulS zz[k] := by
  unfold eul; rw [List.take_succ_eq_append_getElem h, List.map_append, List.sum_append]; simp only [List.map_cons, List.map_nil, List.sum_cons, List.sum_nil]; omega
theorem eul_bd : ∀ zz : List (List Int), - (zz.length : Int) ≤ eul zz ∧ eul zz ≤ (zz.length : Int)
  | [] => by simp [eul]
  | z :: zz => by
    have := eul_bd zz
    unfold eul at this ⊢
    rw [List.map_cons, List.sum_cons, List.length_cons]
    have h1 : eulS z = 1 ∨ eulS z = -1 := by unfold eulS; split <;> simp
    push_cast
    omega
def EulIs (zz : List (List Int)) (n c : Int) : Prop := (OkC zz ∧ n = eul zz ∧ c = 0) ∨ (¬ OkC zz ∧ n = 0 ∧ c = 1)
theorem eul_has (zz : List (List Int)) : ∃ n c, EulIs zz n c := by
  by_cases h : OkC zz
  · exact ⟨_, _, .inl ⟨h, rfl, rfl⟩⟩
  · exact ⟨_, _, .inr ⟨h, rfl, rfl⟩⟩
theorem OkC.small {zz : List (List Int)} (h : OkC zz) : zz.length ≤ 48 := h.2
theorem tm_odd {n : Nat} (h : n % 2 = 1) : ((n : Int) - 1).tmod 2 = 0 := by
  rw [Int.tmod_eq_emod_of_nonneg (by omega)]; omega
theorem tm_even {n : Nat} (h1 : 1 ≤ n) (h : ¬ n % 2 = 1) : ((n : Int) - 1).tmod 2 = 1 := by
  rw [Int.tmod_eq_emod_of_nonneg (by omega)]; omega
theorem tm_odd' {n : Nat} (h : n % 2 = 1) : (n : Int).tmod 2 = 1 := by
  rw [Int.tmod_eq_emod_of_nonneg (by omega)]; omega
theorem tm_even' {n : Nat} (h : ¬ n % 2 = 1) : (n : Int).tmod 2 = 0 := by
  rw [Int.tmod_eq_emod_of_nonneg (by omega)]; omega
set_option maxRecDepth 100000 in
set_option maxHeartbeats 3200000 in
theorem l05Euler_is {L : Nat} {v : Value} {zz : List (List Int)} {w : World} (p : PtC w L v) (hq : RowsAt w v zz) (ho : OkC zz) :
    Calls Tryd.prog 83 #[.pointer (some ⟨L, 0, none⟩)] w fun e w' => e = .returned (.int .i64 (eul zz)) ∧ Below w.heap.size w w' := by
  obtain ⟨a, c, rfl, hl, k1⟩ := hq.any
  have K1 := Lib.hid k1
  have P := Lib.hid p
  have h48 := ho.small
  have HO := Lib.hid ho
  clear k1 p hq ho
  go_enter Tryd.func83, Tryd.ntmps83
  go_wp2_with fail
  go_loopw [3, 4] (fun sn si wr => ∃ (k : Nat) (m : Int), k ≤ zz.length ∧ si = .int .i64 (k : Int) ∧ sn = .int .i64 m ∧ Hid (m = eul (zz.take k)) ∧ -48 ≤ m ∧ m ≤ 48 ∧ Hid (Below w.heap.size w wr)) (fun _ i _ => zz.length - (intOf i).toNat)
  case atStart => exact ⟨0, 0, Nat.zero_le _, rfl, rfl, by show _ = _; simp [eul], by omega, by omega, Below.refl _ _⟩
  case round =>
    obtain ⟨k, m, hk, rfl, rfl, HM, hm0, hm1, HB⟩ := hrel
    have q1 := (P.out.on HB.out).2
    by_cases hlt : k < zz.length
    · obtain ⟨b, o, u, rfl, hb, c1', i1'⟩ := K1.out k hlt
      have c1 : wr.cell? ⟨b, o + k, none⟩ = some u := (HB.out.cell (p := ⟨b, o + k, none⟩) hb).trans c1'
      obtain ⟨ua, uc, rfl⟩ := i1'.slice
      have i0 : 0 ≤ (k : Int) := by omega
      have i1 : (k : Int) < (zz.length : Int) := by omega
      have hnx := eul_next hlt
      have hbd := eul_bd (zz.take (k + 1))
      rw [List.length_take, hnx, ← HM.out] at hbd
      have hs4 := (HO.out.sim hlt).le
      clear c1' i1'
      by_cases hp : zz[k].length % 2 = 1
      · have ht := tm_odd' hp
        have he : eulS zz[k] = 1 := by simp [eulS, hp]
        rw [he] at hnx hbd
        have HN : Hid (m + 1 = eul (zz.take (k + 1))) := by show _ = _; rw [hnx, HM.out]
        have b1 : m + 1 ≤ 48 := by omega
        generalize zz[k].length = n at c1 ht hs4
        clear hp he hnx hbd
        go_wp2_with fail
        go_roundw
        case rel => exact ⟨k + 1, m + 1, by omega, by go_num, by go_num, HN, by omega, b1, by first | exact HB.out | exact drew_below HB.out | exact below_drewX HB.out _⟩
        case measure => simp [intOf]; omega
      · have ht := tm_even' hp
        have he : eulS zz[k] = -1 := by simp [eulS, hp]
        rw [he] at hnx hbd
        have HN : Hid (m - 1 = eul (zz.take (k + 1))) := by show _ = _; rw [hnx, HM.out]; omega
        have b1 : -48 ≤ m - 1 := by omega
        generalize zz[k].length = n at c1 ht hs4
        clear hp he hnx hbd
        go_wp2_with fail
        go_roundw
        case rel => exact ⟨k + 1, m - 1, by omega, by go_num, by go_num, HN, b1, by omega, by first | exact HB.out | exact drew_below HB.out | exact below_drewX HB.out _⟩
        case measure => simp [intOf]; omega
    · have he : m = eul zz := by rw [HM.out, List.take_of_length_le (by omega)]
      subst he
      go_wp2
      go_ret
      exact ⟨rfl, HB.out⟩
set_option maxRecDepth 100000 in
theorem specEul_is {u : Value} {zz : List (List Int)} {n c : Int} {w : World} (hu : RowsQ w u zz) (h : EulIs zz n c) :
    Calls Tryd.prog 45 #[.agg #[u]] w fun e w' => e = .returned (.tuple #[.int .i64 n, .int .i64 c]) ∧ Below w.heap.size w w' := by
  have HU := Lib.hid hu
  obtain ⟨a1, c1, rfl, _⟩ := hu
  have al0 : Below w.heap.size w (w.alloc (.cells #[.slice a1 zz.length c1] 27)) := (Below.refl _ w).alloc (Nat.le_refl _) _
  have P0 := Lib.hid (PtC.new w (.slice a1 zz.length c1) 27)
  have U0 := Lib.hid (HU.out.on al0)
  have AL := Lib.hid al0
  clear al0
  rcases h with ⟨ho, rfl, rfl⟩ | ⟨ho, rfl, rfl⟩
  · have hv := l05Ok_is P0.out U0.out (.inl ⟨rfl, ho⟩)
    have HO := Lib.hid ho
    clear ho
    go_enter Tryd.func45, Tryd.ntmps45
    go_wp2_with fail
    refine hv.mono ?_
    rintro e w2 ⟨rfl, hb2⟩
    have HB2 := Lib.hid hb2
    clear hb2 hv
    go_wp2_with fail
    refine (l05Euler_is (P0.out.on HB2.out) (U0.out.on HB2.out).rows HO.out).mono ?_
    rintro e w3 ⟨rfl, hb3⟩
    have HB3 := Lib.hid hb3
    clear hb3
    go_wp2_with fail
    go_ret2
    exact ⟨rfl, (AL.out.trans (HB2.out.mono AL.out.size)).trans (HB3.out.mono (Nat.le_trans AL.out.size HB2.out.size))⟩
  · have hv := l05Ok_is P0.out U0.out (.inr ⟨rfl, ho⟩)
    clear ho
    go_enter Tryd.func45, Tryd.ntmps45
    go_wp2_with fail
    refine hv.mono ?_
    rintro e w2 ⟨rfl, hb2⟩
    have HB2 := Lib.hid hb2
    clear hb2 hv
    go_wp2_with fail
    go_ret2
    exact ⟨rfl, AL.out.trans (HB2.out.mono AL.out.size)⟩
set_option maxRecDepth 100000 in
set_option maxHeartbeats 3200000 in
theorem implEul_is {u : Value} {zz : List (List Int)} {n c : Int} {w : World} (hu : RowsAt w u zz) (h : EulIs zz n c) (hTz : Tz w) :
    Calls Tryd.prog 46 #[.agg #[u]] w fun e w' => e = .returned (.tuple #[.int .i64 n, .int .i64 c]) ∧ Below w.heap.size w w' := by
  have HU := Lib.hid hu
  obtain ⟨a, cp, rfl, hl, k1⟩ := hu.any
  have al0 : Below w.heap.size w (w.alloc (.cells #[.slice a zz.length cp] 27)) := (Below.refl _ w).alloc (Nat.le_refl _) _
  have P0 := Lib.hid (PtC.new w (.slice a zz.length cp) 27)
  have U0 := Lib.hid (HU.out.on al0)
  have AL := Lib.hid al0
  have K1 := Lib.hid k1
  clear al0 k1 hu
  rcases h with ⟨ho, rfl, rfl⟩ | ⟨ho, rfl, rfl⟩
  · have hv := implVal_is U0.out (.inl ⟨rfl, ho⟩) (hTz.on AL.out)
    have h48 := ho.small
    have HO := Lib.hid ho
    clear ho
    go_enter Tryd.func46, Tryd.ntmps46
    go_wp2_with fail
    refine hv.mono ?_
    rintro e w2 ⟨rfl, hb2⟩
    have q2 := (P0.out.on hb2).2
    have HB2 := Lib.hid (AL.out.trans (hb2.mono AL.out.size))
    clear hb2 hv
    go_wp2_with fail
    clear q2
    go_loopw [4, 13] (fun sn si wr => ∃ (k : Nat) (m : Int), k ≤ zz.length ∧ si = .int .i64 (k : Int) ∧ sn = .int .i64 m ∧ Hid (m = eul (zz.take k)) ∧ -48 ≤ m ∧ m ≤ 48 ∧ Hid (Below w.heap.size w wr)) (fun _ i _ => zz.length - (intOf i).toNat)
    case atStart => exact ⟨0, 0, Nat.zero_le _, rfl, rfl, by show _ = _; simp [eul], by omega, by omega, HB2⟩
    case round =>
      clear HB2
      obtain ⟨k, m, hk, rfl, rfl, HM, hm0, hm1, HB⟩ := hrel
      by_cases hlt : k < zz.length
      · obtain ⟨b, o, u, rfl, hb, c1', i1'⟩ := K1.out k hlt
        have c1 : wr.cell? ⟨b, o + k, none⟩ = some u := (HB.out.cell (p := ⟨b, o + k, none⟩) hb).trans c1'
        obtain ⟨ua, uc, rfl⟩ := i1'.slice
        have i0 : 0 ≤ (k : Int) := by omega
        have i1 : (k : Int) < (zz.length : Int) := by omega
        have hnx := eul_next hlt
        have hbd := eul_bd (zz.take (k + 1))
        rw [List.length_take, hnx, ← HM.out] at hbd
        have hs4 := (HO.out.sim hlt).le
        have hs1 := (HO.out.sim hlt).pos
        clear c1' i1'
        by_cases hp : zz[k].length % 2 = 1
        · have ht := tm_odd hp
          have he : eulS zz[k] = 1 := by simp [eulS, hp]
          rw [he] at hnx hbd
          have HN : Hid (m + 1 = eul (zz.take (k + 1))) := by show _ = _; rw [hnx, HM.out]
          have b1 : m + 1 ≤ 48 := by omega
          generalize zz[k].length = n at c1 ht hs4 hs1
          clear hp he hnx hbd
          go_wp2_with (go_at_call 68; refine (dimOf_any _ _ _ _ (by omega)).mono ?_; rintro e w' ⟨rfl, rfl⟩)
          go_roundw
          case rel => exact ⟨k + 1, m + 1, by omega, by go_num, by go_num, HN, by omega, b1, by first | exact HB.out | exact drew_below HB.out | exact below_drewX HB.out _⟩
          case measure => simp [intOf]; omega
        · have ht := tm_even hs1 hp
          have he : eulS zz[k] = -1 := by simp [eulS, hp]
          rw [he] at hnx hbd
          have HN : Hid (m - 1 = eul (zz.take (k + 1))) := by show _ = _; rw [hnx, HM.out]; omega
          have b1 : -48 ≤ m - 1 := by omega
          generalize zz[k].length = n at c1 ht hs4 hs1
          clear hp he hnx hbd
          go_wp2_with (go_at_call 68; refine (dimOf_any _ _ _ _ (by omega)).mono ?_; rintro e w' ⟨rfl, rfl⟩)
          go_roundw
          case rel => exact ⟨k + 1, m - 1, by omega, by go_num, by go_num, HN, b1, by omega, by first | exact HB.out | exact drew_below HB.out | exact below_drewX HB.out _⟩
          case measure => simp [intOf]; omega
      · have he : m = eul zz := by rw [HM.out, List.take_of_length_le (by omega)]
        subst he
        go_wp2
        go_ret2
        exact ⟨rfl, HB.out⟩
  · have hv := implVal_is U0.out (.inr ⟨rfl, ho⟩) (hTz.on AL.out)
    clear ho
    go_enter Tryd.func46, Tryd.ntmps46
    go_wp2_with fail
    refine hv.mono ?_
    rintro e w2 ⟨rfl, hb2⟩
    have HB2 := Lib.hid hb2
    clear hb2 hv
    go_wp2_with fail
    go_ret2
    exact ⟨rfl, AL.out.trans (HB2.out.mono AL.out.size)⟩
end Go.Proofs.YtljmfpifhbfdcaaDoor
