/-
  IdealOf of the model and of the program.
-/
import Derived.Test.YtochcpaahibijaaDoorPsR
namespace Go.Proofs.YtochcpaahibijaaDoor
open Go.RowKit
set_option linter.unusedVariables false
set_option linter.unusedSimpArgs false

def AllEl (n : Int) (l : List Int) : Prop := ∀ x ∈ l, 0 ≤ x ∧ x < n
def IdlP (es : List (Nat × Nat)) (l : List Int) (a : Nat) : Prop := ∃ x ∈ l, Rch es a x.toNat
/-- What IdealOf answers. -/
def IdlIs (n : Int) (zz : List (List Int)) (l : List Int) (Z : List Int) (k : Int) : Prop :=
  (¬ OkP n zz ∧ Z = [] ∧ k = 1) ∨ (OkP n zz ∧ ¬ AllEl n l ∧ Z = [] ∧ k = 2) ∨ (∃ N : Nat, n = (N : Int) ∧ OkP n zz ∧ AllEl n l ∧ Z = selN (IdlP (esP zz) l) N ∧ k = 0)
theorem idl_has (n : Int) (zz : List (List Int)) (l : List Int) : ∃ Z k, IdlIs n zz l Z k := by
  by_cases h : OkP n zz
  · by_cases h2 : AllEl n l
    · obtain ⟨N, e, _⟩ := h.nat
      exact ⟨_, _, .inr (.inr ⟨N, e, h, h2, rfl, rfl⟩)⟩
    · exact ⟨_, _, .inr (.inl ⟨h, h2, rfl, rfl⟩)⟩
  · exact ⟨_, _, .inl ⟨h, rfl, rfl⟩⟩
theorem IdlIs.fit {n : Int} {zz : List (List Int)} {l Z : List Int} {k : Int} (h : IdlIs n zz l Z k) : Z.length ≤ 1048576 := by
  rcases h with ⟨_, rfl, _⟩ | ⟨_, _, rfl, _⟩ | ⟨N, e, ho, _, rfl, _⟩
  · simp
  · simp
  · obtain ⟨M, e2, h1, _⟩ := ho.nat
    have := selN_len (IdlP (esP zz) l) N
    omega
set_option maxRecDepth 100000 in
set_option maxHeartbeats 3200000 in
theorem specIdl_no {n : Int} {v u : Value} {zz : List (List Int)} {w : World} (hv : RowsAt w v zz) (h : ¬ OkP n zz) (hu : ∃ a m c, u = .slice a m c) :
    Calls Tryd.prog 39 #[.agg #[.int .i64 n, v], u] w fun e w' => RetNK [] 1 w e w' := by
  obtain ⟨va, vc, rfl, hl, -⟩ := hv.anyP
  obtain ⟨ua, um, uc, rfl⟩ := hu
  have HV := Lib.hid hv
  have P0 : Hid (PtP (w.alloc (.cells #[.int .i64 n, .slice va zz.length vc] 27)) w.heap.size n (.slice va zz.length vc)) := PtP.new _ _ _ _
  have B0 : Hid (Below w.heap.size w (w.alloc (.cells #[.int .i64 n, .slice va zz.length vc] 27))) := al1 (Below.refl _ _) _
  have HOK : Hid (OkPIs n zz false) := .inr ⟨rfl, h⟩
  clear hv h
  go_enter Tryd.func39, Tryd.ntmps39
  go_wp2_with (go_at_call 52; refine (l06Ok_is P0.out (HV.out.on B0.out) HOK.out).mono ?_; rintro e w1 ⟨rfl, hb1⟩; have P1 := Lib.hid (P0.out.on hb1); have HB1 := Lib.hid (B0.out.trans (hb1.mono B0.out.size)); clear hb1)
  go_ret2
  exact ⟨_, rfl, World.ownsRow_nil _ _ _ _, HB1.out⟩
set_option maxRecDepth 100000 in
set_option maxHeartbeats 6400000 in
theorem specIdl_ok {N : Nat} {v u : Value} {zz : List (List Int)} {l Z : List Int} {k : Int} {w : World} (hv : RowsAt w v zz) (hu : IntsAt w u l) (ho : OkP (N : Int) zz) (h : (¬ AllEl (N : Int) l ∧ Z = [] ∧ k = 2) ∨ (AllEl (N : Int) l ∧ Z = selN (IdlP (esP zz) l) N ∧ k = 0)) :
    Calls Tryd.prog 39 #[.agg #[.int .i64 (N : Int), v], u] w fun e w' => RetNK Z k w e w' := by
  obtain ⟨i0, hi, iz0, iz1, iz2⟩ := info_parts info2
  obtain ⟨va, vc, rfl, hl, -⟩ := hv.anyP
  have HV := Lib.hid hv
  have HU := Lib.hid hu
  have hll : l.length ≤ 1048576 := by obtain ⟨_, _, _, h, _⟩ := hu; exact h
  obtain ⟨ua, uc, rfl⟩ := hu.slice
  have HH := Lib.hid h
  have P0 : Hid (PtP (w.alloc (.cells #[.int .i64 (N : Int), .slice va zz.length vc] 27)) w.heap.size (N : Int) (.slice va zz.length vc)) := PtP.new _ _ _ _
  have B0 : Hid (Below w.heap.size w (w.alloc (.cells #[.int .i64 (N : Int), .slice va zz.length vc] 27))) := al1 (Below.refl _ _) _
  obtain ⟨hN, HPI⟩ : N ≤ 12 ∧ Hid (PairsIn (N : Int) zz) := by
    obtain ⟨M, e, h1, h2⟩ := ho.nat
    obtain rfl : N = M := by omega
    exact ⟨h1, h2⟩
  have HOK : Hid (OkPIs (N : Int) zz true) := .inl ⟨rfl, ho⟩
  clear hv hu ho h
  go_enter Tryd.func39, Tryd.ntmps39
  go_wp2_with (go_at_call 52; refine (l06Ok_is P0.out (HV.out.on B0.out) HOK.out).mono ?_; rintro e w1 ⟨rfl, hb1⟩; have P1 := Lib.hid (P0.out.on hb1); have HB1 := Lib.hid (B0.out.trans (hb1.mono B0.out.size)); clear hb1)
  have HU1 := Lib.hid (HU.out.on HB1.out)
  have HV1 := Lib.hid (HV.out.on HB1.out)
  go_loopw [6] (fun si wr => ∃ (i : Nat), i ≤ l.length ∧ si = .int .i64 (i : Int) ∧ Hid (∀ j (h : j < l.length), j < i → 0 ≤ l[j] ∧ l[j] < (N : Int)) ∧ w1 = wr) (fun i _ => l.length - (intOf i).toNat)
  case atStart => exact ⟨0, Nat.zero_le _, rfl, fun j _ hj => absurd hj (Nat.not_lt_zero j), rfl⟩
  case round =>
    obtain ⟨i, hil, rfl, HA, rfl⟩ := hrel
    have i0' : 0 ≤ (i : Int) := by omega
    by_cases hli : i < l.length
    · have i1 : (i : Int) < (l.length : Int) := by omega
      obtain ⟨b, o, cc, e, hb, ks⟩ := HU1.out.atP (by omega)
      injection e with e1 e2 e3
      subst e1 e3
      have s1 := ks i hli
      have HLk := Lib.hid (List.getElem_mem hli)
      obtain ⟨x, hx⟩ : ∃ x, l[i] = x := ⟨_, rfl⟩
      rw [hx] at s1 HLk
      have HX := Lib.hid hx
      clear hx ks e2
      by_cases hin : 0 ≤ x ∧ x < (N : Int)
      · have hb1 : inB x 0 ((N : Int) - 1) = true := inB_yes hin.1 (by omega)
        have HA' : Hid (∀ j (h : j < l.length), j < i + 1 → 0 ≤ l[j] ∧ l[j] < (N : Int)) := fun j hj hjk => by
          by_cases e : j = i
          · subst e; rw [HX.out]; exact hin
          · exact HA.out j hj (by omega)
        have HI := Lib.hid hb1
        clear hin hb1
        go_wp2_with (go_at_call 65; refine (l06El_is P1.out (by omega) HI.out).mono ?_; rintro e w3 ⟨rfl, rfl⟩)
        go_roundw
        case rel => exact ⟨i + 1, by omega, by go_num, HA', by first | rfl | trivial⟩
        case measure => simp [intOf]; omega
      · have hb1 : inB x 0 ((N : Int) - 1) = false := inB_no (by omega)
        obtain ⟨rfl, rfl⟩ : Z = [] ∧ k = 2 := by
          rcases HH.out with ⟨_, h⟩ | ⟨h, _⟩
          · exact h
          · exact absurd (h x HLk.out) hin
        have HI := Lib.hid hb1
        clear hin hb1
        go_wp2_with (go_at_call 65; refine (l06El_is P1.out (by omega) HI.out).mono ?_; rintro e w3 ⟨rfl, rfl⟩)
        go_ret2
        exact ⟨_, rfl, World.ownsRow_nil _ _ _ _, HB1.out⟩
    · have hall : AllEl (N : Int) l := fun x hx => by
        obtain ⟨j, hj, rfl⟩ := List.getElem_of_mem hx
        exact HA.out j hj (by omega)
      have HAL := Lib.hid hall
      obtain ⟨rfl, rfl⟩ : Z = selN (IdlP (esP zz) l) N ∧ k = 0 := by
        rcases HH.out with ⟨h, _⟩ | ⟨_, h⟩
        · exact absurd hall h
        · exact h
      obtain ⟨kt, hkt⟩ : ∃ kt : Int, kt = (i : Int) := ⟨_, rfl⟩
      have hk10 : ¬ kt < (l.length : Int) := by omega
      rw [← hkt]
      clear HA i0' hli hkt hil i hall HH
      go_wp2_with (go_at_call 66; refine Hid.out ?_)
      refine Lib.hid ?_
      refine (l06Ord_any P1.out HV1.out hN HPI.out).mono ?_
      rintro e w5 ⟨vt, rs, rfl, ht, hb5⟩
      obtain ⟨gt, hgt⟩ := ht.toR
      have HT5 := Lib.hid hgt
      obtain ⟨ta, tc, rfl, hta⟩ := hgt.form
      have P5 := Lib.hid (P1.out.on hb5)
      have HU5 := Lib.hid (HU1.out.on hb5)
      have HB5 := Lib.hid (HB1.out.trans (hb5.mono HB1.out.size))
      clear ht hgt hb5
      have AL : Hid (Below w5.heap.size w5 (w5.alloc (.cells #[] 2))) := al1 (Below.refl _ _) _
      have O0 : Hid (OwnI w5.heap.size (w5.alloc (.cells #[] 2)) (.slice (some ⟨w5.heap.size, 0, none⟩) 0 0) (selN (IdlP (esP zz) l) 0)) := by
        show OwnI _ _ _ _
        rw [selN_zero]; exact ownI_nilP w5 _ (Nat.le_refl _)
      go_wp2_with fail
      go_loopw [8, 9] (fun so si wr => ∃ (a : Nat), a ≤ N ∧ si = .int .i64 (a : Int) ∧ Hid (OwnI w5.heap.size wr so (selN (IdlP (esP zz) l) a)) ∧ Hid (Below w5.heap.size w5 wr)) (fun _ i _ => N - (intOf i).toNat)
      case atStart => exact ⟨0, Nat.zero_le _, rfl, O0, AL⟩
      case round =>
        clear O0 AL
        obtain ⟨a, ha, rfl, HO, HB⟩ := hrel
        have a0 : 0 ≤ (a : Int) := by omega
        obtain ⟨lp, p0, p1⟩ := P5.out.on HB.out
        by_cases hlt : a < N
        · have a1 : (a : Int) < (N : Int) := by omega
          obtain rfl := hta (by omega)
          obtain ⟨wi, rfl⟩ : ∃ wi, wi = wr := ⟨_, rfl⟩
          have HTW := Lib.hid (HT5.out.on HB.out)
          obtain ⟨-, cn⟩ := HTW.out.row a hlt
          go_wp2_with fail
          go_loopw [10, 11] (fun sb si wr => ∃ (i : Nat) (q : Bool), i ≤ l.length ∧ si = .int .i64 (i : Int) ∧ sb = .bool q ∧ Hid (q = true ↔ ∃ j, ∃ h : j < l.length, j < i ∧ Rch (esP zz) a (l[j]).toNat) ∧ Hid (Below wi.heap.size wi wr)) (fun _ i _ => l.length - (intOf i).toNat)
          case atStart => exact ⟨0, false, Nat.zero_le _, rfl, rfl, ⟨fun h => by simp at h, fun ⟨j, _, h, _⟩ => by omega⟩, Below.refl _ _⟩
          case round =>
            obtain ⟨i, q, hil, rfl, rfl, HQ, HW⟩ := hrel
            have i0' : 0 ≤ (i : Int) := by omega
            by_cases hli : i < l.length
            · have i1 : (i : Int) < (l.length : Int) := by omega
              obtain ⟨b, o, cc, e, hb, ks⟩ := (HU5.out.on (HB.out.trans (HW.out.mono HB.out.size))).atP (by omega)
              injection e with e1 e2 e3
              subst e1 e3
              have s1 := ks i hli
              have hin := HAL.out _ (List.getElem_mem hli)
              have HQ' : Hid (∀ r : Bool, (r = true ↔ (q = true ∨ Rch (esP zz) a (l[i]).toNat)) → (r = true ↔ ∃ j, ∃ h : j < l.length, j < i + 1 ∧ Rch (esP zz) a (l[j]).toNat)) := fun r hr => by
                rw [hr, HQ.out]
                constructor
                · rintro (⟨j, h, h1, h2⟩ | h)
                  · exact ⟨j, h, by omega, h2⟩
                  · exact ⟨i, hli, by omega, h⟩
                · rintro ⟨j, h, h1, h2⟩
                  by_cases e : j = i
                  · subst e; exact .inr h2
                  · exact .inl ⟨j, h, by omega, h2⟩
              obtain ⟨x, hx⟩ : ∃ x, l[i] = x := ⟨_, rfl⟩
              rw [hx] at s1 hin HQ'
              obtain ⟨nx, rfl⟩ : ∃ m : Nat, x = (m : Int) := ⟨_, (Int.toNat_of_nonneg hin.1).symm⟩
              obtain ⟨x0, x1⟩ := hin
              have hxN : nx < N := by omega
              have HTX := Lib.hid (HTW.out.on HW.out)
              obtain ⟨-, cn2⟩ := HTX.out.row a hlt
              have cx := HTX.out.cell a nx hlt hxN
              have hr := table_rch HPI.out a nx hlt
              obtain ⟨p, hp⟩ : ∃ p, wT (esP zz) N a nx = p := ⟨_, rfl⟩
              rw [hp] at cx hr
              rw [Int.toNat_natCast] at HQ'
              clear HQ hx ks e2 hp cn
              cases q with
              | true =>
                have HX := Lib.hid (HQ'.out true (by simp))
                clear HQ' hr
                go_wp2_with fail
                go_quiet (fail)
                have hnq := below_drewP HW.out nq
                have HWQ := Lib.hid hnq
                clear hnq
                go_wp2_with fail
                go_roundw
                case rel => exact ⟨i + 1, true, by omega, by go_num, rfl, by show _ ↔ _; simpa using HX.out, HWQ⟩
                case measure => simp [intOf]; omega
              | false =>
                have HX := Lib.hid (HQ'.out p (by rw [hr]; simp))
                clear HQ' hr
                go_wp2_with fail
                go_quiet (fail)
                have hnq := below_drewP HW.out nq
                have HWQ := Lib.hid hnq
                clear hnq
                go_wp2_with fail
                go_roundw
                case rel => exact ⟨i + 1, p, by omega, by go_num, rfl, HX, HWQ⟩
                case measure => simp [intOf]; omega
            · have HC : Hid (q = true ↔ IdlP (esP zz) l a) := by
                refine HQ.out.trans ⟨fun ⟨j, h, _, h2⟩ => ⟨_, List.getElem_mem h, h2⟩, fun ⟨x, hx, h2⟩ => ?_⟩
                obtain ⟨j, hj, rfl⟩ := List.getElem_of_mem hx
                exact ⟨j, hj, by omega, h2⟩
              have HO2 := Lib.hid (HO.out.on HW.out)
              have HB2 := Lib.hid (HB.out.trans (HW.out.mono HB.out.size))
              obtain ⟨kt, hkt⟩ : ∃ kt : Int, kt = (i : Int) := ⟨_, rfl⟩
              have hk10 : ¬ kt < (l.length : Int) := by omega
              rw [← hkt]
              clear HQ i0' hli hkt hil i HO HB HW
              cases q with
              | false =>
                have HX : Hid (OwnI w5.heap.size wr u8 (selN (IdlP (esP zz) l) (a + 1))) := by
                  show OwnI _ _ _ _
                  rw [selN_no (fun h => by have := HC.out.2 h; simp at this)]; exact HO2.out
                go_wp2_with fail
                go_roundw
                case rel => exact ⟨a + 1, by omega, by go_num, HX, HB2⟩
                case measure => simp [intOf]; omega
              | true =>
                have HCY := Lib.hid (HC.out.1 rfl)
                obtain ⟨xa, xc, rfl⟩ := HO2.out.slice
                have hzl := selN_len (IdlP (esP zz) l) a
                have hown := HO2.out
                have hs := HB2.out.size
                clear HC
                go_wp2_with (at_builtin; refine wpList_append_own _ rfl _ _ 40 rfl w5.heap.size 2 i0 (.int .i64 0) 1 8 Tryd.underlying40 hi iz0 iz1 iz2 rfl (by decide) _ _ _ rfl (hown.out.alloc _) ⟨wr.heap.size, 0, none⟩ 1 1 [.int .i64 (a : Int)] rfl rfl ?ah1 ?ah2 ?ah3 ?ah4 ?ah5 ?_)
                try (case ah1 => exact row_one _ _ _)
                case ah2 => first | rfl | (intro u hu; simp at hu; subst hu; rfl)
                case ah3 => unfold maxLen; omega
                case ah4 => omega
                case ah5 => first | omega | (simp; omega)
                intro v2 w10 hown3 hgrow _
                have hp3 := pushU hown3
                have hk3 := below_pushU HB2.out (Nat.le_refl _) hs hown hgrow
                have HX : Hid (OwnI w5.heap.size w10 v2 (selN (IdlP (esP zz) l) (a + 1))) := by
                  show OwnI _ _ _ _
                  rw [selN_yes HCY.out]; exact hp3
                have HB3 := Lib.hid hk3
                clear hp3 hk3 hown3 hgrow hown HO2
                go_wp2_with fail
                go_roundw
                case rel => exact ⟨a + 1, by omega, by go_num, HX, HB3⟩
                case measure => simp [intOf]; omega
        · have haN : a = N := by omega
          have HX : Hid (OwnI w5.heap.size wr u8 (selN (IdlP (esP zz) l) N)) := by
            have h := HO.out
            rw [haN] at h
            exact h
          have HB9 := Lib.hid (HB5.out.trans (HB.out.mono HB5.out.size))
          have hs9 := HB5.out.size
          obtain ⟨kt, hkt⟩ : ∃ kt : Int, kt = (a : Int) := ⟨_, rfl⟩
          have hk10 : ¬ kt < (N : Int) := by omega
          rw [← hkt]
          clear HO a0 hlt hkt ha haN a
          go_wp2_with fail
          go_ret2
          exact ⟨_, rfl, HX.out.mono hs9, HB9.out⟩
theorem specIdl_is {n : Int} {v u : Value} {zz : List (List Int)} {l Z : List Int} {k : Int} {w : World} (hv : RowsAt w v zz) (hu : IntsAt w u l) (h : IdlIs n zz l Z k) :
    Calls Tryd.prog 39 #[.agg #[.int .i64 n, v], u] w fun e w' => RetNK Z k w e w' := by
  by_cases ho : OkP n zz
  · obtain ⟨N, rfl, _⟩ := ho.nat
    refine specIdl_ok hv hu ho ?_
    rcases h with ⟨h, _⟩ | ⟨_, h⟩ | ⟨M, e, _, h, rfl, h2⟩
    · exact absurd ho h
    · exact .inl h
    · obtain rfl : N = M := by omega
      exact .inr ⟨h, rfl, h2⟩
  · obtain ⟨rfl, rfl⟩ : Z = [] ∧ k = 1 := by
      rcases h with ⟨_, h⟩ | ⟨h, _⟩ | ⟨_, _, h, _⟩
      · exact h
      · exact absurd h ho
      · exact absurd h ho
    exact specIdl_no hv ho ⟨_, _, _, hu.slice.choose_spec.choose_spec⟩
theorem memb_sel {m N : Nat} {P : Nat → Prop} (hN : N ≤ 16) (h : ∀ i, m.testBit i = true ↔ i < N ∧ P i) : membL m = selN P N := by
  have e1 : ∀ k, k ≤ 16 → N ≤ k → selN (fun i => m.testBit i = true) k = selN P N := fun k => by
    induction k with
    | zero =>
      intro _ h0
      obtain rfl : N = 0 := by omega
      rw [selN_zero, selN_zero]
    | succ k ih =>
      intro hk hNk
      by_cases e : N = k + 1
      · rw [e]
        refine selN_congr fun a ha => (h a).trans ⟨And.right, fun hp => ⟨by omega, hp⟩⟩
      · rw [selN_no (fun hb => by have := ((h k).1 hb).1; omega)]
        exact ih (by omega) (by omega)
  rw [← e1 16 (Nat.le_refl _) hN]
  unfold membL selN
  congr 1
  exact List.filter_congr fun a _ => by
    cases h2 : m.testBit a with
    | true => exact (@decide_eq_true _ (Classical.propDecidable _) h2).symm
    | false => exact (@decide_eq_false _ (Classical.propDecidable _) (fun h3 => by have h4 : m.testBit a = true := h3; rw [h2] at h4; simp at h4)).symm
set_option maxRecDepth 100000 in
set_option maxHeartbeats 3200000 in
theorem implIdl_no {n : Int} {v u : Value} {zz : List (List Int)} {w : World} (hv : RowsAt w v zz) (h : ¬ OkP n zz) (hu : ∃ a m c, u = .slice a m c) (hTz : Tz w) :
    Calls Tryd.prog 41 #[.agg #[.int .i64 n, v], u] w fun e w' => RetNK [] 1 w e w' := by
  have HOK := Lib.hid h
  obtain ⟨ua, um, uc, rfl⟩ := hu
  have HV := Lib.hid hv
  have TZ := Lib.hid hTz
  obtain ⟨va, vc, rfl⟩ := hv.slice
  have B0 : Hid (Below w.heap.size w (w.alloc (.cells #[.int .i64 n, .slice va zz.length vc] 27))) := al1 (Below.refl _ _) _
  have P0 : Hid (PtP (w.alloc (.cells #[.int .i64 n, .slice va zz.length vc] 27)) w.heap.size n (.slice va zz.length vc)) := PtP.new _ _ _ _
  clear hv hTz h
  go_enter Tryd.func41, Tryd.ntmps41
  go_wp2_with (go_at_call 67; refine Hid.out ?_)
  refine Lib.hid ?_
  refine (orderOf_no (HV.out.on B0.out) HOK.out (TZ.out.on B0.out)).mono ?_
  rintro e w1 ⟨rfl, hb1⟩
  obtain ⟨hov1, hov2⟩ := ord_var w1 0 (fun _ => 0) (fun _ => 0)
  have HO1 := Lib.hid hov1
  have HB := Lib.hid (B0.out.trans ((hb1.trans (hov2.mono hb1.size)).mono B0.out.size))
  have P1 := Lib.hid (P0.out.on (hb1.trans (hov2.mono hb1.size)))
  have HO3 := Lib.hid (ord_there2 w1 0 (fun _ => 0) (fun _ => 0))
  have HS1 := Lib.hid (ord_size 0 (fun _ => 0) (fun _ => 0))
  have HS2 := Lib.hid (ord_one 0 (fun _ => 0) (fun _ => 0))
  have HS3 := Lib.hid (ord_size2 0 (fun _ => 0) (fun _ => 0))
  clear hb1 hov1 hov2
  go_wp2_with (refine wpList_store_mid rfl 64 (.tmp 6) (.tmp 14) rfl w1.heap.size 0 (ordC 0 (fun _ => 0) (fun _ => 0)).toArray rfl rfl ?_ HS1.out HS2.out ?_; exact HO3.out; refine Hid.out ?_)
  refine Lib.hid ?_
  try rw [show (ordC 0 (fun _ => 0) (fun _ => 0)).toArray.toList = ordC 0 (fun _ => 0) (fun _ => 0) from rfl]
  generalize ((w1.alloc (.cells #[.int .i64 0, .int .u16 0, .int .u16 0, .int .u16 0, .int .u16 0, .int .u16 0, .int .u16 0, .int .u16 0, .int .u16 0, .int .u16 0, .int .u16 0, .int .u16 0, .int .u16 0, .int .u16 0, .int .u16 0, .int .u16 0, .int .u16 0, .int .u16 0, .int .u16 0, .int .u16 0, .int .u16 0, .int .u16 0, .int .u16 0, .int .u16 0, .int .u16 0] 64)).setCells w1.heap.size 0 (ordC 0 (fun _ => 0) (fun _ => 0))) = W at HO1 HB P1 ⊢
  obtain ⟨L, hL⟩ : ∃ L, w1.heap.size = L := ⟨_, rfl⟩
  rw [hL] at HO1 ⊢
  clear HO3 HS1 HS2 hL
  go_wp2_with fail
  go_ret2
  exact ⟨_, rfl, World.ownsRow_nil _ _ _ _, HB.out⟩
set_option maxRecDepth 100000 in
set_option maxHeartbeats 3200000 in
theorem implIdl_ok {N : Nat} {v u : Value} {zz : List (List Int)} {l Z : List Int} {k : Int} {w : World} (hv : RowsAt w v zz) (hu : IntsAt w u l) (h : OkP (N : Int) zz) (hZ : (¬ AllEl (N : Int) l ∧ Z = [] ∧ k = 2) ∨ (AllEl (N : Int) l ∧ Z = selN (IdlP (esP zz) l) N ∧ k = 0)) (hTz : Tz w) :
    Calls Tryd.prog 41 #[.agg #[.int .i64 (N : Int), v], u] w fun e w' => RetNK Z k w e w' := by
  have HOK := Lib.hid h
  have HZ := Lib.hid hZ
  have HU := Lib.hid hu
  have hll : l.length ≤ 1048576 := by obtain ⟨_, _, _, h, _⟩ := hu; exact h
  obtain ⟨ua, uc, rfl⟩ := hu.slice
  obtain ⟨hN, HPI⟩ : N ≤ 12 ∧ Hid (PairsIn (N : Int) zz) := by
    obtain ⟨M, e, h1, h2⟩ := h.nat
    obtain rfl : N = M := by omega
    exact ⟨h1, h2⟩
  have HV := Lib.hid hv
  have TZ := Lib.hid hTz
  obtain ⟨va, vc, rfl⟩ := hv.slice
  have B0 : Hid (Below w.heap.size w (w.alloc (.cells #[.int .i64 (N : Int), .slice va zz.length vc] 27))) := al1 (Below.refl _ _) _
  have P0 : Hid (PtP (w.alloc (.cells #[.int .i64 (N : Int), .slice va zz.length vc] 27)) w.heap.size (N : Int) (.slice va zz.length vc)) := PtP.new _ _ _ _
  clear hv hTz h hu hZ
  go_enter Tryd.func41, Tryd.ntmps41
  go_wp2_with (go_at_call 67; refine Hid.out ?_)
  refine Lib.hid ?_
  refine (orderOf_ok (HV.out.on B0.out) HOK.out (TZ.out.on B0.out)).mono ?_
  rintro e w1 ⟨lo, up, rfl, hod, hb1⟩
  have HOD := Lib.hid hod
  clear hod
  obtain ⟨hov1, hov2⟩ := ord_var w1 N lo up
  have HO1 := Lib.hid hov1
  have HB := Lib.hid (B0.out.trans ((hb1.trans (hov2.mono hb1.size)).mono B0.out.size))
  have P1 := Lib.hid (P0.out.on (hb1.trans (hov2.mono hb1.size)))
  have HO3 := Lib.hid (ord_there2 w1 N lo up)
  have HS1 := Lib.hid (ord_size N lo up)
  have HS2 := Lib.hid (ord_one N lo up)
  have HS3 := Lib.hid (ord_size2 N lo up)
  clear hb1 hov1 hov2
  go_wp2_with (refine wpList_store_mid rfl 64 (.tmp 6) (.tmp 14) rfl w1.heap.size 0 (ordC N lo up).toArray rfl rfl ?_ HS1.out HS2.out ?_; exact HO3.out; refine Hid.out ?_)
  refine Lib.hid ?_
  try rw [show (ordC N lo up).toArray.toList = ordC N lo up from rfl]
  generalize ((w1.alloc (.cells #[.int .i64 0, .int .u16 0, .int .u16 0, .int .u16 0, .int .u16 0, .int .u16 0, .int .u16 0, .int .u16 0, .int .u16 0, .int .u16 0, .int .u16 0, .int .u16 0, .int .u16 0, .int .u16 0, .int .u16 0, .int .u16 0, .int .u16 0, .int .u16 0, .int .u16 0, .int .u16 0, .int .u16 0, .int .u16 0, .int .u16 0, .int .u16 0, .int .u16 0] 64)).setCells w1.heap.size 0 (ordC N lo up)) = W at HO1 HB P1 ⊢
  obtain ⟨L, hL⟩ : ∃ L, w1.heap.size = L := ⟨_, rfl⟩
  rw [hL] at HO1 ⊢
  clear HO3 HS1 HS2 hL
  obtain ⟨lO, o0, -⟩ := HO1.out
  have HUW := Lib.hid (HU.out.on HB.out)
  by_cases hall : AllEl (N : Int) l
  · obtain ⟨rfl, rfl⟩ : Z = selN (IdlP (esP zz) l) N ∧ k = 0 := by
      rcases HZ.out with ⟨h, _⟩ | ⟨_, h⟩
      · exact absurd hall h
      · exact h
    have HAL := Lib.hid hall
    clear hall HZ
    go_wp2_with (first | (go_at_call 60; refine (areEl_is (T := true) hN HUW.out ⟨fun _ => rfl, fun _ => HAL.out⟩).mono ?_; rintro e w3 ⟨rfl, rfl⟩) | (go_at_call 70; refine (setOf_none _).mono ?_; rintro e w5 ⟨rfl, rfl⟩))
    clear o0
    go_loopw [8, 27] (fun sm si wr => ∃ (i m : Nat), i ≤ l.length ∧ si = .int .i64 (i : Int) ∧ sm = .int .u16 (m : Int) ∧ m < 4096 ∧ Hid (∀ a, m.testBit a = true ↔ a < N ∧ ∃ j, ∃ h : j < l.length, j < i ∧ Rch (esP zz) a (l[j]).toNat) ∧ W = wr) (fun _ i _ => l.length - (intOf i).toNat)
    case atStart => exact ⟨0, 0, Nat.zero_le _, rfl, rfl, by omega, fun a => ⟨fun h => by simp at h, fun ⟨_, j, _, h, _⟩ => by omega⟩, rfl⟩
    case round =>
      obtain ⟨i, m, hil, rfl, rfl, hm, HQ, rfl⟩ := hrel
      have i0' : 0 ≤ (i : Int) := by omega
      by_cases hli : i < l.length
      · have i1 : (i : Int) < (l.length : Int) := by omega
        obtain ⟨b, o, cc, e, hb, ks⟩ := HUW.out.atP (by omega)
        injection e with e1 e2 e3
        subst e1 e3
        have s1 := ks i hli
        have hin := HAL.out _ (List.getElem_mem hli)
        have hpt := HPI.out.lt
        have HQ' : Hid (∀ y r : Nat, (l[i]).toNat = y → y < N → MaskIs (fun a => Rch (esP zz) a y) r → ∀ a, (m ||| r).testBit a = true ↔ a < N ∧ ∃ j, ∃ h : j < l.length, j < i + 1 ∧ Rch (esP zz) a (l[j]).toNat) := fun y r hy hyN hr a => by
          rw [Nat.testBit_or, Bool.or_eq_true, HQ.out, hr a]
          constructor
          · rintro (⟨h0, j, h, h1, h2⟩ | h)
            · exact ⟨h0, j, h, by omega, h2⟩
            · exact ⟨h.gt hpt hyN, i, hli, by omega, by rw [hy]; exact h⟩
          · rintro ⟨h0, j, h, h1, h2⟩
            by_cases e : j = i
            · subst e; rw [hy] at h2; exact .inr h2
            · exact .inl ⟨h0, j, h, by omega, h2⟩
        obtain ⟨x, hx⟩ : ∃ x, l[i] = x := ⟨_, rfl⟩
        rw [hx] at s1 hin HQ'
        obtain ⟨nx, rfl⟩ : ∃ m : Nat, x = (m : Int) := ⟨_, (Int.toNat_of_nonneg hin.1).symm⟩
        obtain ⟨x0, x1⟩ := hin
        have hxN : nx < N := by omega
        have x2 : (nx : Int) < 12 := by omega
        have g1 := HO1.out.2.2.1 nx (by omega)
        have hl4 := HOD.out.ltL hpt hN hxN
        have HX := Lib.hid (HQ'.out nx (lo nx) (by simp) hxN (HOD.out.lo nx hxN))
        have hor := or_u16n (show m < 65536 by omega) (show lo nx < 65536 by omega)
        have hm2 : m ||| lo nx < 4096 := Nat.or_lt_two_pow (n := 12) hm hl4
        obtain ⟨ln, hln⟩ : ∃ q, lo nx = q := ⟨_, rfl⟩
        rw [hln] at g1 HX hor hm2
        clear HQ HQ' hx ks e2 hpt hl4 hln
        go_wp2_with fail
        go_roundw
        case rel => exact ⟨i + 1, m ||| ln, by omega, by go_num, by first | rfl | (rw [hor]), hm2, HX, by first | rfl | trivial⟩
        case measure => simp [intOf]; omega
      · have HE : Hid (membL m = selN (IdlP (esP zz) l) N) := memb_sel (by omega) fun a => (HQ.out a).trans (and_congr Iff.rfl ⟨fun ⟨j, h, _, h2⟩ => ⟨_, List.getElem_mem h, h2⟩, fun ⟨x, hx, h2⟩ => by
          obtain ⟨j, hj, rfl⟩ := List.getElem_of_mem hx
          exact ⟨j, hj, by omega, h2⟩⟩)
        obtain ⟨kt, hkt⟩ : ∃ kt : Int, kt = (i : Int) := ⟨_, rfl⟩
        have hk10 : ¬ kt < (l.length : Int) := by omega
        rw [← hkt]
        clear HQ i0' hli hkt hil i
        go_wp2_with fail
        refine (members16_any hm (TZ.out.on HB.out)).mono ?_
        rintro e w7 ⟨v7, rfl, ho7, hb7⟩
        rw [HE.out] at ho7
        have HO7 := Lib.hid ho7
        have hsz := HB.out.size
        have HB7 := Lib.hid (HB.out.trans (hb7.mono HB.out.size))
        clear ho7 hb7
        go_wp2_with fail
        go_ret2
        exact ⟨_, rfl, HO7.out.mono hsz, HB7.out⟩
  · obtain ⟨rfl, rfl⟩ : Z = [] ∧ k = 2 := by
      rcases HZ.out with ⟨_, h⟩ | ⟨h, _⟩
      · exact h
      · exact absurd h hall
    have HAL : Hid (¬ AllEl (N : Int) l) := hall
    clear hall HZ
    go_wp2_with (go_at_call 60; refine (areEl_is (T := false) hN HUW.out ⟨fun e => absurd e HAL.out, fun e => by simp at e⟩).mono ?_; rintro e w3 ⟨rfl, rfl⟩)
    go_ret2
    exact ⟨_, rfl, World.ownsRow_nil _ _ _ _, HB.out⟩
theorem implIdl_is {n : Int} {v u : Value} {zz : List (List Int)} {l Z : List Int} {k : Int} {w : World} (hv : RowsAt w v zz) (hu : IntsAt w u l) (h : IdlIs n zz l Z k) (hTz : Tz w) :
    Calls Tryd.prog 41 #[.agg #[.int .i64 n, v], u] w fun e w' => RetNK Z k w e w' := by
  by_cases ho : OkP n zz
  · obtain ⟨N, rfl, _⟩ := ho.nat
    refine implIdl_ok hv hu ho ?_ hTz
    rcases h with ⟨h, _⟩ | ⟨_, h⟩ | ⟨M, e, _, h, rfl, h2⟩
    · exact absurd ho h
    · exact .inl h
    · obtain rfl : N = M := by omega
      exact .inr ⟨h, rfl, h2⟩
  · obtain ⟨rfl, rfl⟩ : Z = [] ∧ k = 1 := by
      rcases h with ⟨_, h⟩ | ⟨h, _⟩ | ⟨_, _, h, _⟩
      · exact h
      · exact absurd h ho
      · exact absurd h ho
    exact implIdl_no hv ho ⟨_, _, _, hu.slice.choose_spec.choose_spec⟩ hTz
end Go.Proofs.YtochcpaahibijaaDoor
