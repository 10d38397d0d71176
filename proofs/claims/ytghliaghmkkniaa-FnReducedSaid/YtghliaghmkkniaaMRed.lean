/-
  The law of reduced forms: whatever is drawn, a reduced form is its own one, its columns of pivots are those of a unit matrix, and ranks are kept.
-/
import Derived.Test.YtghliaghmkkniaaMInv
import Derived.Test.YtghliaghmkkniaaPE
import Derived.Test.YtghliaghmkkniaaPD
namespace Go.Proofs.Ytghliaghmkkniaa
open Go.RowKit
open Lin
set_option linter.unusedVariables false
set_option linter.unusedSectionVars false
set_option linter.unusedSimpArgs false

set_option maxHeartbeats 400000 in
theorem same8_some (b1 o1 c1 b2 o2 c2 : Nat) (zs : List Int) (w : World) (hl : zs.length ≤ 1048576)
    (h1 : ∀ j (h : j < zs.length), w.cell? ⟨b1, o1 + j, none⟩ = some (.int .i64 zs[j])) (h2 : ∀ j (h : j < zs.length), w.cell? ⟨b2, o2 + j, none⟩ = some (.int .i64 zs[j])) :
    Calls Try.prog 31 #[.slice (some ⟨b1, o1, none⟩) zs.length c1, .slice (some ⟨b2, o2, none⟩) zs.length c2] w fun e w' => e = .returned (.bool true) ∧ ∃ n, w' = w.drewN n := by
  have H1 := Lib.hid h1
  have H2 := Lib.hid h2
  clear h1 h2
  go_enter Try.func31, Try.ntmps31
  go_wp2
  go_loopw [5] (fun i wr => ∃ k n : Nat, k ≤ zs.length ∧ i = .int .i64 (k : Int) ∧ wr = w.drewN n) (fun i _ => zs.length - (intOf i).toNat)
  case atStart => exact ⟨0, 0, Nat.zero_le _, rfl, rfl⟩
  case round =>
    obtain ⟨k, n, hk, rfl, rfl⟩ := hrel
    by_cases hlt : k < zs.length
    · obtain ⟨z, hz⟩ : ∃ z, zs[k] = z := ⟨_, rfl⟩
      have c1 := H1.out k hlt
      have c2 := H2.out k hlt
      rw [hz] at c1 c2
      clear hz
      have i0 : 0 ≤ (k : Int) := by omega
      have i1 : (k : Int) < zs.length := by omega
      have eb : (z != z) = false := by simp
      go_wp2
      go_quiet (fail)
      go_wp2
      go_roundw
      case rel => exact ⟨k + 1, _, by omega, by go_num, rfl⟩
      case measure => simp [intOf]; omega
    · go_wp2
      go_ret
      exact ⟨rfl, _, rfl⟩
theorem same8_none (a1 a2 : Option Addr) (c1 c2 : Nat) (w : World) :
    Calls Try.prog 31 #[.slice a1 0 c1, .slice a2 0 c2] w fun e w' => e = .returned (.bool true) ∧ ∃ n, w' = w.drewN n := by
  go_enter Try.func31, Try.ntmps31
  go_wp2
  refine wp_loop_rounds 1 ?_
  rw [rounds_succ]
  go_wp2
  go_ret
  exact ⟨rfl, 0, rfl⟩
theorem same8_any {v1 v2 : Value} {zs : List Int} {w : World} (h1 : IntsAt w v1 zs) (h2 : IntsAt w v2 zs) :
    Calls Try.prog 31 #[v1, v2] w fun e w' => e = .returned (.bool true) ∧ ∃ n, w' = w.drewN n := by
  obtain ⟨a1, c1, rfl, hl, h1⟩ := h1
  obtain ⟨a2, c2, rfl, _, h2⟩ := h2
  by_cases hz : zs = []
  · subst hz
    exact same8_none a1 a2 c1 c2 w
  · rcases h1 with rfl | ⟨b1, o1, rfl, _, h1⟩
    · exact absurd rfl hz
    rcases h2 with rfl | ⟨b2, o2, rfl, _, h2⟩
    · exact absurd rfl hz
    exact same8_some b1 o1 c1 b2 o2 c2 zs w hl h1 h2

set_option maxRecDepth 100000 in
theorem reduced_long (a0 : Option Addr) (l0 c0 : Nat) (a1 : Option Addr) (l1 c1 : Nat) (w : World) (h : 1048576 < l0 ∨ 1048576 < l1) :
    Calls Try.prog 3 #[.slice a0 l0 c0, .slice a1 l1 c1] w fun e w' => e = .returned (.bool true) ∧ Below w.heap.size w w' := by
  have H := Lib.hid h
  clear h
  go_enter Try.func3, Try.ntmps3
  go_wp2_with fail
  refine (long8_yes _ _ _ _ _ _ _ H.out).mono ?_
  rintro e w1 ⟨rfl, rfl⟩
  go_wp2_with fail
  go_ret
  exact ⟨rfl, Below.refl _ _⟩
set_option maxRecDepth 100000 in
set_option maxHeartbeats 12800000 in
theorem reduced_walk (a0 : Option Addr) (l0 c0 : Nat) (a1 : Option Addr) (l1 c1 : Nat) (w : World) (h0 : Bytes w a0 l0) (h1 : Bytes w a1 l1) :
    Calls Try.prog 3 #[.slice a0 l0 c0, .slice a1 l1 c1] w fun e w' => e = .returned (.bool true) ∧ Below w.heap.size w w' := by
  have H0 := Lib.hid h0
  have H1 := Lib.hid h1
  have z0 := h0.1
  have z1 := h1.1
  have B0 := Lib.hid (Below.refl w.heap.size w)
  clear h0 h1
  go_enter Try.func3, Try.ntmps3
  go_wp2_with fail
  refine (long8_no _ _ _ _ _ _ _ z0 z1).mono ?_
  rintro e w1 ⟨rfl, rfl⟩
  go_wp2_with fail
  refine (r8Prime_any _ _ _ _ H0.out).mono ?_
  rintro e w1 ⟨q, rfl, hpr, hb1⟩
  have bb1 : Below w.heap.size w w1 := hb1
  have B1 := Lib.hid (B0.out.trans (bb1.mono B0.out.size))
  clear bb1 hb1
  have hpp := hpr.1
  have hpp2 := hpr.2.1
  haveI : NeZero q := ⟨by omega⟩
  have hfd := fd_of hpr
  have HPR := Lib.hid hpr
  clear hpr
  go_wp2_with fail
  refine (at8_int _ _ _ _ _ _ (H1.out.on B1.out) (by omega) (by omega) (by omega) (by omega)).mono ?_
  rintro e w2 ⟨m, hm6, rfl, rfl⟩
  go_wp2_with fail
  refine (at8_int _ _ _ _ _ _ (H1.out.on B1.out) (by omega) (by omega) (by omega) (by omega)).mono ?_
  rintro e w2 ⟨n, hn6, rfl, rfl⟩
  have hmn : m * n ≤ 6 * 6 := Nat.mul_le_mul (by omega) (by omega)
  have hm32 : m ≤ 32 := by omega
  have hn32 : n ≤ 32 := by omega
  go_wp2_with fail
  refine (r8Matrix_any HPR.out hm32 hn32 (H0.out.on B1.out)).mono ?_
  rintro e w2 ⟨A, v2, rfl, ho2, hb2⟩
  have B2 := Lib.hid (B1.out.trans (hb2.mono B1.out.size))
  have HMA : Hid (MIs (q : Int) m n (flat m n A) q m n A) := ⟨rfl, rfl, rfl, rfl, HPR.out, hm32, hn32⟩
  have hInv := red_inv hfd m A n
  have htw := red_twice hfd m n A
  have htu := rank_turn hfd m n A
  have hst := rank_stack hfd m n A
  have hjo := rank_join hfd m n A
  have hrm := piv_le_rows hfd m n A
  have hrn := piv_le_cols hfd m n A
  obtain ⟨s, hs⟩ : ∃ s, red m A n = s := ⟨_, rfl⟩
  rw [hs] at hInv htw htu hst hjo hrm hrn
  obtain ⟨r, hr⟩ : ∃ r, s.piv.length = r := ⟨_, rfl⟩
  rw [hr] at htu hrm hrn
  obtain ⟨N, hN⟩ : ∃ N, m * n = N := ⟨_, rfl⟩
  obtain ⟨m2, hm2⟩ : ∃ x, m + m = x := ⟨_, rfl⟩
  obtain ⟨n2, hn2⟩ : ∃ x, n + n = x := ⟨_, rfl⟩
  have em2 : (m2 : Int) = (m : Int) + m := by omega
  have en2 : (n2 : Int) = (n : Int) + n := by omega
  have hst2 : (red m2 (stack m A A) n).piv.length = r := by rw [← hm2, hst, hr]
  have hjo2 : (red m (join n A A) n2).piv.length = r := by rw [← hn2, hjo, hr]
  have HRF1 : Hid (RfRes (q : Int) m n (flat m n A) q m n (flat m n s.A) (pivI s.piv) 0) := .inr ⟨rfl, q, inferInstance, m, n, A, HMA.out, rfl, rfl, rfl, by rw [hs], by rw [hs]⟩
  have HMF : Hid (MIs (q : Int) m n (flat m n s.A) q m n s.A) := ⟨rfl, rfl, rfl, rfl, HPR.out, hm32, hn32⟩
  have HRF2 : Hid (RfRes (q : Int) m n (flat m n s.A) q m n (flat m n s.A) (pivI s.piv) 0) := .inr ⟨rfl, q, inferInstance, m, n, s.A, HMF.out, rfl, rfl, rfl, flat_congr fun i j hi hj => (htw.2 i j hi hj).symm, by rw [htw.1]⟩
  have HTR : Hid (TrRes (q : Int) m n (flat m n A) q n m (flat n m (turn A)) 0) := .inr ⟨rfl, rfl, rfl, rfl, q, inferInstance, m, n, A, HMA.out, rfl⟩
  have HMT : Hid (MIs (q : Int) n m (flat n m (turn A)) q n m (turn A)) := ⟨rfl, rfl, rfl, rfl, HPR.out, hn32, hm32⟩
  have HRK1 : Hid (RkRes (q : Int) m n (flat m n A) r 0) := .inr ⟨rfl, q, inferInstance, m, n, A, HMA.out, by rw [hs, hr]⟩
  have HRK2 : Hid (RkRes (q : Int) n m (flat n m (turn A)) r 0) := .inr ⟨rfl, q, inferInstance, n, m, turn A, HMT.out, by rw [htu]⟩
  have hK1 : FitK (q : Int) m n (flat m n A) q m n (flat m n A) ((n : Int) == n) 0 := .inr (.inr ⟨HMA.out.ok, HMA.out.ok, rfl, by simp, rfl⟩)
  have hK2 : FitK (q : Int) m n (flat m n A) q m n (flat m n A) ((m : Int) == m) 0 := .inr (.inr ⟨HMA.out.ok, HMA.out.ok, rfl, by simp, rfl⟩)
  have HST : Hid (StRes (q : Int) m n (flat m n A) q m n (flat m n A) q m2 n (flat m2 n (stack m A A)) 0) := ⟨0, hK1, .inr (.inr ⟨rfl, by omega, rfl, rfl, em2, rfl, by rw [← hm2]; exact flat_stack m m n A A⟩)⟩
  have HMS : Hid (MIs (q : Int) m2 n (flat m2 n (stack m A A)) q m2 n (stack m A A)) := ⟨rfl, rfl, rfl, rfl, HPR.out, by omega, hn32⟩
  have HRK3 : Hid (RkRes (q : Int) m2 n (flat m2 n (stack m A A)) r 0) := .inr ⟨rfl, q, inferInstance, m2, n, stack m A A, HMS.out, by rw [hst2]⟩
  have HJO : Hid (JoRes (q : Int) m n (flat m n A) q m n (flat m n A) q m n2 (flat m n2 (join n A A)) 0) := ⟨0, hK2, .inr (.inr ⟨rfl, by omega, rfl, rfl, rfl, en2, q, inferInstance, m, n, n, A, A, HMA.out, HMA.out, by rw [← hn2]⟩)⟩
  have HMJ : Hid (MIs (q : Int) m n2 (flat m n2 (join n A A)) q m n2 (join n A A)) := ⟨rfl, rfl, rfl, rfl, HPR.out, hm32, by omega⟩
  have HRK4 : Hid (RkRes (q : Int) m n2 (flat m n2 (join n A A)) r 0) := .inr ⟨rfl, q, inferInstance, m, n2, join n A A, HMJ.out, by rw [hjo2]⟩
  have HSM : Hid (true = sameB (q : Int) m n (flat m n s.A) q m n (flat m n s.A)) := (sameB_yes _ _ _ _).symm
  have l2 : m2 * n ≤ 12 * 6 := Nat.mul_le_mul (by omega) (by omega)
  have l3 : m * n2 ≤ 6 * 12 := Nat.mul_le_mul (by omega) (by omega)
  have l4 : n * m ≤ 6 * 6 := Nat.mul_le_mul (by omega) (by omega)
  have hp32 : (pivI s.piv).length ≤ 1048576 := by rw [pivI_len]; omega
  have HN := Lib.hid hN
  have HR := Lib.hid hr
  have HINV := Lib.hid hInv
  rw [hN] at hmn
  have CA := Lib.hid (ho2.atC (by rw [flat_len]; omega))
  obtain ⟨v2a, v2c, rfl⟩ := ho2.slice
  have hl2 : (flat m n A).length = N := by rw [flat_len]; exact HN.out
  rw [hl2] at CA ⊢
  clear hb2 ho2 hs hr hN hm2 hn2 hInv htw htu hst hjo hst2 hjo2 hK1 hK2 em2 en2 hl2
  go_wp2_with fail
  refine (implRf_any (CA.out.on (al1 (Below.refl _ _) _)) HRF1.out).mono ?_
  rintro e w3 ⟨v3, p3, rfl, ho3, hp3, hb3, -⟩
  have bb3 : Below w2.heap.size w2 w3 := up1 hb3
  have CA := Lib.hid (CA.out.on bb3)
  have Pa : Hid (PtM w3 w2.heap.size (q : Int) (m : Int) (n : Int) (.slice v2a N v2c)) := (PtM.new _ _ _ _ _ _).on hb3
  have B3 := Lib.hid (B2.out.trans (bb3.mono B2.out.size))
  have CF := Lib.hid (ho3.atC (by rw [flat_len]; have := HN.out; omega))
  have CP := Lib.hid (hp3.atC hp32)
  obtain ⟨v3a, v3c, rfl⟩ := ho3.slice
  obtain ⟨p3a, p3c, rfl⟩ := hp3.slice
  have hl3 : (flat m n s.A).length = N := by rw [flat_len]; exact HN.out
  have hq3 : (pivI s.piv).length = r := by rw [pivI_len]; exact HR.out
  rw [hl3] at CF
  rw [hq3] at CP
  rw [hl3, hq3]
  clear bb3 hb3 ho3 hp3 hl3 hq3
  obtain ⟨lPa, Pa0, Pa1, Pa2, Pa3⟩ := Pa.out
  go_wp2_with fail
  refine (implRf_any (CF.out.on (al1 (Below.refl _ _) _)) HRF2.out).mono ?_
  rintro e w4 ⟨v4, p4, rfl, ho4, hp4, hb4, -⟩
  clear lPa Pa0 Pa1 Pa2 Pa3
  have bb4 : Below w3.heap.size w3 w4 := up1 hb4
  have Pa := Lib.hid (Pa.out.on bb4)
  have CA := Lib.hid (CA.out.on bb4)
  have CF := Lib.hid (CF.out.on bb4)
  have CP := Lib.hid (CP.out.on bb4)
  have Pf : Hid (PtM w4 w3.heap.size (q : Int) (m : Int) (n : Int) (.slice v3a N v3c)) := (PtM.new _ _ _ _ _ _).on hb4
  have B4 := Lib.hid (B3.out.trans (bb4.mono B3.out.size))
  have CG := Lib.hid (ho4.atC (by rw [flat_len]; have := HN.out; omega))
  have CQ := Lib.hid (hp4.atC hp32)
  obtain ⟨v4a, v4c, rfl⟩ := ho4.slice
  obtain ⟨p4a, p4c, rfl⟩ := hp4.slice
  have hl4 : (flat m n s.A).length = N := by rw [flat_len]; exact HN.out
  have hq4 : (pivI s.piv).length = r := by rw [pivI_len]; exact HR.out
  rw [hl4] at CG
  rw [hq4] at CQ
  rw [hl4, hq4]
  clear bb4 hb4 ho4 hp4 hl4 hq4
  obtain ⟨lPa, Pa0, Pa1, Pa2, Pa3⟩ := Pa.out
  obtain ⟨lPf, Pf0, Pf1, Pf2, Pf3⟩ := Pf.out
  go_wp2_with fail
  refine (implTr_any (CA.out.on (al1 (Below.refl _ _) _)) HTR.out).mono ?_
  rintro e w5 ⟨v5, rfl, ho5, hb5⟩
  clear lPa Pa0 Pa1 Pa2 Pa3 lPf Pf0 Pf1 Pf2 Pf3
  have bb5 : Below w4.heap.size w4 w5 := up1 hb5
  have Pa := Lib.hid (Pa.out.on bb5)
  have Pf := Lib.hid (Pf.out.on bb5)
  have CA := Lib.hid (CA.out.on bb5)
  have CF := Lib.hid (CF.out.on bb5)
  have CP := Lib.hid (CP.out.on bb5)
  have CG := Lib.hid (CG.out.on bb5)
  have CQ := Lib.hid (CQ.out.on bb5)
  have Pg : Hid (PtM w5 w4.heap.size (q : Int) (m : Int) (n : Int) (.slice v4a N v4c)) := (PtM.new _ _ _ _ _ _).on hb5
  have B5 := Lib.hid (B4.out.trans (bb5.mono B4.out.size))
  obtain ⟨v5a, v5c, rfl⟩ := ho5.slice
  have CT := Lib.hid (ho5.atC (by simp only [List.length_nil, flat_len]; omega))
  clear bb5 hb5 ho5
  obtain ⟨lPa, Pa0, Pa1, Pa2, Pa3⟩ := Pa.out
  obtain ⟨lPf, Pf0, Pf1, Pf2, Pf3⟩ := Pf.out
  obtain ⟨lPg, Pg0, Pg1, Pg2, Pg3⟩ := Pg.out
  go_wp2_with fail
  refine (implRk_any (CA.out.on (al1 (Below.refl _ _) _)) HRK1.out).mono ?_
  rintro e w6 ⟨rfl, hb6⟩
  clear lPa Pa0 Pa1 Pa2 Pa3 lPf Pf0 Pf1 Pf2 Pf3 lPg Pg0 Pg1 Pg2 Pg3
  have bb6 : Below w5.heap.size w5 w6 := up1 hb6
  have Pa := Lib.hid (Pa.out.on bb6)
  have Pf := Lib.hid (Pf.out.on bb6)
  have Pg := Lib.hid (Pg.out.on bb6)
  have CA := Lib.hid (CA.out.on bb6)
  have CF := Lib.hid (CF.out.on bb6)
  have CP := Lib.hid (CP.out.on bb6)
  have CG := Lib.hid (CG.out.on bb6)
  have CQ := Lib.hid (CQ.out.on bb6)
  have CT := Lib.hid (CT.out.on bb6)
  have Pt : Hid (PtM w6 w5.heap.size (q : Int) (n : Int) (m : Int) (.slice v5a (flat n m (turn A)).length v5c)) := (PtM.new _ _ _ _ _ _).on hb6
  have B6 := Lib.hid (B5.out.trans (bb6.mono B5.out.size))
  clear bb6 hb6
  obtain ⟨lPa, Pa0, Pa1, Pa2, Pa3⟩ := Pa.out
  obtain ⟨lPf, Pf0, Pf1, Pf2, Pf3⟩ := Pf.out
  obtain ⟨lPg, Pg0, Pg1, Pg2, Pg3⟩ := Pg.out
  obtain ⟨lPt, Pt0, Pt1, Pt2, Pt3⟩ := Pt.out
  go_wp2_with fail
  refine (implRk_any CT.out HRK2.out).mono ?_
  rintro e w7 ⟨rfl, hb7⟩
  clear lPa Pa0 Pa1 Pa2 Pa3 lPf Pf0 Pf1 Pf2 Pf3 lPg Pg0 Pg1 Pg2 Pg3 lPt Pt0 Pt1 Pt2 Pt3
  have bb7 : Below w6.heap.size w6 w7 := hb7
  have Pa := Lib.hid (Pa.out.on bb7)
  have Pf := Lib.hid (Pf.out.on bb7)
  have Pg := Lib.hid (Pg.out.on bb7)
  have Pt := Lib.hid (Pt.out.on bb7)
  have CA := Lib.hid (CA.out.on bb7)
  have CF := Lib.hid (CF.out.on bb7)
  have CP := Lib.hid (CP.out.on bb7)
  have CG := Lib.hid (CG.out.on bb7)
  have CQ := Lib.hid (CQ.out.on bb7)
  have CT := Lib.hid (CT.out.on bb7)
  have B7 := Lib.hid (B6.out.trans (bb7.mono B6.out.size))
  clear bb7 hb7
  obtain ⟨lPa, Pa0, Pa1, Pa2, Pa3⟩ := Pa.out
  obtain ⟨lPf, Pf0, Pf1, Pf2, Pf3⟩ := Pf.out
  obtain ⟨lPg, Pg0, Pg1, Pg2, Pg3⟩ := Pg.out
  obtain ⟨lPt, Pt0, Pt1, Pt2, Pt3⟩ := Pt.out
  go_wp2_with fail
  refine (implSt_any CA.out CA.out HST.out).mono ?_
  rintro e w8 ⟨v8, rfl, ho8, hb8⟩
  clear lPa Pa0 Pa1 Pa2 Pa3 lPf Pf0 Pf1 Pf2 Pf3 lPg Pg0 Pg1 Pg2 Pg3 lPt Pt0 Pt1 Pt2 Pt3
  have bb8 : Below w7.heap.size w7 w8 := hb8
  have Pa := Lib.hid (Pa.out.on bb8)
  have Pf := Lib.hid (Pf.out.on bb8)
  have Pg := Lib.hid (Pg.out.on bb8)
  have Pt := Lib.hid (Pt.out.on bb8)
  have CA := Lib.hid (CA.out.on bb8)
  have CF := Lib.hid (CF.out.on bb8)
  have CP := Lib.hid (CP.out.on bb8)
  have CG := Lib.hid (CG.out.on bb8)
  have CQ := Lib.hid (CQ.out.on bb8)
  have CT := Lib.hid (CT.out.on bb8)
  have B8 := Lib.hid (B7.out.trans (bb8.mono B7.out.size))
  obtain ⟨v8a, v8c, rfl⟩ := ho8.slice
  have CS := Lib.hid (ho8.atC (by simp only [List.length_nil, flat_len]; omega))
  clear bb8 hb8 ho8
  obtain ⟨lPa, Pa0, Pa1, Pa2, Pa3⟩ := Pa.out
  obtain ⟨lPf, Pf0, Pf1, Pf2, Pf3⟩ := Pf.out
  obtain ⟨lPg, Pg0, Pg1, Pg2, Pg3⟩ := Pg.out
  obtain ⟨lPt, Pt0, Pt1, Pt2, Pt3⟩ := Pt.out
  go_wp2_with fail
  refine (implRk_any (CS.out.on (al1 (Below.refl _ _) _)) HRK3.out).mono ?_
  rintro e w9 ⟨rfl, hb9⟩
  clear lPa Pa0 Pa1 Pa2 Pa3 lPf Pf0 Pf1 Pf2 Pf3 lPg Pg0 Pg1 Pg2 Pg3 lPt Pt0 Pt1 Pt2 Pt3
  have bb9 : Below w8.heap.size w8 w9 := up1 hb9
  have Pa := Lib.hid (Pa.out.on bb9)
  have Pf := Lib.hid (Pf.out.on bb9)
  have Pg := Lib.hid (Pg.out.on bb9)
  have Pt := Lib.hid (Pt.out.on bb9)
  have CA := Lib.hid (CA.out.on bb9)
  have CF := Lib.hid (CF.out.on bb9)
  have CP := Lib.hid (CP.out.on bb9)
  have CG := Lib.hid (CG.out.on bb9)
  have CQ := Lib.hid (CQ.out.on bb9)
  have CT := Lib.hid (CT.out.on bb9)
  have CS := Lib.hid (CS.out.on bb9)
  have Ps : Hid (PtM w9 w8.heap.size (q : Int) (m2 : Int) (n : Int) (.slice v8a (flat m2 n (stack m A A)).length v8c)) := (PtM.new _ _ _ _ _ _).on hb9
  have B9 := Lib.hid (B8.out.trans (bb9.mono B8.out.size))
  clear bb9 hb9
  obtain ⟨lPa, Pa0, Pa1, Pa2, Pa3⟩ := Pa.out
  obtain ⟨lPf, Pf0, Pf1, Pf2, Pf3⟩ := Pf.out
  obtain ⟨lPg, Pg0, Pg1, Pg2, Pg3⟩ := Pg.out
  obtain ⟨lPt, Pt0, Pt1, Pt2, Pt3⟩ := Pt.out
  obtain ⟨lPs, Ps0, Ps1, Ps2, Ps3⟩ := Ps.out
  go_wp2_with fail
  refine (implJo_any CA.out CA.out HJO.out).mono ?_
  rintro e w10 ⟨v10, rfl, ho10, hb10⟩
  clear lPa Pa0 Pa1 Pa2 Pa3 lPf Pf0 Pf1 Pf2 Pf3 lPg Pg0 Pg1 Pg2 Pg3 lPt Pt0 Pt1 Pt2 Pt3 lPs Ps0 Ps1 Ps2 Ps3
  have bb10 : Below w9.heap.size w9 w10 := hb10
  have Pa := Lib.hid (Pa.out.on bb10)
  have Pf := Lib.hid (Pf.out.on bb10)
  have Pg := Lib.hid (Pg.out.on bb10)
  have Pt := Lib.hid (Pt.out.on bb10)
  have Ps := Lib.hid (Ps.out.on bb10)
  have CA := Lib.hid (CA.out.on bb10)
  have CF := Lib.hid (CF.out.on bb10)
  have CP := Lib.hid (CP.out.on bb10)
  have CG := Lib.hid (CG.out.on bb10)
  have CQ := Lib.hid (CQ.out.on bb10)
  have CT := Lib.hid (CT.out.on bb10)
  have CS := Lib.hid (CS.out.on bb10)
  have B10 := Lib.hid (B9.out.trans (bb10.mono B9.out.size))
  obtain ⟨v10a, v10c, rfl⟩ := ho10.slice
  have CJ := Lib.hid (ho10.atC (by simp only [List.length_nil, flat_len]; omega))
  clear bb10 hb10 ho10
  obtain ⟨lPa, Pa0, Pa1, Pa2, Pa3⟩ := Pa.out
  obtain ⟨lPf, Pf0, Pf1, Pf2, Pf3⟩ := Pf.out
  obtain ⟨lPg, Pg0, Pg1, Pg2, Pg3⟩ := Pg.out
  obtain ⟨lPt, Pt0, Pt1, Pt2, Pt3⟩ := Pt.out
  obtain ⟨lPs, Ps0, Ps1, Ps2, Ps3⟩ := Ps.out
  go_wp2_with fail
  refine (implRk_any (CJ.out.on (al1 (Below.refl _ _) _)) HRK4.out).mono ?_
  rintro e w11 ⟨rfl, hb11⟩
  clear lPa Pa0 Pa1 Pa2 Pa3 lPf Pf0 Pf1 Pf2 Pf3 lPg Pg0 Pg1 Pg2 Pg3 lPt Pt0 Pt1 Pt2 Pt3 lPs Ps0 Ps1 Ps2 Ps3
  have bb11 : Below w10.heap.size w10 w11 := up1 hb11
  have Pa := Lib.hid (Pa.out.on bb11)
  have Pf := Lib.hid (Pf.out.on bb11)
  have Pg := Lib.hid (Pg.out.on bb11)
  have Pt := Lib.hid (Pt.out.on bb11)
  have Ps := Lib.hid (Ps.out.on bb11)
  have CA := Lib.hid (CA.out.on bb11)
  have CF := Lib.hid (CF.out.on bb11)
  have CP := Lib.hid (CP.out.on bb11)
  have CG := Lib.hid (CG.out.on bb11)
  have CQ := Lib.hid (CQ.out.on bb11)
  have CT := Lib.hid (CT.out.on bb11)
  have CS := Lib.hid (CS.out.on bb11)
  have CJ := Lib.hid (CJ.out.on bb11)
  have Pj : Hid (PtM w11 w10.heap.size (q : Int) (m : Int) (n2 : Int) (.slice v10a (flat m n2 (join n A A)).length v10c)) := (PtM.new _ _ _ _ _ _).on hb11
  have B11 := Lib.hid (B10.out.trans (bb11.mono B10.out.size))
  clear bb11 hb11
  have t1 : ((r : Int) != (r : Int)) = false := by simp
  have t2 : ((m : Int) != (m : Int)) = false := by simp
  have t3 : ((n : Int) != (n : Int)) = false := by simp
  have t4 : ((N : Int) != (N : Int)) = false := by simp
  have wmn : IntKind.i64.wrap ((m : Int) * (n : Int)) = (N : Int) := by rw [← Int.natCast_mul, HN.out]; exact IntWalk.i64_in _ (by omega)
  obtain ⟨lPa, Pa0, Pa1, Pa2, Pa3⟩ := Pa.out
  obtain ⟨lPf, Pf0, Pf1, Pf2, Pf3⟩ := Pf.out
  obtain ⟨lPg, Pg0, Pg1, Pg2, Pg3⟩ := Pg.out
  obtain ⟨lPt, Pt0, Pt1, Pt2, Pt3⟩ := Pt.out
  obtain ⟨lPs, Ps0, Ps1, Ps2, Ps3⟩ := Ps.out
  obtain ⟨lPj, Pj0, Pj1, Pj2, Pj3⟩ := Pj.out
  go_wp2_with fail
  refine (specSM_r (T := true) CG.out.1 CF.out.1 HSM.out).mono ?_
  rintro e w12 ⟨rfl, hb12⟩
  clear lPa Pa0 Pa1 Pa2 Pa3 lPf Pf0 Pf1 Pf2 Pf3 lPg Pg0 Pg1 Pg2 Pg3 lPt Pt0 Pt1 Pt2 Pt3 lPs Ps0 Ps1 Ps2 Ps3 lPj Pj0 Pj1 Pj2 Pj3
  have bb12 : Below w11.heap.size w11 w12 := hb12
  have Pa := Lib.hid (Pa.out.on bb12)
  have Pf := Lib.hid (Pf.out.on bb12)
  have Pg := Lib.hid (Pg.out.on bb12)
  have Pt := Lib.hid (Pt.out.on bb12)
  have Ps := Lib.hid (Ps.out.on bb12)
  have Pj := Lib.hid (Pj.out.on bb12)
  have CA := Lib.hid (CA.out.on bb12)
  have CF := Lib.hid (CF.out.on bb12)
  have CP := Lib.hid (CP.out.on bb12)
  have CG := Lib.hid (CG.out.on bb12)
  have CQ := Lib.hid (CQ.out.on bb12)
  have CT := Lib.hid (CT.out.on bb12)
  have CS := Lib.hid (CS.out.on bb12)
  have CJ := Lib.hid (CJ.out.on bb12)
  have B12 := Lib.hid (B11.out.trans (bb12.mono B11.out.size))
  clear bb12 hb12
  obtain ⟨lPa, Pa0, Pa1, Pa2, Pa3⟩ := Pa.out
  obtain ⟨lPf, Pf0, Pf1, Pf2, Pf3⟩ := Pf.out
  go_wp2_with fail
  refine (same8_any CQ.out.1 CP.out.1).mono ?_
  rintro e w13 ⟨rfl, nd, rfl⟩
  go_wp2_with fail
  clear t1 t2 t3 t4 wmn
  go_loopw [27] (fun sk wr => ∃ k nn : Nat, k ≤ r ∧ sk = .int .i64 (k : Int) ∧ wr = w12.drewN nn) (fun sk _ => r - (intOf sk).toNat)
  case atStart => exact ⟨0, nd, Nat.zero_le _, rfl, rfl⟩
  case round =>
    obtain ⟨k, nn, hk, rfl, rfl⟩ := hrel
    by_cases hkr : k < r
    · as_aux_lemma =>
      have hkp : k < s.piv.length := by rw [HR.out]; exact hkr
      have hlt := HINV.out.small k hkp
      obtain ⟨p, hp⟩ : ∃ p, s.piv[k] = p := ⟨_, rfl⟩
      have hun : ∀ i, i < m → s.A i p = if i = k then 1 else 0 := by rw [← hp]; exact HINV.out.unit k hkp
      have HUN := Lib.hid hun
      rw [hp] at hlt
      obtain ⟨pa, pc, e, hpl, h1 | ⟨b1, o1, e1, hb1, K1⟩⟩ := CP.out.1
      · exfalso
        have := congrArg List.length h1
        rw [pivI_len, HR.out] at this
        simp at this; omega
      obtain ⟨rfl, -, rfl⟩ : p3a = pa ∧ _ ∧ p3c = pc := by injection e with e1 e2 e3; exact ⟨e1, e2, e3⟩
      subst e1
      have hkl : k < (pivI s.piv).length := by rw [pivI_len]; exact hkp
      have c1 := K1 k hkl
      have hpk : (pivI s.piv)[k] = (p : Int) := by rw [← hp]; simp [pivI]
      rw [hpk] at c1
      have HP := Lib.hid hp
      have k0 : (0 : Int) ≤ (k : Int) := by omega
      have k1 : (k : Int) < (r : Int) := by omega
      have g1 : decide ((p : Int) < 0) = false := by simp
      have g1' : ¬ (p : Int) < 0 := by omega
      have g2 : decide ((p : Int) ≥ (n : Int)) = false := by simp; omega
      have g2' : ¬ (n : Int) ≤ (p : Int) := by omega
      have HB1 : Hid (b1 < w12.heap.size) := hb1
      have HK1 := Lib.hid K1
      clear hp hun hpk K1 e
      by_cases hk0 : k = 0
      · as_aux_lemma =>
        have g2n : decide (n ≤ p) = false := by simp; omega
        have g3n : decide (0 < k) = false := by simp; omega
        clear hk0 g1 g1' g2 g2'
        go_wp2_with fail
        refine wp_region_quiet_lit (by kernel_rfl) (by kernel_rfl) ?_
        iterate 30 (first | go_big_quiet_step (fail) | quiet_step (fail))
        refine wpQuiet_nil ?_
        intro _ hw'
        obtain ⟨nq, hw''⟩ := hw'
        subst hw''
        go_wp2_with fail
        go_loopw [28] (fun si wr => ∃ i nn : Nat, i ≤ m ∧ si = .int .i64 (i : Int) ∧ wr = w12.drewN nn) (fun si _ => m - (intOf si).toNat)
        case atStart => exact ⟨0, _, Nat.zero_le _, rfl, World.drewN_drewN _ _ _⟩
        case round =>
          obtain ⟨i, nn, hi, rfl, rfl⟩ := hrel
          by_cases him : i < m
          · have i1 : (i : Int) < (m : Int) := by omega
            have cu := HUN.out i him
            have li := idx_lt him hlt
            obtain ⟨fa, fc, e, hfl, h1 | ⟨b3, o3, e1, hb3, K3⟩⟩ := CF.out.1
            · exfalso
              have := congrArg List.length h1
              rw [flat_len, HN.out] at this
              rw [HN.out] at li
              simp at this; omega
            obtain ⟨rfl, -, rfl⟩ : v3a = fa ∧ _ ∧ v3c = fc := by injection e with e1 e2 e3; exact ⟨e1, e2, e3⟩
            subst e1
            have c3 := K3 (i * n + p) (by rw [flat_len]; exact li)
            rw [flat_ij m n s.A him hlt] at c3
            rw [HN.out] at li
            obtain ⟨z, hz⟩ : ∃ z, fv (s.A i p) = z := ⟨_, rfl⟩
            rw [hz] at c3
            obtain ⟨y, hy⟩ : ∃ y, i * n = y := ⟨_, rfl⟩
            rw [hy] at c3 li
            obtain ⟨v, hv⟩ : ∃ v, y + p = v := ⟨_, rfl⟩
            rw [hv] at c3 li
            have wa : IntKind.i64.wrap ((i : Int) * (n : Int)) = (y : Int) := by rw [← Int.natCast_mul, hy]; exact IntWalk.i64_in _ (by omega)
            have wb : IntKind.i64.wrap ((y : Int) + (p : Int)) = (v : Int) := by rw [← Int.natCast_add, hv]; exact IntWalk.i64_in _ (by omega)
            have v0 : (0 : Int) ≤ (v : Int) := by omega
            have v1 : (v : Int) < (N : Int) := by omega
            clear e K3 hy hv
            by_cases hik : i = k
            · as_aux_lemma =>
              have hz1 : z = 1 := by rw [← hz, cu, if_pos hik, fv_one (by omega)]
              have s1 : ((i : Int) == (k : Int)) = true := by simp; omega
              have s2 : ((i : Int) != (k : Int)) = false := by simp; omega
              have s3 : (z != 1) = false := by rw [hz1]; rfl
              have HZ1 := Lib.hid hz1
              clear hz hz1 cu hik
              go_wp2_with fail
              go_quiet (fail)
              go_wp2
              go_roundw
              case rel => exact ⟨i + 1, _, by omega, by go_num, rfl⟩
              case measure => simp [intOf]; omega
            · as_aux_lemma =>
              have hz1 : z = 0 := by rw [← hz, cu, if_neg hik, fv_zero]
              have s1 : ((i : Int) == (k : Int)) = false := by simp; omega
              have s2 : ((i : Int) != (k : Int)) = true := by simp; omega
              have s3 : (z != 0) = false := by rw [hz1]; rfl
              have HZ1 := Lib.hid hz1
              clear hz hz1 cu hik
              go_wp2_with fail
              go_quiet (fail)
              go_wp2
              go_roundw
              case rel => exact ⟨i + 1, _, by omega, by go_num, rfl⟩
              case measure => simp [intOf]; omega
          · as_aux_lemma =>
            obtain rfl : i = m := by omega
            go_wp2
            go_roundw
            case rel => exact ⟨k + 1, _, by omega, by go_num, rfl⟩
            case measure => simp [intOf]; omega
      · as_aux_lemma =>
        have hmo := HINV.out.mono (k - 1) k (by omega) hkp
        obtain ⟨p', hp'⟩ : ∃ p', s.piv[k - 1] = p' := ⟨_, rfl⟩
        have c2 := HK1.out (k - 1) (by omega)
        have hpk : (pivI s.piv)[k - 1]'(by omega) = (p' : Int) := by rw [← hp']; simp [pivI]
        rw [hpk] at c2
        rw [hp', HP.out] at hmo
        have g3 : decide ((k : Int) > 0) = true := by simp; omega
        have g3' : (0 : Int) < (k : Int) := by omega
        have g4 : decide ((p : Int) ≤ (p' : Int)) = false := by simp; omega
        have g4' : ¬ (p : Int) ≤ (p' : Int) := by omega
        have g4n : decide (p ≤ p') = false := by simp; omega
        have g3n : decide (0 < k) = true := by simp; omega
        have e5 : IntKind.i64.wrap ((k : Int) - 1) = ((k - 1 : Nat) : Int) := by rw [show ((k - 1 : Nat) : Int) = (k : Int) - 1 by omega]; exact IntWalk.i64_in _ (by omega)
        obtain ⟨k9, hk9⟩ : ∃ x, k - 1 = x := ⟨_, rfl⟩
        rw [hk9] at e5 c2
        have k90 : (0 : Int) ≤ (k9 : Int) := by omega
        have k91 : (k9 : Int) < (r : Int) := by omega
        clear hk0 hp' hpk hk9
        go_wp2_with fail
        go_quiet (fail)
        go_wp2_with fail
        go_loopw [28] (fun si wr => ∃ i nn : Nat, i ≤ m ∧ si = .int .i64 (i : Int) ∧ wr = w12.drewN nn) (fun si _ => m - (intOf si).toNat)
        case atStart => exact ⟨0, _, Nat.zero_le _, rfl, World.drewN_drewN _ _ _⟩
        case round =>
          obtain ⟨i, nn, hi, rfl, rfl⟩ := hrel
          by_cases him : i < m
          · have i1 : (i : Int) < (m : Int) := by omega
            have cu := HUN.out i him
            have li := idx_lt him hlt
            obtain ⟨fa, fc, e, hfl, h1 | ⟨b3, o3, e1, hb3, K3⟩⟩ := CF.out.1
            · exfalso
              have := congrArg List.length h1
              rw [flat_len, HN.out] at this
              rw [HN.out] at li
              simp at this; omega
            obtain ⟨rfl, -, rfl⟩ : v3a = fa ∧ _ ∧ v3c = fc := by injection e with e1 e2 e3; exact ⟨e1, e2, e3⟩
            subst e1
            have c3 := K3 (i * n + p) (by rw [flat_len]; exact li)
            rw [flat_ij m n s.A him hlt] at c3
            rw [HN.out] at li
            obtain ⟨z, hz⟩ : ∃ z, fv (s.A i p) = z := ⟨_, rfl⟩
            rw [hz] at c3
            obtain ⟨y, hy⟩ : ∃ y, i * n = y := ⟨_, rfl⟩
            rw [hy] at c3 li
            obtain ⟨v, hv⟩ : ∃ v, y + p = v := ⟨_, rfl⟩
            rw [hv] at c3 li
            have wa : IntKind.i64.wrap ((i : Int) * (n : Int)) = (y : Int) := by rw [← Int.natCast_mul, hy]; exact IntWalk.i64_in _ (by omega)
            have wb : IntKind.i64.wrap ((y : Int) + (p : Int)) = (v : Int) := by rw [← Int.natCast_add, hv]; exact IntWalk.i64_in _ (by omega)
            have v0 : (0 : Int) ≤ (v : Int) := by omega
            have v1 : (v : Int) < (N : Int) := by omega
            clear e K3 hy hv
            by_cases hik : i = k
            · as_aux_lemma =>
              have hz1 : z = 1 := by rw [← hz, cu, if_pos hik, fv_one (by omega)]
              have s1 : ((i : Int) == (k : Int)) = true := by simp; omega
              have s2 : ((i : Int) != (k : Int)) = false := by simp; omega
              have s3 : (z != 1) = false := by rw [hz1]; rfl
              have HZ1 := Lib.hid hz1
              clear hz hz1 cu hik
              go_wp2_with fail
              go_quiet (fail)
              go_wp2
              go_roundw
              case rel => exact ⟨i + 1, _, by omega, by go_num, rfl⟩
              case measure => simp [intOf]; omega
            · as_aux_lemma =>
              have hz1 : z = 0 := by rw [← hz, cu, if_neg hik, fv_zero]
              have s1 : ((i : Int) == (k : Int)) = false := by simp; omega
              have s2 : ((i : Int) != (k : Int)) = true := by simp; omega
              have s3 : (z != 0) = false := by rw [hz1]; rfl
              have HZ1 := Lib.hid hz1
              clear hz hz1 cu hik
              go_wp2_with fail
              go_quiet (fail)
              go_wp2
              go_roundw
              case rel => exact ⟨i + 1, _, by omega, by go_num, rfl⟩
              case measure => simp [intOf]; omega
          · as_aux_lemma =>
            obtain rfl : i = m := by omega
            go_wp2
            go_roundw
            case rel => exact ⟨k + 1, _, by omega, by go_num, rfl⟩
            case measure => simp [intOf]; omega
    · as_aux_lemma =>
      have x1 : (r : Int) ≤ (m : Int) := by omega
      have x2 : (r : Int) ≤ (n : Int) := by omega
      have x1' : decide ((r : Int) ≤ (m : Int)) = true := by simpa using x1
      have x2' : decide ((r : Int) ≤ (n : Int)) = true := by simpa using x2
      obtain rfl : k = r := by omega
      go_wp2_with fail
      go_ret
      exact ⟨rfl, below_drewX B12.out _⟩
theorem reduced_of (a0 : Option Addr) (l0 c0 : Nat) (z0 : List Int) (a1 : Option Addr) (l1 c1 : Nat) (z1 : List Int) (w : World)
    (h0 : (a0 = none ∧ l0 = 0 ∧ c0 = 0 ∧ z0 = []) ∨ ∃ x, a0 = some x ∧ l0 ≤ c0 ∧ c0 ≤ maxLen ∧ z0.length = c0 ∧ (∀ i, i < z0.length → w.cell? (x.add i) = some (.int .u8 (z0.getD i 0))) ∧ ∀ n ∈ z0, (Lit.int .u8 n).wf = true)
    (h1 : (a1 = none ∧ l1 = 0 ∧ c1 = 0 ∧ z1 = []) ∨ ∃ x, a1 = some x ∧ l1 ≤ c1 ∧ c1 ≤ maxLen ∧ z1.length = c1 ∧ (∀ i, i < z1.length → w.cell? (x.add i) = some (.int .u8 (z1.getD i 0))) ∧ ∀ n ∈ z1, (Lit.int .u8 n).wf = true) :
    Calls Try.prog 3 #[.slice a0 l0 c0, .slice a1 l1 c1] w fun e w' => e = .returned (.bool true) ∧ Below w.heap.size w w' := by
  by_cases h : 1048576 < l0 ∨ 1048576 < l1
  · exact reduced_long a0 l0 c0 a1 l1 c1 w h
  · exact reduced_walk a0 l0 c0 a1 l1 c1 w (bytes_in (by omega) h0) (bytes_in (by omega) h1)
end Go.Proofs.Ytghliaghmkkniaa
