/-
  The law of kernels: vectors of a kernel lead to 0, there are as many as columns without a pivot, and images are in the space of the columns.
-/
import Derived.Test.YtpimnngomodnhaaKnA
import Derived.Test.YtpimnngomodnhaaKnB
import Derived.Test.YtpimnngomodnhaaPH
import Derived.Test.YtpimnngomodnhaaSpH
namespace Go.Proofs.Ytpimnngomodnhaa
open Go.RowKit
open Lin
set_option linter.unusedVariables false
set_option linter.unusedSectionVars false

set_option maxRecDepth 100000 in
set_option maxHeartbeats 12800000 in
theorem kernels_walk (a0 : Option Addr) (l0 c0 : Nat) (a1 : Option Addr) (l1 c1 : Nat) (w : World) (h0 : Bytes w a0 l0) (h1 : Bytes w a1 l1) :
    Calls Try.prog 3 #[.slice a0 l0 c0, .slice a1 l1 c1] w fun e w' => e = .returned (.bool true) ∧ Below w.heap.size w w' := by
  obtain ⟨i0, hi, iz0, iz1, iz2⟩ := info_parts info2
  have H0 := Lib.hid h0
  have H1 := Lib.hid h1
  have z0 := h0.1
  have z1 := h1.1
  clear h0 h1
  go_enter Try.func3, Try.ntmps3
  go_wp2_with fail
  refine (long10_no a0 l0 c0 w z0).mono ?_
  rintro e w' ⟨rfl, rfl⟩
  go_wp2_with fail
  refine (long10_no a1 l1 c1 w z1).mono ?_
  rintro e w' ⟨rfl, rfl⟩
  go_wp2_with fail
  refine (drawKernel_any w a0 l0 c0 H0.out).mono ?_
  rintro e w1 ⟨P, S, C, v, zs, rfl, ho, hzl, hb⟩
  have HC := Lib.hid (ho.atC (by omega))
  obtain ⟨va, vc, rfl⟩ := ho.slice
  have HB := Lib.hid hb
  have hs1 := hb.size
  have PM0 := PtM.new w1 P S C (.slice va zs.length vc) 26
  have b2 := al1 (Below.refl w1.heap.size w1) (.cells #[.int .i64 P, .int .i64 S, .int .i64 C, .slice va zs.length vc] 26)
  clear ho hb
  go_wp2_with fail
  generalize hW : World.alloc w1 (.cells #[.int .i64 P, .int .i64 S, .int .i64 C, .slice va zs.length vc] 26) = w2 at PM0 b2 ⊢
  have PM := Lib.hid PM0
  have HC := Lib.hid (HC.out.on b2)
  have HB := Lib.hid (HB.out.trans (b2.mono hs1))
  clear hW PM0 b2
  have hs2 := HB.out.size
  by_cases hM : MOk P S C zs
  · obtain ⟨u, iu, m, n, A, hA⟩ := hM.form
    obtain ⟨rfl, rfl, rfl, rfl, h5, h6, h7⟩ := hA
    have HA : Hid (MIs u m n (flat m n A) u m n A) := ⟨rfl, rfl, rfl, rfl, h5, h6, h7⟩
    have hu2 : 2 ≤ u := by have := h5.1; omega
    have hu3 : u ≤ 251 := by have := h5.2.1; omega
    have K1 : Hid (KerRes u m n (flat m n A) (kerOf m n A) 0) := .inr ⟨rfl, u, iu, m, n, A, HA.out, rfl⟩
    have K2 : Hid (ColRes u m n (flat m n A) u m (basOf n m (turn A)) 0) := .inr ⟨rfl, u, iu, m, n, A, HA.out, rfl, rfl, rfl⟩
    have K3 : Hid (RkRes u m n (flat m n A) ((red m A n).piv.length : Int) 0) := .inr ⟨rfl, u, iu, m, n, A, HA.out, rfl⟩
    have K4 : Hid (true = vB u m (basOf n m (turn A))) := vB_cols h5 h6 n A
    have K6 : Hid (∀ x : Nat → Fin u, ConRes u m (basOf n m (turn A)) (bL m (imV n A x)) true) := fun x => con_cols h5 h6 n A x
    have F1 := Lib.hid K1.out.fit
    have F2 := Lib.hid K2.out.fit
    have hL := kerOf_count (fd_of h5) m n A
    have hD := cols_len (fd_of h5) m n A
    obtain ⟨R, hR⟩ : ∃ R, (red m A n).piv.length = R := ⟨_, rfl⟩
    obtain ⟨kk, hkk⟩ : ∃ kk, kerOf m n A = kk := ⟨_, rfl⟩
    obtain ⟨bb, hbb⟩ : ∃ bb, basOf n m (turn A) = bb := ⟨_, rfl⟩
    rw [hR] at K3 hL hD
    rw [hbb] at K2 K4 K6 F2 hD
    rw [hkk] at K1 F1 hL
    have K5 : Hid (∀ i (h : i < kk.length), ∃ x : Nat → Fin u, kk[i] = bL n x ∧ (∀ t, t < m → sm n (fun j => A t j * x j) = 0) ∧ ∃ k, k < n ∧ x k = 1) := by
      subst hkk
      exact Lib.hid (fun i h => kerOf_row (fd_of h5) A h)
    have ew0 : IntKind.i64.wrap (kk.length : Int) = (kk.length : Int) := IntWalk.i64_in _ (by omega)
    have ew1 : IntKind.i64.wrap (bb.length : Int) = (bb.length : Int) := IntWalk.i64_in _ (by omega)
    have ew : IntKind.i64.wrap ((kk.length : Int) + (R : Int)) = (n : Int) := by rw [IntWalk.i64_in _ (by omega)]; omega
    have e1 : ((n : Int) != (n : Int)) = false := by simp
    have e2 : ((bb.length : Int) != (R : Int)) = false := by simp [hD]
    have e3 : ((m : Int) != (m : Int)) = false := by simp
    have HL := Lib.hid hL
    have HD := Lib.hid hD
    have hkn : kk.length ≤ n := by omega
    clear hM h5 hR hkk hbb hL hD
    refine (implKer_any HC.out K1.out).mono ?_
    rintro e w3 ⟨v3, rfl, ho, hb⟩
    have HX := Lib.hid (ho.atD F1.out)
    obtain ⟨xa, xc, rfl⟩ := ho.slice
    have PM := Lib.hid (PM.out.on hb)
    have HC := Lib.hid (HC.out.on hb)
    have HB := Lib.hid (HB.out.trans (hb.mono hs2))
    have hs3 := HB.out.size
    clear ho hb
    obtain ⟨lM, m0, m1, m2, m3⟩ := PM.out
    go_wp2_with fail
    refine (implCS_any HC.out K2.out).mono ?_
    rintro e w4 ⟨v4, rfl, ho, hb⟩
    have HY := Lib.hid (ho.atD F2.out)
    obtain ⟨ya, yc, rfl⟩ := ho.slice
    have PM := Lib.hid (PM.out.on hb)
    have HC := Lib.hid (HC.out.on hb)
    have HX := Lib.hid (HX.out.on hb)
    have HB := Lib.hid (HB.out.trans (hb.mono hs3))
    have hs4 := HB.out.size
    have PV0 := PtV.new w4 u m (.slice ya bb.length yc) 32
    have b5 := al1 (Below.refl w4.heap.size w4) (.cells #[.int .i64 (u : Int), .int .i64 (m : Int), .slice ya bb.length yc] 32)
    clear ho hb lM m0 m1 m2 m3
    obtain ⟨lM, m0, m1, m2, m3⟩ := PM.out
    go_wp2_with fail
    generalize hW : World.alloc w4 (.cells #[.int .i64 (u : Int), .int .i64 (m : Int), .slice ya bb.length yc] 32) = w5 at PV0 b5 ⊢
    have PV := Lib.hid PV0
    have PM := Lib.hid (PM.out.on b5)
    have HC := Lib.hid (HC.out.on b5)
    have HX := Lib.hid (HX.out.on b5)
    have HY := Lib.hid (HY.out.on b5)
    have HB := Lib.hid (HB.out.trans (b5.mono hs4))
    have hs5 := HB.out.size
    clear hW PV0 b5 lM m0 m1 m2 m3
    refine (specRk_any HC.out K3.out).mono ?_
    rintro e w6 ⟨rfl, hb⟩
    have PV := Lib.hid (PV.out.on hb)
    have PM := Lib.hid (PM.out.on hb)
    have HC := Lib.hid (HC.out.on hb)
    have HX := Lib.hid (HX.out.on hb)
    have HY := Lib.hid (HY.out.on hb)
    have HB := Lib.hid (HB.out.trans (hb.mono hs5))
    have hs6 := HB.out.size
    clear hb
    obtain ⟨lM, m0, m1, m2, m3⟩ := PM.out
    obtain ⟨lV, v0, v1, v2⟩ := PV.out
    go_wp2_with fail
    refine (specVS_is HY.out K4.out).mono ?_
    rintro e w7 ⟨rfl, hb⟩
    have PV := Lib.hid (PV.out.on hb)
    have PM := Lib.hid (PM.out.on hb)
    have HC := Lib.hid (HC.out.on hb)
    have HX := Lib.hid (HX.out.on hb)
    have HY := Lib.hid (HY.out.on hb)
    have HB := Lib.hid (HB.out.trans (hb.mono hs6))
    have hs7 := HB.out.size
    clear hb lM m0 m1 m2 m3 lV v0 v1 v2
    obtain ⟨lM, m0, m1, m2, m3⟩ := PM.out
    obtain ⟨lV, v0, v1, v2⟩ := PV.out
    go_wp2_with fail
    clear lM m0 m1 m2 m3 lV v0 v1 v2
    go_loopw [12] (fun si wr => ∃ i : Nat, i ≤ kk.length ∧ si = .int .i64 (i : Int) ∧ Hid (Below w7.heap.size w7 wr)) (fun si _ => kk.length - (intOf si).toNat)
    case atStart => exact ⟨0, Nat.zero_le _, rfl, Lib.hid (Below.refl _ _)⟩
    case round =>
      obtain ⟨i, hi1, rfl, HBr⟩ := hrel
      have hsr := HBr.out.size
      by_cases hlt : i < kk.length
      · have n0 : (0 : Int) ≤ (i : Int) := by omega
        have n1 : (i : Int) < (kk.length : Int) := by omega
        have PMr := Lib.hid (PM.out.on HBr.out)
        have HCr := Lib.hid (HC.out.on HBr.out)
        have HXr := HX.out.on HBr.out
        obtain ⟨b, off, cap, e, hbk, hc⟩ := HXr.1.cells (by omega)
        simp only [Value.slice.injEq, true_and] at e
        obtain ⟨rfl, rfl⟩ := e
        obtain ⟨u1, d0, hui⟩ := hc i hlt
        obtain ⟨x, hx, hx0, k, hk, hxk⟩ := K5.out i hlt
        rw [hx] at hui
        obtain ⟨ra, rc, rfl⟩ := hui.slice
        rw [bL_len] at d0 hui
        have HR := Lib.hid hui
        have AP : Hid (ApRes u m n (flat m n A) (bL n x) (bL m (fun _ => 0)) 0) := ap_any HA.out x (fun _ => 0) hx0
        have HZ := Lib.hid (zeros_no hu2 hk hxk)
        clear hc hui hx hx0 hxk HXr
        obtain ⟨lM, m0, m1, m2, m3⟩ := PMr.out
        have neM := PMr.out.ne
        have HCI : Hid (IntsAt wr (.slice va (flat m n A).length vc) (flat m n A)) := HCr.out.1
        go_wp2_with fail
        go_region_held3 (fun w' => w'.cell? ⟨w1.heap.size, 0, none⟩ = some (.int .i64 (u : Int)) ∧ w'.cell? ⟨w1.heap.size, 1, none⟩ = some (.int .i64 (m : Int)) ∧ w'.cell? ⟨w1.heap.size, 2, none⟩ = some (.int .i64 (n : Int)) ∧ w'.cell? ⟨w1.heap.size, 3, none⟩ = some (.slice va (flat m n A).length vc) ∧ w'.cell? ⟨b, off + i, none⟩ = some (.slice ra n rc)) (go_keep)
          (first
            | (go_at_call 14; go_loud (refine (specAp_any (by first | with_reducible exact HCI.out | with_reducible exact IntsAt.drew HCI.out) (by first | with_reducible exact HR.out | with_reducible exact IntsAt.drew HR.out) AP.out).mono ?_; rintro e w8 ⟨v8, rfl, ho, hb'⟩; have hb : Below wr.heap.size wr w8 := (by first | with_reducible exact hb' | with_reducible exact undrew hb'); have HY8 := Lib.hid (ho.at (by rw [bL_len]; omega)); obtain ⟨v8a, v8c, rfl⟩ := ho.slice; have d8 := (hb.cell (p := ⟨b, off + i, none⟩) hbk).trans d0; obtain ⟨_, _, _, _, _⟩ := PMr.out.on hb)))
        all_goals
          have HR8 := Lib.hid (HR.out.on hb)
          have HB8 := Lib.hid (HBr.out.trans (hb.mono hsr))
          clear ho hb hb'
          go_wp2_with fail
          refine (zero10_is HY8.out (zeros_yes m)).mono ?_
          rintro e w9 ⟨rfl, rfl⟩
          go_wp2_with fail
          refine (zero10_is HR8.out HZ.out).mono ?_
          rintro e w10 ⟨rfl, rfl⟩
          go_wp2_with fail
          go_roundw
          case rel => exact ⟨i + 1, by omega, by go_num, HB8⟩
          case measure => simp [intOf]; omega
      · obtain rfl : kk.length = i := by omega
        rename World => w8
        have PV := Lib.hid (PV.out.on HBr.out)
        have PM := Lib.hid (PM.out.on HBr.out)
        have HC := Lib.hid (HC.out.on HBr.out)
        have HY := Lib.hid (HY.out.on HBr.out)
        have HB := Lib.hid (HB.out.trans (HBr.out.mono hs7))
        have hs8 := HB.out.size
        clear HX HBr hsr
        go_wp2_with fail
        go_loopw [16, 15] (fun sk sx wr => ∃ (k : Nat) (xs : List Int), k ≤ n ∧ xs.length = k ∧ sk = .int .i64 (k : Int) ∧ Hid (∀ z ∈ xs, 0 ≤ z ∧ z ≤ (u : Int) - 1) ∧ Hid (OwnI w8.heap.size wr sx xs) ∧ Hid (Below w8.heap.size w8 wr)) (fun sk _ _ => n - (intOf sk).toNat)
        case atStart => exact ⟨0, [], Nat.zero_le _, rfl, rfl, Lib.hid (fun z hz => by simp at hz), Lib.hid (madeI _ _ (Nat.le_refl _)), Lib.hid (al1 (Below.refl _ _) _)⟩
        case round =>
          obtain ⟨k, xs, hk, hxl, rfl, HZZ, HO, HBk⟩ := hrel
          have hsk := HBk.out.size
          by_cases hlt : k < n
          · have k1 : (k : Int) < (n : Int) := by omega
            have PMk := Lib.hid (PM.out.on HBk.out)
            have HZL := Lib.hid hxl
            have H1k := Lib.hid (H1.out.on (HB.out.trans (HBk.out.mono hs8)))
            have hlen : xs.length + 1 ≤ 65 := by omega
            clear hxl
            obtain ⟨lM, m0, m1, m2, m3⟩ := PMk.out
            go_wp2_with fail
            refine (at10_any a1 l1 c1 k u _ H1k.out hu2 (by omega) (by omega)).mono ?_
            rintro e w9 ⟨r, r0, r1, rfl, rfl⟩
            have HZ2 : Hid (∀ z ∈ xs ++ [r], 0 ≤ z ∧ z ≤ (u : Int) - 1) := fun z hz => by
              rcases List.mem_append.1 hz with h | h
              · exact HZZ.out z h
              · rw [List.mem_singleton.1 h]; exact ⟨r0, r1⟩
            have hown := HO.out
            clear HO r0 r1 lM m0 m1 m2 m3
            go_wp2_with (at_builtin; refine wpList_append_own _ rfl _ _ 24 rfl w8.heap.size 2 i0 (.int .i64 0) 1 8 Try.underlying24 hi iz0 iz1 iz2 rfl (by decide) _ _ _ rfl (hown.out.alloc _) ⟨wr.heap.size, 0, none⟩ 1 1 [.int .i64 r] rfl rfl ?ah1 ?ah2 ?ah3 ?ah4 ?ah5 ?_)
            try (case ah1 => exact row_int _ _ _)
            case ah2 => first | rfl | (intro u hu; simp at hu; subst hu; rfl)
            case ah3 => unfold maxLen; omega
            case ah4 => omega
            case ah5 => first | omega | (simp; omega)
            intro v2 w10 hown2 hgrow _
            have HO2 := Lib.hid (pushI hown2)
            have HB2 := Lib.hid (below_pushI HBk.out (Nat.le_refl _) hsk hown hgrow)
            clear hown2 hgrow hown
            go_wp2
            go_roundw
            case rel => exact ⟨k + 1, xs ++ [r], by omega, by rw [List.length_append, HZL.out]; rfl, by go_num, HZ2, HO2, HB2⟩
            case measure => simp [intOf]; omega
          · obtain rfl : n = k := by omega
            have hv : Vec1 u n xs := ⟨by omega, fun j hj => HZZ.out _ (List.getElem_mem hj)⟩
            obtain ⟨x, rfl⟩ := hv.bL
            have HV := Lib.hid (HO.out.at (by rw [bL_len]; omega))
            have AP : Hid (ApRes u m n (flat m n A) (bL n x) (bL m (imV n A x)) 0) := ap_any HA.out x _ (fun i hi => rfl)
            have PV := Lib.hid (PV.out.on HBk.out)
            have PM := Lib.hid (PM.out.on HBk.out)
            have HC := Lib.hid (HC.out.on HBk.out)
            have HY := Lib.hid (HY.out.on HBk.out)
            have HB := Lib.hid (HB.out.trans (HBk.out.mono hs8))
            have hs9 := HB.out.size
            obtain ⟨lM, m0, m1, m2, m3⟩ := PM.out
            clear hv hxl HO HBk HZZ
            go_wp2_with fail
            refine (specAp_any HC.out.1 HV.out AP.out).mono ?_
            rintro e w10 ⟨v10, rfl, ho, hb⟩
            have HI := Lib.hid (ho.atC (by rw [bL_len]; omega))
            obtain ⟨ja, jc, rfl⟩ := ho.slice
            have PV := Lib.hid (PV.out.on hb)
            have HY := Lib.hid (HY.out.on hb)
            have HB := Lib.hid (HB.out.trans (hb.mono hs9))
            have hs10 := HB.out.size
            clear ho hb lM m0 m1 m2 m3
            obtain ⟨lV, v0, v1, v2⟩ := PV.out
            go_wp2_with fail
            refine (implCon_any HY.out HI.out (K6.out x)).mono ?_
            rintro e w11 ⟨rfl, hb⟩
            have HB := Lib.hid (HB.out.trans (hb.mono hs10))
            clear hb
            go_wp2_with fail
            go_ret
            exact ⟨rfl, HB.out⟩
  · have K1 : Hid (KerRes P S C zs [] 1) := .inl ⟨hM, rfl, rfl⟩
    have K2 : Hid (ColRes P S C zs 0 0 [] 1) := .inl ⟨hM, rfl, rfl, rfl, rfl⟩
    clear hM
    refine (implKer_any HC.out K1.out).mono ?_
    rintro e w3 ⟨v3, rfl, ho, hb⟩
    obtain ⟨xa, xc, rfl⟩ := ho.slice
    have PM := Lib.hid (PM.out.on hb)
    have HC := Lib.hid (HC.out.on hb)
    have HB := Lib.hid (HB.out.trans (hb.mono hs2))
    have hs3 := HB.out.size
    clear ho hb
    obtain ⟨lM, m0, m1, m2, m3⟩ := PM.out
    go_wp2_with fail
    refine (implCS_any HC.out K2.out).mono ?_
    rintro e w4 ⟨v4, rfl, ho, hb⟩
    obtain ⟨ya, yc, rfl⟩ := ho.slice
    have HB := Lib.hid ((HB.out.trans (hb.mono hs3)).alloc (Nat.le_trans hs3 hb.size) (.cells #[.int .i64 0, .int .i64 0, .slice ya 0 yc] 32))
    clear ho hb lM m0 m1 m2 m3
    simp only [List.length_nil]
    go_wp2_with fail
    go_ret
    exact ⟨rfl, HB.out⟩
set_option maxRecDepth 100000 in
theorem kernels_long (a0 : Option Addr) (l0 c0 : Nat) (a1 : Option Addr) (l1 c1 : Nat) (w : World) (h : 1048576 < l0 ∨ 1048576 < l1) :
    Calls Try.prog 3 #[.slice a0 l0 c0, .slice a1 l1 c1] w fun e w' => e = .returned (.bool true) ∧ Below w.heap.size w w' := by
  by_cases h0 : 1048576 < l0
  · go_enter Try.func3, Try.ntmps3
    go_wp2_with fail
    refine (long10_yes a0 l0 c0 w h0).mono ?_
    rintro e w' ⟨rfl, rfl⟩
    go_wp2_with fail
    go_ret
    exact ⟨rfl, Below.refl _ _⟩
  · go_enter Try.func3, Try.ntmps3
    go_wp2_with fail
    refine (long10_no a0 l0 c0 w (by omega)).mono ?_
    rintro e w' ⟨rfl, rfl⟩
    go_wp2_with fail
    refine (long10_yes a1 l1 c1 w (by omega)).mono ?_
    rintro e w' ⟨rfl, rfl⟩
    go_wp2_with fail
    go_ret
    exact ⟨rfl, Below.refl _ _⟩
theorem kernels_of (a0 : Option Addr) (l0 c0 : Nat) (z0 : List Int) (a1 : Option Addr) (l1 c1 : Nat) (z1 : List Int) (w : World)
    (h0 : (a0 = none ∧ l0 = 0 ∧ c0 = 0 ∧ z0 = []) ∨ ∃ x, a0 = some x ∧ l0 ≤ c0 ∧ c0 ≤ maxLen ∧ z0.length = c0 ∧ (∀ i, i < z0.length → w.cell? (x.add i) = some (.int .u8 (z0.getD i 0))) ∧ ∀ n ∈ z0, (Lit.int .u8 n).wf = true)
    (h1 : (a1 = none ∧ l1 = 0 ∧ c1 = 0 ∧ z1 = []) ∨ ∃ x, a1 = some x ∧ l1 ≤ c1 ∧ c1 ≤ maxLen ∧ z1.length = c1 ∧ (∀ i, i < z1.length → w.cell? (x.add i) = some (.int .u8 (z1.getD i 0))) ∧ ∀ n ∈ z1, (Lit.int .u8 n).wf = true) :
    Calls Try.prog 3 #[.slice a0 l0 c0, .slice a1 l1 c1] w fun e w' => e = .returned (.bool true) ∧ Below w.heap.size w w' := by
  by_cases h : 1048576 < l0 ∨ 1048576 < l1
  · exact kernels_long a0 l0 c0 a1 l1 c1 w h
  · exact kernels_walk a0 l0 c0 a1 l1 c1 w (bytes_in (by omega) h0) (bytes_in (by omega) h1)
end Go.Proofs.Ytpimnngomodnhaa
