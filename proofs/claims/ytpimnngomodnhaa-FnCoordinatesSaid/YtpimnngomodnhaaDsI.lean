/-
  The law of coordinates: a vector of a space is the sum of its coordinates' multiples of the basis, and no other has coordinates; rows are in their space.
-/
import Derived.Test.YtpimnngomodnhaaPI
import Derived.Test.YtpimnngomodnhaaDsH
import Derived.Test.YtpimnngomodnhaaMSv
import Derived.Test.YtpimnngomodnhaaKnB
import Derived.Test.YtpimnngomodnhaaSpE
import Derived.Test.YtpimnngomodnhaaSpZ
namespace Go.Proofs.Ytpimnngomodnhaa
open Go.RowKit
open Lin
set_option linter.unusedVariables false
set_option linter.unusedSectionVars false

set_option maxRecDepth 100000 in
set_option maxHeartbeats 12800000 in
theorem coordinates_walk (a0 : Option Addr) (l0 c0 : Nat) (a1 : Option Addr) (l1 c1 : Nat) (w : World) (h0 : Bytes w a0 l0) (h1 : Bytes w a1 l1) :
    Calls Try.prog 4 #[.slice a0 l0 c0, .slice a1 l1 c1] w fun e w' => e = .returned (.bool true) ∧ Below w.heap.size w w' := by
  have H0 := Lib.hid h0
  have H1 := Lib.hid h1
  have z0 := h0.1
  have z1 := h1.1
  clear h0 h1
  go_enter Try.func4, Try.ntmps4
  go_wp2_with fail
  refine (long10_no a0 l0 c0 w z0).mono ?_
  rintro e w' ⟨rfl, rfl⟩
  go_wp2_with fail
  refine (long10_no a1 l1 c1 w z1).mono ?_
  rintro e w' ⟨rfl, rfl⟩
  go_wp2_with fail
  refine (drawCoo_any w a0 l0 c0 H0.out).mono ?_
  rintro e w1 ⟨P, N, v, zz, v2, xs, rfl, ho, hzl, hzr, ho2, hxl, hb⟩
  have hfit : FitR zz := fit_le (by omega) (fun zs hz => by have := hzr zs hz; omega)
  have HZZ := Lib.hid (ho.atD hfit)
  have HX := Lib.hid (ho2.atC (by omega))
  obtain ⟨va, vc, rfl⟩ := ho.slice
  obtain ⟨xa, xc, rfl⟩ := ho2.slice
  have HB := Lib.hid hb
  have hs1 := hb.size
  have PM0 := PtV.new w1 P N (.slice va zz.length vc) 32
  have b2 := al1 (Below.refl w1.heap.size w1) (.cells #[.int .i64 P, .int .i64 N, .slice va zz.length vc] 32)
  clear ho ho2 hb hzr hfit
  go_wp2_with fail
  generalize hW : World.alloc w1 (.cells #[.int .i64 P, .int .i64 N, .slice va zz.length vc] 32) = w2 at PM0 b2 ⊢
  have PM := Lib.hid PM0
  have HZZ := Lib.hid (HZZ.out.on b2)
  have HX := Lib.hid (HX.out.on b2)
  have HB := Lib.hid (HB.out.trans (b2.mono hs1))
  clear hW PM0 b2
  have hs2 := HB.out.size
  rcases coo_two P N zz xs with ⟨k, hk, hc, hcon⟩ | ⟨u, iu, M, r, A, x, hV, hxs, hc, hcon, hin⟩
  · have HC := Lib.hid hc
    have HCO := Lib.hid hcon
    clear hc hcon
    refine (implCoo_any HZZ.out HX.out HC.out).mono ?_
    rintro e w3 ⟨v3, rfl, ho, hb⟩
    obtain ⟨ta, tc, rfl⟩ := ho.slice
    have PM := Lib.hid (PM.out.on hb)
    have HZZ := Lib.hid (HZZ.out.on hb)
    have HX := Lib.hid (HX.out.on hb)
    have HB := Lib.hid (HB.out.trans (hb.mono hs2))
    have hs3 := HB.out.size
    clear ho hb
    obtain ⟨lM, m0, m1, m2⟩ := PM.out
    simp only [List.length_nil]
    go_wp2_with fail
    refine (implCon_any HZZ.out HX.out HCO.out).mono ?_
    rintro e w4 ⟨rfl, hb⟩
    have HB := Lib.hid (HB.out.trans (hb.mono hs3))
    clear hb
    go_wp2_with fail
    go_ret
    exact ⟨rfl, HB.out⟩
  · obtain rfl := hV.p
    obtain rfl := hV.n
    have hq := hV.pr
    have HPR := Lib.hid hq
    have HVV := Lib.hid hV
    have HIN := Lib.hid hin
    have HC := Lib.hid hc
    have HCO := Lib.hid hcon
    have hM := hV.n32
    have hzr : zz.length = r := hV.len
    have hrM : r ≤ M := by rw [← hV.piv]; exact piv_le_cols (fd_of hq) _ _ _
    have hu2 : 2 ≤ u := by have := hq.1; omega
    subst hxs
    obtain ⟨pv, hpv⟩ : ∃ pv, (red r A M).piv = pv := ⟨_, rfl⟩
    have HALL : Hid (bL M (coSum A x pv r) = bL M x) := by rw [← hpv]; exact coSum_all hq hV hin
    rw [hpv] at HC
    obtain ⟨cs, hcs⟩ : ∃ cs, cooL x pv r = cs := ⟨_, rfl⟩
    have hcl : cs.length = r := by rw [← hcs]; exact cooL_len _ _ _
    have HCS : Hid (∀ i (h : i < cs.length), cs[i] = fv (x (pv.getD i 0))) := by
      subst hcs
      exact Lib.hid (fun i h => by simp [cooL])
    rw [hcs] at HC
    have HROW : Hid (∀ i, i < r → zz.getD i [] = rowL M A i) := fun i hi => by
      rw [hV.zz, getD_row (by rw [rowsOf_len]; exact hi), rowsOf_at]
    have HZL := Lib.hid hzr
    have HCL := Lib.hid hcl
    have HXL : Hid ((bL M x).length = M) := bL_len _ _
    clear hV hin hc hcon hq hpv hcs hxl
    refine (implCoo_any HZZ.out HX.out HC.out).mono ?_
    rintro e w3 ⟨v3, rfl, ho, hb⟩
    have HL := Lib.hid (ho.at (by omega))
    obtain ⟨ta, tc, rfl⟩ := ho.slice
    have PM := Lib.hid (PM.out.on hb)
    have HZZ := Lib.hid (HZZ.out.on hb)
    have HX := Lib.hid (HX.out.on hb)
    have HB := Lib.hid (HB.out.trans (hb.mono hs2))
    have hs3 := HB.out.size
    clear ho hb
    simp only [hzr, hcl] at PM hzl ⊢
    have HZ2 : Hid (RowsD w3 (.slice va r vc) zz) := by have h := HZZ.out; rw [hzr] at h; exact h
    have HL2 : Hid (IntsAt w3 (.slice ta r tc) cs) := by have h := HL.out; rw [hcl] at h; exact h
    have HX2 : Hid (IntsC w3 (.slice xa M xc) (bL M x)) := by have h := HX.out; rw [bL_len] at h; exact h
    simp only [bL_len]
    clear hzr hcl HZZ HL HX
    obtain ⟨lM, m0, m1, m2⟩ := PM.out
    have err : ((r : Int) != (r : Int)) = false := by simp
    go_wp2_with fail
    refine (implCon_any HZ2.out HX2.out HCO.out).mono ?_
    rintro e w4 ⟨rfl, hb⟩
    have PM := Lib.hid (PM.out.on hb)
    have HZ2 := Lib.hid (HZ2.out.on hb)
    have HL2 := Lib.hid (HL2.out.on hb)
    have HX2 := Lib.hid (HX2.out.on hb)
    have HB := Lib.hid (HB.out.trans (hb.mono hs3))
    have hs4 := HB.out.size
    clear hb lM m0 m1 m2
    obtain ⟨lM, m0, m1, m2⟩ := PM.out
    have hmk := run_make_row' (P := Try.prog) 24 2 (.int .i64 0) 8 Try.underlying24 info_i rfl .i64 .i64 M (by omega) (by omega)
    have HS0 : Hid (OwnI w4.heap.size (w4.alloc (.cells (madeCells #[.int .i64 0] M) 2)) (.slice (some ⟨w4.heap.size, 0, none⟩) M M) (List.replicate M 0)) := OwnI.zeros (World.rowIs_made w4 (.int .i64 0) M 2) (Nat.le_refl _) (by omega)
    go_wp2_with fail
    have b5 := al1 (Below.refl w4.heap.size w4) (.cells (madeCells #[.int .i64 0] M) 2)
    generalize hW : World.alloc w4 (.cells (madeCells #[.int .i64 0] M) 2) = w5 at HS0 b5 ⊢
    have PM := Lib.hid (PM.out.on b5)
    have HZ2 := Lib.hid (HZ2.out.on b5)
    have HL2 := Lib.hid (HL2.out.on b5)
    have HX2 := Lib.hid (HX2.out.on b5)
    have HB := Lib.hid (HB.out.trans (b5.mono hs4))
    have hs5 := HB.out.size
    have hs45 := b5.size
    clear hW b5 hmk lM m0 m1 m2
    go_loopw [10, 9] (fun si sx wr => ∃ i : Nat, i ≤ r ∧ si = .int .i64 (i : Int) ∧ Hid (OwnI w4.heap.size wr sx (bL M (coSum A x pv i))) ∧ Hid (Below w5.heap.size w5 wr)) (fun si _ _ => r - (intOf si).toNat)
    case atStart => exact ⟨0, Nat.zero_le _, rfl, (by rw [← coSum_zero]; exact HS0), Lib.hid (Below.refl _ _)⟩
    case round =>
      obtain ⟨i, hi1, rfl, HSM, HBr⟩ := hrel
      have hsr := HBr.out.size
      by_cases hlt : i < r
      · have n0 : (0 : Int) ≤ (i : Int) := by omega
        have n1 : (i : Int) < (r : Int) := by omega
        have PMr := Lib.hid (PM.out.on HBr.out)
        have HZr := HZ2.out.on HBr.out
        have hzl2 := HZL.out
        have hcl2 := HCL.out
        obtain ⟨g, o, cap, u1, e, hg, d0, hui⟩ := HZr.2.at (show i < zz.length by omega)
        simp only [Value.slice.injEq] at e
        obtain ⟨rfl, -, rfl⟩ := e
        rw [HROW.out i hlt] at hui
        obtain ⟨ra, rc, rfl⟩ := hui.1.slice
        rw [rowL_len] at d0 hui
        have HR : Hid (IntsAt wr (.slice ra M rc) (rowL M A i)) := hui.1
        obtain ⟨la, lc, e, hll, hcc⟩ := HL2.out.on HBr.out
        obtain ⟨lb, lo, rfl, hlb, hcell⟩ : ∃ lb lo, la = some ⟨lb, lo, none⟩ ∧ lb < wr.heap.size ∧ ∀ j (h : j < cs.length), wr.cell? ⟨lb, lo + j, none⟩ = some (.int .i64 cs[j]) := by
          rcases hcc with h | h
          · rw [h] at hcl2; simp at hcl2; omega
          · exact h
        simp only [Value.slice.injEq] at e
        obtain ⟨rfl, -, rfl⟩ := e
        have d1 := hcell i (by omega)
        rw [HCS.out i (by omega)] at d1
        obtain ⟨cc, hcc2⟩ : ∃ cc, x (pv.getD i 0) = cc := ⟨_, rfl⟩
        have HCC := Lib.hid hcc2
        rw [hcc2] at d1
        have c0 : 0 ≤ fv cc := Int.natCast_nonneg _
        have c1' : fv cc < (u : Int) := by have := cc.isLt; show ((cc.val : Nat) : Int) < (u : Int); omega
        have HSC : Hid (SclRes u (rowL M A i) (fv cc) (sclC u (fv cc) (rowL M A i)) 0) := .inr (.inr ⟨⟨HPR.out, rowL_ok M A i, by rw [rowL_len]; omega⟩, c0, c1', rfl, rfl⟩)
        have HAD : Hid (AddRes u (bL M (coSum A x pv i)) (sclC u (fv cc) (rowL M A i)) (bL M (coSum A x pv (i + 1))) 0) := by
          refine ⟨.inr (.inr ⟨⟨HPR.out, rowL_ok M (fun _ => coSum A x pv i) 0, by rw [bL_len]; omega⟩, ⟨HPR.out, sclC_okN (by omega) _, by rw [sclC_len, rowL_len]; omega⟩, by rw [bL_len, sclC_len, rowL_len], rfl⟩), .inr ⟨rfl, ?_⟩⟩
          rw [← hcc2]
          exact (coSum_next M A x pv i).symm
        clear hcell hui HZr hcc2 hll hcc
        obtain ⟨lM, m0, m1, m2⟩ := PMr.out
        have neM := PMr.out.ne
        go_wp2_with fail
        go_region_held3 (fun w' => w'.cell? ⟨w1.heap.size, 0, none⟩ = some (.int .i64 (u : Int)) ∧ w'.cell? ⟨w1.heap.size, 2, none⟩ = some (.slice (some ⟨g, o, none⟩) r vc) ∧ w'.cell? ⟨g, o + i, none⟩ = some (.slice ra M rc) ∧ w'.cell? ⟨lb, lo + i, none⟩ = some (.int .i64 (fv cc))) (go_keep)
          (first
            | (go_at_call 20; go_loud (refine (specSclV_any (by first | with_reducible exact HR.out | with_reducible exact IntsAt.drew HR.out) HSC.out).mono ?_; rintro e w8 ⟨v8, rfl, ho, hb'⟩; have hb : Below wr.heap.size wr w8 := (by first | with_reducible exact hb' | with_reducible exact undrew hb'); have HP8 := Lib.hid (ho.at (by rw [sclC_len, rowL_len]; omega)); obtain ⟨v8a, v8c, rfl⟩ := ho.slice; have d8 := (hb.cell (p := ⟨g, o + i, none⟩) hg).trans d0; have d9 := (hb.cell (p := ⟨lb, lo + i, none⟩) hlb).trans d1; have PM8 := Lib.hid (PMr.out.on hb); obtain ⟨_, _, _, _⟩ := PM8.out)))
        all_goals
          have HB8 := Lib.hid (HBr.out.trans (hb.mono hsr))
          have HS8 := Lib.hid (HSM.out.on hb)
          have hs8 := HB8.out.size
          clear ho hb hb'
          go_wp2_with fail
          refine (specAddV_any (HS8.out.at (by rw [bL_len]; omega)) HP8.out HAD.out).mono ?_
          rintro e w9 ⟨v9, rfl, ho9, hb9⟩
          have HB9 := Lib.hid (HB8.out.trans (hb9.mono hs8))
          have HS9 : Hid (OwnI w4.heap.size w9 v9 (bL M (coSum A x pv (i + 1)))) := ho9.mono (by omega)
          obtain ⟨v9a, v9c, rfl⟩ := ho9.slice
          clear ho9 hb9
          go_wp2_with fail
          go_roundw
          case rel => exact ⟨i + 1, by omega, by go_num, HS9, HB9⟩
          case measure => simp [intOf]; omega
      · obtain rfl : r = i := by omega
        rename World => w6
        have HX2 := Lib.hid (HX2.out.on HBr.out)
        have hsum := HSM.out
        rw [HALL.out] at hsum
        have HSA := Lib.hid (hsum.at (by rw [bL_len]; omega))
        have HB := Lib.hid (HB.out.trans (HBr.out.mono hs5))
        have hs6 := HB.out.size
        clear HBr hsr hsum HSM
        go_wp2_with fail
        refine (nums10_any HSA.out HX2.out.1).mono ?_
        rintro e w7 ⟨rfl, nd, rfl⟩
        have HB := Lib.hid (below_drewX HB.out nd)
        have hs7 := HB.out.size
        clear HSA HX2
        have H1 := Lib.hid (H1.out.on HB.out)
        go_wp2_with fail
        refine (drawRowsOf_any _ a1 l1 c1 H1.out).mono ?_
        rintro e x1 ⟨P2, N2, v2, yy, rfl, ho, hyl, hyr, hb⟩
        have hfy : FitR yy := fit_le (by omega) (fun zs hz => by have := hyr zs hz; omega)
        have HY := Lib.hid (ho.atD hfy)
        obtain ⟨ya, yc, rfl⟩ := ho.slice
        have HB := Lib.hid (HB.out.trans (hb.mono hs7))
        have hs1 := HB.out.size
        clear ho hb hyr
        go_wp2_with fail
        obtain ⟨P3, N3, Z3, k3, hsp⟩ := spRes_has P2 N2 yy
        have HSP := Lib.hid hsp
        refine (implSpO_any HY.out HSP.out).mono ?_
        rintro e x2 ⟨v3, rfl, ho, hb⟩
        have HY := Lib.hid (HY.out.on hb)
        have HB := Lib.hid (HB.out.trans (hb.mono hs1))
        have hs2 := HB.out.size
        rcases hsp with ⟨_, rfl, rfl, rfl, rfl⟩ | ⟨rfl, rfl, rfl, qq, M2, iq2, rfl, rfl, hq2, hM2, hv2, rfl⟩
        · obtain ⟨sa, sc, rfl⟩ := ho.slice
          have HB := Lib.hid (al1 HB.out (.cells #[.int .i64 0, .int .i64 0, .slice sa 0 sc] 32))
          clear ho hb HSP
          simp only [List.length_nil]
          go_wp2_with fail
          go_ret
          exact ⟨rfl, HB.out⟩
        · have hV3 := vis_basOf hq2 hM2 yy.length (mat qq yy)
          have hfz : FitR (bas qq M2 yy) := HSP.out.fit
          have HZ := Lib.hid (ho.atD hfz)
          have HVB : Hid (true = vB qq M2 (bas qq M2 yy)) := (vB_yes hV3.ok).symm
          have HCON : Hid (∀ i (h : i < yy.length), ConRes qq M2 (bas qq M2 yy) yy[i] true) := fun i h => con_row hq2 hM2 hv2 h
          have hle : (bas qq M2 yy).length ≤ yy.length := by
            have h1 : (bas qq M2 yy).length = (red yy.length (mat qq yy) M2).piv.length := by unfold bas basOf; rw [rowsOf_len]
            rw [h1]; exact piv_le_rows (fd_of hq2) _ _ _
          obtain ⟨ss, hss⟩ : ∃ ss, bas qq M2 yy = ss := ⟨_, rfl⟩
          rw [hss] at ho HZ HVB HCON hle
          obtain ⟨sa, sc, rfl⟩ := ho.slice
          have hle2 : decide ((ss.length : Int) ≤ (yy.length : Int)) = true := by simpa using hle
          have hle3 : (ss.length : Int) ≤ (yy.length : Int) := by omega
          have PV0 := PtV.new x2 qq M2 (.slice sa ss.length sc) 32
          have b5 := al1 (Below.refl x2.heap.size x2) (.cells #[.int .i64 (qq : Int), .int .i64 (M2 : Int), .slice sa ss.length sc] 32)
          clear ho hb HSP hss hfz hV3 hv2 hle
          go_wp2_with fail
          generalize hW : World.alloc x2 (.cells #[.int .i64 (qq : Int), .int .i64 (M2 : Int), .slice sa ss.length sc] 32) = x3 at PV0 b5 ⊢
          have PV := Lib.hid PV0
          have HY := Lib.hid (HY.out.on b5)
          have HZ := Lib.hid (HZ.out.on b5)
          have HB := Lib.hid (HB.out.trans (b5.mono hs2))
          have hs3 := HB.out.size
          clear hW PV0 b5
          go_loopw [20] (fun si wr => ∃ i : Nat, i ≤ yy.length ∧ si = .int .i64 (i : Int) ∧ Hid (Below x3.heap.size x3 wr)) (fun si _ => yy.length - (intOf si).toNat)
          case atStart => exact ⟨0, Nat.zero_le _, rfl, Lib.hid (Below.refl _ _)⟩
          case round =>
            obtain ⟨i, hi1, rfl, HBr⟩ := hrel
            have hsr := HBr.out.size
            by_cases hlt : i < yy.length
            · have n0 : (0 : Int) ≤ (i : Int) := by omega
              have n1 : (i : Int) < (yy.length : Int) := by omega
              have PVr := Lib.hid (PV.out.on HBr.out)
              have HYr := HY.out.on HBr.out
              have HZr := Lib.hid (HZ.out.on HBr.out)
              obtain ⟨g, o, cap, u1, e, hg, d0, hui⟩ := HYr.2.at hlt
              simp only [Value.slice.injEq, true_and] at e
              obtain ⟨rfl, rfl⟩ := e
              rw [getD_row hlt] at hui
              have HR := Lib.hid hui
              obtain ⟨ra, rc, rfl⟩ := hui.1.slice
              clear hui HYr
              obtain ⟨lV, v0, v1, v2⟩ := PVr.out
              have neV := PVr.out.ne
              go_wp2_with fail
              go_region_held3 (fun w' => w'.cell? ⟨x2.heap.size, 0, none⟩ = some (.int .i64 (qq : Int)) ∧ w'.cell? ⟨x2.heap.size, 1, none⟩ = some (.int .i64 (M2 : Int)) ∧ w'.cell? ⟨x2.heap.size, 2, none⟩ = some (.slice sa ss.length sc) ∧ w'.cell? ⟨g, o + i, none⟩ = some (.slice ra yy[i].length rc)) (go_keep)
                (first
                  | (go_at_call 25; go_loud (refine (specCon_any (by first | with_reducible exact HZr.out | with_reducible exact RowsD.drew HZr.out) (by first | with_reducible exact HR.out | with_reducible exact IntsC.drew HR.out) (HCON.out i hlt)).mono ?_; rintro e x4 ⟨rfl, hb'⟩; have hb : Below wr.heap.size wr x4 := (by first | with_reducible exact hb' | with_reducible exact undrew hb'); have d4 := (hb.cell (p := ⟨g, o + i, none⟩) hg).trans d0; obtain ⟨_, _, _, _⟩ := PVr.out.on hb)))
              all_goals
                have HB4 := Lib.hid (HBr.out.trans (hb.mono hsr))
                clear hb hb'
                go_wp2_with fail
                go_roundw
                case rel => exact ⟨i + 1, by omega, by go_num, HB4⟩
                case measure => simp [intOf]; omega
            · obtain rfl : yy.length = i := by omega
              rename World => x5
              have PV := Lib.hid (PV.out.on HBr.out)
              have HZ := Lib.hid (HZ.out.on HBr.out)
              have HB := Lib.hid (HB.out.trans (HBr.out.mono hs3))
              have hs5 := HB.out.size
              clear HBr hsr
              obtain ⟨lV, v0, v1, v2⟩ := PV.out
              go_wp2_with fail
              refine (specVS_is HZ.out HVB.out).mono ?_
              rintro e x6 ⟨rfl, hb⟩
              have PV := Lib.hid (PV.out.on hb)
              have HB := Lib.hid (HB.out.trans (hb.mono hs5))
              clear hb lV v0 v1 v2
              obtain ⟨lV, v0, v1, v2⟩ := PV.out
              go_wp2_with fail
              go_ret
              exact ⟨by simp, HB.out⟩
set_option maxRecDepth 100000 in
theorem coordinates_long (a0 : Option Addr) (l0 c0 : Nat) (a1 : Option Addr) (l1 c1 : Nat) (w : World) (h : 1048576 < l0 ∨ 1048576 < l1) :
    Calls Try.prog 4 #[.slice a0 l0 c0, .slice a1 l1 c1] w fun e w' => e = .returned (.bool true) ∧ Below w.heap.size w w' := by
  by_cases h0 : 1048576 < l0
  · go_enter Try.func4, Try.ntmps4
    go_wp2_with fail
    refine (long10_yes a0 l0 c0 w h0).mono ?_
    rintro e w' ⟨rfl, rfl⟩
    go_wp2_with fail
    go_ret
    exact ⟨rfl, Below.refl _ _⟩
  · go_enter Try.func4, Try.ntmps4
    go_wp2_with fail
    refine (long10_no a0 l0 c0 w (by omega)).mono ?_
    rintro e w' ⟨rfl, rfl⟩
    go_wp2_with fail
    refine (long10_yes a1 l1 c1 w (by omega)).mono ?_
    rintro e w' ⟨rfl, rfl⟩
    go_wp2_with fail
    go_ret
    exact ⟨rfl, Below.refl _ _⟩
theorem coordinates_of (a0 : Option Addr) (l0 c0 : Nat) (z0 : List Int) (a1 : Option Addr) (l1 c1 : Nat) (z1 : List Int) (w : World)
    (h0 : (a0 = none ∧ l0 = 0 ∧ c0 = 0 ∧ z0 = []) ∨ ∃ x, a0 = some x ∧ l0 ≤ c0 ∧ c0 ≤ maxLen ∧ z0.length = c0 ∧ (∀ i, i < z0.length → w.cell? (x.add i) = some (.int .u8 (z0.getD i 0))) ∧ ∀ n ∈ z0, (Lit.int .u8 n).wf = true)
    (h1 : (a1 = none ∧ l1 = 0 ∧ c1 = 0 ∧ z1 = []) ∨ ∃ x, a1 = some x ∧ l1 ≤ c1 ∧ c1 ≤ maxLen ∧ z1.length = c1 ∧ (∀ i, i < z1.length → w.cell? (x.add i) = some (.int .u8 (z1.getD i 0))) ∧ ∀ n ∈ z1, (Lit.int .u8 n).wf = true) :
    Calls Try.prog 4 #[.slice a0 l0 c0, .slice a1 l1 c1] w fun e w' => e = .returned (.bool true) ∧ Below w.heap.size w w' := by
  by_cases h : 1048576 < l0 ∨ 1048576 < l1
  · exact coordinates_long a0 l0 c0 a1 l1 c1 w h
  · exact coordinates_walk a0 l0 c0 a1 l1 c1 w (bytes_in (by omega) h0) (bytes_in (by omega) h1)
end Go.Proofs.Ytpimnngomodnhaa
