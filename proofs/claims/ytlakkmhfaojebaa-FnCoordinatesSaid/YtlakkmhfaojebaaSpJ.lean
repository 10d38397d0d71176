/-
  The rows of a kernel, by the model.
-/
import Derived.Test.YtlakkmhfaojebaaSpI
import Derived.Test.YtlakkmhfaojebaaSpH
namespace Go.Proofs.Ytlakkmhfaojebaa
open Go.RowKit
open Lin
set_option linter.unusedVariables false
set_option linter.unusedSectionVars false

theorem l03Mod_neg (x p : Int) (w : World) (h0 : 0 ≤ x) (h1 : x ≤ 100000) (p0 : 2 ≤ p) (p1 : p ≤ 251) :
    Calls Try.prog 143 #[.int .i64 (-x), .int .i64 p] w fun e w' => e = .returned (.int .i64 ((-x) % p)) ∧ w = w' := by
  have kz : ¬ p = 0 := by omega
  have hb := tmod_bd (-x) p (by omega)
  have hm := tmod_mod (-x) p (by omega)
  obtain ⟨r, hr⟩ : ∃ r, (-x).tmod p = r := ⟨_, rfl⟩
  rw [hr] at hb hm
  obtain ⟨b0, b1⟩ := hb
  have e1 : IntKind.i64.wrap r = r := IntWalk.i64_in _ (by omega)
  have e2 : IntKind.i64.wrap (r + p) = r + p := IntWalk.i64_in _ (by omega)
  have e3 : (r + p).tmod p = (-x) % p := by rw [Int.tmod_eq_emod_of_nonneg (by omega), Int.add_emod_right, hm]
  have y0 := Int.emod_nonneg (-x) kz
  have y1 := Int.emod_lt_of_pos (-x) (show 0 < p by omega)
  obtain ⟨y, hy⟩ : ∃ y, (-x) % p = y := ⟨_, rfl⟩
  rw [hy] at e3 y0 y1 ⊢
  have e4 : IntKind.i64.wrap y = y := IntWalk.i64_in _ (by omega)
  clear hy hm
  go_enter Try.func143, Try.ntmps143
  go_wp2
  go_ret
  exact ⟨rfl, rfl⟩
set_option maxRecDepth 100000 in
set_option maxHeartbeats 6400000 in
theorem l03Kernel_any {q m n : Nat} [NeZero q] {A : Mt q} {L : Nat} {v : Value} {w : World} (hp : PtM w L q m n v) (hv : IntsC w v (flat m n A)) (hq : IsPr (q : Int)) (hm : m ≤ 1024) (hn : n ≤ 64) :
    Calls Try.prog 129 #[.pointer (some ⟨L, 0, none⟩)] w fun e w' => RetR w (kerR n (red m A n).A (red m A n).piv (freeL (red m A n).piv n)) e w' := by
  have hpm := piv_le_rows (fd_of hq) m n A
  have hI := red_inv (fd_of hq) m A n
  have hmn : m * n ≤ 65536 := Nat.mul_le_mul hm hn
  obtain ⟨i0, hi0, hz0, hz1, hz2⟩ := info_parts info_r
  have HV := Lib.hid hv
  have HP := Lib.hid hp
  have HQ := Lib.hid hq
  obtain ⟨av, cv, rfl, -, -⟩ := hv.1
  obtain ⟨N0, hN0⟩ : ∃ N0, m * n = N0 := ⟨_, rfl⟩
  have HN0 := Lib.hid hN0
  obtain ⟨s, hs⟩ : ∃ s, red m A n = s := ⟨_, rfl⟩
  have HS := Lib.hid hs
  rw [hs] at hpm hI ⊢
  rw [hN0] at hmn
  obtain ⟨r, hr⟩ : ∃ r, s.piv.length = r := ⟨_, rfl⟩
  have HR := Lib.hid hr
  have HI := Lib.hid hI
  rw [hr] at hpm
  have hq2 : (2 : Int) ≤ q := hq.1
  have hq3 : (q : Int) ≤ 251 := hq.2.1
  clear hq hs hr hN0 hv hp hI
  go_enter Try.func129, Try.ntmps129
  go_wp2_with fail
  refine (l03Reduced_big HP.out HV.out HQ.out (by omega) hn (by rw [HN0.out]; omega)).mono ?_
  rintro e w2 ⟨v2, pv, rfl, ho, hop, hb, -⟩
  rw [HS.out] at ho hop
  have HF := Lib.hid (ho.atC (by rw [flat_len, HN0.out]; omega))
  obtain ⟨fa, fc, rfl⟩ := ho.slice
  have HPV := Lib.hid (hop.at (by rw [pivI_len, HR.out]; omega))
  obtain ⟨pa, pc, rfl⟩ := hop.slice
  simp only [flat_len, HN0.out, pivI_len, HR.out] at HF HPV ⊢
  have HB := Lib.hid hb
  have HP := Lib.hid (HP.out.on hb)
  have hs3 := hb.size
  clear ho hop hb HV
  go_wp2_with fail
  have bb := al1 (Below.refl w2.heap.size w2) (.cells #[.int .i64 q, .int .i64 m, .int .i64 n, .slice fa N0 fc] 26)
  have Pf := PtM.new w2 (q : Int) (m : Int) (n : Int) (.slice fa N0 fc) 26
  generalize hW : World.alloc w2 (.cells #[.int .i64 q, .int .i64 m, .int .i64 n, .slice fa N0 fc] 26) = W2 at bb Pf ⊢
  obtain ⟨X2, hX2⟩ : ∃ X, w2.heap.size = X := ⟨_, rfl⟩
  have hs4 : X2 + 1 ≤ W2.heap.size := by rw [← hW, ← hX2]; simp
  have HS4 : Hid (W2.heap.size = X2 + 1) := by show _ = _; rw [← hW, ← hX2]; simp
  rw [hX2] at Pf hs3 ⊢
  have HPf := Lib.hid Pf
  have HF := Lib.hid (HF.out.on bb)
  have HPV := Lib.hid (HPV.out.on bb)
  have HP := Lib.hid (HP.out.on bb)
  have HB := Lib.hid (HB.out.trans (bb.mono (by omega)))
  clear bb hW Pf
  have hmm := OwnRI.made W2 (X2 + 1) hs4
  rw [HS4.out] at hmm
  have HM := Lib.hid hmm
  clear hmm
  have bm := (Below.refl W2.heap.size W2).alloc (Nat.le_refl _) (.cells #[] 24)
  have HBM := Lib.hid bm
  clear bm
  go_loopw [7, 6] (fun si so wr => ∃ k : Nat, k ≤ n ∧ si = .int .i64 (k : Int) ∧ Hid (OwnRI (X2 + 1) wr so (kerR n s.A s.piv (freeL s.piv k))) ∧ Hid (Below W2.heap.size W2 wr)) (fun si _ _ => n - (intOf si).toNat)
  case atStart => exact ⟨0, Nat.zero_le _, rfl, HM.out, HBM.out⟩
  case round =>
    obtain ⟨k, hk, rfl, HX, HK⟩ := hrel
    rename World => wo
    obtain ⟨oa, oc, rfl⟩ := HX.out.slice
    have sk := HK.out.size
    have HPk := Lib.hid (HP.out.on HK.out)
    obtain ⟨lM, m0, m1, m2, m3⟩ := HPk.out
    by_cases hlt : k < n
    · have k0 : (0 : Int) ≤ (k : Int) := by omega
      have k1 : (k : Int) < (n : Int) := by omega
      have vi : IntKind.i64.wrap ((k : Int) + 1) = (k : Int) + 1 := IntWalk.i64_in _ (by omega)
      by_cases hin : k ∈ s.piv
      · have hT : decide ((k : Int) ∈ pivI s.piv) = true := by simp only [decide_eq_true_eq]; exact mem_pivI.2 hin
        have HT := Lib.hid hT
        have HF1 : Hid (freeL s.piv (k + 1) = freeL s.piv k) := freeL_in hin
        clear hT hin
        go_wp2_with fail
        refine (l00Has_is (HPV.out.on HK.out) HT.out).mono ?_
        rintro e wc ⟨rfl, rfl⟩
        go_wp2
        go_roundw
        case rel => exact ⟨k + 1, by omega, by go_num, by rw [HF1.out]; exact HX.out, HK.out⟩
        case measure => simp [intOf]; omega
      · have hT : decide ((k : Int) ∈ pivI s.piv) = false := by simp only [decide_eq_false_iff_not]; exact fun h => hin (mem_pivI.1 h)
        have HT := Lib.hid hT
        have HNI : Hid (k ∈ s.piv → False) := hin
        clear hT hin
        have hmk := run_make_row' (P := Try.prog) 24 2 (.int .i64 0) 8 Try.underlying24 info_i rfl .i64 .i64 n (by omega) (by omega)
        have hrow := World.rowIs_made wo (.int .i64 0) n 2
        go_wp2_with fail
        refine (l00Has_is (HPV.out.on HK.out) HT.out).mono ?_
        rintro e wc ⟨rfl, rfl⟩
        have g1 := hrow.cell (i := k) hlt
        have f1 := hrow.frozen k
        have HG3 : Hid (wo.heap.size < (wo.alloc (.cells (madeCells #[.int .i64 0] n) 2)).heap.size) := hrow.lt
        have es := World.setCell_alloc_new (w := wo) (madeCells #[.int .i64 0] n) 2 k (.int .i64 1)
        have h3 : Hid ((wo.alloc (.cells ((madeCells #[.int .i64 0] n).setIfInBounds k (.int .i64 1)) 2)).rowIs wo.heap.size 2 n (KF s.A s.piv k 0)) := by
          show World.rowIs _ _ _ _ _
          rw [← es]
          exact (hrow.set k _).congr fun l _ => KF_zero (by omega) s.A s.piv k l
        have hg3 : Hid (wo.grownBy (wo.alloc (.cells ((madeCells #[.int .i64 0] n).setIfInBounds k (.int .i64 1)) 2)) none) := ⟨rfl, rfl, rfl, by simp, fun i hi _ => Deep.blk_alloc_lt wo _ i hi⟩
        clear es
        clear hrow
        go_wp2_with fail
        obtain ⟨H3, hH3⟩ : ∃ H, wo.heap.size = H := ⟨_, rfl⟩
        rw [hH3] at h3 HG3 sk lM ⊢
        generalize hW3 : World.alloc wo (.cells ((madeCells #[.int .i64 0] n).setIfInBounds k (.int .i64 1)) 2) = W3 at h3 hg3 ⊢
        have hz3 : H3 < W3.heap.size := by rw [← hW3]; simpa using HG3.out
        have HB3 : Hid (Below wo.heap.size wo W3) := ⟨hg3.out.os, hg3.out.tape, hg3.out.output, hg3.out.size, fun i hi => hg3.out.block i hi (by simp)⟩
        have HK3 := Lib.hid (HK.out.trans (HB3.out.mono HK.out.size))
        have HRW := Lib.hid hH3
        clear hW3 hg3 g1 f1 HG3 hmk m0 m1 m2 m3 hH3
        go_loopw [9] (fun si wx => ∃ i : Nat, i ≤ r ∧ si = .int .i64 (i : Int) ∧ Hid (wx.rowIs H3 2 n (KF s.A s.piv k i)) ∧ Hid (W3.grownBy wx (some H3))) (fun si _ => r - (intOf si).toNat)
        case atStart => exact ⟨0, Nat.zero_le _, rfl, h3.out, grown_refl _ _⟩
        case round =>
          obtain ⟨i, hi, rfl, HY, HG⟩ := hrel
          have HKx := Lib.hid (below_gb HK3.out HG.out (by omega) (by omega))
          have sx := HKx.out.size
          have sg := HG.out.size
          by_cases hir : i < r
          · obtain ⟨lM', m0, m1, m2, m3⟩ := HP.out.on HKx.out
            obtain ⟨lF, x0, x1, x2, x3⟩ := HPf.out.on HKx.out
            have i0' : (0 : Int) ≤ (i : Int) := by omega
            have i1' : (i : Int) < (r : Int) := by omega
            have him : i < m := by omega
            have hip : i < s.piv.length := by rw [HR.out]; exact hir
            obtain ⟨pb, po, rfl, hpb, c1⟩ : ∃ b o, pa = some ⟨b, o, none⟩ ∧ b < W2.heap.size ∧ W2.cell? ⟨b, o + i, none⟩ = some (.int .i64 ((s.piv[i] : Nat) : Int)) := by
              obtain ⟨a', c', e', -, h | ⟨b, o, rfl, hb, h⟩⟩ := HPV.out
              · exfalso; have h0 : s.piv.length = 0 := by rw [← pivI_len, h]; rfl
                omega
              · have := h i (by rw [pivI_len]; exact hip)
                rw [pivI_at] at this
                simp only [Value.slice.injEq] at e'
                exact ⟨b, o, e'.1, hb, this⟩
            have hyl : i * n + k < N0 := by rw [← HN0.out]; exact idx_lt him hlt
            obtain ⟨fb, fo, rfl, hfb, c2⟩ : ∃ b o, fa = some ⟨b, o, none⟩ ∧ b < W2.heap.size ∧ W2.cell? ⟨b, o + (i * n + k), none⟩ = some (.int .i64 (fv (s.A i k))) := by
              obtain ⟨a', c', e', -, h | ⟨b, o, rfl, hb, h⟩⟩ := HF.out.1
              · exfalso; have h0 := flat_len m n s.A; rw [h, HN0.out] at h0; simp at h0; omega
              · have := h (i * n + k) (by rw [flat_len, HN0.out]; exact hyl)
                rw [flat_ij m n s.A him hlt] at this
                simp only [Value.slice.injEq] at e'
                exact ⟨b, o, e'.1, hb, this⟩
            have d1 := (HKx.out.cell (p := ⟨pb, po + i, none⟩) hpb).trans c1
            have d2 := (HKx.out.cell (p := ⟨fb, fo + (i * n + k), none⟩) hfb).trans c2
            obtain ⟨x, hx⟩ : ∃ x, s.piv[i] = x := ⟨_, rfl⟩
            rw [hx] at d1
            have hxn : x < n := by rw [← hx]; exact HI.out.small i hip
            obtain ⟨y, hy⟩ : ∃ y, fv (s.A i k) = y := ⟨_, rfl⟩
            have y0 := fv_nn (s.A i k)
            have y1 := fv_lt (s.A i k)
            have hneg : (-fv (s.A i k)) % (q : Int) = fv (-(s.A i k)) := fv_neg (s.A i k)
            rw [hy] at d2 y0 y1 hneg
            have n1 : IntKind.i64.wrap (-y) = -y := IntWalk.i64_in _ (by omega)
            obtain ⟨z1, hz1'⟩ : ∃ z, i * n = z := ⟨_, rfl⟩
            rw [hz1'] at hyl d2
            obtain ⟨z2, hz2'⟩ : ∃ z, z1 + k = z := ⟨_, rfl⟩
            rw [hz2'] at hyl d2
            have w1 : IntKind.i64.wrap ((i : Int) * (n : Int)) = (z1 : Int) := by rw [← Int.natCast_mul, hz1']; exact IntWalk.i64_in _ (by omega)
            have w2' : IntKind.i64.wrap ((z1 : Int) + (k : Int)) = (z2 : Int) := by rw [← Int.natCast_add, hz2']; exact IntWalk.i64_in _ (by omega)
            have a0 : (0 : Int) ≤ (z2 : Int) := by omega
            have a1 : (z2 : Int) < (N0 : Int) := by omega
            have b0 : (0 : Int) ≤ (x : Int) := by omega
            have b1 : (x : Int) < (n : Int) := by omega
            have c3 := HY.out.cell (i := x) hxn
            have f3 := HY.out.frozen x
            have hcc := (l03Mod_neg y (q : Int) wr.drew (by omega) (by omega) (by omega) (by omega)).mono (fun e w' (h : e = .returned (.int .i64 ((-y) % q)) ∧ wr.drew = w') => (⟨h.1, h.2.symm⟩ : e = .returned (.int .i64 ((-y) % q)) ∧ w' = wr.drew))
            obtain ⟨Y, hY⟩ : ∃ Y, (-y) % (q : Int) = Y := ⟨_, rfl⟩
            rw [hY] at hcc hneg
            have HCC := Lib.hid hcc
            have HNX : Hid (∀ l, (if l = x then (.int .i64 Y : Value) else KF s.A s.piv k i l) = KF s.A s.piv k (i + 1) l) := fun l => by rw [hneg]; exact KF_next hip hx HI.out.mono HNI.out l
            clear hcc hY hneg hx hy hz1' hz2' c1 c2 hip hpb hfb
            go_wp2_with fail
            go_still_tail 24, (by kernel_rfl)
            still_call HCC.out
            repeat still_step
            refine wpStill_nil ?_
            change wpList _ _ _ _ _ wr.drew
            go_wp2_with fail
            have HY2 : Hid ((wr.drew.setCell ⟨H3, x, none⟩ (.int .i64 Y)).rowIs H3 2 n (KF s.A s.piv k (i + 1))) := (HY.out.drew.set x _).congr fun l _ => HNX.out l
            have HG2 : Hid (W3.grownBy (wr.drew.setCell ⟨H3, x, none⟩ (.int .i64 Y)) (some H3)) := gb_set (gb_drew HG.out) _
            go_roundw
            case rel => exact ⟨i + 1, by omega, by go_num, HY2.out, HG2.out⟩
            case measure => simp [intOf]; omega
          · obtain rfl : i = r := by omega
            have hrw : OwnI H3 wr (.slice (some ⟨H3, 0, none⟩) n n) (kRow n s.A s.piv k) := by
              have h := OwnI.of_row (B := H3) (g := H3) (w := wr) (zs := kRow n s.A s.piv k) (by
                rw [kRow_len]
                refine HY.out.congr fun l hl => ?_
                rw [getD_in (by rw [kRow_len]; exact hl), kRow_at, ← KF_all, HR.out]) (Nat.le_refl _) (by rw [kRow_len]; omega)
              rw [kRow_len] at h
              exact h
            have hbc : Below wo.heap.size wo wr := below_gb HB3.out HG.out (by rw [HRW.out]; exact Nat.le_refl _) HB3.out.size
            rw [← HRW.out] at hrw
            have HC := Lib.hid hrw
            have HBC := Lib.hid hbc
            rw [HRW.out] at HC
            have sc := hbc.size
            have hfl := freeL_len s.piv k
            obtain ⟨L0, hL⟩ := HX.out
            have HL := Lib.hid hL
            have HRL : Hid ((kerR n s.A s.piv (freeL s.piv k)).length = (freeL s.piv k).length) := kerR_len _ _ _ _
            have HRO : Hid (kerR n s.A s.piv (freeL s.piv (k + 1)) = kerR n s.A s.piv (freeL s.piv k) ++ [kRow n s.A s.piv k]) := by
              show _ = _; rw [freeL_out HNI.out, kerR_app]
            obtain ⟨M, hM⟩ : ∃ M, (kerR n s.A s.piv (freeL s.piv k)).length = M := ⟨_, rfl⟩
            have hM2 : M ≤ k := by rw [← hM, kerR_len]; exact hfl
            have HM := Lib.hid hM
            rw [hM] at HL HX
            simp only [hM]
            have hwo : W2.heap.size ≤ wo.heap.size := by rw [HRW.out]; exact sk
            clear hrw hbc hL hfl hM
            go_wp2_with (at_builtin; refine wpList_append_place _ rfl _ _ 28 rfl (X2 + 1) 24 i0 (.slice none 0 0) 24 Try.underlying28 hi0 hz0 hz1 hz2 rfl _ M L0 rfl (by have h := (HL.out.on HBC.out).row; rw [HM.out] at h; exact h.alloc _) ⟨wr.heap.size, 0, none⟩ _ (.slice (some ⟨H3, 0, none⟩) n n) rfl (row_val _ _ _) (fun y hy => by simp at hy; rw [hy]; rfl) (by unfold maxLen; omega) (by omega) (by rw [World.size_alloc]; omega) ?_; intro v3 w3 hr3 hg3 hv3)
            have hp3 := OwnRI.push HL.out (by rw [HRW.out]; exact HC.out) HBC.out (by omega) (by rw [HM.out]; exact hr3) hg3 (fun g hg => (hv3 g hg).imp id (fun h => by rw [World.size_alloc] at h; omega))
            rw [← HRO.out] at hp3
            have HX3 := Lib.hid hp3
            have HK3 := Lib.hid (below_pushR HK.out (by have := HS4.out; omega) (by omega) HX.out HBC.out hg3)
            clear hp3 hr3 hg3 hv3 HX HK HL HC HBC
            go_wp2
            go_roundw
            case rel => exact ⟨k + 1, by omega, by go_num, HX3.out, HK3.out⟩
            case measure => simp [intOf]; omega
    · obtain rfl : k = n := by omega
      have HB2 := Lib.hid (HB.out.trans (HK.out.mono (by omega)))
      go_wp2
      go_ret
      exact ⟨_, rfl, HX.out.mono (by omega), HB2.out⟩
end Go.Proofs.Ytlakkmhfaojebaa
