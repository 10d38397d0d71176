/-
  KernelOf of the model and of the program.
-/
import Derived.Test.YtpimnngomodnhaaSpJ
import Derived.Test.YtpimnngomodnhaaPG
namespace Go.Proofs.Ytpimnngomodnhaa
open Go.RowKit
open Lin
set_option linter.unusedVariables false
set_option linter.unusedSectionVars false

/-- Rows and a code. -/
def RetRC (zz : List (List Int)) (k : Int) (w : World) (e : Ending) (w' : World) : Prop :=
  ∃ v, e = .returned (.tuple #[v, .int .i64 k]) ∧ OwnRI w.heap.size w' v zz ∧ Below w.heap.size w w'
/-- The rows of a kernel. -/
noncomputable def kerOf {q : Nat} [NeZero q] (m n : Nat) (A : Mt q) : List (List Int) := kerR n (red m A n).A (red m A n).piv (freeL (red m A n).piv n)
/-- What KernelOf answers. -/
def KerRes (p r c : Int) (xs : List Int) (Z : List (List Int)) (k : Int) : Prop :=
  (¬ MOk p r c xs ∧ Z = [] ∧ k = 1) ∨ (k = 0 ∧ ∃ (u : Nat) (_ : NeZero u) (m n : Nat) (A : Mt u), MIs p r c xs u m n A ∧ Z = kerOf m n A)
theorem kerRes_has (p r c : Int) (xs : List Int) : ∃ Z k, KerRes p r c xs Z k := by
  by_cases h : MOk p r c xs
  · obtain ⟨u, i, m, n, A, hA⟩ := h.form
    exact ⟨_, _, .inr ⟨rfl, u, i, m, n, A, hA, rfl⟩⟩
  · exact ⟨_, _, .inl ⟨h, rfl, rfl⟩⟩
theorem fit_kerOf {q : Nat} [NeZero q] {m n : Nat} (A : Mt q) (hn : n ≤ 1024) : FitR (kerOf m n A) := fit_kerR _ _ hn hn
theorem KerRes.fit {p r c : Int} {xs : List Int} {Z : List (List Int)} {k : Int} (h : KerRes p r c xs Z k) : FitR Z := by
  rcases h with ⟨_, rfl, _⟩ | ⟨_, u, _, m, n, A, hA, rfl⟩
  · exact FitR.nil
  · exact fit_kerOf _ (by have := hA.n32; omega)
set_option maxRecDepth 100000 in
set_option maxHeartbeats 3200000 in
theorem implKer_b {p r c : Int} {xs : List Int} {u : Value} {w : World} (hu : IntsC w u xs) (hk : ¬ MOk p r c xs) :
    Calls Try.prog 10 #[.agg #[.int .i64 p, .int .i64 r, .int .i64 c, u]] w fun e w' => RetRC [] 1 w e w' := by
  have HU := Lib.hid hu
  have HK : Hid (RfRes p r c xs 0 0 0 [] [] 1) := .inl ⟨hk, rfl, rfl, rfl, rfl, rfl, rfl⟩
  obtain ⟨a1, c1, rfl, hl1, -⟩ := hu.1
  clear hk hu
  go_enter Try.func10, Try.ntmps10
  go_wp2_with fail
  refine (implRf_any (HU.out.on (al1 (Below.refl _ _) _)) HK.out).mono ?_
  rintro e w1 ⟨v, pv, rfl, ho, hop, hb, -⟩
  have HB := Lib.hid (up1 hb)
  obtain ⟨va, vc, rfl⟩ := ho.slice
  clear ho hop hb
  go_wp2_with fail
  go_ret2
  exact ⟨_, rfl, OwnRI.nul _ _, al1 HB.out _⟩
set_option maxRecDepth 100000 in
set_option maxHeartbeats 6400000 in
theorem implKer_ok {q m n : Nat} [NeZero q] {A : Mt q} {u : Value} {w : World} (hu : IntsC w u (flat m n A)) (hA : MIs q m n (flat m n A) q m n A) :
    Calls Try.prog 10 #[.agg #[.int .i64 (q : Int), .int .i64 (m : Int), .int .i64 (n : Int), u]] w fun e w' => RetRC (kerOf m n A) 0 w e w' := by
  unfold kerOf
  have hpm := piv_le_rows (fd_of hA.pr) m n A
  have hI := red_inv (fd_of hA.pr) m A n
  have hm32 := hA.m32
  have hn32 := hA.n32
  have hmn : m * n ≤ 1024 := Nat.mul_le_mul hm32 hn32
  obtain ⟨i0, hi0, hz0, hz1, hz2⟩ := info_parts info_r
  have HU := Lib.hid hu
  have HA := Lib.hid hA
  have hq2 : (2 : Int) ≤ q := hA.pr.1
  have hq3 : (q : Int) ≤ 251 := hA.pr.2.1
  obtain ⟨av, cv, rfl, -, -⟩ := hu.1
  have Pa0 := PtM.new w q m n (.slice av (flat m n A).length cv) 26
  obtain ⟨s, hs⟩ : ∃ s, red m A n = s := ⟨_, rfl⟩
  have HS := Lib.hid hs
  rw [hs] at hpm hI ⊢
  obtain ⟨r, hr⟩ : ∃ r, s.piv.length = r := ⟨_, rfl⟩
  have HR := Lib.hid hr
  have HI := Lib.hid hI
  rw [hr] at hpm
  clear hs hr hu hA hI
  go_enter Try.func10, Try.ntmps10
  go_wp2_with fail
  refine (implRf_ok (HU.out.on (al1 (Below.refl _ _) _)) HA.out).mono ?_
  rintro e w1 ⟨v, pv, rfl, ho, hop, hb, -⟩
  rw [HS.out] at ho hop
  have HF := Lib.hid (ho.atC (by rw [flat_len]; omega))
  obtain ⟨fa, fc, rfl⟩ := ho.slice
  have HPV := Lib.hid (hop.at (by rw [pivI_len, HR.out]; omega))
  obtain ⟨pa, pc, rfl⟩ := hop.slice
  obtain ⟨N0, hN0⟩ : ∃ N0, m * n = N0 := ⟨_, rfl⟩
  have HN0 := Lib.hid hN0
  simp only [flat_len, pivI_len, HR.out] at HF HPV ⊢
  have HB := Lib.hid (up1 hb)
  have HP := Lib.hid (Pa0.on hb)
  have hs3 := HB.out.size
  clear ho hop hb HU Pa0 hN0
  have bb := al1 (Below.refl w1.heap.size w1) (.cells #[.int .i64 q, .int .i64 m, .int .i64 n, .slice fa (m * n) fc] 26)
  have Pf := PtM.new w1 (q : Int) (m : Int) (n : Int) (.slice fa (m * n) fc) 26
  go_wp2_with fail
  generalize hW : World.alloc w1 (.cells #[.int .i64 q, .int .i64 m, .int .i64 n, .slice fa (m * n) fc] 26) = W1 at bb Pf ⊢
  have HF := Lib.hid (HF.out.on bb)
  have HPV := Lib.hid (HPV.out.on bb)
  have HP := Lib.hid (HP.out.on bb)
  have HB := Lib.hid (HB.out.trans (bb.mono hs3))
  clear bb hW
  have hs4 := HB.out.size
  refine (implRows_any Pf HF.out (Below.refl _ _) hm32 (by omega)).mono ?_
  rintro e w2 ⟨H, ar, cc, rfl, hH, hH2, hri, hb⟩
  have HRI := Lib.hid hri
  have HPV := Lib.hid (HPV.out.on hb)
  have HP := Lib.hid (HP.out.on hb)
  have HB := Lib.hid (HB.out.trans (hb.mono hs4))
  have hs5 := hb.size
  clear hri hb Pf
  obtain ⟨lA, x0, x1, x2, x3⟩ := HP.out
  go_wp2_with fail
  refine (implFree_any HPV.out (by omega)).mono ?_
  rintro e w3 ⟨v3, rfl, ho, hb⟩
  have hfl := freeL_len s.piv n
  obtain ⟨F, hF⟩ : ∃ F, (freeL s.piv n).length = F := ⟨_, rfl⟩
  have HFL := Lib.hid hF
  rw [hF] at hfl
  have HFR := Lib.hid (ho.at (by rw [pivI_len, hF]; omega))
  obtain ⟨ga, gc, rfl⟩ := ho.slice
  simp only [pivI_len, hF] at HFR ⊢
  have HRI := Lib.hid (HRI.out.on (by omega) (by omega) hb)
  have HPV := Lib.hid (HPV.out.on hb)
  have HP := Lib.hid (HP.out.on hb)
  have hs6 := HB.out.size
  have HB := Lib.hid (HB.out.trans (hb.mono hs6))
  have hs7 := hb.size
  clear ho hb x0 x1 x2 x3 lA hF
  obtain ⟨B, hB⟩ : ∃ B, w3.heap.size = B := ⟨_, rfl⟩
  have HBW := Lib.hid hB
  go_wp2_with fail
  go_loopw [29, 8] (fun sj so wr => ∃ j : Nat, j ≤ F ∧ sj = .int .i64 (j : Int) ∧ Hid (OwnRI B wr so (kerR n s.A s.piv ((freeL s.piv n).take j))) ∧ Hid (Below B w3 wr)) (fun sj _ _ => F - (intOf sj).toNat)
  case atStart => exact ⟨0, Nat.zero_le _, rfl, OwnRI.nul _ _, Below.refl _ _⟩
  case round =>
    obtain ⟨j, hj, rfl, HX, HK⟩ := hrel
    rename World => wo
    obtain ⟨oa, oc, rfl⟩ := HX.out.slice
    have HK : Hid (Below w3.heap.size w3 wo) := by rw [HBW.out]; exact HK.out
    have sk := HK.out.size
    obtain ⟨M, hM⟩ : ∃ M, (kerR n s.A s.piv ((freeL s.piv n).take j)).length = M := ⟨_, rfl⟩
    have HM := Lib.hid hM
    rw [hM] at HX
    simp only [hM]
    have hM2 : M ≤ j := by rw [← hM, kerR_len, List.length_take]; omega
    clear hM
    have hs8 := HB.out.size
    by_cases hlt : j < F
    · have hjl : j < (freeL s.piv n).length := by rw [HFL.out]; exact hlt
      obtain ⟨k, hk⟩ : ∃ k, (freeL s.piv n)[j] = k := ⟨_, rfl⟩
      obtain ⟨hkn, hkp⟩ : k < n ∧ k ∉ s.piv := freeL_lt (by rw [← hk]; exact List.getElem_mem hjl)
      have HNI : Hid (k ∈ s.piv → False) := hkp
      obtain ⟨gb, go, rfl, hgb, c1⟩ : ∃ b o, ga = some ⟨b, o, none⟩ ∧ b < w3.heap.size ∧ w3.cell? ⟨b, o + j, none⟩ = some (.int .i64 (k : Int)) := by
        obtain ⟨a', c', e', -, h | ⟨b, o, rfl, hb, h⟩⟩ := HFR.out
        · exfalso; have h0 : (freeL s.piv n).length = 0 := by rw [← pivI_len, h]; rfl
          omega
        · have := h j (by rw [pivI_len]; exact hjl)
          rw [pivI_at, hk] at this
          simp only [Value.slice.injEq] at e'
          exact ⟨b, o, e'.1, hb, this⟩
      have d1 := (HK.out.cell (p := ⟨gb, go + j, none⟩) hgb).trans c1
      have HTK : Hid (kerR n s.A s.piv ((freeL s.piv n).take (j + 1)) = kerR n s.A s.piv ((freeL s.piv n).take j) ++ [kRow n s.A s.piv k]) := by
        show _ = _; rw [List.take_succ_eq_append_getElem hjl, hk, kerR_app]
      have j0 : (0 : Int) ≤ (j : Int) := by omega
      have j1 : (j : Int) < (F : Int) := by omega
      have k0 : (0 : Int) ≤ (k : Int) := by omega
      have k1 : (k : Int) < (n : Int) := by omega
      obtain ⟨lM, m0, m1, m2, m3⟩ := HP.out.on HK.out
      clear hkp hk hjl c1 hgb
      have hmk := run_make_row' (P := Try.prog) 24 2 (.int .i64 0) 8 Try.underlying24 info_i rfl .i64 .i64 n (by omega) (by omega)
      have hrow := World.rowIs_made wo (.int .i64 0) n 2
      have g1 := hrow.cell (i := k) hkn
      have f1 := hrow.frozen k
      have HG3 : Hid (wo.heap.size < (wo.alloc (.cells (madeCells #[.int .i64 0] n) 2)).heap.size) := hrow.lt
      have es := World.setCell_alloc_new (w := wo) (madeCells #[.int .i64 0] n) 2 k (.int .i64 1)
      have h3 : Hid ((wo.alloc (.cells ((madeCells #[.int .i64 0] n).setIfInBounds k (.int .i64 1)) 2)).rowIs wo.heap.size 2 n (KF s.A s.piv k 0)) := by
        show World.rowIs _ _ _ _ _
        rw [← es]
        exact (hrow.set k _).congr fun l _ => KF_zero (by omega) s.A s.piv k l
      have hg3 : Hid (wo.grownBy (wo.alloc (.cells ((madeCells #[.int .i64 0] n).setIfInBounds k (.int .i64 1)) 2)) none) := ⟨rfl, rfl, rfl, by simp, fun i hi _ => Deep.blk_alloc_lt wo _ i hi⟩
      clear es hrow
      go_wp2_with fail
      obtain ⟨H3, hH3⟩ : ∃ H, wo.heap.size = H := ⟨_, rfl⟩
      rw [hH3] at h3 HG3 sk lM ⊢
      generalize hW3 : World.alloc wo (.cells ((madeCells #[.int .i64 0] n).setIfInBounds k (.int .i64 1)) 2) = W3 at h3 hg3 ⊢
      have hz3 : H3 < W3.heap.size := by rw [← hW3]; simpa using HG3.out
      have HB3 : Hid (Below wo.heap.size wo W3) := ⟨hg3.out.os, hg3.out.tape, hg3.out.output, hg3.out.size, fun i hi => hg3.out.block i hi (by simp)⟩
      have HK3 := Lib.hid (HK.out.trans (HB3.out.mono HK.out.size))
      have HRW := Lib.hid hH3
      clear hW3 hg3 g1 f1 HG3 hmk m0 m1 m2 m3 hH3 d1
      go_loopw [41] (fun si wx => ∃ i : Nat, i ≤ r ∧ si = .int .i64 (i : Int) ∧ Hid (wx.rowIs H3 2 n (KF s.A s.piv k i)) ∧ Hid (W3.grownBy wx (some H3))) (fun si _ => r - (intOf si).toNat)
      case atStart => exact ⟨0, Nat.zero_le _, rfl, h3.out, grown_refl _ _⟩
      case round =>
        obtain ⟨i, hi, rfl, HY, HG⟩ := hrel
        have HKx := Lib.hid (below_gb HK3.out HG.out (by omega) (by omega))
        have sx := HKx.out.size
        have sg := HG.out.size
        by_cases hir : i < r
        · obtain ⟨lM', m0, m1, m2, m3⟩ := HP.out.on HKx.out
          have i0' : (0 : Int) ≤ (i : Int) := by omega
          have i1' : (i : Int) < (r : Int) := by omega
          have him : i < m := by omega
          have i2' : (i : Int) < (m : Int) := by omega
          have hip : i < s.piv.length := by rw [HR.out]; exact hir
          obtain ⟨pb, po, rfl, hpb, c1⟩ : ∃ b o, pa = some ⟨b, o, none⟩ ∧ b < w3.heap.size ∧ w3.cell? ⟨b, o + i, none⟩ = some (.int .i64 ((s.piv[i] : Nat) : Int)) := by
            obtain ⟨a', c', e', -, h | ⟨b, o, rfl, hb, h⟩⟩ := HPV.out
            · exfalso; have h0 : s.piv.length = 0 := by rw [← pivI_len, h]; rfl
              omega
            · have := h i (by rw [pivI_len]; exact hip)
              rw [pivI_at] at this
              simp only [Value.slice.injEq] at e'
              exact ⟨b, o, e'.1, hb, this⟩
          have hr1 := HRI.out.1 i him
          obtain ⟨rb, ro, har, hrb, c2⟩ := HRI.out.2 i k him hkn
          replace c2 : w3.cell? ⟨rb, ro + k, none⟩ = some (.int .i64 (fv (s.A i k))) := c2
          rw [har] at hr1
          have d0 := (HKx.out.cell (p := ⟨H, i, none⟩) (show H < w3.heap.size by omega)).trans hr1
          have d1 := (HKx.out.cell (p := ⟨pb, po + i, none⟩) hpb).trans c1
          have d2 := (HKx.out.cell (p := ⟨rb, ro + k, none⟩) (show rb < w3.heap.size by omega)).trans c2
          obtain ⟨x, hx⟩ : ∃ x, s.piv[i] = x := ⟨_, rfl⟩
          rw [hx] at d1
          have hxn : x < n := by rw [← hx]; exact HI.out.small i hip
          obtain ⟨y, hy⟩ : ∃ y, fv (s.A i k) = y := ⟨_, rfl⟩
          have y0 := fv_nn (s.A i k)
          have y1 := fv_lt (s.A i k)
          have hneg : (-fv (s.A i k)) % (q : Int) = fv (-(s.A i k)) := fv_neg (s.A i k)
          rw [hy] at d2 y0 y1 hneg
          have n1 : IntKind.i64.wrap (-y) = -y := IntWalk.i64_in _ (by omega)
          have b0 : (0 : Int) ≤ (x : Int) := by omega
          have b1 : (x : Int) < (n : Int) := by omega
          have c3 := HY.out.cell (i := x) hxn
          have f3 := HY.out.frozen x
          obtain ⟨ccl, hccl⟩ : ∃ z, cc i = z := ⟨_, rfl⟩
          rw [hccl] at d0
          have hcc := (implMod_any (-y) (q : Int) wr.drew (by omega) (by omega)).mono (fun e w' (h : e = .returned (.int .i64 ((-y) % q)) ∧ wr.drew = w') => (⟨h.1, h.2.symm⟩ : e = .returned (.int .i64 ((-y) % q)) ∧ w' = wr.drew))
          obtain ⟨Y, hY⟩ : ∃ Y, (-y) % (q : Int) = Y := ⟨_, rfl⟩
          rw [hY] at hcc hneg
          have HCC := Lib.hid hcc
          have HNX : Hid (∀ l, (if l = x then (.int .i64 Y : Value) else KF s.A s.piv k i l) = KF s.A s.piv k (i + 1) l) := fun l => by rw [hneg]; exact KF_next hip hx HI.out.mono HNI.out l
          clear hcc hY hneg hx hy c1 c2 hip hpb hrb hr1 har hccl
          go_wp2_with fail
          go_still_tail 14, (by kernel_rfl)
          still_call HCC.out
          repeat still_step
          refine wpStill_nil ?_
          change wpList _ _ _ _ _ wr.drew
          go_wp2_with fail
          have HY2 : Hid ((wr.drew.setCell ⟨H3, x, none⟩ (.int .i64 Y)).rowIs H3 2 n (KF s.A s.piv k (i + 1))) := (HY.out.drew.set x _).congr fun l _ => HNX.out l
          have HG2 : Hid (W3.grownBy (wr.drew.setCell ⟨H3, x, none⟩ (.int .i64 Y)) (some H3)) := gb_set (gb_drew HG.out) _
          go_roundw
          case rel => exact ⟨i + 1, by omega, by go_num, HY2.out, HG2.out⟩
          case measure => simp [intOf]; omega
        · obtain rfl : i = r := by omega
          have hrw : OwnI H3 wr (.slice (some ⟨H3, 0, none⟩) n n) (kRow n s.A s.piv k) := by
            have h := OwnI.of_row (B := H3) (g := H3) (w := wr) (zs := kRow n s.A s.piv k) (by
              rw [kRow_len]
              refine HY.out.congr fun l hl => ?_
              rw [getD_in (by rw [kRow_len]; exact hl), kRow_at, ← KF_all, HR.out]) (Nat.le_refl _) (by rw [kRow_len]; omega)
            rw [kRow_len] at h
            exact h
          have hbc : Below wo.heap.size wo wr := below_gb HB3.out HG.out (by rw [HRW.out]; exact Nat.le_refl _) HB3.out.size
          have HC := Lib.hid hrw
          have HBC := Lib.hid hbc
          have sc := hbc.size
          obtain ⟨L0, hL⟩ := HX.out
          have HL := Lib.hid hL
          have hwo : w3.heap.size ≤ wo.heap.size := by rw [HRW.out]; exact sk
          have hBB : B ≤ wo.heap.size := by rw [← HBW.out]; exact hwo
          clear hrw hbc hL
          go_wp2_with (at_builtin; refine wpList_append_place _ rfl _ _ 28 rfl B 24 i0 (.slice none 0 0) 24 Try.underlying28 hi0 hz0 hz1 hz2 rfl _ M L0 rfl (by have h := (HL.out.on HBC.out).row; rw [HM.out] at h; exact h.alloc _) ⟨wr.heap.size, 0, none⟩ _ (.slice (some ⟨H3, 0, none⟩) n n) rfl (row_val _ _ _) (fun y hy => by simp at hy; rw [hy]; rfl) (by unfold maxLen; omega) (by omega) (by rw [World.size_alloc]; omega) ?_; intro v3 w4 hr3 hg3 hv3)
          have hp3 := OwnRI.push HL.out (by rw [HRW.out]; exact HC.out) HBC.out hBB (by rw [HM.out]; exact hr3) hg3 (fun g hg => (hv3 g hg).imp id (fun h => by rw [World.size_alloc] at h; omega))
          rw [← HTK.out] at hp3
          have HX3 := Lib.hid hp3
          have hk3 : Below w3.heap.size w3 w4 := below_pushR HK.out (by rw [HBW.out]; exact Nat.le_refl _) hBB HX.out HBC.out hg3
          rw [HBW.out] at hk3
          have HK3 := Lib.hid hk3
          clear hp3 hr3 hg3 hv3 HX HK HL HC HBC hk3
          go_wp2
          go_roundw
          case rel => exact ⟨j + 1, by omega, by go_num, HX3.out, HK3.out⟩
          case measure => simp [intOf]; omega
    · obtain rfl : j = F := by omega
      have HE : Hid ((freeL s.piv n).take j = freeL s.piv n) := by show _ = _; rw [← HFL.out, List.take_length]
      have hkk := HX.out
      rw [HE.out, ← HBW.out] at hkk
      have HKK := Lib.hid hkk
      have HB2 := Lib.hid (HB.out.trans (HK.out.mono hs8))
      clear hkk
      go_wp2_with fail
      go_ret2
      exact ⟨_, rfl, HKK.out.mono hs8, HB2.out⟩
theorem implKer_any {p r c k : Int} {u : Value} {xs : List Int} {Z : List (List Int)} {w : World} (hu : IntsC w u xs) (h : KerRes p r c xs Z k) :
    Calls Try.prog 10 #[.agg #[.int .i64 p, .int .i64 r, .int .i64 c, u]] w fun e w' => RetRC Z k w e w' := by
  rcases h with ⟨h, rfl, rfl⟩ | ⟨rfl, u', _, m, n, A, hA, rfl⟩
  · exact implKer_b hu h
  · obtain ⟨rfl, rfl, rfl, rfl, h5, h6, h7⟩ := hA
    exact implKer_ok hu ⟨rfl, rfl, rfl, rfl, h5, h6, h7⟩
end Go.Proofs.Ytpimnngomodnhaa
