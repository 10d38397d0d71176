/-
  CoordinatesIn and ContainsVector of the model.
-/
import Derived.Test.YtpimnngomodnhaaSpX
namespace Go.Proofs.Ytpimnngomodnhaa
open Go.RowKit
open Lin
set_option linter.unusedVariables false
set_option linter.unusedSectionVars false

theorem vis_first {p n : Int} {zz : List (List Int)} {q : Nat} [NeZero q] {N r : Nat} {A : Mt q} (h : VIs p n zz q N r A) {t : Nat} (ht : t < r) : FirstAt (rowL N A t) ((red r A N).piv.getD t 0) ∧ (red r A N).piv.getD t 0 < N := by
  have hp : t < (red r A N).piv.length := by rw [h.piv]; exact ht
  obtain ⟨h1, h2, h3⟩ := red_first (fd_of h.pr) hp
  have hq2 : 2 ≤ q := by have := h.pr.1; omega
  rw [getD_at _ _ hp]
  refine ⟨⟨by rw [rowL_len]; exact h3, fun j hj => ?_, ?_⟩, h3⟩
  · rw [getD_in (by rw [rowL_len]; omega), rowL_at, ← h.red t j ht (by omega), h1 j hj]
    exact fv_zero
  · rw [getD_in (by rw [rowL_len]; exact h3), rowL_at, ← h.red t _ ht h3, h2, fv_one hq2]
    decide
set_option maxRecDepth 100000 in
set_option maxHeartbeats 3200000 in
theorem specCoo_b {p n : Int} {zz : List (List Int)} {ys : List Int} {u v : Value} {w : World} (hu : RowsD w u zz) (hv : IntsC w v ys) (h : ¬ VOk p n zz) :
    Calls Try.prog 31 #[.agg #[.int .i64 p, .int .i64 n, u], v] w fun e w' => RetSC [] 1 w e w' := by
  have HU := Lib.hid hu
  have HK : Hid (false = vB p n zz) := (vB_no h).symm
  obtain ⟨a, c, rfl⟩ := hu.1.slice
  obtain ⟨a2, c2, rfl, -, -⟩ := hv.1
  have Pa0 := PtV.new w p n (.slice a zz.length c) 32
  clear h hu
  go_enter Try.func31, Try.ntmps31
  go_wp2_with fail
  refine (l04Ok_is (T := false) Pa0 (HU.out.on (al1 (Below.refl _ _) _)) HK.out).mono ?_
  rintro e w1 ⟨rfl, hb⟩
  have HB := Lib.hid (up1 hb)
  clear hb Pa0
  go_wp2_with fail
  go_ret2
  exact ⟨_, rfl, OwnI.nul _ _, HB.out⟩
set_option maxRecDepth 100000 in
set_option maxHeartbeats 3200000 in
theorem specCoo_c {q N r : Nat} [NeZero q] {A : Mt q} {zz : List (List Int)} {ys : List Int} {u v : Value} {w : World} (hu : RowsD w u zz) (hv : IntsC w v ys) (hA : VIs q N zz q N r A) (h : ¬ Vec1 q N ys) :
    Calls Try.prog 31 #[.agg #[.int .i64 (q : Int), .int .i64 (N : Int), u], v] w fun e w' => RetSC [] 2 w e w' := by
  have HU := Lib.hid hu
  have HK : Hid (true = vB (q : Int) N zz) := (vB_yes hA.ok).symm
  have HV := Lib.hid hv.1
  have HPR := Lib.hid hA.pr
  have HT : Hid (v1B (q : Int) (N : Int) ys = false) := v1B_no h
  have hN32 : (N : Int) ≤ 32 := by have := hA.n32; omega
  obtain ⟨a, c, rfl⟩ := hu.1.slice
  obtain ⟨a2, c2, rfl, -, -⟩ := hv.1
  have Pa0 := PtV.new w (q : Int) (N : Int) (.slice a zz.length c) 32
  clear h hu hA
  go_enter Try.func31, Try.ntmps31
  go_wp2_with fail
  refine (l04Ok_is (T := true) Pa0 (HU.out.on (al1 (Below.refl _ _) _)) HK.out).mono ?_
  rintro e w1 ⟨rfl, hb⟩
  have HB := Lib.hid (up1 hb)
  obtain ⟨lA, x0, x1, x2⟩ := Pa0.on hb
  clear hb Pa0
  go_wp2_with fail
  refine (vector_is (HV.out.on HB.out) HPR.out hN32 HT.out).mono ?_
  rintro e w2 ⟨rfl, rfl⟩
  go_wp2_with fail
  go_ret2
  exact ⟨_, rfl, OwnI.nul _ _, HB.out⟩
set_option maxRecDepth 100000 in
set_option maxHeartbeats 3200000 in
theorem specCoo_d {q N r : Nat} [NeZero q] {A : Mt q} {zz : List (List Int)} {x : Nat → Fin q} {u v : Value} {w : World} (hu : RowsD w u zz) (hv : IntsC w v (bL N x)) (hA : VIs q N zz q N r A) (h : (((red (r + 1) (adj r A x) N).piv.length : Int) == (r : Int)) = false) :
    Calls Try.prog 31 #[.agg #[.int .i64 (q : Int), .int .i64 (N : Int), u], v] w fun e w' => RetSC [] 3 w e w' := by
  have HU := Lib.hid hu
  have HRC := Lib.hid (hA.rowsC hu)
  have HK : Hid (true = vB (q : Int) N zz) := (vB_yes hA.ok).symm
  have HV := Lib.hid hv
  have HV1 := Lib.hid hv.1
  have HPR := Lib.hid hA.pr
  have HH := Lib.hid h
  have HT : Hid (v1B (q : Int) (N : Int) (bL N x) = true) := v1B_yes ⟨by rw [bL_len], rowL_ok N _ 0⟩
  have hN32 : (N : Int) ≤ 32 := by have := hA.n32; omega
  have hr32 : r ≤ 32 := by have := hA.r32; have := hA.n32; omega
  have hl := hA.len
  obtain ⟨a, c, rfl⟩ := hu.1.slice
  rw [hl] at HU HRC ⊢
  obtain ⟨a2, c2, rfl, -, -⟩ := hv.1
  have Pa0 := PtV.new w (q : Int) (N : Int) (.slice a r c) 32
  clear h hu hA hl
  go_enter Try.func31, Try.ntmps31
  go_wp2_with fail
  refine (l04Ok_is (T := true) Pa0 (HU.out.on (al1 (Below.refl _ _) _)) HK.out).mono ?_
  rintro e w1 ⟨rfl, hb⟩
  have HB := Lib.hid (up1 hb)
  have Pa := Lib.hid (Pa0.on hb)
  have hs1 := HB.out.size
  clear hb Pa0
  obtain ⟨lA, x0, x1, x2⟩ := Pa.out
  go_wp2_with fail
  refine (vector_is (HV1.out.on HB.out) HPR.out hN32 HT.out).mono ?_
  rintro e w2 ⟨rfl, rfl⟩
  go_wp2_with fail
  refine (l04Has_is Pa.out (HRC.out.on HB.out) (HV.out.on HB.out) HPR.out hr32 (by omega) HH.out).mono ?_
  rintro e w2 ⟨rfl, hb⟩
  have HB := Lib.hid (HB.out.trans (hb.mono hs1))
  clear hb
  go_wp2_with fail
  go_ret2
  exact ⟨_, rfl, OwnI.nul _ _, HB.out⟩
set_option maxRecDepth 100000 in
set_option maxHeartbeats 6400000 in
theorem specCoo_e {q N r : Nat} [NeZero q] {A : Mt q} {zz : List (List Int)} {x : Nat → Fin q} {u v : Value} {w : World} (hu : RowsD w u zz) (hv : IntsC w v (bL N x)) (hA : VIs q N zz q N r A) (h : (((red (r + 1) (adj r A x) N).piv.length : Int) == (r : Int)) = true) :
    Calls Try.prog 31 #[.agg #[.int .i64 (q : Int), .int .i64 (N : Int), u], v] w fun e w' => RetSC (cooL x (red r A N).piv r) 0 w e w' := by
  obtain ⟨i0, hi0, hz0, hz1, hz2⟩ := info_parts info_i
  have HU := Lib.hid hu
  have HRC := Lib.hid (hA.rowsC hu)
  have HK : Hid (true = vB (q : Int) N zz) := (vB_yes hA.ok).symm
  have HV := Lib.hid hv
  have HV1 := Lib.hid hv.1
  have HPR := Lib.hid hA.pr
  have HH := Lib.hid h
  have HT : Hid (v1B (q : Int) (N : Int) (bL N x) = true) := v1B_yes ⟨by rw [bL_len], rowL_ok N _ 0⟩
  have hN32 : (N : Int) ≤ 32 := by have := hA.n32; omega
  have hr32 : r ≤ 32 := by have := hA.r32; have := hA.n32; omega
  have hl := hA.len
  have HFA : Hid (∀ t, t < r → FirstAt (rowL N A t) ((red r A N).piv.getD t 0) ∧ (red r A N).piv.getD t 0 < N) := fun t ht => vis_first hA ht
  obtain ⟨P, hP⟩ : ∃ P, (red r A N).piv = P := ⟨_, rfl⟩
  rw [hP] at HFA ⊢
  obtain ⟨a, c, rfl⟩ := hu.1.slice
  rw [hl] at HU HRC ⊢
  obtain ⟨a2, c2, rfl, -, -⟩ := hv.1
  simp only [bL_len] at HV HV1 ⊢
  have Pa0 := PtV.new w (q : Int) (N : Int) (.slice a r c) 32
  clear h hu hA hl hP
  go_enter Try.func31, Try.ntmps31
  go_wp2_with fail
  refine (l04Ok_is (T := true) Pa0 (HU.out.on (al1 (Below.refl _ _) _)) HK.out).mono ?_
  rintro e w1 ⟨rfl, hb⟩
  have HB := Lib.hid (up1 hb)
  have Pa := Lib.hid (Pa0.on hb)
  have hs1 := HB.out.size
  clear hb Pa0
  obtain ⟨lA, x0, x1, x2⟩ := Pa.out
  go_wp2_with fail
  refine (vector_is (HV1.out.on HB.out) HPR.out hN32 HT.out).mono ?_
  rintro e w2 ⟨rfl, rfl⟩
  go_wp2_with fail
  refine (l04Has_is Pa.out (HRC.out.on HB.out) (HV.out.on HB.out) HPR.out hr32 (by omega) HH.out).mono ?_
  rintro e w2 ⟨rfl, hb⟩
  have HB2 := Lib.hid (HB.out.trans (hb.mono hs1))
  have hs2 := HB2.out.size
  have Pa2 := Lib.hid (Pa.out.on hb)
  clear hb lA x0 x1 x2
  have HCM : Hid (OwnI w2.heap.size (w2.alloc (.cells #[] 2)) (.slice (some ⟨w2.heap.size, 0, none⟩) 0 0) (cooL x P 0)) := madeI w2 w2.heap.size (Nat.le_refl _)
  have HBC0 : Hid (Below w2.heap.size w2 (w2.alloc (.cells #[] 2))) := (Below.refl _ _).alloc (Nat.le_refl _) _
  go_wp2_with fail
  go_loopw [7, 6] (fun si so wr => ∃ t : Nat, t ≤ r ∧ si = .int .i64 (t : Int) ∧ Hid (OwnI w2.heap.size wr so (cooL x P t)) ∧ Hid (Below w2.heap.size w2 wr)) (fun si _ _ => r - (intOf si).toNat)
  case atStart => exact ⟨0, Nat.zero_le _, rfl, HCM.out, HBC0.out⟩
  case round =>
    obtain ⟨t, ht, rfl, HX, HK2⟩ := hrel
    obtain ⟨oa, oc, rfl⟩ := HX.out.slice
    have HCL : Hid ((cooL x P t).length = t) := cooL_len _ _ _
    simp only [HCL.out] at HX ⊢
    have sk := HK2.out.size
    obtain ⟨lA, x0, x1, x2⟩ := Pa2.out.on HK2.out
    have HB3 := Lib.hid (HB2.out.trans (HK2.out.mono hs2))
    by_cases htr : t < r
    · have t0 : (0 : Int) ≤ (t : Int) := by omega
      have t1 : (t : Int) < (r : Int) := by omega
      obtain ⟨Hr, ro, rc, ur, e, hHr, hur, hui⟩ := HRC.out.at htr
      simp only [Value.slice.injEq, true_and] at e
      obtain ⟨rfl, rfl⟩ := e
      obtain ⟨ua, uc, rfl⟩ := hui.1.slice
      have d0 := (HB3.out.cell (p := ⟨Hr, ro + t, none⟩) hHr).trans hur
      have HUI := Lib.hid (hui.1.on HB3.out)
      obtain ⟨hfa, hfn⟩ := HFA.out t htr
      have HF := Lib.hid hfa
      obtain ⟨f, hf⟩ : ∃ f, P.getD t 0 = f := ⟨_, rfl⟩
      rw [hf] at HF hfn
      obtain ⟨b, o, rfl, hb, c1⟩ : ∃ b o, a2 = some ⟨b, o, none⟩ ∧ b < w.heap.size ∧ w.cell? ⟨b, o + f, none⟩ = some (.int .i64 (fv (x f))) := by
        obtain ⟨a', c', e', -, h | ⟨b, o, rfl, hb, h⟩⟩ := HV1.out
        · exfalso; have h0 := bL_len N x; rw [h] at h0; simp at h0; omega
        · have := h f (by rw [bL_len]; exact hfn)
          rw [bL_at] at this
          simp only [Value.slice.injEq] at e'
          exact ⟨b, o, e'.1, hb, this⟩
      have d1 := (HB3.out.cell (p := ⟨b, o + f, none⟩) hb).trans c1
      have f0 : (0 : Int) ≤ (f : Int) := by omega
      have f1 : (f : Int) < (N : Int) := by omega
      obtain ⟨y, hy⟩ : ∃ y, fv (x f) = y := ⟨_, rfl⟩
      rw [hy] at d1
      have HCS : Hid (cooL x P (t + 1) = cooL x P t ++ [y]) := by show _ = _; rw [cooL_succ, hf, hy]
      rw [rowL_len] at d0 HUI
      clear hur hui hfa hHr c1 hb hf hy
      go_wp2_with fail
      refine (l04First_any HUI.out HF.out).mono ?_
      rintro e wc ⟨rfl, rfl⟩
      have hown := HX.out.out
      rw [HCL.out] at hown
      go_wp2_with (at_builtin; refine wpList_append_own _ rfl _ _ 24 rfl w2.heap.size 2 i0 (.int .i64 0) 1 8 Try.underlying24 hi0 hz0 hz1 hz2 rfl (by decide) _ t (iv (cooL x P t)) rfl (hown.alloc _) ⟨wr.heap.size, 0, none⟩ 1 1 [.int .i64 y] rfl rfl (cell_one_new _ _ _) (fun x hx => by simp at hx; subst hx; rfl) (by unfold maxLen; omega) (by omega) (by simp; omega) ?_; intro v3 w3 hr3 hg3 hn3)
      have HX3 : Hid (OwnI w2.heap.size w3 v3 (cooL x P (t + 1))) := by
        show OwnI _ _ _ _
        rw [HCS.out]
        have h := hr3
        unfold OwnI
        rw [iv_app, List.length_append, HCL.out]
        exact h
      have HK3 : Hid (Below w2.heap.size w2 w3) := (HK2.out.alloc sk _).grown hg3 (by simp; omega) (fun g hg => (hown.lt g hg).1)
      go_wp2_with fail
      go_roundw
      case rel => exact ⟨t + 1, by omega, by go_num, HX3.out, HK3.out⟩
      case measure => simp [intOf]; omega
    · obtain rfl : t = r := by omega
      go_wp2_with fail
      go_ret2
      exact ⟨_, rfl, HX.out.mono hs2, HB3.out⟩
theorem specCoo_any {p n k : Int} {zz : List (List Int)} {ys Z : List Int} {u v : Value} {w : World} (hu : RowsD w u zz) (hv : IntsC w v ys) (h : CooRes p n zz ys Z k) :
    Calls Try.prog 31 #[.agg #[.int .i64 p, .int .i64 n, u], v] w fun e w' => RetSC Z k w e w' := by
  rcases h with ⟨h, rfl, rfl⟩ | ⟨q, _, N, r, A, hA, hs⟩
  · exact specCoo_b hu hv h
  · obtain ⟨rfl, rfl⟩ : p = q ∧ n = N := ⟨hA.p, hA.n⟩
    rcases coo_cases hA hs with ⟨h, rfl, rfl⟩ | ⟨x, rfl, h, rfl, rfl⟩ | ⟨x, rfl, h, rfl, rfl⟩
    · exact specCoo_c hu hv hA h
    · exact specCoo_d hu hv hA h
    · exact specCoo_e hu hv hA h
end Go.Proofs.Ytpimnngomodnhaa
