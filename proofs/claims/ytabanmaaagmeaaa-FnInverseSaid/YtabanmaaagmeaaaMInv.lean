/-
  The law of inverses: whatever is drawn, an inverse undoes a matrix, and there is one exactly if the determinant is not 0.
-/
import Derived.Test.YtabanmaaagmeaaaMFill
import Derived.Test.YtabanmaaagmeaaaMxDj
import Derived.Test.YtabanmaaagmeaaaPD
import Derived.Test.YtabanmaaagmeaaaPB
namespace Go.Proofs.Ytabanmaaagmeaaa
open Go.RowKit
open Lin
set_option linter.unusedVariables false
set_option linter.unusedSectionVars false
set_option linter.unusedSimpArgs false

theorem pr_small {p k : Nat} (h : ∀ i, i < k → 2 ≤ i → p % i ≠ 0) (h0 : 2 ≤ p) (h1 : p ≤ 251) (hk : 2 ≤ k) (hkk : p < k * k) : IsPr (p : Int) := by
  refine ⟨by omega, by omega, fun i hi hii e => ?_⟩
  obtain ⟨j, rfl⟩ : ∃ j : Nat, i = j := ⟨i.toNat, by omega⟩
  have h2 : j * j ≤ p := by rw [← Int.natCast_mul] at hii; omega
  have h3 : j < k := by
    rcases Nat.lt_or_ge j k with g | g
    · exact g
    · have := Nat.mul_le_mul g g; omega
  have h4 : p % j = 0 := by rw [← Int.natCast_emod] at e; omega
  exact h j h3 (by omega) h4
theorem pr_draw {r : Int} (h : r ∈ [2, 2, 3, 5, 7, 31, 251]) : ∃ q : Nat, r = (q : Int) ∧ IsPr (q : Int) := by
  have h2 : r = 2 ∨ r = 3 ∨ r = 5 ∨ r = 7 ∨ r = 31 ∨ r = 251 := by simp at h; omega
  rcases h2 with rfl | rfl | rfl | rfl | rfl | rfl
  · exact ⟨2, rfl, pr_small (k := 2) (by decide) (by decide) (by decide) (by decide) (by decide)⟩
  · exact ⟨3, rfl, pr_small (k := 2) (by decide) (by decide) (by decide) (by decide) (by decide)⟩
  · exact ⟨5, rfl, pr_small (k := 3) (by decide) (by decide) (by decide) (by decide) (by decide)⟩
  · exact ⟨7, rfl, pr_small (k := 3) (by decide) (by decide) (by decide) (by decide) (by decide)⟩
  · exact ⟨31, rfl, pr_small (k := 6) (by decide) (by decide) (by decide) (by decide) (by decide)⟩
  · exact ⟨251, rfl, pr_small (k := 16) (by decide) (by decide) (by decide) (by decide) (by decide)⟩
set_option maxHeartbeats 800000 in
theorem drawPrime3_any {p : Nat} {a : Option Addr} {len cap K : Nat} {w : World} (hK : K ≤ 900000000) (h : Sc p a len cap K w) :
    Calls Try.prog 65 #[.pointer (some ⟨p, 0, none⟩)] w fun e w' => RetDr (fun r => ∃ q : Nat, r = (q : Int) ∧ IsPr (q : Int)) p a len cap (K + 2) w e w' := by
  have H := Lib.hid h
  clear h
  go_enter Try.func65, Try.ntmps65
  go_wp2_with fail
  refine (among_lit [2, 2, 3, 5, 7, 31, 251] _ _ 7 rfl rfl (by simp) (by simp) hK H.out).mono ?_
  rintro e w1 ⟨r, hr, rfl, hs, hg⟩
  have HR := Lib.hid (pr_draw hr)
  have HS := Lib.hid hs
  have HG := Lib.hid hg
  clear hs hg hr
  go_wp2_with fail
  go_ret
  exact ⟨r, HR.out, rfl, HS.out, HG.out⟩
set_option maxHeartbeats 800000 in
theorem r8Prime_any (w : World) (a : Option Addr) (len cap : Nat) (h : Bytes w a len) :
    Calls Try.prog 21 #[.slice a len cap] w fun e w' => RetDP w e w' := by
  have H := Lib.hid h
  clear h
  go_enter Try.func21, Try.ntmps21
  go_wp2_with fail
  refine (from_any w a len cap).mono ?_
  rintro e w1 hf
  obtain ⟨rfl, hsrc, hb, hp⟩ := hf
  have HS := Lib.hid (newSc H.out hsrc hb hp)
  have HB := Lib.hid hb
  clear hb hsrc
  go_wp2_with fail
  refine (drawPrime3_any (by omega) HS.out).mono ?_
  rintro e w2 ⟨r, ⟨q, hq, hpr⟩, rfl, hs, hg⟩
  have hb2 : Below w.heap.size w1 w2 := below_gb2 hg (Nat.le_refl _) (by omega)
  have HQ := Lib.hid hq
  have HP := Lib.hid hpr
  have HB2 := Lib.hid (HB.out.trans hb2)
  clear hs hg hq hpr hb2
  go_wp2_with fail
  go_ret
  exact ⟨q, by first | rfl | (rw [HQ.out]; rfl), HP.out, HB2.out⟩
theorem at8_int (a : Option Addr) (l c : Nat) (k n : Int) (w : World) (h : Bytes w a l) (hn : 2 ≤ n) (hn2 : n ≤ 256) (hk0 : 0 ≤ k) (hk : k ≤ 1000) :
    Calls Try.prog 23 #[.slice a l c, .int .i64 k, .int .i64 n] w fun e w' => ∃ r : Nat, (r : Int) < n ∧ e = .returned (.int .i64 (r : Int)) ∧ w = w' := by
  obtain ⟨k', rfl⟩ : ∃ k' : Nat, k = k' := ⟨k.toNat, by omega⟩
  obtain ⟨n', rfl⟩ : ∃ n' : Nat, n = n' := ⟨n.toNat, by omega⟩
  refine (at8_any a l c k' n' w h (by omega) (by omega) (by omega)).mono ?_
  rintro e w' ⟨r, hr, rfl, rfl⟩
  exact ⟨r, by omega, rfl, rfl⟩
set_option maxRecDepth 100000 in
theorem inverse_long (a0 : Option Addr) (l0 c0 : Nat) (a1 : Option Addr) (l1 c1 : Nat) (w : World) (h : 1048576 < l0 ∨ 1048576 < l1) :
    Calls Try.prog 4 #[.slice a0 l0 c0, .slice a1 l1 c1] w fun e w' => e = .returned (.bool true) ∧ Below w.heap.size w w' := by
  have H := Lib.hid h
  clear h
  go_enter Try.func4, Try.ntmps4
  go_wp2_with fail
  refine (long8_yes _ _ _ _ _ _ _ H.out).mono ?_
  rintro e w1 ⟨rfl, rfl⟩
  go_wp2_with fail
  go_ret
  exact ⟨rfl, Below.refl _ _⟩
set_option maxRecDepth 100000 in
set_option maxHeartbeats 12800000 in
theorem inverse_walk (a0 : Option Addr) (l0 c0 : Nat) (a1 : Option Addr) (l1 c1 : Nat) (w : World) (h0 : Bytes w a0 l0) (h1 : Bytes w a1 l1) :
    Calls Try.prog 4 #[.slice a0 l0 c0, .slice a1 l1 c1] w fun e w' => e = .returned (.bool true) ∧ Below w.heap.size w w' := by
  have H0 := Lib.hid h0
  have H1 := Lib.hid h1
  have z0 := h0.1
  have z1 := h1.1
  have B0 := Lib.hid (Below.refl w.heap.size w)
  clear h0 h1
  go_enter Try.func4, Try.ntmps4
  go_wp2_with fail
  refine (long8_no _ _ _ _ _ _ _ z0 z1).mono ?_
  rintro e w1 ⟨rfl, rfl⟩
  go_wp2_with fail
  refine (r8Prime_any _ _ _ _ H0.out).mono ?_
  rintro e w1 ⟨q, rfl, hpr, hb1⟩
  have bb1 : Below w.heap.size w w1 := hb1
  have B1 := Lib.hid (B0.out.trans (bb1.mono B0.out.size))
  clear bb1 hb1
  have hpp := hpr.1
  have hpp2 := hpr.2.1
  haveI : NeZero q := ⟨by omega⟩
  have hfd := fd_of hpr
  have HPR := Lib.hid hpr
  clear hpr
  go_wp2_with fail
  refine (at8_int _ _ _ _ _ _ (H1.out.on B1.out) (by omega) (by omega) (by omega) (by omega)).mono ?_
  rintro e w2 ⟨n, hn6, rfl, rfl⟩
  have hnn : n * n ≤ 6 * 6 := Nat.mul_le_mul (by omega) (by omega)
  have hn32 : n ≤ 32 := by omega
  obtain ⟨N, hN⟩ : ∃ N, n * n = N := ⟨_, rfl⟩
  have HNN := Lib.hid hN
  clear hN
  go_wp2_with fail
  refine (r8Matrix_any HPR.out hn32 hn32 (H0.out.on B1.out)).mono ?_
  rintro e w2 ⟨A, v2, rfl, ho2, hb2⟩
  have B2 := Lib.hid (B1.out.trans (hb2.mono B1.out.size))
  have hMA : MIs (q : Int) n n (flat n n A) q n n A := ⟨rfl, rfl, rfl, rfl, HPR.out, hn32, hn32⟩
  have CA := Lib.hid (ho2.atC (by rw [flat_len]; omega))
  obtain ⟨v2a, v2c, rfl⟩ := ho2.slice
  have HMA := Lib.hid hMA
  have HDE : Hid (DeRes (q : Int) n n (flat n n A) (fv (rdet n A)) 0) := .inr ⟨rfl, q, inferInstance, n, A, HMA.out, rfl⟩
  have HUR : Hid (URes (q : Int) n q n n (flat n n (unitM : Mt q)) 0) := .inr (.inr ⟨HPR.out, by simp [inB]; omega, rfl, rfl, rfl, rfl, q, inferInstance, n, rfl, rfl, rfl⟩)
  have hb0 := fv_nn (rdet n A)
  have hb1 := fv_lt (rdet n A)
  clear hb2 ho2 hMA
  by_cases hx : (red n A n).piv.length = n
  · as_aux_lemma =>
    have hdz : rdet n A ≠ 0 := (rdet_ne hfd n A).2 hx
    have hdz2 : fv (rdet n A) ≠ 0 := fun e => hdz (fv_eq_zero.1 e)
    have HIN : Hid (InRes (q : Int) n n (flat n n A) q n n (flat n n (inverse n A)) 0) := .inr ⟨q, inferInstance, n, A, HMA.out, .inr ⟨hx, rfl, rfl, rfl, rfl, rfl⟩⟩
    have HMI : Hid (MIs (q : Int) n n (flat n n (inverse n A)) q n n (inverse n A)) := ⟨rfl, rfl, rfl, rfl, HPR.out, hn32, hn32⟩
    have e1 : flat n n (unitM : Mt q) = flat n n (muC n A (inverse n A)) := flat_congr fun i j hi hj => (mul_inverse hfd n A hx i j hi hj).symm
    have e2 : flat n n (unitM : Mt q) = flat n n (muC n (inverse n A) A) := flat_congr fun i j hi hj => (inverse_mul hfd n A hx i j hi hj).symm
    have HM1 : Hid (MuRes (q : Int) n n (flat n n A) q n n (flat n n (inverse n A)) q n n (flat n n (unitM : Mt q)) 0) := ⟨.inr (.inr ⟨HMA.out.ok, HMI.out.ok, rfl, by simp, rfl⟩), .inr ⟨rfl, rfl, rfl, rfl, q, inferInstance, n, n, n, A, inverse n A, HMA.out, HMI.out, e1⟩⟩
    have HM2 : Hid (MuRes (q : Int) n n (flat n n (inverse n A)) q n n (flat n n A) q n n (flat n n (unitM : Mt q)) 0) := ⟨.inr (.inr ⟨HMI.out.ok, HMA.out.ok, rfl, by simp, rfl⟩), .inr ⟨rfl, rfl, rfl, rfl, q, inferInstance, n, n, n, inverse n A, A, HMI.out, HMA.out, e2⟩⟩
    have HD2 : Hid (DeRes (q : Int) n n (flat n n (inverse n A)) (fv (rdet n (inverse n A))) 0) := .inr ⟨rfl, q, inferInstance, n, inverse n A, HMI.out, rfl⟩
    have e3 : rdet n (inverse n A) * rdet n A = 1 := by rw [rdet_det hfd, rdet_det hfd]; exact det_inverse hfd n A hx
    have e4 : fv (rdet n (inverse n A)) * fv (rdet n A) % (q : Int) = 1 := by rw [fv_mul, e3, fv_one (by omega)]
    have o0 := fv_nn (rdet n (inverse n A))
    have o1 := fv_lt (rdet n (inverse n A))
    obtain ⟨z, hz⟩ : ∃ z, fv (rdet n A) = z := ⟨_, rfl⟩
    obtain ⟨y, hy⟩ : ∃ y, fv (rdet n (inverse n A)) = y := ⟨_, rfl⟩
    rw [hz] at HDE hb0 hb1 hdz2 e4
    rw [hy] at HD2 o0 o1 e4
    have HSM : Hid (true = sameB (q : Int) n n (flat n n (unitM : Mt q)) q n n (flat n n (unitM : Mt q))) := (sameB_yes _ _ _ _).symm
    clear hx hdz e1 e2 e3 hz hy
    go_wp2_with fail
    refine (implDe_any (CA.out.on (al1 (Below.refl _ _) _)) HDE.out).mono ?_
    rintro e w3 ⟨rfl, hb3⟩
    have bb3 : Below w2.heap.size w2 w3 := up1 hb3
    have CA := Lib.hid (CA.out.on bb3)
    have Pa : Hid (PtM w3 w2.heap.size (q : Int) (n : Int) (n : Int) (.slice v2a (flat n n A).length v2c)) := (PtM.new _ _ _ _ _ _).on hb3
    have B3 := Lib.hid (B2.out.trans (bb3.mono B2.out.size))
    clear bb3 hb3
    obtain ⟨lPa, Pa0, Pa1, Pa2, Pa3⟩ := Pa.out
    go_wp2_with fail
    refine (implIn_any CA.out HIN.out).mono ?_
    rintro e w4 ⟨v4, rfl, ho4, hb4⟩
    clear lPa Pa0 Pa1 Pa2 Pa3
    have bb4 : Below w3.heap.size w3 w4 := hb4
    have Pa := Lib.hid (Pa.out.on bb4)
    have CA := Lib.hid (CA.out.on bb4)
    have B4 := Lib.hid (B3.out.trans (bb4.mono B3.out.size))
    obtain ⟨v4a, v4c, rfl⟩ := ho4.slice
    have CI := Lib.hid (ho4.atC (by simp only [List.length_nil, flat_len]; omega))
    clear bb4 hb4 ho4
    obtain ⟨lPa, Pa0, Pa1, Pa2, Pa3⟩ := Pa.out
    go_wp2_with fail
    refine (implUnit_any _ HUR.out).mono ?_
    rintro e w5 ⟨v5, rfl, ho5, hb5⟩
    clear lPa Pa0 Pa1 Pa2 Pa3
    have bb5 : Below w4.heap.size w4 w5 := up1 hb5
    have Pa := Lib.hid (Pa.out.on bb5)
    have CA := Lib.hid (CA.out.on bb5)
    have CI := Lib.hid (CI.out.on bb5)
    have Pi : Hid (PtM w5 w4.heap.size (q : Int) (n : Int) (n : Int) (.slice v4a (flat n n (inverse n A)).length v4c)) := (PtM.new _ _ _ _ _ _).on hb5
    have B5 := Lib.hid (B4.out.trans (bb5.mono B4.out.size))
    obtain ⟨v5a, v5c, rfl⟩ := ho5.slice
    have CU := Lib.hid (ho5.atC (by simp only [List.length_nil, flat_len]; omega))
    clear bb5 hb5 ho5
    have t1 : (z == 0) = false := by simpa using hdz2
    have t2 : (z != 0) = true := by simpa using hdz2
    obtain ⟨lPa, Pa0, Pa1, Pa2, Pa3⟩ := Pa.out
    obtain ⟨lPi, Pi0, Pi1, Pi2, Pi3⟩ := Pi.out
    go_wp2_with fail
    refine (implMu_any (CA.out.on (al1 (Below.refl _ _) _)) (CI.out.on (al1 (Below.refl _ _) _)) HM1.out).mono ?_
    rintro e w6 ⟨v6, rfl, ho6, hb6⟩
    clear lPa Pa0 Pa1 Pa2 Pa3 lPi Pi0 Pi1 Pi2 Pi3
    have bb6 : Below w5.heap.size w5 w6 := up1 hb6
    have Pa := Lib.hid (Pa.out.on bb6)
    have Pi := Lib.hid (Pi.out.on bb6)
    have CA := Lib.hid (CA.out.on bb6)
    have CI := Lib.hid (CI.out.on bb6)
    have CU := Lib.hid (CU.out.on bb6)
    have Pu : Hid (PtM w6 w5.heap.size (q : Int) (n : Int) (n : Int) (.slice v5a (flat n n (unitM : Mt q)).length v5c)) := (PtM.new _ _ _ _ _ _).on hb6
    have B6 := Lib.hid (B5.out.trans (bb6.mono B5.out.size))
    obtain ⟨v6a, v6c, rfl⟩ := ho6.slice
    have CX := Lib.hid (ho6.atC (by simp only [List.length_nil, flat_len]; omega))
    clear bb6 hb6 ho6
    obtain ⟨lPa, Pa0, Pa1, Pa2, Pa3⟩ := Pa.out
    obtain ⟨lPi, Pi0, Pi1, Pi2, Pi3⟩ := Pi.out
    obtain ⟨lPu, Pu0, Pu1, Pu2, Pu3⟩ := Pu.out
    go_wp2_with fail
    refine (implMu_any (CI.out.on (al1 (Below.refl _ _) _)) (CA.out.on (al1 (Below.refl _ _) _)) HM2.out).mono ?_
    rintro e w7 ⟨v7, rfl, ho7, hb7⟩
    clear lPa Pa0 Pa1 Pa2 Pa3 lPi Pi0 Pi1 Pi2 Pi3 lPu Pu0 Pu1 Pu2 Pu3
    have bb7 : Below w6.heap.size w6 w7 := up1 hb7
    have Pa := Lib.hid (Pa.out.on bb7)
    have Pi := Lib.hid (Pi.out.on bb7)
    have Pu := Lib.hid (Pu.out.on bb7)
    have CA := Lib.hid (CA.out.on bb7)
    have CI := Lib.hid (CI.out.on bb7)
    have CU := Lib.hid (CU.out.on bb7)
    have CX := Lib.hid (CX.out.on bb7)
    have Px : Hid (PtM w7 w6.heap.size (q : Int) (n : Int) (n : Int) (.slice v6a (flat n n (unitM : Mt q)).length v6c)) := (PtM.new _ _ _ _ _ _).on hb7
    have B7 := Lib.hid (B6.out.trans (bb7.mono B6.out.size))
    obtain ⟨v7a, v7c, rfl⟩ := ho7.slice
    have CY := Lib.hid (ho7.atC (by simp only [List.length_nil, flat_len]; omega))
    clear bb7 hb7 ho7
    obtain ⟨lPa, Pa0, Pa1, Pa2, Pa3⟩ := Pa.out
    obtain ⟨lPi, Pi0, Pi1, Pi2, Pi3⟩ := Pi.out
    obtain ⟨lPu, Pu0, Pu1, Pu2, Pu3⟩ := Pu.out
    obtain ⟨lPx, Px0, Px1, Px2, Px3⟩ := Px.out
    go_wp2_with fail
    refine (implDe_any (CI.out.on (al1 (Below.refl _ _) _)) HD2.out).mono ?_
    rintro e w8 ⟨rfl, hb8⟩
    clear lPa Pa0 Pa1 Pa2 Pa3 lPi Pi0 Pi1 Pi2 Pi3 lPu Pu0 Pu1 Pu2 Pu3 lPx Px0 Px1 Px2 Px3
    have bb8 : Below w7.heap.size w7 w8 := up1 hb8
    have Pa := Lib.hid (Pa.out.on bb8)
    have Pi := Lib.hid (Pi.out.on bb8)
    have Pu := Lib.hid (Pu.out.on bb8)
    have Px := Lib.hid (Px.out.on bb8)
    have CA := Lib.hid (CA.out.on bb8)
    have CI := Lib.hid (CI.out.on bb8)
    have CU := Lib.hid (CU.out.on bb8)
    have CX := Lib.hid (CX.out.on bb8)
    have CY := Lib.hid (CY.out.on bb8)
    have Py : Hid (PtM w8 w7.heap.size (q : Int) (n : Int) (n : Int) (.slice v7a (flat n n (unitM : Mt q)).length v7c)) := (PtM.new _ _ _ _ _ _).on hb8
    have B8 := Lib.hid (B7.out.trans (bb8.mono B7.out.size))
    clear bb8 hb8
    have yz0 : 0 ≤ y * z := Int.mul_nonneg o0 hb0
    have yz1 : y * z ≤ 251 * 251 := Int.mul_le_mul (by omega) (by omega) hb0 (by omega)
    have wyz : IntKind.i64.wrap (y * z) = y * z := IntWalk.i64_in _ (by omega)
    have ty : (y * z).tmod (q : Int) = 1 := by rw [Int.tmod_eq_emod_of_nonneg yz0]; exact e4
    have t5 : (1 : Int).tmod (q : Int) = 1 := by rw [Int.tmod_eq_emod_of_nonneg (by omega)]; exact Int.emod_eq_of_lt (by omega) (by omega)
    have w1 : IntKind.i64.wrap 1 = 1 := rfl
    have g1 : decide (y ≥ 0) = true := by simpa using o0
    have g2 : decide (y < (q : Int)) = true := by simpa using o1
    have g3 : decide (z > 0) = true := by simp; omega
    have g4 : decide (z < (q : Int)) = true := by simpa using hb1
    have g5 : 0 < z := by omega
    have qz : ¬ (q : Int) = 0 := by omega
    have qn : ¬ q = 0 := by omega
    clear yz1 e4 hdz2
    obtain ⟨lPx, Px0, Px1, Px2, Px3⟩ := Px.out
    obtain ⟨lPu, Pu0, Pu1, Pu2, Pu3⟩ := Pu.out
    obtain ⟨lPy, Py0, Py1, Py2, Py3⟩ := Py.out
    go_wp2_with fail
    go_region_held3 (fun w' => w'.cell? ⟨w6.heap.size, 0, none⟩ = some (.int .i64 q) ∧ w'.cell? ⟨w6.heap.size, 1, none⟩ = some (.int .i64 n) ∧ w'.cell? ⟨w6.heap.size, 2, none⟩ = some (.int .i64 n) ∧ w'.cell? ⟨w6.heap.size, 3, none⟩ = some (.slice v6a (flat n n (unitM : Mt q)).length v6c) ∧ w'.cell? ⟨w5.heap.size, 0, none⟩ = some (.int .i64 q) ∧ w'.cell? ⟨w5.heap.size, 1, none⟩ = some (.int .i64 n) ∧ w'.cell? ⟨w5.heap.size, 2, none⟩ = some (.int .i64 n) ∧ w'.cell? ⟨w5.heap.size, 3, none⟩ = some (.slice v5a (flat n n (unitM : Mt q)).length v5c) ∧ w'.cell? ⟨w7.heap.size, 0, none⟩ = some (.int .i64 q) ∧ w'.cell? ⟨w7.heap.size, 1, none⟩ = some (.int .i64 n) ∧ w'.cell? ⟨w7.heap.size, 2, none⟩ = some (.int .i64 n) ∧ w'.cell? ⟨w7.heap.size, 3, none⟩ = some (.slice v7a (flat n n (unitM : Mt q)).length v7c)) (go_keep)
      (first
        | (go_at_call 29; refine (specSM_r (T := true) (by first | exact CX.out.drew.1 | exact CX.out.1) (by first | exact CU.out.drew.1 | exact CU.out.1) HSM.out).mono ?_; rintro e wa ⟨rfl, hba'⟩; have hba : Below w8.heap.size w8 wa := (by first | exact hba' | exact undrew hba'); obtain ⟨_, _, _, _, _⟩ := Px.out.on hba; obtain ⟨_, _, _, _, _⟩ := Py.out.on hba; obtain ⟨_, _, _, _, _⟩ := Pu.out.on hba)
        | (go_at_call 29; have hx := specSM_r (T := true) (CY.out.on hba).1 (CU.out.on hba).1 HSM.out; refine hx.mono ?_; rintro e wb ⟨rfl, hbb⟩; have hb2 := hba.trans (hbb.mono hba.size); obtain ⟨_, _, _, _, _⟩ := Px.out.on hb2; obtain ⟨_, _, _, _, _⟩ := Py.out.on hb2; obtain ⟨_, _, _, _, _⟩ := Pu.out.on hb2))
    have BE := Lib.hid (B8.out.trans ((hba.trans (hbb.mono hba.size)).mono B8.out.size))
    go_wp2_with fail
    go_ret
    exact ⟨rfl, BE.out⟩
  · as_aux_lemma =>
    have hdz : rdet n A = 0 := by
      by_cases e : rdet n A = 0
      · exact e
      · exact absurd ((rdet_ne hfd n A).1 e) hx
    have HIN : Hid (InRes (q : Int) n n (flat n n A) 0 0 0 [] 3) := .inr ⟨q, inferInstance, n, A, HMA.out, .inl ⟨hx, rfl, rfl, rfl, rfl, rfl⟩⟩
    rw [hdz, fv_zero] at HDE
    clear hx hdz hb0 hb1
    go_wp2_with fail
    refine (implDe_any (CA.out.on (al1 (Below.refl _ _) _)) HDE.out).mono ?_
    rintro e w3 ⟨rfl, hb3⟩
    have bb3 : Below w2.heap.size w2 w3 := up1 hb3
    have CA := Lib.hid (CA.out.on bb3)
    have Pa : Hid (PtM w3 w2.heap.size (q : Int) (n : Int) (n : Int) (.slice v2a (flat n n A).length v2c)) := (PtM.new _ _ _ _ _ _).on hb3
    have B3 := Lib.hid (B2.out.trans (bb3.mono B2.out.size))
    clear bb3 hb3
    obtain ⟨lPa, Pa0, Pa1, Pa2, Pa3⟩ := Pa.out
    go_wp2_with fail
    refine (implIn_any CA.out HIN.out).mono ?_
    rintro e w4 ⟨v4, rfl, ho4, hb4⟩
    clear lPa Pa0 Pa1 Pa2 Pa3
    have bb4 : Below w3.heap.size w3 w4 := hb4
    have Pa := Lib.hid (Pa.out.on bb4)
    have CA := Lib.hid (CA.out.on bb4)
    have B4 := Lib.hid (B3.out.trans (bb4.mono B3.out.size))
    obtain ⟨v4a, v4c, rfl⟩ := ho4.slice
    have CI := Lib.hid (ho4.atC (by simp only [List.length_nil, flat_len]; omega))
    clear bb4 hb4 ho4
    obtain ⟨lPa, Pa0, Pa1, Pa2, Pa3⟩ := Pa.out
    go_wp2_with fail
    refine (implUnit_any _ HUR.out).mono ?_
    rintro e w5 ⟨v5, rfl, ho5, hb5⟩
    clear lPa Pa0 Pa1 Pa2 Pa3
    have bb5 : Below w4.heap.size w4 w5 := up1 hb5
    have Pa := Lib.hid (Pa.out.on bb5)
    have CA := Lib.hid (CA.out.on bb5)
    have CI := Lib.hid (CI.out.on bb5)
    have Pi : Hid (PtM w5 w4.heap.size 0 0 0 (.slice v4a ([] : List Int).length v4c)) := (PtM.new _ _ _ _ _ _).on hb5
    have B5 := Lib.hid (B4.out.trans (bb5.mono B4.out.size))
    obtain ⟨v5a, v5c, rfl⟩ := ho5.slice
    have CU := Lib.hid (ho5.atC (by simp only [List.length_nil, flat_len]; omega))
    clear bb5 hb5 ho5
    go_wp2_with fail
    go_ret
    exact ⟨rfl, al1 B5.out _⟩
theorem inverse_of (a0 : Option Addr) (l0 c0 : Nat) (z0 : List Int) (a1 : Option Addr) (l1 c1 : Nat) (z1 : List Int) (w : World)
    (h0 : (a0 = none ∧ l0 = 0 ∧ c0 = 0 ∧ z0 = []) ∨ ∃ x, a0 = some x ∧ l0 ≤ c0 ∧ c0 ≤ maxLen ∧ z0.length = c0 ∧ (∀ i, i < z0.length → w.cell? (x.add i) = some (.int .u8 (z0.getD i 0))) ∧ ∀ n ∈ z0, (Lit.int .u8 n).wf = true)
    (h1 : (a1 = none ∧ l1 = 0 ∧ c1 = 0 ∧ z1 = []) ∨ ∃ x, a1 = some x ∧ l1 ≤ c1 ∧ c1 ≤ maxLen ∧ z1.length = c1 ∧ (∀ i, i < z1.length → w.cell? (x.add i) = some (.int .u8 (z1.getD i 0))) ∧ ∀ n ∈ z1, (Lit.int .u8 n).wf = true) :
    Calls Try.prog 4 #[.slice a0 l0 c0, .slice a1 l1 c1] w fun e w' => e = .returned (.bool true) ∧ Below w.heap.size w w' := by
  by_cases h : 1048576 < l0 ∨ 1048576 < l1
  · exact inverse_long a0 l0 c0 a1 l1 c1 w h
  · exact inverse_walk a0 l0 c0 a1 l1 c1 w (bytes_in (by omega) h0) (bytes_in (by omega) h1)
end Go.Proofs.Ytabanmaaagmeaaa
