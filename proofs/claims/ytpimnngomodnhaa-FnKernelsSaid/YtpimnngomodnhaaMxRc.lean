/-
  The reduction of the model.
-/
import Derived.Test.YtpimnngomodnhaaPG
import Derived.Test.YtpimnngomodnhaaPE
import Derived.Deep.DeepCutAuto
namespace Go.Proofs.Ytpimnngomodnhaa
open Go.RowKit
open Lin
set_option linter.unusedVariables false
set_option linter.unusedSectionVars false

/-- How l03Reduced ends. -/
def RetRd {q : Nat} [NeZero q] (m n : Nat) (s : St q) (w : World) (e : Ending) (w' : World) : Prop :=
  ∃ v pv, e = .returned (.tuple #[.agg #[.int .i64 q, .int .i64 m, .int .i64 n, v], pv, .int .i64 (fv s.d)]) ∧ OwnI w.heap.size w' v (flat m n s.A) ∧ OwnI w.heap.size w' pv (pivI s.piv) ∧ Below w.heap.size w w' ∧ Sep v pv
theorem cell_in {x y m n : Nat} {u : Nat} (h : x * n = y) (h2 : y + u = x * n + u) : True := trivial
theorem fv_sub {q : Nat} [NeZero q] {d : Fin q} (h : d ≠ 0) : (q : Int) - fv d = fv (-d) := by
  have h0 : fv d ≠ 0 := fun e => h (fv_eq_zero.1 e)
  have h1 := fv_nn d
  have h2 := fv_lt d
  refine fv_eq (by omega) (by omega) ⟨(-fv d) / q + 1, ?_⟩
  have h3 := Int.mul_ediv_add_emod (-fv d) q
  rw [fv_neg] at h3
  rw [Int.mul_add]
  omega
/-- The matrix that is worked on, and the list of pivots. -/
def RedW {q : Nat} [NeZero q] (W1 w : World) (G C m n : Nat) (M : Mt q) (pv : Value) (ps : List Int) : Prop :=
  MatG w G C m n M ∧ OwnI W1.heap.size w pv ps ∧ W1.grownBy w (some G)
section
variable {q : Nat} [NeZero q] {W1 w : World} {G C m n : Nat} {M : Mt q} {pv : Value} {ps : List Int}
theorem RedW.set (h : RedW W1 w G C m n M pv ps) (sG : G < W1.heap.size) {i j u : Nat} (hi : i < m) (hj : j < n) (hu : i * n + j = u) (x : Fin q) {z : Int} (hz : z = fv x) : RedW W1 (w.setCell ⟨G, u, none⟩ (.int .i64 z)) G C m n (upd M i j x) pv ps := by
  subst hu
  subst hz
  exact ⟨h.1.set hi hj x, OwnI.setOut h.2.1 sG _, gb_set h.2.2 _⟩
theorem RedW.drew (h : RedW W1 w G C m n M pv ps) : RedW W1 w.drew G C m n M pv ps := ⟨h.1.drew, OwnI.drew h.2.1, gb_drew h.2.2⟩
theorem RedW.drewN (h : RedW W1 w G C m n M pv ps) (k : Nat) : RedW W1 (w.drewN k) G C m n M pv ps := ⟨h.1.drewN k, h.2.1, gb_drewN h.2.2 k⟩
theorem RedW.congr {M' : Mt q} (h : RedW W1 w G C m n M pv ps) (e : ∀ i j, i < m → j < n → M i j = M' i j) : RedW W1 w G C m n M' pv ps := ⟨h.1.congr e, h.2⟩
theorem RedW.cell (h : RedW W1 w G C m n M pv ps) {i j u : Nat} (hi : i < m) (hj : j < n) (hu : i * n + j = u) {x : Fin q} (hx : M i j = x) : w.cell? ⟨G, u, none⟩ = some (.int .i64 (fv x)) := by
  subst hu
  subst hx
  exact h.1.cell hi hj
theorem RedW.fz (h : RedW W1 w G C m n M pv ps) (t : Nat) : w.frozen? ⟨G, t, none⟩ = false := h.1.frozen t
end
/-- A cell's place, by names. -/
theorem idx_nm {i j m n N0 : Nat} (hi : i < m) (hj : j < n) (hN : m * n = N0) (h1 : N0 ≤ 1048576) : ∃ y t : Nat, IntKind.i64.wrap ((i : Int) * (n : Int)) = (y : Int) ∧ IntKind.i64.wrap ((y : Int) + (j : Int)) = (t : Int) ∧ (0 : Int) ≤ (t : Int) ∧ (t : Int) < (N0 : Int) ∧ Hid (i * n + j = t) := by
  have hl := idx_lt hi hj
  refine ⟨i * n, i * n + j, ?_, ?_, by omega, by omega, rfl⟩
  · rw [← Int.natCast_mul]; exact IntWalk.i64_in _ (by omega)
  · rw [← Int.natCast_add]; exact IntWalk.i64_in _ (by omega)
set_option maxRecDepth 100000 in
set_option maxHeartbeats 12800000 in
theorem l03Reduced_ok {q m n : Nat} [NeZero q] {A : Mt q} {L : Nat} {v : Value} {w : World} (hp : PtM w L q m n v) (hv : IntsC w v (flat m n A)) (hpr : IsPr (q : Int)) (hm : m ≤ 1048576) (hn : n ≤ 64) (hN : m * n ≤ 1048576) (h0 : 0 < m * n) :
    Calls Try.prog 87 #[.pointer (some ⟨L, 0, none⟩)] w fun e w' => RetRd m n (red m A n) w e w' := by
  have hq2 : 2 ≤ q := by have := hpr.1; omega
  have hq : q ≤ 251 := by have := hpr.2.1; omega
  have hf := fd_of hpr
  have HPR := Lib.hid hpr
  obtain ⟨N0, hN0⟩ : ∃ N0, m * n = N0 := ⟨_, rfl⟩
  have HN0 := Lib.hid hN0
  have hN1 : N0 ≤ 1048576 := by rw [← hN0]; exact hN
  clear hN0
  have HV := Lib.hid hv
  obtain ⟨a1, cp, rfl, hl1, -⟩ := hv.1
  obtain ⟨i0, hi, hz0, hz1, hz2⟩ := info_parts info2
  simp only [flat_len] at hp HV hl1 ⊢
  clear hv
  have lL := hp.1
  have bb := (Below.refl w.heap.size w).alloc (Nat.le_refl _) (.cells #[.int .i64 0, .int .i64 0, .int .i64 0, .slice none 0 0] 26)
  have Pa0 := hp.on bb
  have Pr0 := PtM.new w 0 0 0 (.slice none 0 0) 26
  have Fr0 := Fz.new w #[.int .i64 0, .int .i64 0, .int .i64 0, .slice none 0 0] 26
  clear hp
  go_enter Try.func87, Try.ntmps87
  go_wp2_with fail
  generalize hW : World.alloc w (.cells #[.int .i64 0, .int .i64 0, .int .i64 0, .slice none 0 0] 26) = W0 at Pa0 Pr0 Fr0 bb ⊢
  obtain ⟨R, hR⟩ : ∃ R, w.heap.size = R := ⟨_, rfl⟩
  have hz : R + 1 ≤ W0.heap.size := by rw [← hW, ← hR]; simp
  have HV := Lib.hid (HV.out.on bb)
  rw [hR] at Pr0 Fr0 lL ⊢
  have HB := Lib.hid bb
  have Pa := Lib.hid Pa0
  have Pr := Lib.hid Pr0
  have Fr : Hid (Fz W0 R) := Fr0
  clear hW bb Pa0 Pr0 Fr0
  obtain ⟨lA, x0, x1, x2, x3⟩ := Pa.out
  have neA := Pa.out.ne
  go_cut [5] (fun sp wx => Hid (∃ (O B E : Nat) (a : Option Addr) (c : Nat), sp = .pointer (some ⟨O, 0, none⟩) ∧ RegM W0 wx O B E q m n (.slice a (flat m n A).length c) (flat m n A)))
  case first =>
    go_region_held3 (fun w' => w'.cell? ⟨L, 0, none⟩ = some (.int .i64 q) ∧ w'.cell? ⟨L, 1, none⟩ = some (.int .i64 m) ∧ w'.cell? ⟨L, 2, none⟩ = some (.int .i64 n) ∧ w'.cell? ⟨L, 3, none⟩ = some (.slice a1 (m * n) cp)) (go_keep)
      (first
        | (go_at_call 103; refine (l00Own_any (by first | exact HV.out | exact HV.out.drew | exact HV.out.al | exact HV.out.al.drew | exact HV.out.drew.al) (by rw [flat_len]; omega)).mono ?_; rintro e w3 ⟨v3, rfl, ho3, hb'⟩; have hb : Below W0.heap.size W0 w3 := (by first | exact hb' | exact undrew hb' | exact up1 hb' | exact up1 (undrew hb') | exact undrew (up1 hb')); obtain ⟨_, _⟩ := bcell hb'; have hs := hb'.size; (try simp at hs); (try have := (by omega : W0.heap.size < w3.heap.size)); obtain ⟨v3a, v3c, rfl⟩ := ho3.slice; obtain ⟨_, _, _, _, _⟩ := Pa.out.on hb; have := (Pa.out.on hb).ne))
    · go_wp2_with fail
      go_meet
      case rel => exact ⟨_, _, _, _, _, rfl, RegM.new (OwnX.of ho3 (Nat.le_refl _)) (by first | exact Nat.le_refl _ | omega | (simp; done) | (simp; omega)) hb⟩
    · go_wp2_with fail
      go_meet
      case rel => exact ⟨_, _, _, _, _, rfl, RegM.set ((PtM.new _ _ _ _ _ _).drew.on hb') (OwnX.of ho3 (Nat.le_refl _)) (by first | omega | (simp; done) | (simp; omega)) (by first | omega | (simp; done) | (simp; omega)) (by first | omega | (simp; done) | (simp; omega)) hb⟩
  obtain ⟨O, B5, E5, av, ac, rfl, hpO, hoO, hB5, hd5, hO5, hb5⟩ := hcut.out
  clear hcut lA x0 x1 x2 x3 neA
  rename World => W1
  obtain ⟨G, C, eG, hG5, hC, hMG⟩ := MatG.of_own hoO.1 h0
  obtain ⟨e1, -, e3⟩ : av = _ ∧ _ ∧ ac = C := by injection eG with e1 e2 e3; exact ⟨e1, e2, e3⟩
  subst e1
  subst e3
  have hGE := hoO.2.2 G rfl
  have hGO : O ≠ G := by omega
  have sG := hMG.lt
  simp only [flat_len] at hpO
  have PM := Lib.hid hpO
  have HM := Lib.hid hMG
  have Pa := Lib.hid (Pa.out.on hb5)
  have Pr := Lib.hid (Pr.out.on hb5)
  have Fr : Hid (Fz W1 R) := Fr.out.on (by omega) hb5
  have HB := Lib.hid (HB.out.trans (hb5.mono HB.out.size))
  have sO := hpO.1
  have sw := hb5.size
  have hRG : R < G := by omega
  have hLG : L < G := by omega
  clear hpO hoO hMG hb5 hd5 HV eG
  obtain ⟨lA, x0, x1, x2, x3⟩ := Pa.out
  obtain ⟨lM, m0, m1, m2, m3⟩ := PM.out
  have neA := Pa.out.ne
  have neM := PM.out.ne
  have qz : ¬ (q : Int) = 0 := by omega
  go_wp2_with fail
  clear lA x0 x1 x2 x3 lM m0 m1 m2 m3 neA neM
  go_loopw [11, 10, 9, 8] (fun sk sr sd sp wr => ∃ k : Nat, k ≤ n ∧ sk = .int .i64 (k : Int) ∧ sr = .int .i64 ((red m A k).top : Int) ∧ sd = .int .i64 (fv (red m A k).d) ∧ Hid (RedW W1 wr G ac m n (red m A k).A sp (pivI (red m A k).piv))) (fun sk _ _ _ _ => n - (intOf sk).toNat)
  case atStart =>
    refine ⟨0, Nat.zero_le _, rfl, rfl, by show _ = Value.int .i64 (fv (1 : Fin q)); rw [fv_one hq2], ?_, ?_, ?_⟩
    · exact HM.out.on ((Below.refl _ _).alloc (Nat.le_refl _) _)
    · exact madeI _ _ (Nat.le_refl _)
    · exact gb_alloc (grown_refl _ _) _
  case round =>
    obtain ⟨k, hk, rfl, rfl, rfl, HX⟩ := hrel
    have hInv := red_inv hf m A k
    have HS : Hid (∀ t, stepK m k (red m A k) = t → red m A (k + 1) = t) := fun t h => h
    have HE := Lib.hid (fun h d => red_stop (m := m) (k := k) (A := A) h d)
    have HE0 : Hid (k = n → red m A n = red m A k) := fun e => by rw [e]
    generalize hse : red m A k = s at hInv HS HE HE0 HX ⊢
    clear hse
    have hle := hInv.le
    have hTl := hInv.len
    have hnz := hInv.nz
    clear hInv
    obtain ⟨pa, pc, rfl⟩ := HX.out.2.1.slice
    obtain ⟨lA, x0, x1, x2, x3⟩ := Pa.out.gb HX.out.2.2 (by omega)
    obtain ⟨lM, m0, m1, m2, m3⟩ := PM.out.gb HX.out.2.2 (by omega)
    have k0 : (0 : Int) ≤ (k : Int) := by omega
    by_cases hgo : k < n ∧ s.top < m
    · as_aux_lemma =>
      obtain ⟨hkn, htm⟩ := hgo
      have k1 : (k : Int) < (n : Int) := by omega
      have t0 : (0 : Int) ≤ (s.top : Int) := by omega
      have t1 : (s.top : Int) < (m : Int) := by omega
      go_wp2_with fail
      clear lA x0 x1 x2 x3 lM m0 m1 m2 m3
      go_loopw [12] (fun sa wx => ∃ a : Nat, s.top ≤ a ∧ a ≤ m ∧ sa = .int .i64 (a : Int) ∧ Hid (∀ i, s.top ≤ i → i < a → s.A i k = 0) ∧ wr = wx) (fun sa _ => m - (intOf sa).toNat)
      case atStart => exact ⟨s.top, Nat.le_refl _, by omega, rfl, fun i h1 h2 => absurd h2 (by omega), rfl⟩
      case round =>
        obtain ⟨a, ha, ham, rfl, HZS, rfl⟩ := hrel
        obtain ⟨lA, x0, x1, x2, x3⟩ := Pa.out.gb HX.out.2.2 (by omega)
        obtain ⟨lM, m0, m1, m2, m3⟩ := PM.out.gb HX.out.2.2 (by omega)
        rw [HN0.out] at m3
        by_cases hat : a < m
        · have at1 : (a : Int) < (m : Int) := by omega
          obtain ⟨y, vk, w1, w2, k0u, k1u, HVK⟩ := idx_nm hat hkn HN0.out hN1
          have c1 := HX.out.cell hat hkn HVK.out rfl
          by_cases hz0' : s.A a k = 0
          · as_aux_lemma =>
            have hb0 : (fv (s.A a k) == 0) = true := by rw [hz0', fv_zero]; rfl
            have hz0' := Lib.hid hz0'
            go_wp2
            go_roundw
            case rel => exact ⟨a + 1, by omega, by omega, by go_num, fun i h1 h2 => by
              rcases Nat.lt_or_ge i a with h | h
              · exact HZS.out i h1 h
              · rw [show i = a by omega]; exact hz0'.out, by first | rfl | trivial⟩
            case measure => simp [intOf]; omega
          · as_aux_lemma =>
            have hb0 : (fv (s.A a k) == 0) = false := by
              have : fv (s.A a k) ≠ 0 := fun e => hz0' (fv_eq_zero.1 e)
              simpa using this
            have hx : IsSeek s.A k m s.top a := ⟨ha, ham, HZS.out, fun _ => hz0'⟩
            have hnext : red m A (k + 1) = pivot s k a := HS.out _ (stepK_some hx hle hat)
            have HNX := Lib.hid hnext
            clear hnext hx HS HE HE0 HZS
            go_upto_if 90 with fail
            clear lA x0 x1 x2 x3 lM m0 m1 m2 m3 c1 w1 w2 k0u k1u
            have hz0' := Lib.hid hz0'
            go_cut [9] (fun sd wr => ∃ D : Fin q, sd = .int .i64 (fv D) ∧ Hid ((if a = s.top then s.d else -s.d) = D) ∧ Hid (RedW W1 wr G ac m n (swapR s.A s.top a) (.slice pa (pivI s.piv).length pc) (pivI s.piv)))
            case first =>
              by_cases hxt : a = s.top
              · as_aux_lemma =>
                have hxt1 : ((a : Int) != (s.top : Int)) = false := by simp; omega
                have HXE : Hid (RedW W1 wr G ac m n (swapR s.A s.top a) (.slice pa (pivI s.piv).length pc) (pivI s.piv)) := by rw [hxt, swap_id]; exact HX.out
                have hxt := Lib.hid hxt
                go_wp2_with fail
                go_meet
                case rel => exact ⟨s.d, rfl, by rw [if_pos hxt.out]; rfl, HXE.out⟩
              · as_aux_lemma =>
                have hxt1 : ((a : Int) != (s.top : Int)) = true := by simp; omega
                have hneg := fv_sub hnz
                obtain ⟨D, hD⟩ : ∃ D, -s.d = D := ⟨_, rfl⟩
                have HDN := Lib.hid hD
                rw [hD] at hneg
                have d0 := fv_nn D
                have d1 := fv_lt D
                have wd : IntKind.i64.wrap ((q : Int) - fv s.d) = fv D := by rw [hneg]; exact IntWalk.i64_in _ (by omega)
                have hxt := Lib.hid hxt
                clear hneg hD
                obtain ⟨lA, x0, x1, x2, x3⟩ := Pa.out.gb HX.out.2.2 (by omega)
                obtain ⟨lM, m0, m1, m2, m3⟩ := PM.out.gb HX.out.2.2 (by omega)
                go_wp2_with fail
                clear lA x0 x1 x2 x3 lM m0 m1 m2 m3
                go_loopw [13] (fun sj wr => ∃ j : Nat, j ≤ n ∧ sj = .int .i64 (j : Int) ∧ Hid (RedW W1 wr G ac m n (swJ s.A s.top a j) (.slice pa (pivI s.piv).length pc) (pivI s.piv))) (fun sj _ => n - (intOf sj).toNat)
                case atStart => exact ⟨0, Nat.zero_le _, rfl, by rw [swJ_zero]; exact HX.out⟩
                case round =>
                  clear HX
                  obtain ⟨j, hj, rfl, HX⟩ := hrel
                  obtain ⟨lA, x0, x1, x2, x3⟩ := Pa.out.gb HX.out.2.2 (by omega)
                  obtain ⟨lM, m0, m1, m2, m3⟩ := PM.out.gb HX.out.2.2 (by omega)
                  rw [HN0.out] at m3

                  by_cases hjt : j < n
                  · as_aux_lemma =>
                    have j1 : (j : Int) < (n : Int) := by omega
                    obtain ⟨ya, va, waa, wba, vaa, vba, HVa⟩ := idx_nm hat hjt HN0.out hN1
                    obtain ⟨yt, vt, wat, wbt, vat, vbt, HVt⟩ := idx_nm htm hjt HN0.out hN1

                    have ca := HX.out.cell hat hjt HVa.out rfl
                    have ct := HX.out.cell htm hjt HVt.out rfl
                    have hne : va ≠ vt := fun e => hxt.out (by
                      have h1 := HVa.out
                      have h2 := HVt.out
                      have h3 : a * n = s.top * n := by omega
                      exact Nat.eq_of_mul_eq_mul_right (by omega : 0 < n) h3)
                    have fa := HX.out.fz va
                    have ft := HX.out.fz vt
                    obtain ⟨za, hza⟩ : ∃ z, swJ s.A s.top a j a j = z := ⟨_, rfl⟩
                    obtain ⟨zt, hzt⟩ : ∃ z, swJ s.A s.top a j s.top j = z := ⟨_, rfl⟩
                    have HXN : Hid (RedW W1 (((wr.setCell ⟨G, va, none⟩ (.int .i64 (fv zt))).drew).setCell ⟨G, vt, none⟩ (.int .i64 (fv za))) G ac m n (swJ s.A s.top a (j + 1)) (.slice pa (pivI s.piv).length pc) (pivI s.piv)) := by
                      have h := ((HX.out.set sG hat hjt HVa.out (swJ s.A s.top a j s.top j) rfl).drew.set sG htm hjt HVt.out (swJ s.A s.top a j a j) rfl)
                      rw [← hza, ← hzt]
                      rw [swJ_step (Ne.symm hxt.out)] at h
                      exact h
                    rw [hza] at ca
                    rw [hzt] at ct
                    have hne' := Ne.symm hne
                    have hGO' := Ne.symm hGO
                    clear hza hzt HX
                    go_wp2
                    go_region
                    go_wp2
                    go_roundw
                    case rel => exact ⟨j + 1, by omega, by go_num, HXN.out⟩
                    case measure => simp [intOf]; omega
                  · obtain rfl : n = j := by omega
                    have HXE : Hid (RedW W1 wr G ac m n (swapR s.A s.top a) (.slice pa (pivI s.piv).length pc) (pivI s.piv)) := HX.out.congr fun i l _ hl => swJ_all hl
                    clear HX
                    go_wp2_with fail
                    go_meet
                    case rel => exact ⟨-s.d, by rw [HDN.out], by rw [if_neg hxt.out]; rfl, HXE.out⟩
            case rest =>
              as_aux_lemma =>
              clear HX
              obtain ⟨D, rfl, HDD, HX⟩ := hcut
              rename World => wr
              obtain ⟨lA, x0, x1, x2, x3⟩ := Pa.out.gb HX.out.2.2 (by omega)
              obtain ⟨lM, m0, m1, m2, m3⟩ := PM.out.gb HX.out.2.2 (by omega)
              rw [HN0.out] at m3
              obtain ⟨yl, vl, wal, wbl, val, vbl, HVl⟩ := idx_nm htm hkn HN0.out hN1
              obtain ⟨ld, hld⟩ : ∃ ld, s.A a k = ld := ⟨_, rfl⟩
              have cl := HX.out.cell htm hkn HVl.out (x := ld) (by rw [← hld]; simp [swapR])
              have b0 := fv_nn D
              have b1 := fv_lt D
              have l0 := fv_nn ld
              have l1 := fv_lt ld
              have p0 : 0 ≤ fv D * fv ld := Int.mul_nonneg b0 l0
              have p1 : fv D * fv ld ≤ 251 * 251 := Int.mul_le_mul (by omega) (by omega) l0 (by omega)
              have tp : (fv D * fv ld).tmod (q : Int) = fv (D * ld) := by rw [Int.tmod_eq_emod_of_nonneg p0, fv_mul]
              have e0 := fv_nn (D * ld)
              have e1 := fv_lt (D * ld)
              obtain ⟨D2, hD2⟩ : ∃ D2, D * ld = D2 := ⟨_, rfl⟩
              rw [hD2] at tp e0 e1
              have HD2 := Lib.hid hD2
              have hldz : ld ≠ 0 := by rw [← hld]; exact hz0'.out
              have wp : IntKind.i64.wrap (fv D * fv ld) = fv D * fv ld := IntWalk.i64_in _ (by omega)
              have wq : IntKind.i64.wrap (fv D2) = fv D2 := IntWalk.i64_in _ (by omega)
              obtain ⟨c, hc⟩ : ∃ c, finv ld = c := ⟨_, rfl⟩
              have HLD := Lib.hid hld
              have HIC := Lib.hid hc
              have HLZ := Lib.hid hldz
              clear hld hc hldz hD2
              go_wp2_with fail
              refine (l03Inverse_any HPR.out HLZ.out _).mono ?_
              rintro e wy ⟨rfl, rfl⟩
              rw [HIC.out]
              clear lA x0 x1 x2 x3 lM m0 m1 m2 m3 cl wal wbl val vbl HVl b0 b1 p0 p1 tp wp l0 l1
              go_wp2_with fail
              go_loopw [17] (fun sj wr => ∃ j : Nat, j ≤ n ∧ sj = .int .i64 (j : Int) ∧ Hid (RedW W1 wr G ac m n (scJ (swapR s.A s.top a) s.top c j) (.slice pa (pivI s.piv).length pc) (pivI s.piv))) (fun sj _ => n - (intOf sj).toNat)
              case atStart => exact ⟨0, Nat.zero_le _, rfl, by rw [scJ_zero]; exact HX.out⟩
              case round =>
                clear HX
                obtain ⟨j, hj, rfl, HX⟩ := hrel
                obtain ⟨lA, x0, x1, x2, x3⟩ := Pa.out.gb HX.out.2.2 (by omega)
                obtain ⟨lM, m0, m1, m2, m3⟩ := PM.out.gb HX.out.2.2 (by omega)
                rw [HN0.out] at m3

                by_cases hjt : j < n
                · as_aux_lemma =>
                  have j1 : (j : Int) < (n : Int) := by omega
                  obtain ⟨yj, vj, waj, wbj, vaj, vbj, HVj⟩ := idx_nm htm hjt HN0.out hN1

                  obtain ⟨z, hz⟩ : ∃ z, scJ (swapR s.A s.top a) s.top c j s.top j = z := ⟨_, rfl⟩
                  have cj := HX.out.cell htm hjt HVj.out hz
                  have fj := HX.out.fz vj
                  have HXN : Hid (RedW W1 ((wr.setCell ⟨G, vj, none⟩ (.int .i64 (fv (z * c)))).drew) G ac m n (scJ (swapR s.A s.top a) s.top c (j + 1)) (.slice pa (pivI s.piv).length pc) (pivI s.piv)) := by
                    have h := (HX.out.set sG htm hjt HVj.out (z * c) rfl).drew
                    rw [← hz, scJ_step, hz] at h
                    exact h
                  have b0 := fv_nn z
                  have b1 := fv_lt z
                  have g0 := fv_nn c
                  have g1 := fv_lt c
                  have p0 : 0 ≤ fv z * fv c := Int.mul_nonneg b0 g0
                  have p1 : fv z * fv c ≤ 251 * 251 := Int.mul_le_mul (by omega) (by omega) g0 (by omega)
                  have tp : (fv z * fv c).tmod (q : Int) = fv (z * c) := by rw [Int.tmod_eq_emod_of_nonneg p0, fv_mul]
                  have r0 := fv_nn (z * c)
                  have r1 := fv_lt (z * c)
                  have wp : IntKind.i64.wrap (fv z * fv c) = fv z * fv c := IntWalk.i64_in _ (by omega)
                  have wrr : IntKind.i64.wrap (fv (z * c)) = fv (z * c) := IntWalk.i64_in _ (by omega)
                  have hGO' := Ne.symm hGO
                  clear hz HX
                  go_wp2
                  go_region
                  go_wp2
                  go_roundw
                  case rel => exact ⟨j + 1, by omega, by go_num, HXN.out⟩
                  case measure => simp [intOf]; omega
                · as_aux_lemma =>
                  obtain rfl : n = j := by omega
                  have HX2 : Hid (RedW W1 wr G ac m n (scaleR (swapR s.A s.top a) s.top c) (.slice pa (pivI s.piv).length pc) (pivI s.piv)) := HX.out.congr fun i l _ hl => scJ_all hl
                  clear HX
                  go_wp2_with fail
                  clear lA x0 x1 x2 x3 lM m0 m1 m2 m3
                  go_loopw [18] (fun si wr => ∃ i : Nat, i ≤ m ∧ si = .int .i64 (i : Int) ∧ Hid (RedW W1 wr G ac m n (clJ (scaleR (swapR s.A s.top a) s.top c) s.top (fun i => swapR s.A s.top a i k) i 0) (.slice pa (pivI s.piv).length pc) (pivI s.piv))) (fun si _ => m - (intOf si).toNat)
                  case atStart => exact ⟨0, Nat.zero_le _, rfl, by rw [clJ_zero]; exact HX2.out⟩
                  case round =>
                    clear HX2
                    obtain ⟨i, hi', rfl, HX⟩ := hrel
                    obtain ⟨lA, x0, x1, x2, x3⟩ := Pa.out.gb HX.out.2.2 (by omega)
                    obtain ⟨lM, m0, m1, m2, m3⟩ := PM.out.gb HX.out.2.2 (by omega)
                    rw [HN0.out] at m3

                    by_cases hit : i < m
                    · as_aux_lemma =>
                      have i1 : (i : Int) < (m : Int) := by omega
                      obtain ⟨yi, vi, wai, wbi, vai, vbi, HVi⟩ := idx_nm hit hkn HN0.out hN1

                      by_cases hir : i = s.top
                      · have ci := HX.out.cell hit hkn HVi.out rfl
                        have hib : ((i : Int) == (s.top : Int)) = true := by simp; omega
                        have HXN : Hid (RedW W1 wr G ac m n (clJ (scaleR (swapR s.A s.top a) s.top c) s.top (fun i => swapR s.A s.top a i k) (i + 1) 0) (.slice pa (pivI s.piv).length pc) (pivI s.piv)) := HX.out.congr fun b l _ _ => clJ_skip (.inl hir)
                        have HIR := Lib.hid hir
                        obtain ⟨f, hf2⟩ : ∃ f, clJ (scaleR (swapR s.A s.top a) s.top c) s.top (fun i => swapR s.A s.top a i k) i 0 i k = f := ⟨_, rfl⟩
                        rw [hf2] at ci
                        clear HX hir hf2
                        go_wp2
                        go_roundw
                        case rel => exact ⟨i + 1, by omega, by go_num, HXN.out⟩
                        case measure => simp [intOf]; omega
                      · have hib : ((i : Int) == (s.top : Int)) = false := by simp; omega
                        obtain ⟨f, hf2⟩ : ∃ f, swapR s.A s.top a i k = f := ⟨_, rfl⟩
                        have ci := HX.out.cell hit hkn HVi.out (x := f) (by unfold clJ scaleR; rw [if_neg (by omega), if_neg hir]; exact hf2)
                        have HFF := Lib.hid hf2
                        have HIR := Lib.hid hir
                        clear hir
                        by_cases hf0 : f = 0
                        · have hfb : (fv f == 0) = true := by rw [hf0, fv_zero]; rfl
                          have HXN : Hid (RedW W1 wr G ac m n (clJ (scaleR (swapR s.A s.top a) s.top c) s.top (fun i => swapR s.A s.top a i k) (i + 1) 0) (.slice pa (pivI s.piv).length pc) (pivI s.piv)) := HX.out.congr fun b l _ _ => clJ_skip (.inr (hf2.trans hf0))
                          clear HX hf0 hf2
                          go_wp2
                          go_roundw
                          case rel => exact ⟨i + 1, by omega, by go_num, HXN.out⟩
                          case measure => simp [intOf]; omega
                        · have hfb : (fv f == 0) = false := by
                            have : fv f ≠ 0 := fun e => hf0 (fv_eq_zero.1 e)
                            simpa using this
                          clear hf0 hf2
                          go_wp2_with fail
                          clear lA x0 x1 x2 x3 lM m0 m1 m2 m3 ci wai wbi vai vbi HVi hfb
                          go_loopw [20] (fun sj wr => ∃ j : Nat, j ≤ n ∧ sj = .int .i64 (j : Int) ∧ Hid (RedW W1 wr G ac m n (clJ (scaleR (swapR s.A s.top a) s.top c) s.top (fun i => swapR s.A s.top a i k) i j) (.slice pa (pivI s.piv).length pc) (pivI s.piv))) (fun sj _ => n - (intOf sj).toNat)
                          case atStart => exact ⟨0, Nat.zero_le _, rfl, HX.out⟩
                          case round =>
                            clear HX
                            obtain ⟨j, hj, rfl, HX⟩ := hrel
                            obtain ⟨lA, x0, x1, x2, x3⟩ := Pa.out.gb HX.out.2.2 (by omega)
                            obtain ⟨lM, m0, m1, m2, m3⟩ := PM.out.gb HX.out.2.2 (by omega)
                            rw [HN0.out] at m3

                            by_cases hjt : j < n
                            · as_aux_lemma =>
                              have j1 : (j : Int) < (n : Int) := by omega
                              obtain ⟨yj, vj, waj, wbj, vaj, vbj, HVj⟩ := idx_nm hit hjt HN0.out hN1
                              obtain ⟨yt, vt, wat, wbt, vat, vbt, HVt⟩ := idx_nm htm hjt HN0.out hN1

                              have fj := HX.out.fz vj
                              obtain ⟨z, hz⟩ : ∃ z, clJ (scaleR (swapR s.A s.top a) s.top c) s.top (fun i => swapR s.A s.top a i k) i j i j = z := ⟨_, rfl⟩
                              obtain ⟨t, ht⟩ : ∃ t, clJ (scaleR (swapR s.A s.top a) s.top c) s.top (fun i => swapR s.A s.top a i k) i j s.top j = t := ⟨_, rfl⟩
                              have cj := HX.out.cell hit hjt HVj.out hz
                              have ct := HX.out.cell htm hjt HVt.out ht
                              have HXN : Hid (∀ x : Int, x = fv (z - f * t) → RedW W1 (wr.drew.setCell ⟨G, vj, none⟩ (.int .i64 x)) G ac m n (clJ (scaleR (swapR s.A s.top a) s.top c) s.top (fun i => swapR s.A s.top a i k) i (j + 1)) (.slice pa (pivI s.piv).length pc) (pivI s.piv)) := fun x hx => by
                                have h := (HX.out.drew.set sG hit hjt HVj.out (z - f * t) hx)
                                have hs := clJ_step (B := (scaleR (swapR s.A s.top a) s.top c)) (t := s.top) (c := (fun i => swapR s.A s.top a i k)) (j := j) HIR.out
                                rw [hz, ht, HFF.out] at hs
                                rw [hs] at h
                                exact h
                              have sm := fv_submul z f t
                              have z0 := fv_nn z
                              have z1 := fv_lt z
                              have s0 := fv_nn f
                              have s1 := fv_lt f
                              have t0 := fv_nn t
                              have t1 := fv_lt t
                              obtain ⟨zi, hzi⟩ : ∃ x, fv z = x := ⟨_, rfl⟩
                              obtain ⟨fi, hfi⟩ : ∃ x, fv f = x := ⟨_, rfl⟩
                              obtain ⟨ti, hti⟩ : ∃ x, fv t = x := ⟨_, rfl⟩
                              rw [hzi] at cj sm z0 z1
                              rw [hfi] at sm s0 s1 ⊢
                              rw [hti] at ct sm t0 t1
                              have p0 : 0 ≤ fi * ti := Int.mul_nonneg s0 t0
                              have p1 : fi * ti ≤ 251 * 251 := Int.mul_le_mul (by omega) (by omega) t0 (by omega)
                              obtain ⟨pp, hpp⟩ : ∃ x, fi * ti = x := ⟨_, rfl⟩
                              rw [hpp] at p0 p1 sm
                              obtain ⟨y, hy⟩ : ∃ x, zi - pp = x := ⟨_, rfl⟩
                              rw [hy] at sm
                              have wp : IntKind.i64.wrap (fi * ti) = pp := by rw [hpp]; exact IntWalk.i64_in _ (by omega)
                              have ws : IntKind.i64.wrap (zi - pp) = y := by rw [hy]; exact IntWalk.i64_in _ (by omega)
                              have y0 : -100000 ≤ y := by omega
                              have y1 : y ≤ 100000 := by omega
                              have HSM := Lib.hid sm
                              have HFI := Lib.hid hfi
                              have hGO' := Ne.symm hGO
                              clear hz ht hzi hfi hti hpp hy sm HX z0 z1 s0 s1 t0 t1 p0 p1
                              have hcc := (specMod_any y q wr.drew y0 y1 (by omega) (by omega)).mono (fun e w' (h : e = .returned (.int .i64 (y % (q : Int))) ∧ wr.drew = w') => (⟨h.1, h.2.symm⟩ : e = .returned (.int .i64 (y % (q : Int))) ∧ w' = wr.drew))
                              have HXF := Lib.hid (HXN.out (y % q) HSM.out)
                              obtain ⟨Y, hY⟩ : ∃ Y, y % (q : Int) = Y := ⟨_, rfl⟩
                              rw [hY] at hcc HXF
                              have HCC := Lib.hid hcc
                              clear hcc hY HSM HXN
                              go_wp2_with fail
                              go_still_tail 31, (by kernel_rfl)
                              still_call HCC.out
                              repeat still_step
                              try refine wpStill_nil ?_
                              change wpList _ _ _ _ _ wr.drew
                              go_wp2
                              go_roundw
                              case rel => exact ⟨j + 1, by omega, by go_num, HXF.out⟩
                              case measure => simp [intOf]; omega
                            · as_aux_lemma =>
                              obtain rfl : n = j := by omega
                              have HXN : Hid (RedW W1 wr G ac m n (clJ (scaleR (swapR s.A s.top a) s.top c) s.top (fun i => swapR s.A s.top a i k) (i + 1) 0) (.slice pa (pivI s.piv).length pc) (pivI s.piv)) := HX.out.congr fun b l _ hl => clJ_row hl
                              clear HX
                              go_wp2
                              go_roundw
                              case rel => exact ⟨i + 1, by omega, by go_num, HXN.out⟩
                              case measure => simp [intOf]; omega
                    · as_aux_lemma =>
                      obtain rfl : m = i := by omega
                      have hnA : (pivot s k a).A = addR (scaleR (swapR s.A s.top a) s.top c) s.top (fun i => swapR s.A s.top a i k) := by unfold pivot; rw [← HIC.out, ← HLD.out]
                      have hnD : (pivot s k a).d = D2 := by rw [← HD2.out]; unfold pivot; rw [HDD.out, HLD.out]
                      have hnP : (pivot s k a).piv = s.piv ++ [k] := rfl
                      have hnT : (pivot s k a).top = s.top + 1 := rfl
                      have HXN : Hid (RedW W1 wr G ac m n (pivot s k a).A (.slice pa (pivI s.piv).length pc) (pivI s.piv)) := by rw [hnA]; exact HX.out.congr fun b l hb _ => clJ_all hb
                      have HNA := Lib.hid hnA
                      have HND := Lib.hid hnD
                      have HNP := Lib.hid hnP
                      have HNT := Lib.hid hnT
                      have hlen : (pivI s.piv).length + 1 ≤ 1048577 := by rw [pivI_len]; omega
                      have hsz := HX.out.2.2.size
                      obtain ⟨ps, hps⟩ : ∃ ps, pivI s.piv = ps := ⟨_, rfl⟩
                      rw [hps] at HXN hlen
                      rw [hps]
                      have HPS := Lib.hid hps
                      have HO := Lib.hid HXN.out.2.1
                      clear hps hnA hnD hnP hnT HX
                      go_wp2_with (at_builtin; refine wpList_append_own _ rfl _ _ 24 rfl W1.heap.size 2 i0 (.int .i64 0) 1 8 Try.underlying24 hi hz0 hz1 hz2 rfl (by decide) _ _ _ rfl (HO.out.out.alloc _) ⟨wr.heap.size, 0, none⟩ 1 1 [.int .i64 (k : Int)] rfl rfl ?ah1 ?ah2 ?ah3 ?ah4 ?ah5 ?_)
                      try (case ah1 => exact row_int _ _ _)
                      case ah2 => first | rfl | (intro u hu; simp at hu; subst hu; rfl)
                      case ah3 => unfold maxLen; omega
                      case ah4 => omega
                      case ah5 => first | omega | (simp; omega)
                      intro v2 w2 hown2 hgrow _
                      have hO2 := pushI hown2
                      have HOF : Hid (OwnI W1.heap.size w2 v2 (pivI (pivot s k a).piv)) := by rw [HNP.out]; unfold pivI at *; rw [List.map_append]; rw [HPS.out]; exact hO2
                      have HXF := Lib.hid (matG_push HXN.out.1 sG HO.out hgrow)
                      have HGF := Lib.hid (gb_push HXN.out.2.2 HO.out hgrow)
                      clear hown2 hgrow hO2 HXN HO
                      go_wp2
                      go_roundw
                      case rel => exact ⟨k + 1, by omega, by go_num, by rw [HNX.out, HNT.out]; go_num, by rw [HNX.out, HND.out], by rw [HNX.out]; exact ⟨HXF.out, HOF.out, HGF.out⟩⟩
                      case measure => simp [intOf]; omega
        · as_aux_lemma =>
          obtain rfl : a = m := by omega
          have hx : IsSeek s.A k a s.top a := ⟨ha, ham, HZS.out, fun h => absurd h (Nat.lt_irrefl _)⟩
          have hnext := HS.out _ (stepK_none hx hle (Nat.lt_irrefl _))
          have HNX := Lib.hid hnext
          clear hnext hx HS HE HE0 HZS
          go_wp2
          go_roundw
          case rel => exact ⟨k + 1, by omega, by go_num, by rw [HNX.out], by rw [HNX.out], by rw [HNX.out]; exact HX.out⟩
          case measure => simp [intOf]; omega
    · as_aux_lemma =>
      have hfin : red m A n = s := by
        by_cases e : k = n
        · exact HE0.out e
        · have h1 := HE.out (by omega) (n - k)
          rwa [show k + (n - k) = n by omega] at h1
      have HFN := Lib.hid hfin
      clear HS HE HE0 hfin
      obtain ⟨lR, r0, r1, r2, r3⟩ := Pr.out.gb HX.out.2.2 (by omega)
      obtain ⟨f0, f1, f2, f3⟩ := (Fr.out.gb (by omega) HX.out.2.2 (by omega)).all
      have hq4 := Lib.hid ((Pr.out.gb HX.out.2.2 (by omega)).set4 q m n (.slice (some ⟨G, 0, none⟩) (m * n) ac))
      obtain ⟨_, q0, q1, q2, q3⟩ := hq4.out
      have neM := (PM.out.gb HX.out.2.2 (by omega)).ne
      by_cases hkn : k < n
      · have k1 : (k : Int) < (n : Int) := by omega
        have t1 : ¬ (s.top : Int) < (m : Int) := by omega
        go_wp2
        refine bodyPost_ret (v := .tuple #[.agg #[.int .i64 q, .int .i64 m, .int .i64 n, .slice (some ⟨G, 0, none⟩) (m * n) ac], .slice pa (pivI s.piv).length pc, .int .i64 (fv s.d)]) (by simp [results, Try.results87, go_sem, q0, q1, q2, q3]) rfl ⟨.slice (some ⟨G, 0, none⟩) (m * n) ac, .slice pa (pivI s.piv).length pc, by rw [HFN.out], ?_, ?_, ?_, ⟨W1.heap.size, .inl ⟨fun g hg => by simp [Value.ownBlock] at hg; omega, fun g hg => (HX.out.2.1.out.lt g hg).1⟩⟩⟩
        · rw [HFN.out]
          refine OwnI.mono (B := R + 1) ?_ (by omega)
          repeat (refine OwnI.setOut ?_ (by omega) _)
          exact HX.out.1.own (by omega)
        · rw [HFN.out]
          refine OwnI.mono (B := W1.heap.size) ?_ (by omega)
          repeat (refine OwnI.setOut ?_ (by omega) _)
          exact HX.out.2.1
        · repeat (refine Below.setC ?_ (by omega) _)
          exact below_gb HB.out HX.out.2.2 (by omega) (by omega)
      · have k1 : ¬ (k : Int) < (n : Int) := by omega
        go_wp2
        refine bodyPost_ret (v := .tuple #[.agg #[.int .i64 q, .int .i64 m, .int .i64 n, .slice (some ⟨G, 0, none⟩) (m * n) ac], .slice pa (pivI s.piv).length pc, .int .i64 (fv s.d)]) (by simp [results, Try.results87, go_sem, q0, q1, q2, q3]) rfl ⟨.slice (some ⟨G, 0, none⟩) (m * n) ac, .slice pa (pivI s.piv).length pc, by rw [HFN.out], ?_, ?_, ?_, ⟨W1.heap.size, .inl ⟨fun g hg => by simp [Value.ownBlock] at hg; omega, fun g hg => (HX.out.2.1.out.lt g hg).1⟩⟩⟩
        · rw [HFN.out]
          refine OwnI.mono (B := R + 1) ?_ (by omega)
          repeat (refine OwnI.setOut ?_ (by omega) _)
          exact HX.out.1.own (by omega)
        · rw [HFN.out]
          refine OwnI.mono (B := W1.heap.size) ?_ (by omega)
          repeat (refine OwnI.setOut ?_ (by omega) _)
          exact HX.out.2.1
        · repeat (refine Below.setC ?_ (by omega) _)
          exact below_gb HB.out HX.out.2.2 (by omega) (by omega)
end Go.Proofs.Ytpimnngomodnhaa
