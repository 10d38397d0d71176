/-
  Contracts of Multiply of the model.
-/
import Derived.Test.YtabanmaaagmeaaaMxL
import Derived.Test.YtabanmaaagmeaaaMxH
import Derived.Deep.DeepCutAuto
namespace Go.Proofs.Ytabanmaaagmeaaa
open Go.RowKit
open Lin
set_option linter.unusedVariables false
set_option linter.unusedSectionVars false

/-- A cell of the product. -/
def muC {q : Nat} [NeZero q] (n : Nat) (A B : Mt q) (i k : Nat) : Fin q := sm n (fun j => A i j * B j k)
/-- The cells of the product, c of them reckoned. -/
def TmF {q : Nat} [NeZero q] (l n : Nat) (A B : Mt q) (c t : Nat) : Value := if t < c then .int .i64 (fv (muC n A B (t / l) (t % l))) else .int .i64 0
theorem muC_next {q : Nat} [NeZero q] {n : Nat} {A B : Mt q} {i k : Nat} {S x y : Int} (hS : S % q = fv (sm n (fun j => A i j * B j k))) (hx : fv (A i n) = x) (hy : fv (B n k) = y) : (S + x * y) % q = fv (sm (n + 1) (fun j => A i j * B j k)) := by
  subst hx hy
  rw [← Int.emod_add_emod, hS, fv_addmul]; rfl
set_option maxRecDepth 100000 in
set_option maxHeartbeats 12800000 in
theorem l03Times_any {q m n l : Nat} [NeZero q] {A B : Mt q} {L G : Nat} {v u : Value} {w : World} (hp : PtM w L q m n v) (hg : PtM w G q n l u) (hv : IntsAt w v (flat m n A)) (hv2 : IntsAt w u (flat n l B)) (hq2 : 2 ≤ q) (hq : q ≤ 251) (hm : m ≤ 32) (hn : n ≤ 32) (hl : l ≤ 32) :
    Calls Try.prog 91 #[.pointer (some ⟨L, 0, none⟩), .pointer (some ⟨G, 0, none⟩)] w fun e w' => RetMx q m l (flat m l (muC n A B)) w e w' := by
  have hN := side_mul hm hl
  have hN1 := side_mul hm hn
  have hN2 := side_mul hn hl
  have HV := Lib.hid hv
  have HV2 := Lib.hid hv2
  obtain ⟨a1, cp, rfl, _, _⟩ := hv
  obtain ⟨a2, cp2, rfl, _, _⟩ := hv2
  simp only [flat_len] at hp hg HV HV2 ⊢
  have lL := hp.1
  have lG := hg.1
  have bb := (Below.refl w.heap.size w).alloc (Nat.le_refl _) (.cells #[.int .i64 0, .int .i64 0, .int .i64 0, .slice none 0 0] 27)
  have Pa0 := hp.on bb
  have Pb0 := hg.on bb
  have Pr0 := PtM.new w 0 0 0 (.slice none 0 0) 27
  have Fr0 := Fz.new w #[.int .i64 0, .int .i64 0, .int .i64 0, .slice none 0 0] 27
  clear hp hg
  go_enter Try.func91, Try.ntmps91
  go_wp2_with fail
  generalize hW : World.alloc w (.cells #[.int .i64 0, .int .i64 0, .int .i64 0, .slice none 0 0] 27) = W0 at Pa0 Pb0 Pr0 Fr0 bb ⊢
  obtain ⟨R, hR⟩ : ∃ R, w.heap.size = R := ⟨_, rfl⟩
  have hz : R + 1 ≤ W0.heap.size := by rw [← hW, ← hR]; simp
  rw [hR] at Pr0 Fr0 lL lG ⊢
  have HB := Lib.hid bb
  have Pa := Lib.hid Pa0
  have Pb := Lib.hid Pb0
  have Pr := Lib.hid Pr0
  have Fr : Hid (Fz W0 R) := Fr0
  clear hW bb Pa0 Pb0 Pr0 Fr0
  obtain ⟨lA, x0, x1, x2, x3⟩ := Pa.out
  have neA := Pa.out.ne
  obtain ⟨lB, y0, y1, y2, y3⟩ := Pb.out
  have neB := Pb.out.ne
  go_cut [5] (fun sp wx => ∃ (L2 h : Nat), sp = .pointer (some ⟨L2, 0, none⟩) ∧ Hid (RegZ W0 wx L2 h (m * l) q m l))
  case first =>
    go_region_held3 (fun w' => w'.cell? ⟨L, 0, none⟩ = some (.int .i64 q) ∧ w'.cell? ⟨L, 1, none⟩ = some (.int .i64 m) ∧ w'.cell? ⟨G, 2, none⟩ = some (.int .i64 l)) (go_keep)
      (first
        | (go_at_call 86; refine (specZeros_any q m l (m * l) _ (Int.natCast_mul m l).symm (by omega)).mono ?_; rintro e w3 ⟨h, rfl, hg, hrow, hb'⟩; have hb : Below W0.heap.size W0 w3 := (by first | exact hb' | exact undrew hb' | exact up1 hb' | exact up1 (undrew hb') | exact undrew (up1 hb')); obtain ⟨_, _⟩ := bcell hb'; have hs := hb'.size; (try simp at hs); (try have := (by omega : W0.heap.size < w3.heap.size)); obtain ⟨_, _, _, _, _⟩ := Pa.out.on hb; have := (Pa.out.on hb).ne; obtain ⟨_, _, _, _, _⟩ := Pb.out.on hb; have := (Pb.out.on hb).ne))
    · go_wp2_with fail
      go_meet
      case rel => exact ⟨_, _, rfl, RegZ.new hrow (by first | exact hg | (simp at hg; omega)) hb⟩
    · go_wp2_with fail
      go_meet
      case rel => exact ⟨_, _, rfl, RegZ.set ((PtM.new _ _ _ _ _ _).drew.on hb') hrow (by simp at hg ⊢; omega) (by simp at hg ⊢; omega) (by simp) hb⟩
  obtain ⟨L2, h, rfl, hc⟩ := hcut
  obtain ⟨hp, hrow, hg2, hLh, hL2, hb⟩ := hc.out
  clear hc lA x0 x1 x2 x3 neA lB y0 y1 y2 y3 neB
  rename World => W1
  have PM := Lib.hid hp
  have HR := Lib.hid hrow
  have Pa := Lib.hid (Pa.out.on hb)
  have Pb := Lib.hid (Pb.out.on hb)
  have Pr := Lib.hid (Pr.out.on hb)
  have Fr : Hid (Fz W1 R) := Fr.out.on (by omega) hb
  have HB := Lib.hid (HB.out.trans (hb.mono HB.out.size))
  have sL := hp.1
  have sg := hrow.lt
  have sz := hb.size
  have sw := HB.out.size
  clear hp hrow hb
  have kz : ¬ (q : Int) = 0 := by omega
  go_wp2_with fail
  go_loopw [6] (fun s wr => ∃ i : Nat, i ≤ m ∧ s = .int .i64 (i : Int) ∧ Hid (wr.rowIs h 2 (m * l) (TmF l n A B (i * l))) ∧ Hid (W1.grownBy wr (some h))) (fun s _ => m - (intOf s).toNat)
  case atStart => exact ⟨0, Nat.zero_le _, rfl, HR.out.congr fun t _ => by unfold TmF; rw [if_neg (by omega)], grown_refl _ _⟩
  case round =>
    obtain ⟨i, hi, rfl, HX, HG⟩ := hrel
    obtain ⟨lA, x0, x1, x2, x3⟩ := Pa.out.gb HG.out (by omega)
    obtain ⟨lB, y0, y1, y2, y3⟩ := Pb.out.gb HG.out (by omega)
    obtain ⟨lM, m0, m1, m2, m3⟩ := PM.out.gb HG.out (by omega)
    by_cases hlt : i < m
    · have i1 : (i : Int) < (m : Int) := by omega
      go_wp2_with fail
      clear lA x0 x1 x2 x3 lB y0 y1 y2 y3 lM m0 m1 m2 m3
      go_loopw [7] (fun s wr => ∃ k : Nat, k ≤ l ∧ s = .int .i64 (k : Int) ∧ Hid (wr.rowIs h 2 (m * l) (TmF l n A B (i * l + k))) ∧ Hid (W1.grownBy wr (some h))) (fun s _ => l - (intOf s).toNat)
      case atStart => exact ⟨0, Nat.zero_le _, rfl, HX.out, HG.out⟩
      case round =>
        clear HX HG
        obtain ⟨k, hk, rfl, HX, HG⟩ := hrel
        obtain ⟨lA, x0, x1, x2, x3⟩ := Pa.out.gb HG.out (by omega)
        obtain ⟨lB, y0, y1, y2, y3⟩ := Pb.out.gb HG.out (by omega)
        obtain ⟨lM, m0, m1, m2, m3⟩ := PM.out.gb HG.out (by omega)
        by_cases hkt : k < l
        · have k1 : (k : Int) < (l : Int) := by omega
          go_wp2_with fail
          clear lA x0 x1 x2 x3 lB y0 y1 y2 y3 lM m0 m1 m2 m3
          go_loopw [8, 9] (fun s8 s9 wr => ∃ (j : Nat) (S : Int), j ≤ n ∧ s9 = .int .i64 (j : Int) ∧ s8 = .int .i64 S ∧ 0 ≤ S ∧ S ≤ (j : Int) * 63001 ∧ Hid (S % q = fv (sm j (fun j => A i j * B j k))) ∧ Hid (wr.rowIs h 2 (m * l) (TmF l n A B (i * l + k))) ∧ Hid (W1.grownBy wr (some h))) (fun _ s _ => n - (intOf s).toNat)
          case atStart => exact ⟨0, 0, Nat.zero_le _, rfl, rfl, by omega, by omega, by show _ = _; rw [show sm 0 (fun j => A i j * B j k) = 0 from rfl, fv_zero]; simp, HX.out, HG.out⟩
          case round =>
            clear HX HG
            obtain ⟨j, S, hj, rfl, rfl, hS0, hS1, HS, HX, HG⟩ := hrel
            obtain ⟨lA, x0, x1, x2, x3⟩ := Pa.out.gb HG.out (by omega)
            obtain ⟨lB, y0, y1, y2, y3⟩ := Pb.out.gb HG.out (by omega)
            obtain ⟨lM, m0, m1, m2, m3⟩ := PM.out.gb HG.out (by omega)
            have hu1 := idx_lt hlt hkt
            by_cases hjt : j < n
            · have j1 : (j : Int) < (n : Int) := by omega
              have ha1 := idx_lt hlt hjt
              have hb1 := idx_lt hjt hkt
              have HBW := Lib.hid (below_gb HB.out HG.out (by omega) (by omega))
              have hv := HV.out
              obtain ⟨_, _, e, _, h1 | ⟨b1, o1, e1, hb1', K1⟩⟩ := hv
              · have := congrArg List.length h1; rw [flat_len] at this; simp at this; omega
              obtain ⟨rfl, -, rfl⟩ : a1 = _ ∧ _ ∧ cp = _ := by injection e with e1 e2 e3; exact ⟨e1, e2, e3⟩
              subst e1
              have hv2 := HV2.out
              obtain ⟨_, _, e, _, h1 | ⟨b2, o2, e1, hb2', K2⟩⟩ := hv2
              · have := congrArg List.length h1; rw [flat_len] at this; simp at this; omega
              obtain ⟨rfl, -, rfl⟩ : a2 = _ ∧ _ ∧ cp2 = _ := by injection e with e1 e2 e3; exact ⟨e1, e2, e3⟩
              subst e1
              have c1 : wr.cell? ⟨b1, o1 + (i * n + j), none⟩ = some (.int .i64 (fv (A i j))) := by
                rw [(HBW.out.cell (p := ⟨b1, o1 + (i * n + j), none⟩) hb1'), flat_cells K1 _ ha1]; unfold cellF; rw [idx_div hjt, idx_mod hjt]
              have c2 : wr.cell? ⟨b2, o2 + (j * l + k), none⟩ = some (.int .i64 (fv (B j k))) := by
                rw [(HBW.out.cell (p := ⟨b2, o2 + (j * l + k), none⟩) hb2'), flat_cells K2 _ hb1]; unfold cellF; rw [idx_div hkt, idx_mod hkt]
              have bx := fv_nn (A i j)
              have by' := fv_nn (B j k)
              have bx2 := fv_lt (A i j)
              have by2 := fv_lt (B j k)
              obtain ⟨X, hX⟩ : ∃ X, fv (A i j) = X := ⟨_, rfl⟩
              obtain ⟨Y, hY⟩ : ∃ Y, fv (B j k) = Y := ⟨_, rfl⟩
              have HS2 := Lib.hid (muC_next HS.out hX hY)
              rw [hX] at c1 bx bx2
              rw [hY] at c2 by' by2
              have p0 : 0 ≤ X * Y := Int.mul_nonneg bx by'
              have p1 : X * Y ≤ 251 * 251 := Int.mul_le_mul (by omega) (by omega) by' (by omega)
              obtain ⟨Z, hZ⟩ : ∃ Z, X * Y = Z := ⟨_, rfl⟩
              rw [hZ] at p0 p1 HS2
              have v1 : IntKind.i64.wrap (X * Y) = Z := by rw [hZ]; exact IntWalk.i64_in _ (by omega)
              have v2 : IntKind.i64.wrap (S + Z) = S + Z := IntWalk.i64_in _ (by omega)
              obtain ⟨M1, hM1⟩ : ∃ M, m * n = M := ⟨_, rfl⟩
              obtain ⟨M2, hM2⟩ : ∃ M, n * l = M := ⟨_, rfl⟩
              obtain ⟨x, hx⟩ : ∃ x, i * n = x := ⟨_, rfl⟩
              obtain ⟨y, hy⟩ : ∃ y, j * l = y := ⟨_, rfl⟩
              obtain ⟨s, hs⟩ : ∃ s, x + j = s := ⟨_, rfl⟩
              obtain ⟨r, hr⟩ : ∃ r, y + k = r := ⟨_, rfl⟩
              rw [hx, hs] at ha1 c1
              rw [hy, hr] at hb1 c2
              rw [hM1] at ha1 x3 hN1
              rw [hM2] at hb1 y3 hN2
              have w1 : IntKind.i64.wrap ((i : Int) * (n : Int)) = (x : Int) := by rw [← Int.natCast_mul, hx]; exact IntWalk.i64_in _ (by omega)
              have w2 : IntKind.i64.wrap ((x : Int) + (j : Int)) = (s : Int) := by rw [← Int.natCast_add, hs]; exact IntWalk.i64_in _ (by omega)
              have w3 : IntKind.i64.wrap ((j : Int) * (l : Int)) = (y : Int) := by rw [← Int.natCast_mul, hy]; exact IntWalk.i64_in _ (by omega)
              have w4 : IntKind.i64.wrap ((y : Int) + (k : Int)) = (r : Int) := by rw [← Int.natCast_add, hr]; exact IntWalk.i64_in _ (by omega)
              have u0 : (0 : Int) ≤ (s : Int) := by omega
              have u1 : (s : Int) < (M1 : Int) := by omega
              have s0 : (0 : Int) ≤ (r : Int) := by omega
              have s1 : (r : Int) < (M2 : Int) := by omega
              have HX2 : Hid (wr.drew.rowIs h 2 (m * l) (TmF l n A B (i * l + k))) := HX.out.drew
              have HG2 : Hid (W1.grownBy wr.drew (some h)) := gb_drew HG.out
              clear hx hy hs hr hM1 hM2 hX hY hZ HX HG HV HV2 HS
              go_wp2
              go_region
              go_wp2
              go_roundw
              case rel => exact ⟨j + 1, S + Z, by omega, by go_num, rfl, by omega, by omega, HS2.out, HX2.out, HG2.out⟩
              case measure => simp [intOf]; omega
            · obtain rfl : j = n := by omega
              have c3 := HX.out.cell (i := i * l + k) hu1
              have f3 := HX.out.frozen (i * l + k)
              have HN : Hid (∀ t, (if t = i * l + k then .int .i64 (S % q) else TmF l j A B (i * l + k) t) = TmF l j A B (i * l + k + 1) t) := fun t => by
                unfold TmF; exact row_next (F := fun t => .int .i64 (fv (muC j A B (t / l) (t % l)))) (by show _ = Value.int .i64 (fv (muC j A B ((i * l + k) / l) ((i * l + k) % l))); rw [idx_div hkt, idx_mod hkt, HS.out]; rfl) t
              have v2 : S.tmod q = S % q := Int.tmod_eq_emod_of_nonneg hS0
              obtain ⟨Z, hZ⟩ : ∃ Z, S % q = Z := ⟨_, rfl⟩
              obtain ⟨N, hNN⟩ : ∃ N, m * l = N := ⟨_, rfl⟩
              obtain ⟨x, hx⟩ : ∃ x, i * l = x := ⟨_, rfl⟩
              obtain ⟨u, hu⟩ : ∃ u, x + k = u := ⟨_, rfl⟩
              rw [hx, hu] at hu1 c3 f3 HX HN
              rw [hZ] at v2 HN
              rw [hNN] at hu1 HX m3 hN
              have w1 : IntKind.i64.wrap ((i : Int) * (l : Int)) = (x : Int) := by rw [← Int.natCast_mul, hx]; exact IntWalk.i64_in _ (by omega)
              have w2 : IntKind.i64.wrap ((x : Int) + (k : Int)) = (u : Int) := by rw [← Int.natCast_add, hu]; exact IntWalk.i64_in _ (by omega)
              have u0 : (0 : Int) ≤ (u : Int) := by omega
              have u1 : (u : Int) < (N : Int) := by omega
              have HX2 : Hid ((wr.setCell ⟨h, u, none⟩ (.int .i64 Z)).drew.rowIs h 2 N (TmF l j A B (u + 1))) :=
                ((HX.out.set u _).congr fun t ht => HN.out t).drew
              have HG2 : Hid (W1.grownBy (wr.setCell ⟨h, u, none⟩ (.int .i64 Z)).drew (some h)) := gb_drew (gb_set HG.out _)
              have HH : Hid (m * l = N ∧ i * l + k = u) := ⟨hNN, by omega⟩
              clear hx hu hNN hZ HN HX HG HV HV2 HS
              go_wp2
              go_region
              go_wp2
              go_roundw
              case rel => exact ⟨k + 1, by omega, by go_num, by obtain ⟨h1, h2⟩ := HH.out; rw [h1, ← Nat.add_assoc, h2]; exact HX2.out, HG2.out⟩
              case measure => simp [intOf]; omega
        · obtain rfl : k = l := by omega
          have HX2 : Hid (wr.rowIs h 2 (m * k) (TmF k n A B ((i + 1) * k))) := by show World.rowIs _ _ _ _ _; rw [Nat.succ_mul]; exact HX.out
          go_wp2
          go_roundw
          case rel => exact ⟨i + 1, by omega, by go_num, HX2.out, HG.out⟩
          case measure => simp [intOf]; omega
    · obtain rfl : i = m := by omega
      obtain ⟨lR, r0, r1, r2, r3⟩ := Pr.out.gb HG.out (by omega)
      obtain ⟨f0, f1, f2, f3⟩ := (Fr.out.gb (by omega) HG.out (by omega)).all
      go_wp2
      refine bodyPost_ret (v := .agg #[.int .i64 q, .int .i64 i, .int .i64 l, .slice (some ⟨h, 0, none⟩) (i * l) (i * l)]) (by simp [results, Try.results91, go_sem, r0, r1, r2, r3]) rfl ⟨_, rfl, ?_, ?_⟩
      · refine OwnI.mono (B := R + 1) ?_ (by omega)
        repeat (refine OwnI.setOut ?_ (by omega) _)
        refine OwnI.of_flat HX.out (by omega) (by omega) fun a b ha hb => ?_
        unfold TmF
        rw [idx_div hb, idx_mod hb, if_pos (idx_lt ha hb)]
      · repeat (refine Below.setC ?_ (by omega) _)
        exact below_gb HB.out HG.out (by omega) (by omega)
end Go.Proofs.Ytabanmaaagmeaaa
