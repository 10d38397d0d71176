/-
  Contracts of ScaleMatrix of the model.
-/
import Derived.Test.YtabanmaaagmeaaaMxJ
import Derived.Test.YtabanmaaagmeaaaMxH
import Derived.Deep.DeepCutAuto
namespace Go.Proofs.Ytabanmaaagmeaaa
open Go.RowKit
open Lin
set_option linter.unusedVariables false
set_option linter.unusedSectionVars false

theorem l03Mod_any (x p : Int) (w : World) (h0 : 0 ≤ x) (h1 : x ≤ 100000) (p0 : 0 < p) (p1 : p ≤ 251) :
    Calls Try.prog 110 #[.int .i64 x, .int .i64 p] w fun e w' => e = .returned (.int .i64 (x % p)) ∧ w = w' := by
  have kz : ¬ p = 0 := by omega
  have e1 : x.tmod p = x % p := Int.tmod_eq_emod_of_nonneg h0
  have b0 := Int.emod_nonneg x kz
  have b1 := Int.emod_lt_of_pos x p0
  have e3 : (x % p + p).tmod p = x % p := by rw [Int.tmod_eq_emod_of_nonneg (by omega), Int.add_emod_right, Int.emod_emod_of_dvd _ (Int.dvd_refl p)]
  obtain ⟨y, hy⟩ : ∃ y, x % p = y := ⟨_, rfl⟩
  rw [hy] at e1 e3 b0 b1 ⊢
  clear hy
  have e2 : IntKind.i64.wrap (y + p) = y + p := IntWalk.i64_in _ (by omega)
  go_enter Try.func110, Try.ntmps110
  go_wp2
  go_ret
  exact ⟨rfl, rfl⟩
/-- What a statement leaves that makes a matrix variable of zeros. -/
def RegZ (w0 wx : World) (L h N : Nat) (p r c : Int) : Prop :=
  PtM wx L p r c (.slice (some ⟨h, 0, none⟩) N N) ∧ wx.rowIs h 2 N (fun _ => .int .i64 0) ∧ w0.heap.size ≤ h ∧ L ≠ h ∧ w0.heap.size ≤ L ∧ Below w0.heap.size w0 wx
theorem RegZ.new {w0 w : World} {h N : Nat} {p r c : Int} {t : TypeId} (hr : w.rowIs h 2 N (fun _ => .int .i64 0)) (hh : w0.heap.size ≤ h) (hb : Below w0.heap.size w0 w) :
    RegZ w0 (w.alloc (.cells #[.int .i64 p, .int .i64 r, .int .i64 c, .slice (some ⟨h, 0, none⟩) N N] t)) w.heap.size h N p r c :=
  ⟨PtM.new _ _ _ _ _ _, rowIs_on hr ((Below.refl _ _).alloc (Nat.le_refl _) _), hh, by have := hr.lt; omega, hb.size, hb.alloc hb.size _⟩
theorem RegZ.set {w0 w : World} {L h N : Nat} {p' r' c' : Int} {v' : Value} {p r c : Int} (hp : PtM w L p' r' c' v') (hr : w.rowIs h 2 N (fun _ => .int .i64 0)) (hh : w0.heap.size ≤ h) (hd : L ≠ h) (hL : w0.heap.size ≤ L) (hb : Below w0.heap.size w0 w) :
    RegZ w0 ((((w.setCell ⟨L, 0, none⟩ (.int .i64 p)).setCell ⟨L, 1, none⟩ (.int .i64 r)).setCell ⟨L, 2, none⟩ (.int .i64 c)).setCell ⟨L, 3, none⟩ (.slice (some ⟨h, 0, none⟩) N N)) L h N p r c :=
  ⟨hp.set4 p r c _, rowIs_setO (rowIs_setO (rowIs_setO (rowIs_setO hr hd.symm _) hd.symm _) hd.symm _) hd.symm _, hh, hd, hL, Below.setC (Below.setC (Below.setC (Below.setC hb hL _) hL _) hL _) hL _⟩
/-- The cells behind k steps. -/
def ScF {q : Nat} [NeZero q] (n : Nat) (A : Mt q) (g : Fin q) (k t : Nat) : Value := if t < k then .int .i64 (fv (cellF n A t * g)) else .int .i64 0
set_option maxRecDepth 100000 in
set_option maxHeartbeats 6400000 in
theorem l03Scale_ok {q m n : Nat} [NeZero q] {A : Mt q} {g : Fin q} {L : Nat} {v : Value} {w : World} (hp : PtM w L q m n v) (hv : IntsAt w v (flat m n A)) (hq2 : 2 ≤ q) (hq : q ≤ 251) (hm : m ≤ 32) (hn : n ≤ 32) (h0 : 0 < m * n) :
    Calls Try.prog 90 #[.pointer (some ⟨L, 0, none⟩), .int .i64 (fv g)] w fun e w' => RetMx q m n (flat m n (fun i j => A i j * g)) w e w' := by
  have hN := side_mul hm hn
  obtain ⟨a1, cp, rfl, _, h1 | ⟨b1, o1, rfl, hb1, k1⟩⟩ := hv
  · have := congrArg List.length h1; rw [flat_len] at this; simp at this; omega
  have K1 := Lib.hid (flat_cells k1)
  simp only [flat_len] at hp ⊢
  have lL := hp.1
  have bb := (Below.refl w.heap.size w).alloc (Nat.le_refl _) (.cells #[.int .i64 0, .int .i64 0, .int .i64 0, .slice none 0 0] 27)
  have Pa0 := hp.on bb
  have Pr0 := PtM.new w 0 0 0 (.slice none 0 0) 27
  have Fr0 := Fz.new w #[.int .i64 0, .int .i64 0, .int .i64 0, .slice none 0 0] 27
  clear hp k1
  go_enter Try.func90, Try.ntmps90
  go_wp2_with fail
  generalize hW : World.alloc w (.cells #[.int .i64 0, .int .i64 0, .int .i64 0, .slice none 0 0] 27) = W0 at Pa0 Pr0 Fr0 bb ⊢
  obtain ⟨R, hR⟩ : ∃ R, w.heap.size = R := ⟨_, rfl⟩
  have hz : R + 1 ≤ W0.heap.size := by rw [← hW, ← hR]; simp
  rw [hR] at Pr0 Fr0 lL ⊢
  have HB := Lib.hid bb
  have Pa := Lib.hid Pa0
  have Pr := Lib.hid Pr0
  have Fr : Hid (Fz W0 R) := Fr0
  clear hW bb Pa0 Pr0 Fr0
  obtain ⟨lA, x0, x1, x2, x3⟩ := Pa.out
  have neA := Pa.out.ne
  go_cut [5] (fun sp wx => ∃ (L2 h : Nat), sp = .pointer (some ⟨L2, 0, none⟩) ∧ Hid (RegZ W0 wx L2 h (m * n) q m n))
  case first =>
    go_region_held3 (fun w' => w'.cell? ⟨L, 0, none⟩ = some (.int .i64 q) ∧ w'.cell? ⟨L, 1, none⟩ = some (.int .i64 m) ∧ w'.cell? ⟨L, 2, none⟩ = some (.int .i64 n)) (go_keep)
      (first
        | (go_at_call 86; refine (specZeros_any q m n (m * n) _ (Int.natCast_mul m n).symm (by omega)).mono ?_; rintro e w3 ⟨h, rfl, hg, hrow, hb'⟩; have hb : Below W0.heap.size W0 w3 := (by first | exact hb' | exact undrew hb' | exact up1 hb' | exact up1 (undrew hb') | exact undrew (up1 hb')); obtain ⟨_, _⟩ := bcell hb'; have hs := hb'.size; (try simp at hs); (try have := (by omega : W0.heap.size < w3.heap.size)); obtain ⟨_, _, _, _, _⟩ := Pa.out.on hb; have := (Pa.out.on hb).ne))
    · go_wp2_with fail
      go_meet
      case rel => exact ⟨_, _, rfl, RegZ.new hrow (by first | exact hg | (simp at hg; omega)) hb⟩
    · go_wp2_with fail
      go_meet
      case rel => exact ⟨_, _, rfl, RegZ.set ((PtM.new _ _ _ _ _ _).drew.on hb') hrow (by simp at hg ⊢; omega) (by simp at hg ⊢; omega) (by simp) hb⟩
  obtain ⟨L2, h, rfl, hc⟩ := hcut
  obtain ⟨hp, hrow, hg2, hLh, hL2, hb⟩ := hc.out
  clear hc lA x0 x1 x2 x3 neA
  rename World => W1
  have PM := Lib.hid hp
  have HR := Lib.hid hrow
  have Pa := Lib.hid (Pa.out.on hb)
  have Pr := Lib.hid (Pr.out.on hb)
  have Fr : Hid (Fz W1 R) := Fr.out.on (by omega) hb
  have HB := Lib.hid (HB.out.trans (hb.mono HB.out.size))
  have sL := hp.1
  have sg := hrow.lt
  have sz := hb.size
  have sw := HB.out.size
  clear hp hrow hb
  have kz : ¬ (q : Int) = 0 := by omega
  go_wp2_with fail
  go_loopw [6] (fun i wr => ∃ k : Nat, k ≤ m * n ∧ i = .int .i64 (k : Int) ∧ Hid (wr.rowIs h 2 (m * n) (ScF n A g k)) ∧ Hid (W1.grownBy wr (some h))) (fun i _ => m * n - (intOf i).toNat)
  case atStart => exact ⟨0, Nat.zero_le _, rfl, HR.out.congr fun t _ => by unfold ScF; rw [if_neg (by omega)], grown_refl _ _⟩
  case round =>
    obtain ⟨k, hk, rfl, HX, HG⟩ := hrel
    obtain ⟨lA, x0, x1, x2, x3⟩ := Pa.out.gb HG.out (by omega)
    obtain ⟨lM, m0, m1, m2, m3⟩ := PM.out.gb HG.out (by omega)
    obtain ⟨N, hNN⟩ : ∃ N, m * n = N := ⟨_, rfl⟩
    rw [hNN] at hk hN HX x3 m3 ⊢
    by_cases hlt : k < N
    · have HBW := Lib.hid (below_gb HB.out HG.out (by omega) (by omega))
      have c1 : wr.cell? ⟨b1, o1 + k, none⟩ = some (.int .i64 (fv (cellF n A k))) := (HBW.out.cell (p := ⟨b1, o1 + k, none⟩) hb1).trans (K1.out k (by omega))
      have c3 := HX.out.cell (i := k) hlt
      have f3 := HX.out.frozen k
      unfold ScF at c3
      rw [if_neg (by omega)] at c3
      have hv := fv_mul (cellF n A k) g
      have bx := fv_nn (cellF n A k)
      have bg := fv_nn g
      have bx2 := fv_lt (cellF n A k)
      have bg2 := fv_lt g
      obtain ⟨x, hx⟩ : ∃ x, fv (cellF n A k) = x := ⟨_, rfl⟩
      obtain ⟨f, hf⟩ : ∃ f, fv g = f := ⟨_, rfl⟩
      rw [hx] at c1 hv bx bx2
      rw [hf] at hv bg bg2 ⊢
      have xf0 : 0 ≤ x * f := Int.mul_nonneg bx bg
      have xf1 : x * f ≤ 251 * 251 := Int.mul_le_mul (by omega) (by omega) bg (by omega)
      obtain ⟨y, hy⟩ : ∃ y, x * f = y := ⟨_, rfl⟩
      have w1 : IntKind.i64.wrap (x * f) = y := by rw [hy]; exact IntWalk.i64_in _ (by omega)
      rw [hy] at hv xf0 xf1
      have i0 : (0 : Int) ≤ (k : Int) := by omega
      have i1 : (k : Int) < (N : Int) := by omega
      have neL := (PM.out.gb HG.out (by omega)).ne
      have neA := (Pa.out.gb HG.out (by omega)).ne
      have nLh : L ≠ h := by omega
      have nb1 : b1 ≠ h := by omega
      have hLh' := hLh.symm
      have nLh' := nLh.symm
      have nb1' := nb1.symm
      have HNN := Lib.hid hNN
      have HV := Lib.hid hv
      have HY := Lib.hid hy
      clear hNN hv hx hf hy
      go_wp2_with fail
      go_region_held3 (fun w' => w'.cell? ⟨L2, 3, none⟩ = some (.slice (some ⟨h, 0, none⟩) N N) ∧ w'.cell? ⟨L, 3, none⟩ = some (.slice (some ⟨b1, o1, none⟩) N cp) ∧ w'.cell? ⟨b1, o1 + k, none⟩ = some (.int .i64 x) ∧ w'.cell? ⟨L, 0, none⟩ = some (.int .i64 q)) (go_keep)
        (first
          | (go_at_call 110; refine (l03Mod_any y q _ (by omega) (by omega) (by omega) (by omega)).mono ?_; rintro e w' ⟨rfl, rfl⟩))
      have HY : Hid ((wr.setCell ⟨h, k, none⟩ (.int .i64 (y % q))).drew.rowIs h 2 N (ScF n A g (k + 1))) :=
        ((HX.out.set k _).congr fun t _ => by unfold ScF; exact row_next (F := fun t => .int .i64 (fv (cellF n A t * g))) (by rw [HV.out]) t).drew
      have HG2 : Hid (W1.grownBy (wr.setCell ⟨h, k, none⟩ (.int .i64 (y % q))).drew (some h)) := gb_drew (gb_set HG.out _)
      go_wp2
      go_roundw
      case rel => exact ⟨k + 1, by omega, by go_num, HY.out, HG2.out⟩
      case measure => simp [intOf]; omega
    · obtain rfl : k = N := by omega
      have HNN := Lib.hid hNN
      obtain ⟨lR, r0, r1, r2, r3⟩ := Pr.out.gb HG.out (by omega)
      obtain ⟨f0, f1, f2, f3⟩ := (Fr.out.gb (by omega) HG.out (by omega)).all
      clear hNN
      go_wp2
      refine bodyPost_ret (v := .agg #[.int .i64 q, .int .i64 m, .int .i64 n, .slice (some ⟨h, 0, none⟩) k k]) (by simp [results, Try.results90, go_sem, r0, r1, r2, r3]) rfl ⟨_, rfl, ?_, ?_⟩
      · refine OwnI.mono (B := R + 1) ?_ (by omega)
        repeat (refine OwnI.setOut ?_ (by omega) _)
        have := HNN.out
        subst this
        refine OwnI.of_flat HX.out (by omega) (by omega) fun i j hi hj => ?_
        have := idx_lt hi hj
        unfold ScF cellF
        rw [if_pos this, idx_div hj, idx_mod hj]
      · repeat (refine Below.setC ?_ (by omega) _)
        exact below_gb HB.out HG.out (by omega) (by omega)
set_option maxRecDepth 100000 in
set_option maxHeartbeats 6400000 in
theorem l03Scale_nil {q m n : Nat} [NeZero q] {A : Mt q} {g : Fin q} {L : Nat} {v : Value} {w : World} (hp : PtM w L q m n v) (hv : IntsAt w v (flat m n A)) (hq2 : 2 ≤ q) (hq : q ≤ 251) (hm : m ≤ 32) (hn : n ≤ 32) (h0 : m * n = 0) :
    Calls Try.prog 90 #[.pointer (some ⟨L, 0, none⟩), .int .i64 (fv g)] w fun e w' => RetMx q m n (flat m n (fun i j => A i j * g)) w e w' := by
  have hN := side_mul hm hn
  have fA : flat m n A = [] := List.eq_nil_of_length_eq_zero (by rw [flat_len]; exact h0)
  have fC : flat m n (fun i j => A i j * g) = [] := List.eq_nil_of_length_eq_zero (by rw [flat_len]; exact h0)
  have HZ : Hid ((m : Int) * n = ((0 : Nat) : Int)) := by show _ = _; rw [← h0, Int.natCast_mul]
  rw [fA] at hv
  rw [fC]
  obtain ⟨a1, cp, rfl, _, _⟩ := hv
  simp only [List.length_nil] at hp ⊢
  clear fA fC h0
  have lL := hp.1
  have bb := (Below.refl w.heap.size w).alloc (Nat.le_refl _) (.cells #[.int .i64 0, .int .i64 0, .int .i64 0, .slice none 0 0] 27)
  have Pa0 := hp.on bb
  have Pr0 := PtM.new w 0 0 0 (.slice none 0 0) 27
  have Fr0 := Fz.new w #[.int .i64 0, .int .i64 0, .int .i64 0, .slice none 0 0] 27
  clear hp
  go_enter Try.func90, Try.ntmps90
  go_wp2_with fail
  generalize hW : World.alloc w (.cells #[.int .i64 0, .int .i64 0, .int .i64 0, .slice none 0 0] 27) = W0 at Pa0 Pr0 Fr0 bb ⊢
  obtain ⟨R, hR⟩ : ∃ R, w.heap.size = R := ⟨_, rfl⟩
  have hz : R + 1 ≤ W0.heap.size := by rw [← hW, ← hR]; simp
  rw [hR] at Pr0 Fr0 lL ⊢
  have HB := Lib.hid bb
  have Pa := Lib.hid Pa0
  have Pr := Lib.hid Pr0
  have Fr : Hid (Fz W0 R) := Fr0
  clear hW bb Pa0 Pr0 Fr0
  obtain ⟨lA, x0, x1, x2, x3⟩ := Pa.out
  have neA := Pa.out.ne
  go_cut [5] (fun sp wx => ∃ (L2 h : Nat), sp = .pointer (some ⟨L2, 0, none⟩) ∧ Hid (RegZ W0 wx L2 h 0 q m n))
  case first =>
    go_region_held3 (fun w' => w'.cell? ⟨L, 0, none⟩ = some (.int .i64 q) ∧ w'.cell? ⟨L, 1, none⟩ = some (.int .i64 m) ∧ w'.cell? ⟨L, 2, none⟩ = some (.int .i64 n)) (go_keep)
      (first
        | (go_at_call 86; refine (specZeros_any q m n 0 _ HZ.out (by omega)).mono ?_; rintro e w3 ⟨h, rfl, hg, hrow, hb'⟩; have hb : Below W0.heap.size W0 w3 := (by first | exact hb' | exact undrew hb' | exact up1 hb' | exact up1 (undrew hb') | exact undrew (up1 hb')); obtain ⟨_, _⟩ := bcell hb'; have hs := hb'.size; (try simp at hs); (try have := (by omega : W0.heap.size < w3.heap.size)); obtain ⟨_, _, _, _, _⟩ := Pa.out.on hb; have := (Pa.out.on hb).ne))
    · go_wp2_with fail
      go_meet
      case rel => exact ⟨_, _, rfl, RegZ.new hrow (by first | exact hg | (simp at hg; omega)) hb⟩
    · go_wp2_with fail
      go_meet
      case rel => exact ⟨_, _, rfl, RegZ.set ((PtM.new _ _ _ _ _ _).drew.on hb') hrow (by simp at hg ⊢; omega) (by simp at hg ⊢; omega) (by simp) hb⟩
  obtain ⟨L2, h, rfl, hc⟩ := hcut
  obtain ⟨hp, hrow, hg2, hLh, hL2, hb⟩ := hc.out
  clear hc lA x0 x1 x2 x3 neA
  rename World => W1
  have PM := Lib.hid hp
  have HR := Lib.hid hrow
  have Pa := Lib.hid (Pa.out.on hb)
  have Pr := Lib.hid (Pr.out.on hb)
  have Fr : Hid (Fz W1 R) := Fr.out.on (by omega) hb
  have HB := Lib.hid (HB.out.trans (hb.mono HB.out.size))
  have sL := hp.1
  have sg := hrow.lt
  have sz := hb.size
  have sw := HB.out.size
  clear hp hrow hb
  have kz : ¬ (q : Int) = 0 := by omega
  go_wp2_with fail
  obtain ⟨lA, x0, x1, x2, x3⟩ := Pa.out
  obtain ⟨lM, m0, m1, m2, m3⟩ := PM.out
  obtain ⟨lR, r0, r1, r2, r3⟩ := Pr.out
  obtain ⟨f0, f1, f2, f3⟩ := Fr.out.all
  refine wp_loop_rounds 1 ?_
  rw [rounds_succ]
  go_wp2
  refine bodyPost_ret (v := .agg #[.int .i64 q, .int .i64 m, .int .i64 n, .slice (some ⟨h, 0, none⟩) 0 0]) (by simp [results, Try.results90, go_sem, r0, r1, r2, r3]) rfl ⟨_, rfl, ?_, ?_⟩
  · refine OwnI.mono (B := R + 1) ?_ (by omega)
    repeat (refine OwnI.setOut ?_ (by omega) _)
    exact OwnI.zeros (n := 0) HR.out (by omega) (by omega)
  · repeat (refine Below.setC ?_ (by omega) _)
    exact HB.out
theorem l03Scale_any {q m n : Nat} [NeZero q] {A : Mt q} {g : Fin q} {L : Nat} {v : Value} {w : World} (hp : PtM w L q m n v) (hv : IntsAt w v (flat m n A)) (hA : MIs q m n (flat m n A) q m n A) :
    Calls Try.prog 90 #[.pointer (some ⟨L, 0, none⟩), .int .i64 (fv g)] w fun e w' => RetMx q m n (flat m n (fun i j => A i j * g)) w e w' := by
  obtain ⟨hq2, hq⟩ := hA.q2
  rcases Nat.eq_zero_or_pos (m * n) with h0 | h0
  · exact l03Scale_nil hp hv hq2 hq hA.m32 hA.n32 h0
  · exact l03Scale_ok hp hv hq2 hq hA.m32 hA.n32 h0
set_option maxRecDepth 100000 in
set_option maxHeartbeats 1600000 in
theorem specScale_b1 {p r c f : Int} {u : Value} {xs : List Int} {w : World} (hu : IntsAt w u xs) (hk : okB p r c xs = false) :
    Calls Try.prog 48 #[.agg #[.int .i64 p, .int .i64 r, .int .i64 c, u], .int .i64 f] w fun e w' => RetMC 0 0 0 [] 1 w e w' := by
  have HU := Lib.hid hu
  obtain ⟨a1, c1, rfl, hl1, _⟩ := hu
  have HK := Lib.hid hk
  clear hk
  have Pa0 := PtM.new1 w p r c (.slice a1 xs.length c1) 27 (.cells #[.int .i64 0, .int .i64 0, .int .i64 0, .slice none 0 0] 27)
  have Pr0 := PtM.new (w.alloc (.cells #[.int .i64 p, .int .i64 r, .int .i64 c, .slice a1 xs.length c1] 27)) 0 0 0 (.slice none 0 0) 27
  have Fr0 := Fz.new (w.alloc (.cells #[.int .i64 p, .int .i64 r, .int .i64 c, .slice a1 xs.length c1] 27)) #[.int .i64 0, .int .i64 0, .int .i64 0, .slice none 0 0] 27
  rw [World.size_alloc] at Pr0 Fr0
  go_enter Try.func48, Try.ntmps48
  go_wp2_with fail
  with_reducible refine Calls.mono (specOk_is (T := false) Pa0 (HU.out.on (al1 (al1 (Below.refl _ _) _) _)) HK.out) ?_
  rintro e w1 ⟨rfl, d, hw1⟩
  have hb : Below ((w.alloc (.cells #[.int .i64 p, .int .i64 r, .int .i64 c, .slice a1 xs.length c1] 27)).alloc (.cells #[.int .i64 0, .int .i64 0, .int .i64 0, .slice none 0 0] 27)).heap.size ((w.alloc (.cells #[.int .i64 p, .int .i64 r, .int .i64 c, .slice a1 xs.length c1] 27)).alloc (.cells #[.int .i64 0, .int .i64 0, .int .i64 0, .slice none 0 0] 27)) w1 := by rw [hw1]; exact below_drewX (Below.refl _ _) d
  clear hw1
  have Pa := Lib.hid (Pa0.on hb)
  have Pr := Lib.hid (Pr0.on hb)
  have Fr : Hid (Fz w1 (w.heap.size + 1)) := Fr0.on (by simp) hb
  have HB := Lib.hid (up2 hb)
  have hz : w.heap.size + 2 ≤ w1.heap.size := by have := hb.size; simp at this; omega
  clear hb Pa0 Pr0 Fr0
  obtain ⟨lA, x0, x1, x2, x3⟩ := Pa.out
  obtain ⟨lR, r0, r1, r2, r3⟩ := Pr.out
  obtain ⟨f0, f1, f2, f3⟩ := Fr.out.all
  go_wp2_with fail
  refine bodyPost_ret (v := .tuple #[.agg #[.int .i64 0, .int .i64 0, .int .i64 0, .slice none 0 0], .int .i64 1]) (by simp [results, Try.results48, go_sem, r0, r1, r2, r3]) rfl ⟨_, rfl, OwnI.nul _ _, ?_⟩
  repeat (refine Below.setC ?_ (by omega) _)
  exact HB.out
set_option maxRecDepth 100000 in
set_option maxHeartbeats 1600000 in
theorem specScale_b2 {p r c f : Int} {u : Value} {xs : List Int} {w : World} (hu : IntsAt w u xs) (hk : okB p r c xs = true) (p0 : 2 ≤ p) (p1 : p ≤ 251) (hi : inB f 0 (p - 1) = false) :
    Calls Try.prog 48 #[.agg #[.int .i64 p, .int .i64 r, .int .i64 c, u], .int .i64 f] w fun e w' => RetMC 0 0 0 [] 2 w e w' := by
  have HU := Lib.hid hu
  obtain ⟨a1, c1, rfl, hl1, _⟩ := hu
  have HK := Lib.hid hk
  have HI := Lib.hid hi
  clear hk hi
  have Pa0 := PtM.new1 w p r c (.slice a1 xs.length c1) 27 (.cells #[.int .i64 0, .int .i64 0, .int .i64 0, .slice none 0 0] 27)
  have Pr0 := PtM.new (w.alloc (.cells #[.int .i64 p, .int .i64 r, .int .i64 c, .slice a1 xs.length c1] 27)) 0 0 0 (.slice none 0 0) 27
  have Fr0 := Fz.new (w.alloc (.cells #[.int .i64 p, .int .i64 r, .int .i64 c, .slice a1 xs.length c1] 27)) #[.int .i64 0, .int .i64 0, .int .i64 0, .slice none 0 0] 27
  rw [World.size_alloc] at Pr0 Fr0
  go_enter Try.func48, Try.ntmps48
  go_wp2_with fail
  with_reducible refine Calls.mono (specOk_is (T := true) Pa0 (HU.out.on (al1 (al1 (Below.refl _ _) _) _)) HK.out) ?_
  rintro e w1 ⟨rfl, d, hw1⟩
  have hb : Below ((w.alloc (.cells #[.int .i64 p, .int .i64 r, .int .i64 c, .slice a1 xs.length c1] 27)).alloc (.cells #[.int .i64 0, .int .i64 0, .int .i64 0, .slice none 0 0] 27)).heap.size ((w.alloc (.cells #[.int .i64 p, .int .i64 r, .int .i64 c, .slice a1 xs.length c1] 27)).alloc (.cells #[.int .i64 0, .int .i64 0, .int .i64 0, .slice none 0 0] 27)) w1 := by rw [hw1]; exact below_drewX (Below.refl _ _) d
  clear hw1
  have Pa := Lib.hid (Pa0.on hb)
  have Pr := Lib.hid (Pr0.on hb)
  have Fr : Hid (Fz w1 (w.heap.size + 1)) := Fr0.on (by simp) hb
  have HB := Lib.hid (up2 hb)
  have hz : w.heap.size + 2 ≤ w1.heap.size := by have := hb.size; simp at this; omega
  clear hb Pa0 Pr0 Fr0
  obtain ⟨lA, x0, x1, x2, x3⟩ := Pa.out
  obtain ⟨lR, r0, r1, r2, r3⟩ := Pr.out
  obtain ⟨f0, f1, f2, f3⟩ := Fr.out.all
  go_wp2_with fail
  with_reducible refine Calls.mono (l00In_is (b := false) _ HI.out) ?_
  rintro e w2 ⟨rfl, rfl⟩
  go_wp2_with fail
  refine bodyPost_ret (v := .tuple #[.agg #[.int .i64 0, .int .i64 0, .int .i64 0, .slice none 0 0], .int .i64 2]) (by simp [results, Try.results48, go_sem, r0, r1, r2, r3]) rfl ⟨_, rfl, OwnI.nul _ _, ?_⟩
  repeat (refine Below.setC ?_ (by omega) _)
  exact HB.out
set_option maxRecDepth 100000 in
set_option maxHeartbeats 3200000 in
theorem specScale_ok {q m n : Nat} [NeZero q] {A : Mt q} {g : Fin q} {u : Value} {w : World} (hu : IntsAt w u (flat m n A)) (hA : MIs q m n (flat m n A) q m n A) :
    Calls Try.prog 48 #[.agg #[.int .i64 (q : Int), .int .i64 (m : Int), .int .i64 (n : Int), u], .int .i64 (fv g)] w fun e w' => RetMC q m n (flat m n (fun i j => A i j * g)) 0 w e w' := by
  have hk : okB (q : Int) m n (flat m n A) = true := okB_yes hA.ok
  obtain ⟨hq2, hq⟩ := hA.q2
  have hi : inB (fv g) 0 ((q : Int) - 1) = true := inB_yes (fv_nn g) (by have := fv_lt g; omega)
  have HA := Lib.hid hA
  have HU := Lib.hid hu
  obtain ⟨a1, c1, rfl, hl1, _⟩ := hu
  have HK := Lib.hid hk
  have HI := Lib.hid hi
  clear hk hi hA
  have Pa0 := PtM.new1 w q m n (.slice a1 (flat m n A).length c1) 27 (.cells #[.int .i64 0, .int .i64 0, .int .i64 0, .slice none 0 0] 27)
  have Pr0 := PtM.new (w.alloc (.cells #[.int .i64 q, .int .i64 m, .int .i64 n, .slice a1 (flat m n A).length c1] 27)) 0 0 0 (.slice none 0 0) 27
  have Fr0 := Fz.new (w.alloc (.cells #[.int .i64 q, .int .i64 m, .int .i64 n, .slice a1 (flat m n A).length c1] 27)) #[.int .i64 0, .int .i64 0, .int .i64 0, .slice none 0 0] 27
  rw [World.size_alloc] at Pr0 Fr0
  go_enter Try.func48, Try.ntmps48
  go_wp2_with fail
  with_reducible refine Calls.mono (specOk_is (T := true) Pa0 (HU.out.on (al1 (al1 (Below.refl _ _) _) _)) HK.out) ?_
  rintro e w1 ⟨rfl, d, hw1⟩
  have hb : Below ((w.alloc (.cells #[.int .i64 q, .int .i64 m, .int .i64 n, .slice a1 (flat m n A).length c1] 27)).alloc (.cells #[.int .i64 0, .int .i64 0, .int .i64 0, .slice none 0 0] 27)).heap.size ((w.alloc (.cells #[.int .i64 q, .int .i64 m, .int .i64 n, .slice a1 (flat m n A).length c1] 27)).alloc (.cells #[.int .i64 0, .int .i64 0, .int .i64 0, .slice none 0 0] 27)) w1 := by rw [hw1]; exact below_drewX (Below.refl _ _) d
  clear hw1
  have Pa := Lib.hid (Pa0.on hb)
  have Pr := Lib.hid (Pr0.on hb)
  have Fr : Hid (Fz w1 (w.heap.size + 1)) := Fr0.on (by simp) hb
  have HB := Lib.hid (up2 hb)
  have hz : w.heap.size + 2 ≤ w1.heap.size := by have := hb.size; simp at this; omega
  clear hb Pa0 Pr0 Fr0
  obtain ⟨lA, x0, x1, x2, x3⟩ := Pa.out
  obtain ⟨lR, r0, r1, r2, r3⟩ := Pr.out
  obtain ⟨f0, f1, f2, f3⟩ := Fr.out.all
  go_wp2_with fail
  with_reducible refine Calls.mono (l00In_is (b := true) _ HI.out) ?_
  rintro e w2 ⟨rfl, rfl⟩
  go_wp2_with fail
  with_reducible refine Calls.mono (l03Scale_any Pa.out (HU.out.on HB.out) HA.out) ?_
  rintro e w2 ⟨v, rfl, ho, hb⟩
  obtain ⟨va, vc, rfl⟩ := ho.slice
  clear lA x0 x1 x2 x3 lR r0 r1 r2 r3 f0 f1 f2 f3
  have Pa := Lib.hid (Pa.out.on hb)
  have Pr := Lib.hid (Pr.out.on hb)
  have Fr : Hid (Fz w2 (w.heap.size + 1)) := Fr.out.on (by omega) hb
  have HB := Lib.hid (HB.out.trans (hb.mono (by omega)))
  have hz2 : w.heap.size + 2 ≤ w2.heap.size := by have := hb.size; omega
  have HO := Lib.hid ho
  clear hb ho
  obtain ⟨lA, x0, x1, x2, x3⟩ := Pa.out
  obtain ⟨lR, r0, r1, r2, r3⟩ := Pr.out
  obtain ⟨f0, f1, f2, f3⟩ := Fr.out.all
  go_wp2_with fail
  refine bodyPost_ret (v := .tuple #[.agg #[.int .i64 q, .int .i64 m, .int .i64 n, .slice va (flat m n (fun i j => A i j * g)).length vc], .int .i64 0]) (by simp [results, Try.results48, go_sem, r0, r1, r2, r3]) rfl ⟨_, rfl, ?_, ?_⟩
  · refine OwnI.mono (B := w1.heap.size) ?_ (by omega)
    repeat (refine OwnI.setOut ?_ (by omega) _)
    exact HO.out
  · repeat (refine Below.setC ?_ (by omega) _)
    exact HB.out
theorem specScale_any {p r c f P R C k : Int} {u : Value} {xs zs : List Int} {w : World} (hu : IntsAt w u xs) (h : ScRes p r c xs f P R C zs k) :
    Calls Try.prog 48 #[.agg #[.int .i64 p, .int .i64 r, .int .i64 c, u], .int .i64 f] w fun e w' => RetMC P R C zs k w e w' := by
  rcases h with ⟨h, rfl, rfl, rfl, rfl, rfl⟩ | ⟨h, hf, rfl, rfl, rfl, rfl, rfl⟩ | ⟨rfl, rfl, rfl, rfl, u', _, m, n, A, g, hA, rfl, rfl⟩
  · exact specScale_b1 hu (okB_no h)
  · exact specScale_b2 hu (okB_yes h) h.1.1 h.1.2.1 (inB_no (by omega))
  · obtain ⟨rfl, rfl, rfl, rfl, h5, h6, h7⟩ := hA
    exact specScale_ok hu ⟨rfl, rfl, rfl, rfl, h5, h6, h7⟩
end Go.Proofs.Ytabanmaaagmeaaa
