/-
  Contracts of Transpose of the model.
-/
import Derived.Test.YtabanmaaagmeaaaMxK
import Derived.Test.YtabanmaaagmeaaaMxH
import Derived.Deep.DeepCutAuto
namespace Go.Proofs.Ytabanmaaagmeaaa
open Go.RowKit
open Lin
set_option linter.unusedVariables false
set_option linter.unusedSectionVars false

/-- The cells of the turned matrix behind i columns and k cells. -/
def TuF {q : Nat} [NeZero q] (m : Nat) (A : Mt q) (i k t : Nat) : Value := if t % m < i ∨ (t % m = i ∧ t / m < k) then .int .i64 (fv (A (t % m) (t / m))) else .int .i64 0
theorem tuF_next {q : Nat} [NeZero q] {m i k : Nat} {A : Mt q} (hi : i < m) (t : Nat) : (if t = k * m + i then .int .i64 (fv (A i k)) else TuF m A i k t) = TuF m A i (k + 1) t := by
  have hd := Nat.div_add_mod t m
  rw [Nat.mul_comm] at hd
  by_cases e : t = k * m + i
  · subst e
    rw [if_pos rfl]
    unfold TuF
    rw [idx_div hi, idx_mod hi, if_pos (.inr ⟨rfl, Nat.lt_succ_self _⟩)]
  · rw [if_neg e]
    have hne : ¬ (t % m = i ∧ t / m = k) := by rintro ⟨rfl, rfl⟩; exact e hd.symm
    unfold TuF
    by_cases h : t % m < i ∨ (t % m = i ∧ t / m < k)
    · rw [if_pos h, if_pos (by omega)]
    · rw [if_neg h, if_neg (by omega)]
theorem tuF_row {q : Nat} [NeZero q] {m n i : Nat} {A : Mt q} (t : Nat) (ht : t < n * m) : TuF m A i n t = TuF m A (i + 1) 0 t := by
  have : t / m < n := Nat.div_lt_of_lt_mul (by rw [Nat.mul_comm]; exact ht)
  unfold TuF
  generalize t / m = d at this ⊢
  by_cases h : t % m < i ∨ (t % m = i ∧ d < n)
  · rw [if_pos h, if_pos (by omega)]
  · rw [if_neg h, if_neg (by omega)]
set_option maxRecDepth 100000 in
set_option maxHeartbeats 6400000 in
theorem l03Turned_any {q m n : Nat} [NeZero q] {A : Mt q} {L : Nat} {v : Value} {w : World} (hp : PtM w L q m n v) (hv : IntsAt w v (flat m n A)) (hq2 : 2 ≤ q) (hq : q ≤ 251) (hm : m ≤ 32) (hn : n ≤ 32) :
    Calls Try.prog 92 #[.pointer (some ⟨L, 0, none⟩)] w fun e w' => RetMx q n m (flat n m (fun i j => A j i)) w e w' := by
  have hN := side_mul hn hm
  have hN' : m * n ≤ 1024 := side_mul hm hn
  have HV := Lib.hid hv
  obtain ⟨a1, cp, rfl, _, _⟩ := hv
  simp only [flat_len] at hp HV ⊢
  have lL := hp.1
  have bb := (Below.refl w.heap.size w).alloc (Nat.le_refl _) (.cells #[.int .i64 0, .int .i64 0, .int .i64 0, .slice none 0 0] 27)
  have Pa0 := hp.on bb
  have Pr0 := PtM.new w 0 0 0 (.slice none 0 0) 27
  have Fr0 := Fz.new w #[.int .i64 0, .int .i64 0, .int .i64 0, .slice none 0 0] 27
  clear hp
  go_enter Try.func92, Try.ntmps92
  go_wp2_with fail
  generalize hW : World.alloc w (.cells #[.int .i64 0, .int .i64 0, .int .i64 0, .slice none 0 0] 27) = W0 at Pa0 Pr0 Fr0 bb ⊢
  obtain ⟨R, hR⟩ : ∃ R, w.heap.size = R := ⟨_, rfl⟩
  have hz : R + 1 ≤ W0.heap.size := by rw [← hW, ← hR]; simp
  rw [hR] at Pr0 Fr0 lL ⊢
  have HB := Lib.hid bb
  have Pa := Lib.hid Pa0
  have Pr := Lib.hid Pr0
  have Fr : Hid (Fz W0 R) := Fr0
  clear hW bb Pa0 Pr0 Fr0
  obtain ⟨lA, x0, x1, x2, x3⟩ := Pa.out
  have neA := Pa.out.ne
  go_cut [3] (fun sp wx => ∃ (L2 h : Nat), sp = .pointer (some ⟨L2, 0, none⟩) ∧ Hid (RegZ W0 wx L2 h (n * m) q n m))
  case first =>
    go_region_held3 (fun w' => w'.cell? ⟨L, 0, none⟩ = some (.int .i64 q) ∧ w'.cell? ⟨L, 1, none⟩ = some (.int .i64 m) ∧ w'.cell? ⟨L, 2, none⟩ = some (.int .i64 n)) (go_keep)
      (first
        | (go_at_call 86; refine (specZeros_any q n m (n * m) _ (Int.natCast_mul n m).symm (by omega)).mono ?_; rintro e w3 ⟨h, rfl, hg, hrow, hb'⟩; have hb : Below W0.heap.size W0 w3 := (by first | exact hb' | exact undrew hb' | exact up1 hb' | exact up1 (undrew hb') | exact undrew (up1 hb')); obtain ⟨_, _⟩ := bcell hb'; have hs := hb'.size; (try simp at hs); (try have := (by omega : W0.heap.size < w3.heap.size)); obtain ⟨_, _, _, _, _⟩ := Pa.out.on hb; have := (Pa.out.on hb).ne))
    · go_wp2_with fail
      go_meet
      case rel => exact ⟨_, _, rfl, RegZ.new hrow (by first | exact hg | (simp at hg; omega)) hb⟩
    · go_wp2_with fail
      go_meet
      case rel => exact ⟨_, _, rfl, RegZ.set ((PtM.new _ _ _ _ _ _).drew.on hb') hrow (by simp at hg ⊢; omega) (by simp at hg ⊢; omega) (by simp) hb⟩
  obtain ⟨L2, h, rfl, hc⟩ := hcut
  obtain ⟨hp, hrow, hg2, hLh, hL2, hb⟩ := hc.out
  clear hc lA x0 x1 x2 x3 neA
  rename World => W1
  have PM := Lib.hid hp
  have HR := Lib.hid hrow
  have Pa := Lib.hid (Pa.out.on hb)
  have Pr := Lib.hid (Pr.out.on hb)
  have Fr : Hid (Fz W1 R) := Fr.out.on (by omega) hb
  have HB := Lib.hid (HB.out.trans (hb.mono HB.out.size))
  have sL := hp.1
  have sg := hrow.lt
  have sz := hb.size
  have sw := HB.out.size
  clear hp hrow hb
  go_wp2_with fail
  go_loopw [4] (fun s wr => ∃ i : Nat, i ≤ m ∧ s = .int .i64 (i : Int) ∧ Hid (wr.rowIs h 2 (n * m) (TuF m A i 0)) ∧ Hid (W1.grownBy wr (some h))) (fun s _ => m - (intOf s).toNat)
  case atStart => exact ⟨0, Nat.zero_le _, rfl, HR.out.congr fun t _ => by unfold TuF; rw [if_neg (by rintro (h | ⟨_, h⟩) <;> exact absurd h (Nat.not_lt_zero _))], grown_refl _ _⟩
  case round =>
    obtain ⟨i, hi, rfl, HX, HG⟩ := hrel
    obtain ⟨lA, x0, x1, x2, x3⟩ := Pa.out.gb HG.out (by omega)
    obtain ⟨lM, m0, m1, m2, m3⟩ := PM.out.gb HG.out (by omega)
    by_cases hlt : i < m
    · have i1 : (i : Int) < (m : Int) := by omega
      go_wp2_with fail
      clear lA x0 x1 x2 x3 lM m0 m1 m2 m3
      go_loopw [5] (fun s wr => ∃ k : Nat, k ≤ n ∧ s = .int .i64 (k : Int) ∧ Hid (wr.rowIs h 2 (n * m) (TuF m A i k)) ∧ Hid (W1.grownBy wr (some h))) (fun s _ => n - (intOf s).toNat)
      case atStart => exact ⟨0, Nat.zero_le _, rfl, HX.out, HG.out⟩
      case round =>
        clear HX HG
        obtain ⟨k, hk, rfl, HX, HG⟩ := hrel
        obtain ⟨lA, x0, x1, x2, x3⟩ := Pa.out.gb HG.out (by omega)
        obtain ⟨lM, m0, m1, m2, m3⟩ := PM.out.gb HG.out (by omega)
        by_cases hkt : k < n
        · have k1 : (k : Int) < (n : Int) := by omega
          have hu1 := idx_lt hkt hlt
          have hs1 := idx_lt hlt hkt
          have HBW := Lib.hid (below_gb HB.out HG.out (by omega) (by omega))
          have hv := HV.out
          obtain ⟨_, _, e, _, h1 | ⟨b1, o1, e1, hb1, K1⟩⟩ := hv
          · have := congrArg List.length h1; rw [flat_len] at this; simp at this; omega
          obtain ⟨rfl, -, rfl⟩ : a1 = _ ∧ _ ∧ cp = _ := by injection e with e1 e2 e3; exact ⟨e1, e2, e3⟩
          subst e1
          have c1 : wr.cell? ⟨b1, o1 + (i * n + k), none⟩ = some (.int .i64 (fv (A i k))) := by
            rw [(HBW.out.cell (p := ⟨b1, o1 + (i * n + k), none⟩) hb1), flat_cells K1 _ hs1]; unfold cellF; rw [idx_div hkt, idx_mod hkt]
          have c3 := HX.out.cell (i := k * m + i) hu1
          have f3 := HX.out.frozen (k * m + i)
          have HN : Hid (∀ v : Value, v = .int .i64 (fv (A i k)) → ∀ t, t < n * m → (if t = k * m + i then v else TuF m A i k t) = TuF m A i (k + 1) t) := fun v hv t ht => by subst hv; exact tuF_next hlt t
          obtain ⟨N, hNN⟩ : ∃ N, n * m = N := ⟨_, rfl⟩
          obtain ⟨M, hMM⟩ : ∃ M, m * n = M := ⟨_, rfl⟩
          obtain ⟨x, hx⟩ : ∃ x, k * m = x := ⟨_, rfl⟩
          obtain ⟨y, hy⟩ : ∃ y, i * n = y := ⟨_, rfl⟩
          rw [hx] at hu1 c3 f3 HN
          rw [hy] at hs1 c1
          obtain ⟨u, hu⟩ : ∃ u, x + i = u := ⟨_, rfl⟩
          obtain ⟨s, hs⟩ : ∃ s, y + k = s := ⟨_, rfl⟩
          rw [hu] at hu1 c3 f3 HN
          rw [hs] at hs1 c1
          rw [hNN] at hu1 HX HN m3 hN
          rw [hMM] at hs1 x3 hN'
          have w1 : IntKind.i64.wrap ((k : Int) * (m : Int)) = (x : Int) := by rw [← Int.natCast_mul, hx]; exact IntWalk.i64_in _ (by omega)
          have w2 : IntKind.i64.wrap ((x : Int) + (i : Int)) = (u : Int) := by rw [← Int.natCast_add, hu]; exact IntWalk.i64_in _ (by omega)
          have w3 : IntKind.i64.wrap ((i : Int) * (n : Int)) = (y : Int) := by rw [← Int.natCast_mul, hy]; exact IntWalk.i64_in _ (by omega)
          have w4 : IntKind.i64.wrap ((y : Int) + (k : Int)) = (s : Int) := by rw [← Int.natCast_add, hs]; exact IntWalk.i64_in _ (by omega)
          have u0 : (0 : Int) ≤ (u : Int) := by omega
          have u1 : (u : Int) < (N : Int) := by omega
          have s0 : (0 : Int) ≤ (s : Int) := by omega
          have s1 : (s : Int) < (M : Int) := by omega
          have HX2 : Hid ((wr.setCell ⟨h, u, none⟩ (.int .i64 (fv (A i k)))).drew.rowIs h 2 N (TuF m A i (k + 1))) :=
            ((HX.out.set u _).congr fun t ht => HN.out _ rfl t ht).drew
          have HG2 : Hid (W1.grownBy (wr.setCell ⟨h, u, none⟩ (.int .i64 (fv (A i k)))).drew (some h)) := gb_drew (gb_set HG.out _)
          have HNN := Lib.hid hNN
          clear hu hs hx hy hNN hMM HN HX HG HV
          obtain ⟨z, hz'⟩ : ∃ z, fv (A i k) = z := ⟨_, rfl⟩
          rw [hz'] at c1 HX2 HG2
          go_wp2
          go_region
          go_wp2
          go_roundw
          case rel => exact ⟨k + 1, by omega, by go_num, by have := HNN.out; subst this; exact HX2.out, HG2.out⟩
          case measure => simp [intOf]; omega
        · obtain rfl : k = n := by omega
          have HX2 : Hid (wr.rowIs h 2 (k * m) (TuF m A (i + 1) 0)) := HX.out.congr fun t ht => tuF_row t ht
          go_wp2
          go_roundw
          case rel => exact ⟨i + 1, by omega, by go_num, HX2.out, HG.out⟩
          case measure => simp [intOf]; omega
    · obtain rfl : i = m := by omega
      obtain ⟨lR, r0, r1, r2, r3⟩ := Pr.out.gb HG.out (by omega)
      obtain ⟨f0, f1, f2, f3⟩ := (Fr.out.gb (by omega) HG.out (by omega)).all
      go_wp2
      refine bodyPost_ret (v := .agg #[.int .i64 q, .int .i64 n, .int .i64 i, .slice (some ⟨h, 0, none⟩) (n * i) (n * i)]) (by simp [results, Try.results92, go_sem, r0, r1, r2, r3]) rfl ⟨_, rfl, ?_, ?_⟩
      · refine OwnI.mono (B := R + 1) ?_ (by omega)
        repeat (refine OwnI.setOut ?_ (by omega) _)
        refine OwnI.of_flat HX.out (by omega) (by omega) fun a b ha hb => ?_
        unfold TuF
        rw [idx_div hb, idx_mod hb, if_pos (.inl hb)]
      · repeat (refine Below.setC ?_ (by omega) _)
        exact below_gb HB.out HG.out (by omega) (by omega)
/-- A matrix and what Transpose answers. -/
def TrRes (p r c : Int) (xs : List Int) (P R C : Int) (zs : List Int) (k : Int) : Prop :=
  (¬ MOk p r c xs ∧ P = 0 ∧ R = 0 ∧ C = 0 ∧ zs = [] ∧ k = 1) ∨ (P = p ∧ R = c ∧ C = r ∧ k = 0 ∧ ∃ (u : Nat) (_ : NeZero u) (m n : Nat) (A : Mt u), MIs p r c xs u m n A ∧ zs = flat n m (fun i j => A j i))
theorem trRes_has (p r c : Int) (xs : List Int) : ∃ P R C zs k, TrRes p r c xs P R C zs k := by
  by_cases h : MOk p r c xs
  · obtain ⟨u, i, m, n, A, hA⟩ := h.form
    exact ⟨_, _, _, _, _, .inr ⟨rfl, rfl, rfl, rfl, u, i, m, n, A, hA, rfl⟩⟩
  · exact ⟨_, _, _, _, _, .inl ⟨h, rfl, rfl, rfl, rfl, rfl⟩⟩
theorem TrRes.len {p r c : Int} {xs : List Int} {P R C : Int} {zs : List Int} {k : Int} (h : TrRes p r c xs P R C zs k) : zs.length ≤ 1048576 := by
  rcases h with ⟨_, _, _, _, rfl, _⟩ | ⟨_, _, _, _, u, _, m, n, A, hA, rfl⟩
  · simp
  · rw [flat_len]; have := side_mul hA.n32 hA.m32; omega
set_option maxRecDepth 100000 in
set_option maxHeartbeats 1600000 in
theorem specTr_b1 {p r c : Int} {u : Value} {xs : List Int} {w : World} (hu : IntsAt w u xs) (hk : okB p r c xs = false) :
    Calls Try.prog 51 #[.agg #[.int .i64 p, .int .i64 r, .int .i64 c, u]] w fun e w' => RetMC 0 0 0 [] 1 w e w' := by
  have HU := Lib.hid hu
  obtain ⟨a1, c1, rfl, hl1, _⟩ := hu
  have HK := Lib.hid hk
  clear hk
  have Pa0 := PtM.new1 w p r c (.slice a1 xs.length c1) 27 (.cells #[.int .i64 0, .int .i64 0, .int .i64 0, .slice none 0 0] 27)
  have Pr0 := PtM.new (w.alloc (.cells #[.int .i64 p, .int .i64 r, .int .i64 c, .slice a1 xs.length c1] 27)) 0 0 0 (.slice none 0 0) 27
  have Fr0 := Fz.new (w.alloc (.cells #[.int .i64 p, .int .i64 r, .int .i64 c, .slice a1 xs.length c1] 27)) #[.int .i64 0, .int .i64 0, .int .i64 0, .slice none 0 0] 27
  rw [World.size_alloc] at Pr0 Fr0
  go_enter Try.func51, Try.ntmps51
  go_wp2_with fail
  with_reducible refine Calls.mono (specOk_is (T := false) Pa0 (HU.out.on (al1 (al1 (Below.refl _ _) _) _)) HK.out) ?_
  rintro e w1 ⟨rfl, d, hw1⟩
  have hb : Below ((w.alloc (.cells #[.int .i64 p, .int .i64 r, .int .i64 c, .slice a1 xs.length c1] 27)).alloc (.cells #[.int .i64 0, .int .i64 0, .int .i64 0, .slice none 0 0] 27)).heap.size ((w.alloc (.cells #[.int .i64 p, .int .i64 r, .int .i64 c, .slice a1 xs.length c1] 27)).alloc (.cells #[.int .i64 0, .int .i64 0, .int .i64 0, .slice none 0 0] 27)) w1 := by rw [hw1]; exact below_drewX (Below.refl _ _) d
  clear hw1
  have Pa := Lib.hid (Pa0.on hb)
  have Pr := Lib.hid (Pr0.on hb)
  have Fr : Hid (Fz w1 (w.heap.size + 1)) := Fr0.on (by simp) hb
  have HB := Lib.hid (up2 hb)
  have hz : w.heap.size + 2 ≤ w1.heap.size := by have := hb.size; simp at this; omega
  clear hb Pa0 Pr0 Fr0
  obtain ⟨lA, x0, x1, x2, x3⟩ := Pa.out
  obtain ⟨lR, r0, r1, r2, r3⟩ := Pr.out
  obtain ⟨f0, f1, f2, f3⟩ := Fr.out.all
  go_wp2_with fail
  refine bodyPost_ret (v := .tuple #[.agg #[.int .i64 0, .int .i64 0, .int .i64 0, .slice none 0 0], .int .i64 1]) (by simp [results, Try.results51, go_sem, r0, r1, r2, r3]) rfl ⟨_, rfl, OwnI.nul _ _, ?_⟩
  repeat (refine Below.setC ?_ (by omega) _)
  exact HB.out
set_option maxRecDepth 100000 in
set_option maxHeartbeats 3200000 in
theorem specTr_ok {q m n : Nat} [NeZero q] {A : Mt q} {u : Value} {w : World} (hu : IntsAt w u (flat m n A)) (hA : MIs q m n (flat m n A) q m n A) :
    Calls Try.prog 51 #[.agg #[.int .i64 (q : Int), .int .i64 (m : Int), .int .i64 (n : Int), u]] w fun e w' => RetMC q n m (flat n m (fun i j => A j i)) 0 w e w' := by
  have hk : okB (q : Int) m n (flat m n A) = true := okB_yes hA.ok
  obtain ⟨hq2, hq⟩ := hA.q2
  have HA := Lib.hid hA
  have HU := Lib.hid hu
  obtain ⟨a1, c1, rfl, hl1, _⟩ := hu
  have HK := Lib.hid hk
  clear hk hA
  have Pa0 := PtM.new1 w q m n (.slice a1 (flat m n A).length c1) 27 (.cells #[.int .i64 0, .int .i64 0, .int .i64 0, .slice none 0 0] 27)
  have Pr0 := PtM.new (w.alloc (.cells #[.int .i64 q, .int .i64 m, .int .i64 n, .slice a1 (flat m n A).length c1] 27)) 0 0 0 (.slice none 0 0) 27
  have Fr0 := Fz.new (w.alloc (.cells #[.int .i64 q, .int .i64 m, .int .i64 n, .slice a1 (flat m n A).length c1] 27)) #[.int .i64 0, .int .i64 0, .int .i64 0, .slice none 0 0] 27
  rw [World.size_alloc] at Pr0 Fr0
  go_enter Try.func51, Try.ntmps51
  go_wp2_with fail
  with_reducible refine Calls.mono (specOk_is (T := true) Pa0 (HU.out.on (al1 (al1 (Below.refl _ _) _) _)) HK.out) ?_
  rintro e w1 ⟨rfl, d, hw1⟩
  have hb : Below ((w.alloc (.cells #[.int .i64 q, .int .i64 m, .int .i64 n, .slice a1 (flat m n A).length c1] 27)).alloc (.cells #[.int .i64 0, .int .i64 0, .int .i64 0, .slice none 0 0] 27)).heap.size ((w.alloc (.cells #[.int .i64 q, .int .i64 m, .int .i64 n, .slice a1 (flat m n A).length c1] 27)).alloc (.cells #[.int .i64 0, .int .i64 0, .int .i64 0, .slice none 0 0] 27)) w1 := by rw [hw1]; exact below_drewX (Below.refl _ _) d
  clear hw1
  have Pa := Lib.hid (Pa0.on hb)
  have Pr := Lib.hid (Pr0.on hb)
  have Fr : Hid (Fz w1 (w.heap.size + 1)) := Fr0.on (by simp) hb
  have HB := Lib.hid (up2 hb)
  have hz : w.heap.size + 2 ≤ w1.heap.size := by have := hb.size; simp at this; omega
  clear hb Pa0 Pr0 Fr0
  obtain ⟨lA, x0, x1, x2, x3⟩ := Pa.out
  obtain ⟨lR, r0, r1, r2, r3⟩ := Pr.out
  obtain ⟨f0, f1, f2, f3⟩ := Fr.out.all
  go_wp2_with fail
  with_reducible refine Calls.mono (l03Turned_any Pa.out (HU.out.on HB.out) hq2 hq HA.out.m32 HA.out.n32) ?_
  rintro e w2 ⟨v, rfl, ho, hb⟩
  obtain ⟨va, vc, rfl⟩ := ho.slice
  clear lA x0 x1 x2 x3 lR r0 r1 r2 r3 f0 f1 f2 f3
  have Pa := Lib.hid (Pa.out.on hb)
  have Pr := Lib.hid (Pr.out.on hb)
  have Fr : Hid (Fz w2 (w.heap.size + 1)) := Fr.out.on (by omega) hb
  have HB := Lib.hid (HB.out.trans (hb.mono (by omega)))
  have hz2 : w.heap.size + 2 ≤ w2.heap.size := by have := hb.size; omega
  have HO := Lib.hid ho
  clear hb ho
  obtain ⟨lA, x0, x1, x2, x3⟩ := Pa.out
  obtain ⟨lR, r0, r1, r2, r3⟩ := Pr.out
  obtain ⟨f0, f1, f2, f3⟩ := Fr.out.all
  go_wp2_with fail
  refine bodyPost_ret (v := .tuple #[.agg #[.int .i64 q, .int .i64 n, .int .i64 m, .slice va (flat n m (fun i j => A j i)).length vc], .int .i64 0]) (by simp [results, Try.results51, go_sem, r0, r1, r2, r3]) rfl ⟨_, rfl, ?_, ?_⟩
  · refine OwnI.mono (B := w1.heap.size) ?_ (by omega)
    repeat (refine OwnI.setOut ?_ (by omega) _)
    exact HO.out
  · repeat (refine Below.setC ?_ (by omega) _)
    exact HB.out
theorem specTr_any {p r c P R C k : Int} {u : Value} {xs zs : List Int} {w : World} (hu : IntsAt w u xs) (h : TrRes p r c xs P R C zs k) :
    Calls Try.prog 51 #[.agg #[.int .i64 p, .int .i64 r, .int .i64 c, u]] w fun e w' => RetMC P R C zs k w e w' := by
  rcases h with ⟨h, rfl, rfl, rfl, rfl, rfl⟩ | ⟨rfl, rfl, rfl, rfl, u', _, m, n, A, hA, rfl⟩
  · exact specTr_b1 hu (okB_no h)
  · obtain ⟨rfl, rfl, rfl, rfl, h5, h6, h7⟩ := hA
    exact specTr_ok hu ⟨rfl, rfl, rfl, rfl, h5, h6, h7⟩
end Go.Proofs.Ytabanmaaagmeaaa
