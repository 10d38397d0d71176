/-
  The law of systems: whatever is drawn, there is either a solution or a certificate against it, and both are right.
-/
import Derived.Test.YtlakkmhfaojebaaMDs
import Derived.Test.YtlakkmhfaojebaaMSv
import Derived.Test.YtlakkmhfaojebaaSpV
import Derived.Test.YtlakkmhfaojebaaSpR
import Derived.Test.YtlakkmhfaojebaaPD
namespace Go.Proofs.Ytlakkmhfaojebaa
open Go.RowKit
open Lin
set_option linter.unusedVariables false
set_option linter.unusedSectionVars false

/-- A system that was drawn for a law. -/
def RetDS (w : World) (e : Ending) (w' : World) : Prop :=
  ∃ (P S C : Int) (v : Value) (zs : List Int) (v2 : Value) (bs : List Int), e = .returned (.tuple #[.agg #[.int .i64 P, .int .i64 S, .int .i64 C, v], v2]) ∧ OwnI w.heap.size w' v zs ∧ zs.length ≤ 1100 ∧ OwnI w.heap.size w' v2 bs ∧ bs.length ≤ 1100 ∧ Below w.heap.size w w'
set_option maxRecDepth 100000 in
set_option maxHeartbeats 3200000 in
theorem drawSolve_any (w : World) (a : Option Addr) (len cap : Nat) (h : Bytes w a len) :
    Calls Try.prog 20 #[.slice a len cap] w fun e w' => RetDS w e w' := by
  have H := Lib.hid (h.on (al1 (Below.refl _ _) (.cells #[.int .i64 0, .int .i64 0, .int .i64 0, .slice none 0 0] 26)))
  have Pr0 := Lib.hid (PtM.new w 0 0 0 (.slice none 0 0) 26)
  have Fr0 : Hid (Fz (w.alloc (.cells #[.int .i64 0, .int .i64 0, .int .i64 0, .slice none 0 0] 26)) w.heap.size) := Fz.new w _ _
  have hz0 : (w.alloc (.cells #[.int .i64 0, .int .i64 0, .int .i64 0, .slice none 0 0] 26)).heap.size = w.heap.size + 1 := by simp
  have HB0 := Lib.hid (al1 (Below.refl w.heap.size w) (.cells #[.int .i64 0, .int .i64 0, .int .i64 0, .slice none 0 0] 26))
  clear h
  go_enter Try.func20, Try.ntmps20
  go_wp2_with fail
  refine (from_any _ a len cap).mono ?_
  rintro e w1 hf
  obtain ⟨rfl, hsrc, hb, hp⟩ := hf
  have HS := Lib.hid (newSc H.out hsrc hb hp)
  have HB := Lib.hid (HB0.out.trans (hb.mono (by omega)))
  have Pr := Lib.hid (Pr0.out.on hb)
  have Fr : Hid (Fz w1 w.heap.size) := Fr0.out.on (by simp) hb
  rw [hz0] at HS hp
  clear hsrc hb Pr0 Fr0
  go_wp2_with fail
  refine (l04DrawSystem_any (by omega) HS.out).mono ?_
  rintro e w2 ⟨P, S, C, v, zs, v2, bs, rfl, ho, hzl, ho2, hbl, hg⟩
  have hs1 := hg.size
  have Fr : Hid (Fz w2 w.heap.size) := Fr.out.gb Pr.out.1 hg (by omega)
  have Pr := Lib.hid (Pr.out.gb hg (by omega))
  have HO := Lib.hid ho
  have HO2 := Lib.hid ho2
  have HB2 := Lib.hid (HB.out.trans (below_gb2 hg (by omega) (by omega)))
  obtain ⟨va, vc, rfl⟩ := ho.slice
  obtain ⟨ba, bc, rfl⟩ := ho2.slice
  obtain ⟨lR, r0, r1, r2, r3⟩ := Pr.out
  obtain ⟨f0, f1, f2, f3⟩ := Fr.out.all
  have HQ := Lib.hid (Pr.out.set4 P S C (.slice va zs.length vc))
  clear ho ho2 hg
  go_wp2_with fail
  obtain ⟨_, q0, q1, q2, q3⟩ := HQ.out
  refine bodyPost_ret (v := .tuple #[.agg #[.int .i64 P, .int .i64 S, .int .i64 C, .slice va zs.length vc], .slice ba bs.length bc]) (by simp [results, Try.results20, go_sem, q0, q1, q2, q3]) rfl ⟨P, S, C, _, zs, _, bs, rfl, ?_, hzl, ?_, hbl, ?_⟩
  · refine OwnI.mono (B := w1.heap.size) ?_ (by omega)
    iterate 4 (refine OwnI.setOut ?_ (by omega) _)
    exact HO.out
  · refine OwnI.mono (B := w1.heap.size) ?_ (by omega)
    iterate 4 (refine OwnI.setOut ?_ (by omega) _)
    exact HO2.out
  · iterate 4 (refine Below.setC ?_ (by omega) _)
    exact HB2.out
theorem flat_colS {q : Nat} [NeZero q] {m n : Nat} {A : Mt q} {b x : Nat → Fin q} (h : ∀ i, i < m → sm n (fun j => A i j * x j) = b i) : flat m 1 (muC n A (fun i _ => x i)) = bL m b := by
  rw [bL_flat]
  exact flat_congr fun i j hi hj => h i hi
theorem zeros_bL {q : Nat} [NeZero q] {m : Nat} {b : Nat → Fin q} (h : ∀ i, i < m → b i = 0) : ∀ z ∈ bL m b, z = 0 := fun z hz => by
  obtain ⟨j, hj, rfl⟩ := List.getElem_of_mem hz
  rw [bL_at, h j (by rw [bL_len] at hj; exact hj), fv_zero]
set_option maxRecDepth 100000 in
set_option maxHeartbeats 12800000 in
theorem solve_walk (a0 : Option Addr) (l0 c0 : Nat) (w : World) (h0 : Bytes w a0 l0) :
    Calls Try.prog 4 #[.slice a0 l0 c0] w fun e w' => e = .returned (.bool true) ∧ Below w.heap.size w w' := by
  have H0 := Lib.hid h0
  have z0 := h0.1
  clear h0
  go_enter Try.func4, Try.ntmps4
  go_wp2_with fail
  refine (long10_no a0 l0 c0 w z0).mono ?_
  rintro e w' ⟨rfl, rfl⟩
  go_wp2_with fail
  refine (drawSolve_any w a0 l0 c0 H0.out).mono ?_
  rintro e w1 ⟨P, S, C, v, zs, v2, bs, rfl, ho, hzl, ho2, hbl, hb⟩
  have HC := Lib.hid (ho.atC (by omega))
  have HD := Lib.hid (ho2.atC (by omega))
  obtain ⟨va, vc, rfl⟩ := ho.slice
  obtain ⟨ba, bc, rfl⟩ := ho2.slice
  have HB := Lib.hid hb
  have hs1 := hb.size
  have PM0 := PtM.new w1 P S C (.slice va zs.length vc) 26
  have b2 := al1 (Below.refl w1.heap.size w1) (.cells #[.int .i64 P, .int .i64 S, .int .i64 C, .slice va zs.length vc] 26)
  clear ho ho2 hb
  go_wp2_with fail
  generalize hW : World.alloc w1 (.cells #[.int .i64 P, .int .i64 S, .int .i64 C, .slice va zs.length vc] 26) = w2 at PM0 b2 ⊢
  have PM := Lib.hid PM0
  have HC := Lib.hid (HC.out.on b2)
  have HD := Lib.hid (HD.out.on b2)
  have HB := Lib.hid (HB.out.trans (b2.mono hs1))
  clear hW PM0 b2
  have hs2 := HB.out.size
  rcases solve_three P S C zs bs with ⟨c, hc, h1, h2⟩ | ⟨u, iu, m, n, A, b, x, hA, hbs, h1, h2, hx⟩ | ⟨u, iu, m, n, A, b, y, hA, hbs, h1, h2, hy, hd⟩
  · have H1 := Lib.hid h1
    have H2 := Lib.hid h2
    have e0 : (c != 0) = true := by rcases hc with rfl | rfl <;> rfl
    have e3 : (c != 3) = true := by rcases hc with rfl | rfl <;> rfl
    have e4 : (c == c) = true := by simp
    clear h1 h2 hc
    refine (implSol_any HC.out HD.out H1.out).mono ?_
    rintro e w3 ⟨v3, rfl, ho, hb⟩
    obtain ⟨xa, xc, rfl⟩ := ho.slice
    have PM := Lib.hid (PM.out.on hb)
    have HC := Lib.hid (HC.out.on hb)
    have HD := Lib.hid (HD.out.on hb)
    have HB := Lib.hid (HB.out.trans (hb.mono hs2))
    have hs3 := HB.out.size
    clear ho hb
    obtain ⟨lM, m0, m1, m2, m3⟩ := PM.out
    go_wp2_with fail
    refine (implCer_any HC.out HD.out H2.out).mono ?_
    rintro e w4 ⟨v4, rfl, ho, hb⟩
    obtain ⟨ya, yc, rfl⟩ := ho.slice
    have HB := Lib.hid (HB.out.trans (hb.mono hs3))
    clear ho hb
    simp only [List.length_nil]
    go_wp2_with fail
    go_ret
    exact ⟨rfl, HB.out⟩
  · have H1 := Lib.hid h1
    have H2 := Lib.hid h2
    have HP : Hid (ApRes P S C zs (bL n x) (bL m b) 0) := .inr ⟨rfl, u, iu, m, n, A, (fun i _ => x i), hA, ⟨hA.p, hA.c, rfl, bL_flat n x, hA.pr, hA.n32, by omega⟩, (flat_colS hx).symm⟩
    have hn32 := hA.n32
    have hm32 := hA.m32
    have HBS := Lib.hid hbs
    clear h1 h2 hA hx hbs
    refine (implSol_any HC.out HD.out H1.out).mono ?_
    rintro e w3 ⟨v3, rfl, ho, hb⟩
    have HX := Lib.hid (ho.at (by rw [bL_len]; omega))
    obtain ⟨xa, xc, rfl⟩ := ho.slice
    have PM := Lib.hid (PM.out.on hb)
    have HC := Lib.hid (HC.out.on hb)
    have HD := Lib.hid (HD.out.on hb)
    have HB := Lib.hid (HB.out.trans (hb.mono hs2))
    have hs3 := HB.out.size
    clear ho hb
    obtain ⟨lM, m0, m1, m2, m3⟩ := PM.out
    go_wp2_with fail
    refine (implCer_any HC.out HD.out H2.out).mono ?_
    rintro e w4 ⟨v4, rfl, ho, hb⟩
    obtain ⟨ya, yc, rfl⟩ := ho.slice
    have PM := Lib.hid (PM.out.on hb)
    have HC := Lib.hid (HC.out.on hb)
    have HD := Lib.hid (HD.out.on hb)
    have HX := Lib.hid (HX.out.on hb)
    have HB := Lib.hid (HB.out.trans (hb.mono hs3))
    have hs4 := HB.out.size
    clear ho hb lM m0 m1 m2 m3
    obtain ⟨lM, m0, m1, m2, m3⟩ := PM.out
    go_wp2_with fail
    refine (specAp_any HC.out.1 HX.out HP.out).mono ?_
    rintro e w5 ⟨v5, rfl, ho, hb⟩
    have HI := Lib.hid (ho.at (by rw [bL_len]; omega))
    obtain ⟨ia, ic, rfl⟩ := ho.slice
    have HD := Lib.hid (HD.out.on hb)
    have HB := Lib.hid (HB.out.trans (hb.mono hs4))
    have hs5 := HB.out.size
    have hD1 := HD.out.1
    rw [HBS.out] at hD1
    have HD1 := Lib.hid hD1
    have HBL : Hid (bs.length = (bL m b).length) := by show _ = _; rw [HBS.out]
    rw [HBS.out] at *
    clear ho hb lM m0 m1 m2 m3 hD1
    go_wp2_with fail
    refine (nums10_any HI.out HD1.out).mono ?_
    rintro e w6 ⟨rfl, d, rfl⟩
    go_wp2_with fail
    go_ret
    exact ⟨rfl, below_drewX HB.out _⟩
  · have H1 := Lib.hid h1
    have H2 := Lib.hid h2
    have hn32 := hA.n32
    have hm32 := hA.m32
    have hu2 : 2 ≤ u := by have := hA.pr.1; omega
    have HT : Hid (TrRes P S C zs P C S (flat n m (turn A)) 0) := .inr ⟨rfl, rfl, rfl, rfl, u, iu, m, n, A, hA, rfl⟩
    have HP : Hid (ApRes P C S (flat n m (turn A)) (bL m y) (bL n (fun _ => (0 : Fin u))) 0) := .inr ⟨rfl, u, iu, n, m, turn A, (fun i _ => y i), ⟨hA.p, hA.c, hA.r, rfl, hA.pr, hA.n32, hA.m32⟩, ⟨hA.p, hA.r, rfl, bL_flat m y, hA.pr, hA.m32, by omega⟩, (flat_colS (A := turn A) (b := fun _ => 0) hy).symm⟩
    have HD1 : Hid (DotRes P (bL m y) bs 1 0) := by
      refine ⟨.inr (.inr ⟨?_, ?_, ?_, rfl⟩), .inr ⟨rfl, ?_⟩⟩
      · rw [hA.p]; exact ⟨hA.pr, rowL_ok m (fun _ => y) 0, by rw [bL_len]; omega⟩
      · rw [hA.p, hbs]; exact ⟨hA.pr, rowL_ok m (fun _ => b) 0, by rw [bL_len]; omega⟩
      · rw [hbs, bL_len, bL_len]
      · rw [hA.p, hbs, dotN_rowL, sm_congr (g := fun j => b j * y j) (fun j hj => by grind), hd, fv_one hu2]
    have HZ : Hid (decide (∀ z ∈ bL n (fun _ => (0 : Fin u)), z = 0) = true) := by
      show _ = _
      simp only [decide_eq_true_eq]
      exact zeros_bL fun i hi => rfl
    clear h1 h2 hA hy hd hbs
    refine (implSol_any HC.out HD.out H1.out).mono ?_
    rintro e w3 ⟨v3, rfl, ho, hb⟩
    obtain ⟨xa, xc, rfl⟩ := ho.slice
    have PM := Lib.hid (PM.out.on hb)
    have HC := Lib.hid (HC.out.on hb)
    have HD := Lib.hid (HD.out.on hb)
    have HB := Lib.hid (HB.out.trans (hb.mono hs2))
    have hs3 := HB.out.size
    clear ho hb
    obtain ⟨lM, m0, m1, m2, m3⟩ := PM.out
    go_wp2_with fail
    refine (implCer_any HC.out HD.out H2.out).mono ?_
    rintro e w4 ⟨v4, rfl, ho, hb⟩
    have HY := Lib.hid (ho.at (by rw [bL_len]; omega))
    obtain ⟨ya, yc, rfl⟩ := ho.slice
    have PM := Lib.hid (PM.out.on hb)
    have HC := Lib.hid (HC.out.on hb)
    have HD := Lib.hid (HD.out.on hb)
    have HB := Lib.hid (HB.out.trans (hb.mono hs3))
    have hs4 := HB.out.size
    clear ho hb lM m0 m1 m2 m3
    obtain ⟨lM, m0, m1, m2, m3⟩ := PM.out
    go_wp2_with fail
    refine (specTr_any HC.out.1 HT.out).mono ?_
    rintro e w5 ⟨v5, rfl, ho, hb⟩
    have HI := Lib.hid (ho.at (by rw [flat_len]; have := Nat.mul_le_mul hn32 hm32; omega))
    obtain ⟨ia, ic, rfl⟩ := ho.slice
    have PM := Lib.hid (PM.out.on hb)
    have HY := Lib.hid (HY.out.on hb)
    have HD := Lib.hid (HD.out.on hb)
    have HB := Lib.hid (HB.out.trans (hb.mono hs4))
    have hs5 := HB.out.size
    have b6 := al1 (Below.refl w5.heap.size w5) (.cells #[.int .i64 P, .int .i64 C, .int .i64 S, .slice ia (flat n m (turn A)).length ic] 26)
    clear ho hb lM m0 m1 m2 m3
    obtain ⟨lM, m0, m1, m2, m3⟩ := PM.out
    go_wp2_with fail
    refine (specAp_any (HI.out.on b6) (HY.out.on b6) HP.out).mono ?_
    rintro e w6 ⟨v6, rfl, ho, hb'⟩
    have hb := up1 hb'
    have HO := Lib.hid (ho.at (by rw [bL_len]; omega))
    obtain ⟨oa, oc, rfl⟩ := ho.slice
    have PM := Lib.hid (PM.out.on hb)
    have HY := Lib.hid (HY.out.on hb)
    have HD := Lib.hid (HD.out.on hb)
    have HB := Lib.hid (HB.out.trans (hb.mono hs5))
    have hs6 := HB.out.size
    clear ho hb hb' b6 lM m0 m1 m2 m3
    obtain ⟨lM, m0, m1, m2, m3⟩ := PM.out
    go_wp2_with fail
    refine (specDotV_any HY.out HD.out.1 HD1.out).mono ?_
    rintro e w7 ⟨rfl, hb⟩
    have HO := Lib.hid (HO.out.on hb)
    have HB := Lib.hid (HB.out.trans (hb.mono hs6))
    clear hb
    go_wp2_with fail
    refine (zero10_is HO.out HZ.out).mono ?_
    rintro e w8 ⟨rfl, rfl⟩
    go_wp2_with fail
    go_ret
    exact ⟨rfl, HB.out⟩
set_option maxRecDepth 100000 in
theorem solve_long (a0 : Option Addr) (l0 c0 : Nat) (w : World) (h : 1048576 < l0) :
    Calls Try.prog 4 #[.slice a0 l0 c0] w fun e w' => e = .returned (.bool true) ∧ Below w.heap.size w w' := by
  go_enter Try.func4, Try.ntmps4
  go_wp2_with fail
  refine (long10_yes a0 l0 c0 w h).mono ?_
  rintro e w' ⟨rfl, rfl⟩
  go_wp2_with fail
  go_ret
  exact ⟨rfl, Below.refl _ _⟩
theorem solve_of (a0 : Option Addr) (l0 c0 : Nat) (z0 : List Int) (w : World)
    (h0 : (a0 = none ∧ l0 = 0 ∧ c0 = 0 ∧ z0 = []) ∨ ∃ x, a0 = some x ∧ l0 ≤ c0 ∧ c0 ≤ maxLen ∧ z0.length = c0 ∧ (∀ i, i < z0.length → w.cell? (x.add i) = some (.int .u8 (z0.getD i 0))) ∧ ∀ n ∈ z0, (Lit.int .u8 n).wf = true) :
    Calls Try.prog 4 #[.slice a0 l0 c0] w fun e w' => e = .returned (.bool true) ∧ Below w.heap.size w w' := by
  by_cases h : 1048576 < l0
  · exact solve_long a0 l0 c0 w h
  · exact solve_walk a0 l0 c0 w (bytes_in (by omega) h0)
end Go.Proofs.Ytlakkmhfaojebaa
