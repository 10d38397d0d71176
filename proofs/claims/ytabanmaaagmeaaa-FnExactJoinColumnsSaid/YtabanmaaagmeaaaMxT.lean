/-
  Contracts of Transpose of the program.
-/
import Derived.RangeFuncNested
import Derived.RangeFuncBound
import Derived.RangeFuncCalls
import Derived.RangeFuncLeaves
import Derived.Shelf.Abstract
import Derived.Shelf.RegionOpen
import Derived.WalkKit
import Derived.OwnWalkIn
import Derived.TacticsInMore
import Derived.LoopNIn
import Derived.LoopIn
import Derived.Test.YtabanmaaagmeaaaMxB
import Derived.Test.YtabanmaaagmeaaaRnd
import Derived.Test.YtabanmaaagmeaaaMxL
namespace Go.Proofs.Ytabanmaaagmeaaa
open Go.RowKit Go.Shelf
open Lin
set_option linter.unusedVariables false
set_option linter.unusedSectionVars false
attribute [local go_sem] Oper.semAt_some

set_option maxRecDepth 100000 in
set_option maxHeartbeats 1600000 in
theorem implTr_b1 {p r c : Int} {u : Value} {xs : List Int} {w : World} (hu : IntsAt w u xs) (hk : false = okB p r c xs) :
    Calls Try.prog 25 #[.agg #[.int .i64 p, .int .i64 r, .int .i64 c, u]] w fun e w' => RetMC 0 0 0 [] 1 w e w' := by
  have HU := Lib.hid hu
  obtain ⟨a1, c1, rfl, hl1, _⟩ := hu
  have HK := Lib.hid hk
  clear hk
  have Pa0 := PtM.new1 w p r c (.slice a1 xs.length c1) 27 (.cells #[.int .i64 0, .int .i64 0, .int .i64 0, .slice none 0 0] 27)
  have Pr0 := PtM.new (w.alloc (.cells #[.int .i64 p, .int .i64 r, .int .i64 c, .slice a1 xs.length c1] 27)) 0 0 0 (.slice none 0 0) 27
  have Fr0 := Fz.new (w.alloc (.cells #[.int .i64 p, .int .i64 r, .int .i64 c, .slice a1 xs.length c1] 27)) #[.int .i64 0, .int .i64 0, .int .i64 0, .slice none 0 0] 27
  rw [World.size_alloc] at Pr0 Fr0
  go_enter Try.func25, Try.ntmps25
  go_wp2_with fail
  with_reducible refine Calls.mono (implVM_r (T := false) (HU.out.on (al1 (al1 (Below.refl _ _) _) _)) HK.out) ?_
  rintro e w1 ⟨rfl, hb⟩
  have Pa := Lib.hid (Pa0.on hb)
  have Pr := Lib.hid (Pr0.on hb)
  have Fr : Hid (Fz w1 (w.heap.size + 1)) := Fr0.on (by simp) hb
  have HB := Lib.hid (up2 hb)
  have hz : w.heap.size + 2 ≤ w1.heap.size := by have := hb.size; simp at this; omega
  clear hb Pa0 Pr0 Fr0
  obtain ⟨lA, x0, x1, x2, x3⟩ := Pa.out
  obtain ⟨lR, r0, r1, r2, r3⟩ := Pr.out
  obtain ⟨f0, f1, f2, f3⟩ := Fr.out.all
  go_wp2_with fail
  refine bodyPost_ret (v := .tuple #[.agg #[.int .i64 0, .int .i64 0, .int .i64 0, .slice none 0 0], .int .i64 1]) (by simp [results, Try.results25, go_sem, r0, r1, r2, r3]) rfl ⟨_, rfl, OwnI.nul _ _, ?_⟩
  repeat (refine Below.setC ?_ (by omega) _)
  exact HB.out
set_option maxRecDepth 100000 in
set_option maxHeartbeats 3200000 in
theorem implTr_ok {q m n : Nat} [NeZero q] {A : Mt q} {u : Value} {w : World} (hu : IntsC w u (flat m n A)) (hA : MIs q m n (flat m n A) q m n A) :
    Calls Try.prog 25 #[.agg #[.int .i64 (q : Int), .int .i64 (m : Int), .int .i64 (n : Int), u]] w fun e w' => RetMC q n m (flat n m (fun i j => A j i)) 0 w e w' := by
  have hk : true = okB (q : Int) m n (flat m n A) := (okB_yes hA.ok).symm
  have hN := side_mul hA.m32 hA.n32
  obtain ⟨hq2, hq⟩ := hA.q2
  have HC := Lib.hid hu
  have HU := Lib.hid hu.1
  obtain ⟨a1, k1, rfl, hl1, -⟩ := hu.1
  have HK := Lib.hid hk
  clear hk
  simp only [flat_len] at HU HC hl1 ⊢
  clear hu
  have Pa0 := PtM.new1 w q m n (.slice a1 (m * n) k1) 27 (.cells #[.int .i64 0, .int .i64 0, .int .i64 0, .slice none 0 0] 27)
  have Pr0 := PtM.new (w.alloc (.cells #[.int .i64 q, .int .i64 m, .int .i64 n, .slice a1 (m * n) k1] 27)) 0 0 0 (.slice none 0 0) 27
  have Fr0 := Fz.new (w.alloc (.cells #[.int .i64 q, .int .i64 m, .int .i64 n, .slice a1 (m * n) k1] 27)) #[.int .i64 0, .int .i64 0, .int .i64 0, .slice none 0 0] 27
  rw [World.size_alloc] at Pr0 Fr0
  refine (callsIn_wide (n := 9)).1 ?_
  refine callsIn_of_wp_marks Try.func25 rfl trivial ?_ rfl
  simp only [Try.ntmps25, List.size_toArray, List.length_cons, List.length_nil, Nat.reduceAdd, Nat.reduceSub, Array.replicate_succ, Array.replicate_zero, List.push_toArray, List.append_toArray, List.nil_append, List.cons_append]
  gi_wp2_with fail
  refine ⟨trivial, (callsIn_wide.2 (implVM_r (T := true) (HU.out.on (al1 (al1 (Below.refl _ _) _) _)) HK.out)).mono ?_⟩
  rintro e w1 ⟨rfl, hb⟩
  have Pa := Lib.hid (Pa0.on hb)
  have Pr := Lib.hid (Pr0.on hb)
  have Fr : Hid (Fz w1 (w.heap.size + 1)) := Fr0.on (by simp) hb
  have HB := Lib.hid (up2 hb)
  have hz : w.heap.size + 2 ≤ w1.heap.size := by have := hb.size; simp at this; omega
  clear hb Pa0 Pr0 Fr0
  obtain ⟨lA, x0, x1, x2, x3⟩ := Pa.out
  obtain ⟨lR, r0, r1, r2, r3⟩ := Pr.out
  obtain ⟨f0, f1, f2, f3⟩ := Fr.out.all
  gi_wp2_with fail
  refine ⟨trivial, (callsIn_wide.2 (implZeros_any q n m (n * m) _ (Int.natCast_mul n m).symm (by rw [Nat.mul_comm]; omega))).mono ?_⟩
  rintro e w2 ⟨h, rfl, hg, hrow, hb⟩
  clear lA x0 x1 x2 x3 lR r0 r1 r2 r3 f0 f1 f2 f3
  have Pa := Lib.hid (Pa.out.on hb)
  have Pr := Lib.hid (Pr.out.on hb)
  have Fr : Hid (Fz w2 (w.heap.size + 1)) := Fr.out.on (by omega) hb
  have HB := Lib.hid (HB.out.trans (hb.mono (by omega)))
  have hz2 : w.heap.size + 2 ≤ w2.heap.size := by have := hb.size; omega
  have hg3 := hrow.lt
  have HR := Lib.hid hrow
  have hg2 : w.heap.size + 2 ≤ h := by omega
  clear hb hrow hg
  obtain ⟨lA, x0, x1, x2, x3⟩ := Pa.out
  obtain ⟨lR, r0, r1, r2, r3⟩ := Pr.out
  obtain ⟨f0, f1, f2, f3⟩ := Fr.out.all
  gi_wp2_with fail
  have Pt0 := PtM.new w2 q n m (.slice (some ⟨h, 0, none⟩) (n * m) (n * m)) 27
  refine ⟨trivial, (callsIn_wide.2 (rows_any Pt0 hA.n32 (Nat.le_trans hA.m32 (by omega)) (Nat.le_refl _) (by unfold maxLen; rw [Nat.mul_comm]; omega) (.inr ⟨h, 0, rfl⟩))).mono ?_⟩
  rintro e w3 ⟨H1, rfl, hH1, hrow1, hb⟩
  have hsz3 : w2.heap.size + 1 ≤ w3.heap.size := by have := hb.size; simp at this; omega
  have hH1' : w2.heap.size + 1 ≤ H1 := by simpa using hH1
  have hH1l := hrow1.lt
  have hb3 : Below w2.heap.size w2 w3 := up1 hb
  clear lA x0 x1 x2 x3 lR r0 r1 r2 r3 f0 f1 f2 f3
  have Pa := Lib.hid (Pa.out.on hb3)
  have Pr := Lib.hid (Pr.out.on hb3)
  have Pt := Lib.hid (Pt0.on hb)
  have Fr : Hid (Fz w3 (w.heap.size + 1)) := Fr.out.on (by omega) hb3
  have HB := Lib.hid (HB.out.trans (hb3.mono (by omega)))
  have HR := Lib.hid (rowIs_on HR.out hb3)
  have H1R := Lib.hid hrow1
  clear hb hb3 Pt0 hrow1 hH1
  have lRR := Pr.out.1
  obtain ⟨lA, x0, x1, x2, x3⟩ := Pa.out
  obtain ⟨lR, r0, r1, r2, r3⟩ := Pr.out
  obtain ⟨f0, f1, f2, f3⟩ := Fr.out.all
  gi_wp2_with fail
  refine ⟨trivial, (callsIn_wide.2 (implRows_any (Pa.out.on ((Below.refl _ _).alloc (Nat.le_refl _) _)) HC.out (al1 HB.out _) hA.m32 (Nat.le_trans hA.n32 (by omega)))).mono ?_⟩
  rintro e w4 ⟨H2, ar, cc, rfl, hH2, hH2l, hin, hb⟩
  have hb40 := (Below.refl w4.heap.size w4).alloc (Nat.le_refl _) (.cells #[.slice (some ⟨H2, 0, none⟩) m m] 64)
  have hbW := hb.trans (hb40.mono hb.size)
  have c1 : (w4.alloc (.cells #[.slice (some ⟨H2, 0, none⟩) m m] 64)).cell? ⟨w3.heap.size, 0, none⟩ = some (.slice (some ⟨H1, 0, none⟩) n n) :=
    (hbW.cell (p := ⟨w3.heap.size, 0, none⟩) (by simp)).trans (by rw [World.cell?_alloc_at _ _ _ _ rfl]; rfl)
  have c2 : (w4.alloc (.cells #[.slice (some ⟨H2, 0, none⟩) m m] 64)).cell? ⟨w4.heap.size, 0, none⟩ = some (.slice (some ⟨H2, 0, none⟩) m m) := by rw [World.cell?_alloc_at _ _ _ _ rfl]; rfl
  have hs4 : w3.heap.size + 1 ≤ w4.heap.size := by have := hb.size; simp at this; omega
  have hH2' : w3.heap.size + 1 ≤ H2 := by simpa using hH2
  have hin0 := hin.on hH2l (by omega) hb40
  have hb0 := up1 hbW
  clear lA x0 x1 x2 x3 lR r0 r1 r2 r3 f0 f1 f2 f3
  have Pr := Lib.hid (Pr.out.on hb0)
  have Pt := Lib.hid (Pt.out.on hb0)
  have Fr := Lib.hid (Fr.out.on lRR hb0)
  have HB := Lib.hid (HB.out.trans (hb0.mono (by omega)))
  have HR := Lib.hid (rowIs_on HR.out hb0)
  have H1R := Lib.hid (rowIs_on H1R.out hb0)
  clear hb hb0 hb40 hbW hin hH2
  gi_wp2_with fail
  refine ⟨trivial, (cells_in _ _ trivial rfl _ _ _ _).mono ?_⟩
  rintro e w5 ⟨rfl, rfl⟩
  gi_wp2_with fail
  obtain ⟨W0, hW0⟩ : ∃ W0, w4.alloc (.cells #[.slice (some ⟨H2, 0, none⟩) m m] 64) = W0 := ⟨_, rfl⟩
  have hsz0 : W0.heap.size = w4.heap.size + 1 := by rw [← hW0]; simp
  rw [hW0] at c1 c2 hin0 Pr Pt Fr HB HR H1R ⊢
  clear hW0
  refine wpIn_rangeFunc_ownH rfl (by decide) (gf := 105) (lb := #[.pointer (some ⟨w4.heap.size, 0, none⟩)]) rfl trivial (enters_of Try.func105 (by kernel_rfl) rfl)
    (cells_stops _ _ trivial rfl (by decide) w4.heap.size W0.heap.size h H2 m m n ar cc (fun i k => fv (A i k)) (Nat.le_trans hA.m32 (by omega)) (Nat.le_trans hA.n32 (by omega)) (by omega) (by omega) W0 (by omega) (Nat.le_refl _) c2 hin0.1 (fun i k hi hk => by
      obtain ⟨b, o, e1, e2, e3⟩ := hin0.2 i k hi hk
      exact ⟨b, o, e1, by omega, by omega, e3⟩)) KeepC.trans (keepC_b (Nat.le_refl _)) (Below.refl _ _) (fun _ => rfl)
    (fun pre W => W.rowIs h 2 (n * m) (TrF m n A pre) ∧ W0.grownBy W (some h)) (fun _ _ _ => False)
    (OwnFrom.and (ownFrom_rowIs _ (by omega)) (ownFrom_grown (Nat.le_refl _))) (fun _ _ _ _ _ hs _ _ => hs)
    ⟨HR.out.congr fun t _ => (trF_nil m n A t).symm, grown_refl _ _⟩
    (fun x a' W => ∃ Bx, W0.heap.size ≤ Bx ∧ W.cell? ⟨Bx, 0, none⟩ = some (.int .i64 (x.val / n : Nat)) ∧ W.cell? ⟨Bx, 1, none⟩ = some (.int .i64 (x.val % n : Nat)) ∧ a' = { tmps := #[.agg #[.int .i64 q, .int .i64 m, .int .i64 n, .slice a1 (m * n) k1], .pointer (some ⟨w.heap.size, 0, none⟩), .pointer (some ⟨w.heap.size + 1, 0, none⟩), .int .i64 0, .pointer (some ⟨w2.heap.size, 0, none⟩), .pointer (some ⟨w3.heap.size, 0, none⟩), .pointer (some ⟨Bx, 0, none⟩), .int .i64 (fv (A (x.val / n) (x.val % n))), .agg #[.int .i64 q, .int .i64 m, .int .i64 n, .slice a1 (m * n) k1], .bool true, .bool false, undef, .pointer (some ⟨w.heap.size, 0, none⟩), .int .i64 q, .pointer (some ⟨w.heap.size, 2, none⟩), .int .i64 n, .pointer (some ⟨w.heap.size, 1, none⟩), .int .i64 m, .agg #[.int .i64 q, .int .i64 n, .int .i64 m, .slice (some ⟨h, 0, none⟩) (n * m) (n * m)], .slice (some ⟨H1, 0, none⟩) n n, .slice (some ⟨H2, 0, none⟩) m m, .func (.func 105) #[] #[.pointer (some ⟨w4.heap.size, 0, none⟩)], .agg #[.int .i64 (x.val / n : Nat), .int .i64 (x.val % n : Nat)], .int .i64 (fv (A (x.val / n) (x.val % n))), undef, undef, undef, undef, undef, undef, undef, undef, undef, undef], defers := [] })
    (fun x a' _ X Y row hs hg hr => by obtain ⟨Bx, h1, h2, h3, h4⟩ := hs; exact ⟨Bx, h1, ownCell h2 hg fun r e => (hr r e).2, ownCell h3 hg fun r e => (hr r e).2, h4⟩)
    ?assign ?body ?done ?stop
  case assign =>
    rintro l pre x W K ⟨hR, hG⟩ hK
    have hGs := hG.size
    unfold cellEnc CellArgs
    obtain ⟨i, hie⟩ : ∃ i, x.val / n = i := ⟨_, rfl⟩
    obtain ⟨k, hke⟩ : ∃ k, x.val % n = k := ⟨_, rfl⟩
    rw [hie, hke] at hK ⊢
    gi_wp2
    exact hK _ _ ((KeepsOthers.alloc _ _).from _) (keepC_alloc hGs) ⟨rowIs_on hR ((Below.refl _ W).alloc (Nat.le_refl _) _), gb_alloc hG _⟩ ⟨W.heap.size, hGs, by rw [World.cell?_alloc_at _ _ _ _ rfl]; rfl, by rw [World.cell?_alloc_at _ _ _ _ rfl]; rfl, rfl⟩
  case body =>
    rintro l pre x a' W hl ⟨r, hr⟩ ⟨hR, hG⟩ ⟨Bx, hBx, b0, b1, rfl⟩ hlt
    dsimp only
    obtain ⟨hi, hk⟩ := cell_row x
    have hsn := trF_snoc (A := A) (pre := pre) x
    obtain ⟨i, hie⟩ : ∃ i, x.val / n = i := ⟨_, rfl⟩
    obtain ⟨k, hke⟩ : ∃ k, x.val % n = k := ⟨_, rfl⟩
    rw [hie] at hi b0 hsn ⊢
    rw [hke] at hk b1 hsn ⊢
    have d1 := (gb_cell hG (b := w3.heap.size) (o := 0) (by omega) (by omega)).trans c1
    have d2 := (gb_cell hG (b := H1) (o := k) (by omega) (by omega)).trans (H1R.out.cell hk)
    have hs := idx_lt hk hi
    obtain ⟨s, hse⟩ : ∃ s, k * m = s := ⟨_, rfl⟩
    unfold rowW adr at d2
    simp only [Nat.zero_add] at d2
    rw [hse] at d2 hs hsn
    have d3 := hR.cell (i := s + i) hs
    have d4 := hR.frozen (s + i)
    have i0 : (0 : Int) ≤ (i : Int) := by omega
    have i1 : (i : Int) < (m : Int) := by omega
    have i2 : (0 : Int) ≤ (k : Int) := by omega
    have i3 : (k : Int) < (n : Int) := by omega
    have HRR := Lib.hid hR
    have HGG := Lib.hid hG
    have HS := Lib.hid hsn
    clear hR hG hr hl hA hin0 hsn
    clear HK HU HC HB HR H1R Fr Pt Pr Pa c1 c2
    gi_wp2
    refine region_round 9 (by kernel_rfl) (by kernel_rfl) (by kernel_rfl) (fun ⟨_, _, h⟩ => h) ?_
    simp only [List.take_succ_cons, List.take_zero, List.drop_succ_cons, List.drop_zero]
    repeat still_step
    try refine wpStill_nil ?_
    go_wp2
    exact ⟨((KeepsOthers.drew _).trans (KeepsOthers.setCell _ _ _)).from _, keepC_set, (((HRR.out.set (s + i) _).congr fun t _ => HS.out t).drew), gb_drew (gb_set HGG.out _)⟩
  case done =>
    rintro D ys W hD hys ⟨hR, hG⟩ hK
    have hT := Pt.out.1
    have HRR := Lib.hid hR
    have Pt := Lib.hid (Pt.out.gb hG (by omega))
    have Pr := Lib.hid (Pr.out.gb hG (by omega))
    have Fr : Hid (Fz W (w.heap.size + 1)) := Fr.out.gb (by omega) hG (by omega)
    have HB := Lib.hid (below_gb HB.out hG (by omega) (by omega))
    obtain ⟨lT, x0, x1, x2, x3⟩ := Pt.out
    obtain ⟨lR, r0, r1, r2, r3⟩ := Pr.out
    obtain ⟨f0, f1, f2, f3⟩ := Fr.out.all
    gi_wp2
    have hD1 : w.heap.size + 1 ≠ D := by omega
    have hDh : h ≠ D := by omega
    have hK4 := keepD4 hK hD1 (.int .i64 q) (.int .i64 n) (.int .i64 m) (.slice (some ⟨h, 0, none⟩) (n * m) (n * m))
    refine ⟨by simp, .inl ⟨_, _, rfl, run_takeDeferred hK4, ?_⟩⟩
    have P4 := (Pr.out.set4 q n m (.slice (some ⟨h, 0, none⟩) (n * m) (n * m))).put (.deferred none) hD1
    obtain ⟨hO, hBB⟩ := fin_mat (A := fun i j => A j i) (p := q) (r := n) (c := m) hK HRR.out HB.out (by omega : w.heap.size ≤ w.heap.size + 1) (by omega) (by omega) hDh hD1 (by omega) (by rw [Nat.mul_comm]; omega) (fun i j hi hj => trF_done hys hi hj)
    obtain ⟨_, q0, q1, q2, q3⟩ := P4
    refine ⟨.tuple #[.agg #[.int .i64 q, .int .i64 n, .int .i64 m, .slice (some ⟨h, 0, none⟩) (n * m) (n * m)], .int .i64 0], ?_, ⟨_, rfl, hO, hBB⟩⟩
    simp [results, Try.results25, go_sem, q0, q1, q2, q3]
  case stop =>
    rintro D c pre W _ _ h _
    exact h.elim
theorem implTr_any {p r c P R C k : Int} {u : Value} {xs zs : List Int} {w : World} (hu : IntsC w u xs) (h : TrRes p r c xs P R C zs k) :
    Calls Try.prog 25 #[.agg #[.int .i64 p, .int .i64 r, .int .i64 c, u]] w fun e w' => RetMC P R C zs k w e w' := by
  rcases h with ⟨h, rfl, rfl, rfl, rfl, rfl⟩ | ⟨rfl, rfl, rfl, rfl, u', _, m, n, A, hA, rfl⟩
  · exact implTr_b1 hu.1 (okB_no h).symm
  · obtain ⟨rfl, rfl, rfl, rfl, h5, h6, h7⟩ := hA
    exact implTr_ok hu ⟨rfl, rfl, rfl, rfl, h5, h6, h7⟩
end Go.Proofs.Ytabanmaaagmeaaa
