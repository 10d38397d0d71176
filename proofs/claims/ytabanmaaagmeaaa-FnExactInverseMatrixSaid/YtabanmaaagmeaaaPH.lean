/-
  ReducedForm and RankOf of the model.
  DeterminantOf of the model.
-/
import Derived.Test.YtabanmaaagmeaaaMxRd
namespace Go.Proofs.Ytabanmaaagmeaaa
open Go.RowKit
open Lin
set_option linter.unusedVariables false
set_option linter.unusedSectionVars false

set_option maxRecDepth 100000 in
set_option maxHeartbeats 3200000 in
theorem specRf_b1 {p r c : Int} {xs : List Int} {u : Value} {w : World} (hu : IntsAt w u xs) (hk : okB p r c xs = false) :
    Calls Try.prog 60 #[.agg #[.int .i64 p, .int .i64 r, .int .i64 c, u]] w fun e w' => RetMSI 0 0 0 [] [] 1 w e w' := by
  have HU := Lib.hid hu
  obtain ⟨a1, c1, rfl, hl1, -⟩ := hu
  have HK := Lib.hid hk
  clear hk
  have Pa0 := PtM.new1 w p r c (.slice a1 xs.length c1) 27 (.cells #[.int .i64 0, .int .i64 0, .int .i64 0, .slice none 0 0] 27)
  have Pr0 := PtM.new (w.alloc (.cells #[.int .i64 p, .int .i64 r, .int .i64 c, .slice a1 xs.length c1] 27)) 0 0 0 (.slice none 0 0) 27
  have Fr0 := Fz.new (w.alloc (.cells #[.int .i64 p, .int .i64 r, .int .i64 c, .slice a1 xs.length c1] 27)) #[.int .i64 0, .int .i64 0, .int .i64 0, .slice none 0 0] 27
  rw [World.size_alloc] at Pr0 Fr0
  go_enter Try.func60, Try.ntmps60
  go_wp2_with fail
  with_reducible refine Calls.mono (specOk_is (T := false) Pa0 (HU.out.on (al1 (al1 (Below.refl _ _) _) _)) HK.out) ?_
  rintro e w1 ⟨rfl, d, hw1⟩
  have hb : Below ((w.alloc (.cells #[.int .i64 p, .int .i64 r, .int .i64 c, .slice a1 xs.length c1] 27)).alloc (.cells #[.int .i64 0, .int .i64 0, .int .i64 0, .slice none 0 0] 27)).heap.size ((w.alloc (.cells #[.int .i64 p, .int .i64 r, .int .i64 c, .slice a1 xs.length c1] 27)).alloc (.cells #[.int .i64 0, .int .i64 0, .int .i64 0, .slice none 0 0] 27)) w1 := by rw [hw1]; exact below_drewX (Below.refl _ _) d
  clear hw1
  have Pa := Lib.hid (Pa0.on hb)
  have Pr := Lib.hid (Pr0.on hb)
  have Fr : Hid (Fz w1 (w.heap.size + 1)) := Fr0.on (by simp) hb
  have HB := Lib.hid (up2 hb)
  have hz : w.heap.size + 2 ≤ w1.heap.size := by have := hb.size; simp at this; omega
  clear hb Pa0 Pr0 Fr0
  obtain ⟨lA, x0, x1, x2, x3⟩ := Pa.out
  obtain ⟨lR, r0, r1, r2, r3⟩ := Pr.out
  obtain ⟨f0, f1, f2, f3⟩ := Fr.out.all
  go_wp2_with fail
  refine bodyPost_ret (v := .tuple #[.agg #[.int .i64 0, .int .i64 0, .int .i64 0, .slice none 0 0], .slice none 0 0, .int .i64 1]) (by simp [results, Try.results60, go_sem, r0, r1, r2, r3]) rfl ⟨_, _, rfl, OwnI.nul _ _, OwnI.nul _ _, ?_, sep_nil _⟩
  repeat (refine Below.setC ?_ (by omega) _)
  exact HB.out
set_option maxRecDepth 100000 in
set_option maxHeartbeats 6400000 in
theorem specRf_ok {q m n : Nat} [NeZero q] {A : Mt q} {u : Value} {w : World} (hu : IntsC w u (flat m n A)) (hA : MIs q m n (flat m n A) q m n A) :
    Calls Try.prog 60 #[.agg #[.int .i64 (q : Int), .int .i64 (m : Int), .int .i64 (n : Int), u]] w fun e w' => RetMSI q m n (flat m n (red m A n).A) (pivI (red m A n).piv) 0 w e w' := by
  have hk : okB (q : Int) m n (flat m n A) = true := okB_yes hA.ok
  obtain ⟨hq2, hq⟩ := hA.q2
  have hpr := hA.pr
  have hm32 := hA.m32
  have hn32 := hA.n32
  have HA := Lib.hid hA
  have HPR := Lib.hid hpr
  have HUC := Lib.hid hu
  have hu1 := hu.1
  clear hA hu hpr
  have HU := Lib.hid hu1
  obtain ⟨a1, c1, rfl, hl1, -⟩ := hu1
  have HK := Lib.hid hk
  clear hk
  simp only [flat_len] at HU HUC hl1 ⊢
  have Pa0 := PtM.new1 w q m n (.slice a1 (m * n) c1) 27 (.cells #[.int .i64 0, .int .i64 0, .int .i64 0, .slice none 0 0] 27)
  have Pr0 := PtM.new (w.alloc (.cells #[.int .i64 q, .int .i64 m, .int .i64 n, .slice a1 (m * n) c1] 27)) 0 0 0 (.slice none 0 0) 27
  have Fr0 := Fz.new (w.alloc (.cells #[.int .i64 q, .int .i64 m, .int .i64 n, .slice a1 (m * n) c1] 27)) #[.int .i64 0, .int .i64 0, .int .i64 0, .slice none 0 0] 27
  rw [World.size_alloc] at Pr0 Fr0
  go_enter Try.func60, Try.ntmps60
  go_wp2_with fail
  with_reducible refine Calls.mono (specOk_is (T := true) Pa0 (HU.out.on (al1 (al1 (Below.refl _ _) _) _)) HK.out) ?_
  rintro e w1 ⟨rfl, d, hw1⟩
  have hb : Below ((w.alloc (.cells #[.int .i64 q, .int .i64 m, .int .i64 n, .slice a1 (m * n) c1] 27)).alloc (.cells #[.int .i64 0, .int .i64 0, .int .i64 0, .slice none 0 0] 27)).heap.size ((w.alloc (.cells #[.int .i64 q, .int .i64 m, .int .i64 n, .slice a1 (m * n) c1] 27)).alloc (.cells #[.int .i64 0, .int .i64 0, .int .i64 0, .slice none 0 0] 27)) w1 := by rw [hw1]; exact below_drewX (Below.refl _ _) d
  clear hw1
  have Pa := Lib.hid (Pa0.on hb)
  have Pr := Lib.hid (Pr0.on hb)
  have Fr : Hid (Fz w1 (w.heap.size + 1)) := Fr0.on (by simp) hb
  have HB := Lib.hid (up2 hb)
  have hz : w.heap.size + 2 ≤ w1.heap.size := by have := hb.size; simp at this; omega
  clear hb Pa0 Pr0 Fr0
  obtain ⟨lA, x0, x1, x2, x3⟩ := Pa.out
  obtain ⟨lR, r0, r1, r2, r3⟩ := Pr.out
  obtain ⟨f0, f1, f2, f3⟩ := Fr.out.all
  go_wp2_with fail
  with_reducible refine Calls.mono (l03Reduced_any Pa.out (HUC.out.on HB.out) HPR.out hm32 (by omega)) ?_
  rintro e w2 ⟨v, pv, rfl, ho, hop, hb, hsep⟩
  obtain ⟨va, vc, rfl⟩ := ho.slice
  obtain ⟨pa, pc, rfl⟩ := hop.slice
  clear lA x0 x1 x2 x3 lR r0 r1 r2 r3 f0 f1 f2 f3
  have Pr := Lib.hid (Pr.out.on hb)
  have Fr : Hid (Fz w2 (w.heap.size + 1)) := Fr.out.on (by omega) hb
  have HB := Lib.hid (HB.out.trans (hb.mono (by omega)))
  have hz2 : w.heap.size + 2 ≤ w2.heap.size := by have := hb.size; omega
  have HO := Lib.hid ho
  have HP := Lib.hid hop
  have HSEP := Lib.hid hsep
  clear hb ho hop hsep
  obtain ⟨lR, r0, r1, r2, r3⟩ := Pr.out
  obtain ⟨f0, f1, f2, f3⟩ := Fr.out.all
  go_wp2_with fail
  have hq := Lib.hid ((Pr.out.set4 q m n (.slice va (flat m n (red m A n).A).length vc)).on ((Below.refl _ _).alloc (Nat.le_refl _) (.cells #[.int .i64 (q : Int), .int .i64 (m : Int), .int .i64 (n : Int), .slice va (flat m n (red m A n).A).length vc] 27)))
  obtain ⟨_, q0, q1, q2, q3⟩ := hq.out
  refine bodyPost_ret (v := .tuple #[.agg #[.int .i64 q, .int .i64 m, .int .i64 n, .slice va (flat m n (red m A n).A).length vc], .slice pa (pivI (red m A n).piv).length pc, .int .i64 0]) (by simp [results, Try.results60, go_sem, q0, q1, q2, q3]) rfl ⟨_, _, rfl, ?_, ?_, ?_, HSEP.out⟩
  · refine OwnI.mono (B := w1.heap.size) ?_ (by omega)
    refine OwnI.al ?_
    repeat (refine OwnI.setOut ?_ (by omega) _)
    exact HO.out
  · refine OwnI.mono (B := w1.heap.size) ?_ (by omega)
    refine OwnI.al ?_
    repeat (refine OwnI.setOut ?_ (by omega) _)
    exact HP.out
  · refine al1 ?_ _
    repeat (refine Below.setC ?_ (by omega) _)
    exact HB.out
theorem specRf_any {p r c P R C k : Int} {u : Value} {xs zs ps : List Int} {w : World} (hu : IntsC w u xs) (h : RfRes p r c xs P R C zs ps k) :
    Calls Try.prog 60 #[.agg #[.int .i64 p, .int .i64 r, .int .i64 c, u]] w fun e w' => RetMSI P R C zs ps k w e w' := by
  rcases h with ⟨h, rfl, rfl, rfl, rfl, rfl, rfl⟩ | ⟨rfl, u', _, m, n, A, hA, rfl, rfl, rfl, rfl, rfl⟩
  · exact specRf_b1 hu.1 (okB_no h)
  · obtain ⟨rfl, rfl, rfl, rfl, h5, h6, h7⟩ := hA
    exact specRf_ok hu ⟨rfl, rfl, rfl, rfl, h5, h6, h7⟩
set_option maxRecDepth 100000 in
set_option maxHeartbeats 3200000 in
theorem l03Rank_any {q m n : Nat} [NeZero q] {A : Mt q} {L : Nat} {v : Value} {w : World} (hp : PtM w L q m n v) (hv : IntsC w v (flat m n A)) (hpr : IsPr (q : Int)) (hm : m ≤ 32) (hn : n ≤ 64) :
    Calls Try.prog 98 #[.pointer (some ⟨L, 0, none⟩)] w fun e w' => e = .returned (.int .i64 ((red m A n).piv.length : Int)) ∧ Below w.heap.size w w' := by
  have hpl := piv_le_rows (fd_of hpr) m n A
  have HP := Lib.hid hp
  have HV := Lib.hid hv
  have HPR := Lib.hid hpr
  clear hp hv hpr
  go_enter Try.func98, Try.ntmps98
  go_wp2_with fail
  with_reducible refine Calls.mono (l03Reduced_any HP.out HV.out HPR.out hm hn) ?_
  rintro e w2 ⟨v, pv, rfl, ho, hop, hb, hsep⟩
  obtain ⟨va, vc, rfl⟩ := ho.slice
  obtain ⟨pa, pc, rfl⟩ := hop.slice
  have HB := Lib.hid hb
  rw [pivI_len]
  clear hb ho hop hsep
  go_wp2_with fail
  go_ret
  exact ⟨rfl, by first | exact HB.out | exact al1 HB.out _⟩
set_option maxRecDepth 100000 in
set_option maxHeartbeats 3200000 in
theorem specRk_b1 {p r c : Int} {xs : List Int} {u : Value} {w : World} (hu : IntsAt w u xs) (hk : okB p r c xs = false) :
    Calls Try.prog 61 #[.agg #[.int .i64 p, .int .i64 r, .int .i64 c, u]] w fun e w' => RetII 0 1 w e w' := by
  have HU := Lib.hid hu
  obtain ⟨a1, c1, rfl, hl1, -⟩ := hu
  have HK := Lib.hid hk
  clear hk
  have Pa0 := PtM.new w p r c (.slice a1 xs.length c1) 27
  go_enter Try.func61, Try.ntmps61
  go_wp2_with fail
  with_reducible refine Calls.mono (specOk_is (T := false) Pa0 (HU.out.on (al1 (Below.refl _ _) _)) HK.out) ?_
  rintro e w1 ⟨rfl, d, hw1⟩
  have hb : Below (w.alloc (.cells #[.int .i64 p, .int .i64 r, .int .i64 c, .slice a1 xs.length c1] 27)).heap.size (w.alloc (.cells #[.int .i64 p, .int .i64 r, .int .i64 c, .slice a1 xs.length c1] 27)) w1 := by rw [hw1]; exact below_drewX (Below.refl _ _) d
  clear hw1
  have Pa := Lib.hid (Pa0.on hb)
  have HB := Lib.hid (up1 hb)
  have hz : w.heap.size + 1 ≤ w1.heap.size := by have := hb.size; simp at this; omega
  clear hb Pa0
  obtain ⟨lA, x0, x1, x2, x3⟩ := Pa.out
  go_wp2_with fail
  go_ret2
  exact ⟨rfl, HB.out⟩
set_option maxRecDepth 100000 in
set_option maxHeartbeats 3200000 in
theorem specRk_ok {q m n : Nat} [NeZero q] {A : Mt q} {u : Value} {w : World} (hu : IntsC w u (flat m n A)) (hA : MIs q m n (flat m n A) q m n A) :
    Calls Try.prog 61 #[.agg #[.int .i64 (q : Int), .int .i64 (m : Int), .int .i64 (n : Int), u]] w fun e w' => RetII ((red m A n).piv.length : Int) 0 w e w' := by
  have hk : okB (q : Int) m n (flat m n A) = true := okB_yes hA.ok
  obtain ⟨hq2, hq⟩ := hA.q2
  have hpr := hA.pr
  have hm32 := hA.m32
  have hn32 := hA.n32
  have HA := Lib.hid hA
  have HPR := Lib.hid hpr
  have HUC := Lib.hid hu
  have hu1 := hu.1
  clear hA hu hpr
  have HU := Lib.hid hu1
  obtain ⟨a1, c1, rfl, hl1, -⟩ := hu1
  have HK := Lib.hid hk
  clear hk
  simp only [flat_len] at HU HUC hl1 ⊢
  have Pa0 := PtM.new w q m n (.slice a1 (m * n) c1) 27
  go_enter Try.func61, Try.ntmps61
  go_wp2_with fail
  with_reducible refine Calls.mono (specOk_is (T := true) Pa0 (HU.out.on (al1 (Below.refl _ _) _)) HK.out) ?_
  rintro e w1 ⟨rfl, d, hw1⟩
  have hb : Below (w.alloc (.cells #[.int .i64 q, .int .i64 m, .int .i64 n, .slice a1 (m * n) c1] 27)).heap.size (w.alloc (.cells #[.int .i64 q, .int .i64 m, .int .i64 n, .slice a1 (m * n) c1] 27)) w1 := by rw [hw1]; exact below_drewX (Below.refl _ _) d
  clear hw1
  have Pa := Lib.hid (Pa0.on hb)
  have HB := Lib.hid (up1 hb)
  have hz : w.heap.size + 1 ≤ w1.heap.size := by have := hb.size; simp at this; omega
  clear hb Pa0
  obtain ⟨lA, x0, x1, x2, x3⟩ := Pa.out
  go_wp2_with fail
  with_reducible refine Calls.mono (l03Rank_any Pa.out (HUC.out.on HB.out) HPR.out hm32 (by omega)) ?_
  rintro e w2 ⟨rfl, hb⟩
  have HB2 := Lib.hid (HB.out.trans (hb.mono (by omega)))
  clear hb
  go_wp2_with fail
  go_ret2
  exact ⟨rfl, HB2.out⟩
theorem specRk_any {p r c k1 k2 : Int} {u : Value} {xs : List Int} {w : World} (hu : IntsC w u xs) (h : RkRes p r c xs k1 k2) :
    Calls Try.prog 61 #[.agg #[.int .i64 p, .int .i64 r, .int .i64 c, u]] w fun e w' => RetII k1 k2 w e w' := by
  rcases h with ⟨h, rfl, rfl⟩ | ⟨rfl, u', _, m, n, A, hA, rfl⟩
  · exact specRk_b1 hu.1 (okB_no h)
  · obtain ⟨rfl, rfl, rfl, rfl, h5, h6, h7⟩ := hA
    exact specRk_ok hu ⟨rfl, rfl, rfl, rfl, h5, h6, h7⟩
end Go.Proofs.Ytabanmaaagmeaaa

namespace Go.Proofs.Ytabanmaaagmeaaa
open Go.RowKit
open Lin
set_option linter.unusedVariables false
set_option linter.unusedSectionVars false

set_option maxRecDepth 100000 in
set_option maxHeartbeats 3200000 in
theorem specDe_b1 {p r c : Int} {xs : List Int} {u : Value} {w : World} (hu : IntsAt w u xs) (hk : okB p r c xs = false) :
    Calls Try.prog 63 #[.agg #[.int .i64 p, .int .i64 r, .int .i64 c, u]] w fun e w' => RetII 0 1 w e w' := by
  have HU := Lib.hid hu
  obtain ⟨a1, c1, rfl, hl1, -⟩ := hu
  have HK := Lib.hid hk
  clear hk
  have Pa0 := PtM.new w p r c (.slice a1 xs.length c1) 27
  go_enter Try.func63, Try.ntmps63
  go_wp2_with fail
  with_reducible refine Calls.mono (specOk_is (T := false) Pa0 (HU.out.on (al1 (Below.refl _ _) _)) HK.out) ?_
  rintro e w1 ⟨rfl, d, hw1⟩
  have hb : Below (w.alloc (.cells #[.int .i64 p, .int .i64 r, .int .i64 c, .slice a1 xs.length c1] 27)).heap.size (w.alloc (.cells #[.int .i64 p, .int .i64 r, .int .i64 c, .slice a1 xs.length c1] 27)) w1 := by rw [hw1]; exact below_drewX (Below.refl _ _) d
  clear hw1
  have Pa := Lib.hid (Pa0.on hb)
  have HB := Lib.hid (up1 hb)
  have hz : w.heap.size + 1 ≤ w1.heap.size := by have := hb.size; simp at this; omega
  clear hb Pa0
  obtain ⟨lA, x0, x1, x2, x3⟩ := Pa.out
  go_wp2_with fail
  go_ret2
  exact ⟨rfl, HB.out⟩
set_option maxRecDepth 100000 in
set_option maxHeartbeats 3200000 in
theorem specDe_b2 {p r c : Int} {xs : List Int} {u : Value} {w : World} (hu : IntsAt w u xs) (hk : okB p r c xs = true) (hrc : (r != c) = true) :
    Calls Try.prog 63 #[.agg #[.int .i64 p, .int .i64 r, .int .i64 c, u]] w fun e w' => RetII 0 6 w e w' := by
  have HU := Lib.hid hu
  obtain ⟨a1, c1, rfl, hl1, -⟩ := hu
  have HK := Lib.hid hk
  clear hk
  have Pa0 := PtM.new w p r c (.slice a1 xs.length c1) 27
  go_enter Try.func63, Try.ntmps63
  go_wp2_with fail
  with_reducible refine Calls.mono (specOk_is (T := true) Pa0 (HU.out.on (al1 (Below.refl _ _) _)) HK.out) ?_
  rintro e w1 ⟨rfl, d, hw1⟩
  have hb : Below (w.alloc (.cells #[.int .i64 p, .int .i64 r, .int .i64 c, .slice a1 xs.length c1] 27)).heap.size (w.alloc (.cells #[.int .i64 p, .int .i64 r, .int .i64 c, .slice a1 xs.length c1] 27)) w1 := by rw [hw1]; exact below_drewX (Below.refl _ _) d
  clear hw1
  have Pa := Lib.hid (Pa0.on hb)
  have HB := Lib.hid (up1 hb)
  have hz : w.heap.size + 1 ≤ w1.heap.size := by have := hb.size; simp at this; omega
  clear hb Pa0
  obtain ⟨lA, x0, x1, x2, x3⟩ := Pa.out
  go_wp2_with fail
  go_ret2
  exact ⟨rfl, HB.out⟩
set_option maxRecDepth 100000 in
set_option maxHeartbeats 3200000 in
theorem specDe_ok {q m : Nat} [NeZero q] {A : Mt q} {u : Value} {w : World} (hu : IntsC w u (flat m m A)) (hA : MIs q m m (flat m m A) q m m A) :
    Calls Try.prog 63 #[.agg #[.int .i64 (q : Int), .int .i64 (m : Int), .int .i64 (m : Int), u]] w fun e w' => RetII (fv (rdet m A)) 0 w e w' := by
  have hk : okB (q : Int) m m (flat m m A) = true := okB_yes hA.ok
  obtain ⟨hq2, hq⟩ := hA.q2
  have hpr := hA.pr
  have hm32 := hA.m32
  have hpl := piv_le_rows (fd_of hpr) m m A
  have HA := Lib.hid hA
  have HPR := Lib.hid hpr
  have HUC := Lib.hid hu
  have hu1 := hu.1
  clear hA hu hpr
  have HU := Lib.hid hu1
  obtain ⟨a1, c1, rfl, hl1, -⟩ := hu1
  have HK := Lib.hid hk
  clear hk
  simp only [flat_len] at HU HUC hl1 ⊢
  have Pa0 := PtM.new w q m m (.slice a1 (m * m) c1) 27
  go_enter Try.func63, Try.ntmps63
  go_wp2_with fail
  with_reducible refine Calls.mono (specOk_is (T := true) Pa0 (HU.out.on (al1 (Below.refl _ _) _)) HK.out) ?_
  rintro e w1 ⟨rfl, d, hw1⟩
  have hb : Below (w.alloc (.cells #[.int .i64 q, .int .i64 m, .int .i64 m, .slice a1 (m * m) c1] 27)).heap.size (w.alloc (.cells #[.int .i64 q, .int .i64 m, .int .i64 m, .slice a1 (m * m) c1] 27)) w1 := by rw [hw1]; exact below_drewX (Below.refl _ _) d
  clear hw1
  have Pa := Lib.hid (Pa0.on hb)
  have HB := Lib.hid (up1 hb)
  have hz : w.heap.size + 1 ≤ w1.heap.size := by have := hb.size; simp at this; omega
  clear hb Pa0
  obtain ⟨lA, x0, x1, x2, x3⟩ := Pa.out
  have hmm : ((m : Int) != (m : Int)) = false := by simp
  go_wp2_with fail
  with_reducible refine Calls.mono (l03Reduced_any Pa.out (HUC.out.on HB.out) HPR.out hm32 (by omega)) ?_
  rintro e w2 ⟨v, pv, rfl, ho, hop, hb, hsep⟩
  obtain ⟨va, vc, rfl⟩ := ho.slice
  obtain ⟨pa, pc, rfl⟩ := hop.slice
  clear lA x0 x1 x2 x3
  have Pa := Lib.hid (Pa.out.on hb)
  have HB2 := Lib.hid (HB.out.trans (hb.mono (by omega)))
  have hz2 : w.heap.size + 1 ≤ w2.heap.size := by have := hb.size; omega
  obtain ⟨lA, x0, x1, x2, x3⟩ := Pa.out
  rw [pivI_len]
  have b0 := fv_nn (red m A m).d
  have b1 := fv_lt (red m A m).d
  have hD : rdet m A = if (red m A m).piv.length = m then (red m A m).d else 0 := rfl
  clear hb ho hop hsep
  by_cases hx : (red m A m).piv.length = m
  · rw [if_pos hx] at hD
    have hx1 : (((red m A m).piv.length : Int) != (m : Int)) = false := by simp [hx]
    have hx := Lib.hid hx
    have HD := Lib.hid hD
    obtain ⟨N, hN⟩ : ∃ N, (red m A m).piv.length = N := ⟨_, rfl⟩
    obtain ⟨z, hz'⟩ : ∃ z, fv (red m A m).d = z := ⟨_, rfl⟩
    rw [hz'] at b0 b1
    rw [hz']
    rw [hN] at hx1 hpl
    rw [hN]
    have wt : z.tmod (q : Int) = z := by rw [Int.tmod_eq_emod_of_nonneg b0]; exact Int.emod_eq_of_lt b0 b1
    have wz : IntKind.i64.wrap z = z := IntWalk.i64_in _ (by omega)
    have qz : ¬ (q : Int) = 0 := by omega
    have HZZ := Lib.hid hz'
    clear hz' hN hD
    go_wp2_with fail
    go_ret2
    exact ⟨by rw [HD.out, HZZ.out] <;> first | rfl | rw [wt], by first | exact HB2.out | exact al1 HB2.out _⟩
  · rw [if_neg hx] at hD
    have hx1 : (((red m A m).piv.length : Int) != (m : Int)) = true := by simp; omega
    have hx := Lib.hid hx
    have HD := Lib.hid hD
    obtain ⟨N, hN⟩ : ∃ N, (red m A m).piv.length = N := ⟨_, rfl⟩
    rw [hN] at hx1 hpl
    rw [hN]
    clear hN hD
    go_wp2_with fail
    go_ret2
    exact ⟨by rw [HD.out, fv_zero] <;> rfl, by first | exact HB2.out | exact al1 HB2.out _⟩
theorem specDe_any {p r c d k : Int} {u : Value} {xs : List Int} {w : World} (hu : IntsC w u xs) (h : DeRes p r c xs d k) :
    Calls Try.prog 63 #[.agg #[.int .i64 p, .int .i64 r, .int .i64 c, u]] w fun e w' => RetII d k w e w' := by
  rcases h with ⟨⟨b, hb, h⟩, hk, rfl⟩ | ⟨rfl, u', _, m, A, hA, rfl⟩
  · rcases h.bad hk with ⟨hb', rfl⟩ | ⟨h1, h2, hf, rfl⟩
    · exact specDe_b1 hu.1 (okB_no fun e => hb' ⟨e, e⟩)
    · exact specDe_b2 hu.1 (okB_yes h1) (by cases b with
      | false => simp [bne, hb]
      | true => exact absurd ⟨rfl, rfl⟩ hf)
  · obtain ⟨rfl, rfl, rfl, rfl, h5, h6, h7⟩ := hA
    exact specDe_ok hu ⟨rfl, rfl, rfl, rfl, h5, h6, h7⟩
end Go.Proofs.Ytabanmaaagmeaaa
