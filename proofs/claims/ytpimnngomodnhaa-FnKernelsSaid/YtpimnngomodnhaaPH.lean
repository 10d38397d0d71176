/-
  ReducedForm and RankOf of the model.
  DeterminantOf of the model.
-/
import Derived.Test.YtpimnngomodnhaaMxRd
namespace Go.Proofs.Ytpimnngomodnhaa
open Go.RowKit
open Lin
set_option linter.unusedVariables false
set_option linter.unusedSectionVars false

set_option maxRecDepth 100000 in
set_option maxHeartbeats 3200000 in
theorem l03Rank_any {q m n : Nat} [NeZero q] {A : Mt q} {L : Nat} {v : Value} {w : World} (hp : PtM w L q m n v) (hv : IntsC w v (flat m n A)) (hpr : IsPr (q : Int)) (hm : m ≤ 32) (hn : n ≤ 64) :
    Calls Try.prog 48 #[.pointer (some ⟨L, 0, none⟩)] w fun e w' => e = .returned (.int .i64 ((red m A n).piv.length : Int)) ∧ Below w.heap.size w w' := by
  have hpl := piv_le_rows (fd_of hpr) m n A
  have HP := Lib.hid hp
  have HV := Lib.hid hv
  have HPR := Lib.hid hpr
  clear hp hv hpr
  go_enter Try.func48, Try.ntmps48
  go_wp2_with fail
  with_reducible refine Calls.mono (l03Reduced_any HP.out HV.out HPR.out hm hn) ?_
  rintro e w2 ⟨v, pv, rfl, ho, hop, hb, hsep⟩
  obtain ⟨va, vc, rfl⟩ := ho.slice
  obtain ⟨pa, pc, rfl⟩ := hop.slice
  have HB := Lib.hid hb
  rw [pivI_len]
  clear hb ho hop hsep
  go_wp2_with fail
  go_ret
  exact ⟨rfl, by first | exact HB.out | exact al1 HB.out _⟩
set_option maxRecDepth 100000 in
set_option maxHeartbeats 3200000 in
theorem specRk_b1 {p r c : Int} {xs : List Int} {u : Value} {w : World} (hu : IntsAt w u xs) (hk : okB p r c xs = false) :
    Calls Try.prog 12 #[.agg #[.int .i64 p, .int .i64 r, .int .i64 c, u]] w fun e w' => RetII 0 1 w e w' := by
  have HU := Lib.hid hu
  obtain ⟨a1, c1, rfl, hl1, -⟩ := hu
  have HK := Lib.hid hk
  clear hk
  have Pa0 := PtM.new w p r c (.slice a1 xs.length c1) 26
  go_enter Try.func12, Try.ntmps12
  go_wp2_with fail
  with_reducible refine Calls.mono (specOk_is (T := false) Pa0 (HU.out.on (al1 (Below.refl _ _) _)) HK.out) ?_
  rintro e w1 ⟨rfl, d, hw1⟩
  have hb : Below (w.alloc (.cells #[.int .i64 p, .int .i64 r, .int .i64 c, .slice a1 xs.length c1] 26)).heap.size (w.alloc (.cells #[.int .i64 p, .int .i64 r, .int .i64 c, .slice a1 xs.length c1] 26)) w1 := by rw [hw1]; exact below_drewX (Below.refl _ _) d
  clear hw1
  have Pa := Lib.hid (Pa0.on hb)
  have HB := Lib.hid (up1 hb)
  have hz : w.heap.size + 1 ≤ w1.heap.size := by have := hb.size; simp at this; omega
  clear hb Pa0
  obtain ⟨lA, x0, x1, x2, x3⟩ := Pa.out
  go_wp2_with fail
  go_ret2
  exact ⟨rfl, HB.out⟩
set_option maxRecDepth 100000 in
set_option maxHeartbeats 3200000 in
theorem specRk_ok {q m n : Nat} [NeZero q] {A : Mt q} {u : Value} {w : World} (hu : IntsC w u (flat m n A)) (hA : MIs q m n (flat m n A) q m n A) :
    Calls Try.prog 12 #[.agg #[.int .i64 (q : Int), .int .i64 (m : Int), .int .i64 (n : Int), u]] w fun e w' => RetII ((red m A n).piv.length : Int) 0 w e w' := by
  have hk : okB (q : Int) m n (flat m n A) = true := okB_yes hA.ok
  obtain ⟨hq2, hq⟩ := hA.q2
  have hpr := hA.pr
  have hm32 := hA.m32
  have hn32 := hA.n32
  have HA := Lib.hid hA
  have HPR := Lib.hid hpr
  have HUC := Lib.hid hu
  have hu1 := hu.1
  clear hA hu hpr
  have HU := Lib.hid hu1
  obtain ⟨a1, c1, rfl, hl1, -⟩ := hu1
  have HK := Lib.hid hk
  clear hk
  simp only [flat_len] at HU HUC hl1 ⊢
  have Pa0 := PtM.new w q m n (.slice a1 (m * n) c1) 26
  go_enter Try.func12, Try.ntmps12
  go_wp2_with fail
  with_reducible refine Calls.mono (specOk_is (T := true) Pa0 (HU.out.on (al1 (Below.refl _ _) _)) HK.out) ?_
  rintro e w1 ⟨rfl, d, hw1⟩
  have hb : Below (w.alloc (.cells #[.int .i64 q, .int .i64 m, .int .i64 n, .slice a1 (m * n) c1] 26)).heap.size (w.alloc (.cells #[.int .i64 q, .int .i64 m, .int .i64 n, .slice a1 (m * n) c1] 26)) w1 := by rw [hw1]; exact below_drewX (Below.refl _ _) d
  clear hw1
  have Pa := Lib.hid (Pa0.on hb)
  have HB := Lib.hid (up1 hb)
  have hz : w.heap.size + 1 ≤ w1.heap.size := by have := hb.size; simp at this; omega
  clear hb Pa0
  obtain ⟨lA, x0, x1, x2, x3⟩ := Pa.out
  go_wp2_with fail
  with_reducible refine Calls.mono (l03Rank_any Pa.out (HUC.out.on HB.out) HPR.out hm32 (by omega)) ?_
  rintro e w2 ⟨rfl, hb⟩
  have HB2 := Lib.hid (HB.out.trans (hb.mono (by omega)))
  clear hb
  go_wp2_with fail
  go_ret2
  exact ⟨rfl, HB2.out⟩
theorem specRk_any {p r c k1 k2 : Int} {u : Value} {xs : List Int} {w : World} (hu : IntsC w u xs) (h : RkRes p r c xs k1 k2) :
    Calls Try.prog 12 #[.agg #[.int .i64 p, .int .i64 r, .int .i64 c, u]] w fun e w' => RetII k1 k2 w e w' := by
  rcases h with ⟨h, rfl, rfl⟩ | ⟨rfl, u', _, m, n, A, hA, rfl⟩
  · exact specRk_b1 hu.1 (okB_no h)
  · obtain ⟨rfl, rfl, rfl, rfl, h5, h6, h7⟩ := hA
    exact specRk_ok hu ⟨rfl, rfl, rfl, rfl, h5, h6, h7⟩
end Go.Proofs.Ytpimnngomodnhaa

namespace Go.Proofs.Ytpimnngomodnhaa
open Go.RowKit
open Lin
set_option linter.unusedVariables false
set_option linter.unusedSectionVars false

end Go.Proofs.Ytpimnngomodnhaa
