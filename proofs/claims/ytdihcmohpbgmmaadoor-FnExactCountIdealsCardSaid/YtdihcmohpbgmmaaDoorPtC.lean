/-
  CountIdeals of the program on a poset.
-/
import Derived.Test.YtdihcmohpbgmmaaDoorPtB
namespace Go.Proofs.YtdihcmohpbgmmaaDoor
open Go.RowKit
set_option linter.unusedVariables false
set_option linter.unusedSimpArgs false

theorem list25 {cs : List Value} (h : cs.length = 25) : ∃ c0 c1 c2 c3 c4 c5 c6 c7 c8 c9 c10 c11 c12 c13 c14 c15 c16 c17 c18 c19 c20 c21 c22 c23 c24, cs = [c0, c1, c2, c3, c4, c5, c6, c7, c8, c9, c10, c11, c12, c13, c14, c15, c16, c17, c18, c19, c20, c21, c22, c23, c24] :=
  match cs, h with
  | [c0, c1, c2, c3, c4, c5, c6, c7, c8, c9, c10, c11, c12, c13, c14, c15, c16, c17, c18, c19, c20, c21, c22, c23, c24], _ => ⟨_, _, _, _, _, _, _, _, _, _, _, _, _, _, _, _, _, _, _, _, _, _, _, _, _, rfl⟩
set_option maxRecDepth 100000 in
set_option maxHeartbeats 3200000 in
theorem implCntI_ok {N : Nat} {v : Value} {zz : List (List Int)} {w : World} (hv : RowsAt w v zz) (h : OkP (N : Int) zz) (hTz : Tz w) :
    Calls Tryd.prog 43 #[.agg #[.int .i64 (N : Int), v]] w fun e w' => ∃ lo up, OrdIs (esP zz) N lo up ∧ RetII ((setsL (fun a s => decide (lo a &&& (65535 - s) = 0)) (2 ^ N)).length : Int) 0 w e w' := by
  have HOK := Lib.hid h
  obtain ⟨hN, hpi, hnc⟩ := h.acyc
  have HPI := Lib.hid hpi
  have HNC : Hid (¬ Circ (esP zz) N) := hnc
  have HV := Lib.hid hv
  have TZ := Lib.hid hTz
  obtain ⟨va, vc, rfl⟩ := hv.slice
  have B0 : Hid (Below w.heap.size w (w.alloc (.cells #[.int .i64 (N : Int), .slice va zz.length vc] 27))) := al1 (Below.refl _ _) _
  have P0 : Hid (PtP (w.alloc (.cells #[.int .i64 (N : Int), .slice va zz.length vc] 27)) w.heap.size (N : Int) (.slice va zz.length vc)) := PtP.new _ _ _ _
  clear hv hTz h hpi hnc
  go_enter Tryd.func43, Tryd.ntmps43
  go_wp2_with (go_at_call 67; refine Hid.out ?_)
  refine Lib.hid ?_
  refine (orderOf_ok (HV.out.on B0.out) HOK.out (TZ.out.on B0.out)).mono ?_
  rintro e w1 ⟨lo, up, rfl, hod, hb1⟩
  have HOD := Lib.hid hod
  clear hod
  obtain ⟨hov1, hov2⟩ := ord_var w1 N lo up
  have HO1 := Lib.hid hov1
  have HB := Lib.hid (B0.out.trans ((hb1.trans (hov2.mono hb1.size)).mono B0.out.size))
  have P1 := Lib.hid (P0.out.on (hb1.trans (hov2.mono hb1.size)))
  have HO3 := Lib.hid (ord_there2 w1 N lo up)
  have HS1 := Lib.hid (ord_size N lo up)
  have HS2 := Lib.hid (ord_one N lo up)
  have HS3 := Lib.hid (ord_size2 N lo up)
  clear hb1 hov1 hov2
  go_wp2_with (refine wpList_store_mid rfl 64 (.tmp 4) (.tmp 9) rfl w1.heap.size 0 (ordC N lo up).toArray rfl rfl ?_ HS1.out HS2.out ?_; exact HO3.out; refine Hid.out ?_)
  refine Lib.hid ?_
  try rw [show (ordC N lo up).toArray.toList = ordC N lo up from rfl]
  generalize ((w1.alloc (.cells #[.int .i64 0, .int .u16 0, .int .u16 0, .int .u16 0, .int .u16 0, .int .u16 0, .int .u16 0, .int .u16 0, .int .u16 0, .int .u16 0, .int .u16 0, .int .u16 0, .int .u16 0, .int .u16 0, .int .u16 0, .int .u16 0, .int .u16 0, .int .u16 0, .int .u16 0, .int .u16 0, .int .u16 0, .int .u16 0, .int .u16 0, .int .u16 0, .int .u16 0] 64)).setCells w1.heap.size 0 (ordC N lo up)) = W at HO1 HB P1 ⊢
  obtain ⟨L, hL⟩ : ∃ L, w1.heap.size = L := ⟨_, rfl⟩
  rw [hL] at HO1 ⊢
  clear HO3 HS1 HS2 hL
  obtain ⟨lO, o0, -⟩ := HO1.out
  have HES : Hid (∀ e ∈ esP zz, e.1 < N ∧ e.2 < N) := HPI.out.lt
  have HFA := Lib.hid (famI (lo := lo) (up := up) hN (fun a ha => Nat.lt_of_lt_of_le (HOD.out.ltL HES.out hN ha) (by omega)))
  have HRG := Lib.hid HO1.out.range
  have TZW := Lib.hid (TZ.out.on HB.out)
  have HSI := Lib.hid (sets_is (lo := lo) (up := up) TZW.out hN HFA.out)
  unfold ordV at HSI
  have hlen := ordC_len N lo up
  generalize ordC N lo up = oc at HRG HSI HS3 hlen ⊢
  obtain ⟨c0, c1, c2, c3, c4, c5, c6, c7, c8, c9, c10, c11, c12, c13, c14, c15, c16, c17, c18, c19, c20, c21, c22, c23, c24, rfl⟩ := list25 hlen
  clear HPI HOK o0 lO
  go_wp2_with (refine wpList_load_mid rfl 64 (.tmp 4) rfl L 0 rfl [c0, c1, c2, c3, c4, c5, c6, c7, c8, c9, c10, c11, c12, c13, c14, c15, c16, c17, c18, c19, c20, c21, c22, c23, c24] _ HRG.out Tryd.underlying64 rfl HS3.out ?_)
  refine HSI.out.mono ?_
  rintro e w4 ⟨v4, rfl, ho4, hb4⟩
  obtain ⟨sa, sc, rfl⟩ := ho4.slice
  have HB4 := Lib.hid (HB.out.trans (hb4.mono HB.out.size))
  have hl4 := setsL_len (fun a s => decide (lo a &&& (65535 - s) = 0)) (2 ^ N)
  clear ho4 hb4 HSI
  go_wp2_with fail
  go_ret2
  exact ⟨lo, up, HOD.out, rfl, HB4.out⟩
end Go.Proofs.YtdihcmohpbgmmaaDoor
