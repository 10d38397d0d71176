/-
  CountIdeals: of the model and of the program.
-/
import Derived.Test.YtdihcmohpbgmmaaDoorPtF
namespace Go.Proofs.YtdihcmohpbgmmaaDoor
open Go.RowKit
set_option linter.unusedVariables false
set_option linter.unusedSimpArgs false

def CntIs (n : Int) (zz : List (List Int)) (Z k : Int) : Prop := (¬ OkP n zz ∧ Z = 0 ∧ k = 1) ∨ (∃ N : Nat, n = (N : Int) ∧ OkP n zz ∧ Z = (cntI (esP zz) (2 ^ N) : Int) ∧ k = 0)
theorem cntIs_has (n : Int) (zz : List (List Int)) : ∃ Z k, CntIs n zz Z k := by
  by_cases h : OkP n zz
  · obtain ⟨N, e, _⟩ := h.nat
    exact ⟨_, _, .inr ⟨N, e, h, rfl, rfl⟩⟩
  · exact ⟨_, _, .inl ⟨h, rfl, rfl⟩⟩
set_option maxRecDepth 100000 in
set_option maxHeartbeats 3200000 in
theorem specCnt_is {n : Int} {v : Value} {zz : List (List Int)} {Z k : Int} {w : World} (hv : RowsAt w v zz) (h : CntIs n zz Z k) :
    Calls Tryd.prog 42 #[.agg #[.int .i64 n, v]] w fun e w' => RetII Z k w e w' := by
  obtain ⟨va, vc, rfl, hl, -⟩ := hv.anyP
  have HV := Lib.hid hv
  have P0 : Hid (PtP (w.alloc (.cells #[.int .i64 n, .slice va zz.length vc] 27)) w.heap.size n (.slice va zz.length vc)) := PtP.new _ _ _ _
  have B0 : Hid (Below w.heap.size w (w.alloc (.cells #[.int .i64 n, .slice va zz.length vc] 27))) := al1 (Below.refl _ _) _
  clear hv
  rcases h with ⟨ho, rfl, rfl⟩ | ⟨N, rfl, ho, rfl, rfl⟩
  · have HOK : Hid (OkPIs n zz false) := .inr ⟨rfl, ho⟩
    clear ho
    go_enter Tryd.func42, Tryd.ntmps42
    go_wp2_with (go_at_call 52; refine (l06Ok_is P0.out (HV.out.on B0.out) HOK.out).mono ?_; rintro e w1 ⟨rfl, hb1⟩; have P1 := Lib.hid (P0.out.on hb1); have HB1 := Lib.hid (B0.out.trans (hb1.mono B0.out.size)); clear hb1)
    go_ret2
    exact ⟨rfl, HB1.out⟩
  · obtain ⟨hN, hpi, hnc⟩ := ho.acyc
    have HPI := Lib.hid hpi
    have HNC : Hid (¬ Circ (esP zz) N) := hnc
    have HOK : Hid (OkPIs (N : Int) zz true) := .inl ⟨rfl, ho⟩
    clear ho hpi hnc
    go_enter Tryd.func42, Tryd.ntmps42
    go_wp2_with (first | (go_at_call 52; refine (l06Ok_is P0.out (HV.out.on B0.out) HOK.out).mono ?_; rintro e w1 ⟨rfl, hb1⟩; have P1 := Lib.hid (P0.out.on hb1); have HB1 := Lib.hid (B0.out.trans (hb1.mono B0.out.size)); clear hb1) | (go_at_call 66; refine Hid.out ?_))
    refine Lib.hid ?_
    have HV1 := Lib.hid (HV.out.on HB1.out)
    refine (l06Ord_any P1.out HV1.out hN HPI.out).mono ?_
    rintro e w5 ⟨vt, rs, rfl, ht, hb5⟩
    obtain ⟨gt, hgt⟩ := ht.toR
    have HT5 := Lib.hid hgt
    obtain ⟨ta, tc, rfl⟩ := ht.slice
    have HB5 := Lib.hid (HB1.out.trans (hb5.mono HB1.out.size))
    clear ht hgt hb5
    go_wp2_with fail
    refine (l06Count_any hN HPI.out.lt HNC.out (table_rch HPI.out) HT5.out).mono ?_
    rintro e w6 ⟨z6, rfl, hb6⟩
    have HB6 := Lib.hid (HB5.out.trans (hb6.mono HB5.out.size))
    clear hb6
    go_wp2_with fail
    go_ret2
    exact ⟨rfl, HB6.out⟩
theorem implCnt_is {n : Int} {v : Value} {zz : List (List Int)} {Z k : Int} {w : World} (hv : RowsAt w v zz) (h : CntIs n zz Z k) (hTz : Tz w) :
    Calls Tryd.prog 43 #[.agg #[.int .i64 n, v]] w fun e w' => RetII Z k w e w' := by
  rcases h with ⟨ho, rfl, rfl⟩ | ⟨N, rfl, ho, rfl, rfl⟩
  · exact implCntI_no hv ho hTz
  · obtain ⟨hN, hpi, _⟩ := ho.acyc
    refine (implCntI_ok hv ho hTz).mono ?_
    rintro e w' ⟨lo, up, hod, h⟩
    rw [sets_cnt hN hpi.lt hod] at h
    exact h
end Go.Proofs.YtdihcmohpbgmmaaDoor
