/-
  CountIdeals of the program.
-/
import Derived.Test.YtdihcmohpbgmmaaDoorPtA
import Derived.Test.YtdihcmohpbgmmaaDoorPsU
namespace Go.Proofs.YtdihcmohpbgmmaaDoor
open Go.RowKit
set_option linter.unusedVariables false
set_option linter.unusedSimpArgs false

def RetII (z k : Int) (w : World) (e : Ending) (w' : World) : Prop := e = .returned (.tuple #[.int .i64 z, .int .i64 k]) ∧ Below w.heap.size w w'
set_option maxRecDepth 100000 in
set_option maxHeartbeats 3200000 in
theorem implCntI_no {n : Int} {v : Value} {zz : List (List Int)} {w : World} (hv : RowsAt w v zz) (h : ¬ OkP n zz) (hTz : Tz w) :
    Calls Tryd.prog 43 #[.agg #[.int .i64 n, v]] w fun e w' => RetII 0 1 w e w' := by
  have HOK := Lib.hid h
  have HV := Lib.hid hv
  have TZ := Lib.hid hTz
  obtain ⟨va, vc, rfl⟩ := hv.slice
  have B0 : Hid (Below w.heap.size w (w.alloc (.cells #[.int .i64 n, .slice va zz.length vc] 27))) := al1 (Below.refl _ _) _
  have P0 : Hid (PtP (w.alloc (.cells #[.int .i64 n, .slice va zz.length vc] 27)) w.heap.size n (.slice va zz.length vc)) := PtP.new _ _ _ _
  clear hv hTz h
  go_enter Tryd.func43, Tryd.ntmps43
  go_wp2_with (go_at_call 67; refine Hid.out ?_)
  refine Lib.hid ?_
  refine (orderOf_no (HV.out.on B0.out) HOK.out (TZ.out.on B0.out)).mono ?_
  rintro e w1 ⟨rfl, hb1⟩
  obtain ⟨hov1, hov2⟩ := ord_var w1 0 (fun _ => 0) (fun _ => 0)
  have HO1 := Lib.hid hov1
  have HB := Lib.hid (B0.out.trans ((hb1.trans (hov2.mono hb1.size)).mono B0.out.size))
  have P1 := Lib.hid (P0.out.on (hb1.trans (hov2.mono hb1.size)))
  have HO3 := Lib.hid (ord_there2 w1 0 (fun _ => 0) (fun _ => 0))
  have HS1 := Lib.hid (ord_size 0 (fun _ => 0) (fun _ => 0))
  have HS2 := Lib.hid (ord_one 0 (fun _ => 0) (fun _ => 0))
  have HS3 := Lib.hid (ord_size2 0 (fun _ => 0) (fun _ => 0))
  clear hb1 hov1 hov2
  go_wp2_with (refine wpList_store_mid rfl 64 (.tmp 4) (.tmp 9) rfl w1.heap.size 0 (ordC 0 (fun _ => 0) (fun _ => 0)).toArray rfl rfl ?_ HS1.out HS2.out ?_; exact HO3.out; refine Hid.out ?_)
  refine Lib.hid ?_
  try rw [show (ordC 0 (fun _ => 0) (fun _ => 0)).toArray.toList = ordC 0 (fun _ => 0) (fun _ => 0) from rfl]
  generalize ((w1.alloc (.cells #[.int .i64 0, .int .u16 0, .int .u16 0, .int .u16 0, .int .u16 0, .int .u16 0, .int .u16 0, .int .u16 0, .int .u16 0, .int .u16 0, .int .u16 0, .int .u16 0, .int .u16 0, .int .u16 0, .int .u16 0, .int .u16 0, .int .u16 0, .int .u16 0, .int .u16 0, .int .u16 0, .int .u16 0, .int .u16 0, .int .u16 0, .int .u16 0, .int .u16 0] 64)).setCells w1.heap.size 0 (ordC 0 (fun _ => 0) (fun _ => 0))) = W at HO1 HB P1 ⊢
  obtain ⟨L, hL⟩ : ∃ L, w1.heap.size = L := ⟨_, rfl⟩
  rw [hL] at HO1 ⊢
  clear HO3 HS1 HS2 hL
  go_wp2_with fail
  go_ret2
  exact ⟨rfl, HB.out⟩
end Go.Proofs.YtdihcmohpbgmmaaDoor
