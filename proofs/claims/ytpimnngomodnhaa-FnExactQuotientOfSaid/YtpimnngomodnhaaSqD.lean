/-
  The code of two spaces, by the program and by the model.
-/
import Derived.Test.YtpimnngomodnhaaSqA
import Derived.Test.YtpimnngomodnhaaSpW
import Derived.Deep.RegionHeld3
namespace Go.Proofs.Ytpimnngomodnhaa
open Go.RowKit
open Lin
set_option linter.unusedVariables false
set_option linter.unusedSectionVars false

/-- The code of two spaces. -/
def TwoK (p n : Int) (xx : List (List Int)) (q m : Int) (yy : List (List Int)) (k : Int) : Prop :=
  (¬ (VOk p n xx ∧ VOk q m yy) ∧ k = 1) ∨ (VOk p n xx ∧ VOk q m yy ∧ ¬ (p = q ∧ n = m) ∧ k = 6) ∨ (VOk p n xx ∧ VOk q m yy ∧ p = q ∧ n = m ∧ k = 0)
theorem twoK_has (p n : Int) (xx : List (List Int)) (q m : Int) (yy : List (List Int)) : ∃ k, TwoK p n xx q m yy k := by
  by_cases h : VOk p n xx ∧ VOk q m yy
  · by_cases e : p = q ∧ n = m
    · exact ⟨_, .inr (.inr ⟨h.1, h.2, e.1, e.2, rfl⟩)⟩
    · exact ⟨_, .inr (.inl ⟨h.1, h.2, e, rfl⟩)⟩
  · exact ⟨_, .inl ⟨h, rfl⟩⟩
set_option maxRecDepth 100000 in
set_option maxHeartbeats 6400000 in
theorem twoCode_a {p n q m : Int} {u v : Value} {xx yy : List (List Int)} {w : World} (hu : RowsD w u xx) (hv : RowsD w v yy) (h1 : false = vB p n xx) :
    Calls Try.prog 104 #[.agg #[.int .i64 p, .int .i64 n, u], .agg #[.int .i64 q, .int .i64 m, v]] w fun e w' => e = .returned (.int .i64 1) ∧ Below w.heap.size w w' := by
  have HU := Lib.hid hu
  have HV := Lib.hid hv
  obtain ⟨a1, c1, rfl⟩ := hu.1.slice
  obtain ⟨a2, c2, rfl⟩ := hv.1.slice
  clear hu hv
  have Pa0 := PtV.new1 w p n (.slice a1 xx.length c1) 32 (.cells #[.int .i64 q, .int .i64 m, .slice a2 yy.length c2] 32)
  have Pb0 := PtV.new (w.alloc (.cells #[.int .i64 p, .int .i64 n, .slice a1 xx.length c1] 32)) q m (.slice a2 yy.length c2) 32
  rw [World.size_alloc] at Pb0
  have bb := al1 (al1 (Below.refl w.heap.size w) (.cells #[.int .i64 p, .int .i64 n, .slice a1 xx.length c1] 32)) (.cells #[.int .i64 q, .int .i64 m, .slice a2 yy.length c2] 32)
  have HK1 := Lib.hid h1
  clear h1
  go_enter Try.func104, Try.ntmps104
  go_wp2_with fail
  generalize hW : World.alloc (World.alloc w (.cells #[.int .i64 p, .int .i64 n, .slice a1 xx.length c1] 32)) (.cells #[.int .i64 q, .int .i64 m, .slice a2 yy.length c2] 32) = W0 at bb Pa0 Pb0 ⊢
  have Pa := Lib.hid Pa0
  have Pb := Lib.hid Pb0
  have HB := Lib.hid bb
  have hs0 := bb.size
  clear hW bb Pa0 Pb0
  refine (implVS_is (T := false) (HU.out.on HB.out) HK1.out).mono ?_
  rintro e w1 ⟨rfl, hb⟩
  have HB := Lib.hid (HB.out.trans (hb.mono HB.out.size))
  have Pa := Lib.hid (Pa.out.on hb)
  have Pb := Lib.hid (Pb.out.on hb)
  clear hb
  obtain ⟨lA, x0, x1, x2⟩ := Pa.out
  obtain ⟨lB, y0, y1, y2⟩ := Pb.out
  go_wp2_with fail
  go_ret
  exact ⟨rfl, HB.out⟩
set_option maxRecDepth 100000 in
set_option maxHeartbeats 6400000 in
theorem twoCode_b {p n q m : Int} {u v : Value} {xx yy : List (List Int)} {w : World} (hu : RowsD w u xx) (hv : RowsD w v yy) (h1 : true = vB p n xx) (h2 : false = vB q m yy) :
    Calls Try.prog 104 #[.agg #[.int .i64 p, .int .i64 n, u], .agg #[.int .i64 q, .int .i64 m, v]] w fun e w' => e = .returned (.int .i64 1) ∧ Below w.heap.size w w' := by
  have HU := Lib.hid hu
  have HV := Lib.hid hv
  obtain ⟨a1, c1, rfl⟩ := hu.1.slice
  obtain ⟨a2, c2, rfl⟩ := hv.1.slice
  clear hu hv
  have Pa0 := PtV.new1 w p n (.slice a1 xx.length c1) 32 (.cells #[.int .i64 q, .int .i64 m, .slice a2 yy.length c2] 32)
  have Pb0 := PtV.new (w.alloc (.cells #[.int .i64 p, .int .i64 n, .slice a1 xx.length c1] 32)) q m (.slice a2 yy.length c2) 32
  rw [World.size_alloc] at Pb0
  have bb := al1 (al1 (Below.refl w.heap.size w) (.cells #[.int .i64 p, .int .i64 n, .slice a1 xx.length c1] 32)) (.cells #[.int .i64 q, .int .i64 m, .slice a2 yy.length c2] 32)
  have HK1 := Lib.hid h1
  have HK2 := Lib.hid h2
  clear h1 h2
  go_enter Try.func104, Try.ntmps104
  go_wp2_with fail
  generalize hW : World.alloc (World.alloc w (.cells #[.int .i64 p, .int .i64 n, .slice a1 xx.length c1] 32)) (.cells #[.int .i64 q, .int .i64 m, .slice a2 yy.length c2] 32) = W0 at bb Pa0 Pb0 ⊢
  have Pa := Lib.hid Pa0
  have Pb := Lib.hid Pb0
  have HB := Lib.hid bb
  have hs0 := bb.size
  clear hW bb Pa0 Pb0
  refine (implVS_is (T := true) (HU.out.on HB.out) HK1.out).mono ?_
  rintro e w1 ⟨rfl, hb⟩
  have HB := Lib.hid (HB.out.trans (hb.mono HB.out.size))
  have Pa := Lib.hid (Pa.out.on hb)
  have Pb := Lib.hid (Pb.out.on hb)
  clear hb
  obtain ⟨lA, x0, x1, x2⟩ := Pa.out
  obtain ⟨lB, y0, y1, y2⟩ := Pb.out
  go_wp2_with fail
  clear lA x0 x1 x2 lB y0 y1 y2
  refine (implVS_is (T := false) (HV.out.on HB.out) HK2.out).mono ?_
  rintro e w2 ⟨rfl, hb⟩
  have HB := Lib.hid (HB.out.trans (hb.mono HB.out.size))
  have Pa := Lib.hid (Pa.out.on hb)
  have Pb := Lib.hid (Pb.out.on hb)
  clear hb
  obtain ⟨lA, x0, x1, x2⟩ := Pa.out
  obtain ⟨lB, y0, y1, y2⟩ := Pb.out
  go_wp2_with fail
  go_ret
  exact ⟨rfl, HB.out⟩
set_option maxRecDepth 100000 in
set_option maxHeartbeats 6400000 in
theorem twoCode_p {p n q m : Int} {u v : Value} {xx yy : List (List Int)} {w : World} (hu : RowsD w u xx) (hv : RowsD w v yy) (h1 : true = vB p n xx) (h2 : true = vB q m yy) (e0 : (p == q) = false) :
    Calls Try.prog 104 #[.agg #[.int .i64 p, .int .i64 n, u], .agg #[.int .i64 q, .int .i64 m, v]] w fun e w' => e = .returned (.int .i64 6) ∧ Below w.heap.size w w' := by
  have HU := Lib.hid hu
  have HV := Lib.hid hv
  obtain ⟨a1, c1, rfl⟩ := hu.1.slice
  obtain ⟨a2, c2, rfl⟩ := hv.1.slice
  clear hu hv
  have Pa0 := PtV.new1 w p n (.slice a1 xx.length c1) 32 (.cells #[.int .i64 q, .int .i64 m, .slice a2 yy.length c2] 32)
  have Pb0 := PtV.new (w.alloc (.cells #[.int .i64 p, .int .i64 n, .slice a1 xx.length c1] 32)) q m (.slice a2 yy.length c2) 32
  rw [World.size_alloc] at Pb0
  have bb := al1 (al1 (Below.refl w.heap.size w) (.cells #[.int .i64 p, .int .i64 n, .slice a1 xx.length c1] 32)) (.cells #[.int .i64 q, .int .i64 m, .slice a2 yy.length c2] 32)
  have HK1 := Lib.hid h1
  have HK2 := Lib.hid h2
  clear h1 h2
  go_enter Try.func104, Try.ntmps104
  go_wp2_with fail
  generalize hW : World.alloc (World.alloc w (.cells #[.int .i64 p, .int .i64 n, .slice a1 xx.length c1] 32)) (.cells #[.int .i64 q, .int .i64 m, .slice a2 yy.length c2] 32) = W0 at bb Pa0 Pb0 ⊢
  have Pa := Lib.hid Pa0
  have Pb := Lib.hid Pb0
  have HB := Lib.hid bb
  have hs0 := bb.size
  clear hW bb Pa0 Pb0
  refine (implVS_is (T := true) (HU.out.on HB.out) HK1.out).mono ?_
  rintro e w1 ⟨rfl, hb⟩
  have HB := Lib.hid (HB.out.trans (hb.mono HB.out.size))
  have Pa := Lib.hid (Pa.out.on hb)
  have Pb := Lib.hid (Pb.out.on hb)
  clear hb
  obtain ⟨lA, x0, x1, x2⟩ := Pa.out
  obtain ⟨lB, y0, y1, y2⟩ := Pb.out
  go_wp2_with fail
  clear lA x0 x1 x2 lB y0 y1 y2
  refine (implVS_is (T := true) (HV.out.on HB.out) HK2.out).mono ?_
  rintro e w2 ⟨rfl, hb⟩
  have HB := Lib.hid (HB.out.trans (hb.mono HB.out.size))
  have Pa := Lib.hid (Pa.out.on hb)
  have Pb := Lib.hid (Pb.out.on hb)
  clear hb
  obtain ⟨lA, x0, x1, x2⟩ := Pa.out
  obtain ⟨lB, y0, y1, y2⟩ := Pb.out
  go_wp2_with fail
  generalize hW : w2 = W0 at *
  clear hW
  have nea := Pa.out.ne
  have neb := Pb.out.ne
  first
  | (go_region_with
    (first
      | (go_at_call_of 78 (.agg #[.int .i64 p, .int .i64 n, .slice a1 xx.length c1] : Value); refine (shapeOf_any p n _).mono ?_; rintro e wa ⟨rfl, hba'⟩; have hba : Below W0.heap.size W0 wa := (by first | exact hba' | exact undrew hba' | exact up1 hba' | exact up1 (undrew hba') | exact undrew (up1 hba')); obtain ⟨_, _, _, _⟩ := Pa.out.on hba; obtain ⟨_, _, _, _⟩ := Pb.out.on hba)
      | (go_at_call_of 78 (.agg #[.int .i64 q, .int .i64 m, .slice a2 yy.length c2] : Value); refine (shapeOf_any q m _).mono ?_; rintro e wb ⟨rfl, hbb'⟩; have hbb1 : Below wa.heap.size wa wb := (by first | exact hbb' | exact undrew hbb' | exact up1 hbb' | exact up1 (undrew hbb') | exact undrew (up1 hbb')); have hbb : Below W0.heap.size W0 wb := hba.trans (hbb1.mono hba.size); obtain ⟨_, _, _, _⟩ := Pa.out.on hbb; obtain ⟨_, _, _, _⟩ := Pb.out.on hbb)))
  | fail
  all_goals
    have HB2 := Lib.hid (HB.out.trans (hbb.mono HB.out.size))
    go_wp2_with fail
    go_ret
    exact ⟨rfl, HB2.out⟩
set_option maxRecDepth 100000 in
set_option maxHeartbeats 6400000 in
theorem twoCode_n {p n q m : Int} {u v : Value} {xx yy : List (List Int)} {w : World} (hu : RowsD w u xx) (hv : RowsD w v yy) (h1 : true = vB p n xx) (h2 : true = vB q m yy) (e0 : (p == q) = true) (e1 : (n == m) = false) :
    Calls Try.prog 104 #[.agg #[.int .i64 p, .int .i64 n, u], .agg #[.int .i64 q, .int .i64 m, v]] w fun e w' => e = .returned (.int .i64 6) ∧ Below w.heap.size w w' := by
  have HU := Lib.hid hu
  have HV := Lib.hid hv
  obtain ⟨a1, c1, rfl⟩ := hu.1.slice
  obtain ⟨a2, c2, rfl⟩ := hv.1.slice
  clear hu hv
  have Pa0 := PtV.new1 w p n (.slice a1 xx.length c1) 32 (.cells #[.int .i64 q, .int .i64 m, .slice a2 yy.length c2] 32)
  have Pb0 := PtV.new (w.alloc (.cells #[.int .i64 p, .int .i64 n, .slice a1 xx.length c1] 32)) q m (.slice a2 yy.length c2) 32
  rw [World.size_alloc] at Pb0
  have bb := al1 (al1 (Below.refl w.heap.size w) (.cells #[.int .i64 p, .int .i64 n, .slice a1 xx.length c1] 32)) (.cells #[.int .i64 q, .int .i64 m, .slice a2 yy.length c2] 32)
  have HK1 := Lib.hid h1
  have HK2 := Lib.hid h2
  clear h1 h2
  go_enter Try.func104, Try.ntmps104
  go_wp2_with fail
  generalize hW : World.alloc (World.alloc w (.cells #[.int .i64 p, .int .i64 n, .slice a1 xx.length c1] 32)) (.cells #[.int .i64 q, .int .i64 m, .slice a2 yy.length c2] 32) = W0 at bb Pa0 Pb0 ⊢
  have Pa := Lib.hid Pa0
  have Pb := Lib.hid Pb0
  have HB := Lib.hid bb
  have hs0 := bb.size
  clear hW bb Pa0 Pb0
  refine (implVS_is (T := true) (HU.out.on HB.out) HK1.out).mono ?_
  rintro e w1 ⟨rfl, hb⟩
  have HB := Lib.hid (HB.out.trans (hb.mono HB.out.size))
  have Pa := Lib.hid (Pa.out.on hb)
  have Pb := Lib.hid (Pb.out.on hb)
  clear hb
  obtain ⟨lA, x0, x1, x2⟩ := Pa.out
  obtain ⟨lB, y0, y1, y2⟩ := Pb.out
  go_wp2_with fail
  clear lA x0 x1 x2 lB y0 y1 y2
  refine (implVS_is (T := true) (HV.out.on HB.out) HK2.out).mono ?_
  rintro e w2 ⟨rfl, hb⟩
  have HB := Lib.hid (HB.out.trans (hb.mono HB.out.size))
  have Pa := Lib.hid (Pa.out.on hb)
  have Pb := Lib.hid (Pb.out.on hb)
  clear hb
  obtain ⟨lA, x0, x1, x2⟩ := Pa.out
  obtain ⟨lB, y0, y1, y2⟩ := Pb.out
  go_wp2_with fail
  generalize hW : w2 = W0 at *
  clear hW
  have nea := Pa.out.ne
  have neb := Pb.out.ne
  first
  | (go_region_with
    (first
      | (go_at_call_of 78 (.agg #[.int .i64 p, .int .i64 n, .slice a1 xx.length c1] : Value); refine (shapeOf_any p n _).mono ?_; rintro e wa ⟨rfl, hba'⟩; have hba : Below W0.heap.size W0 wa := (by first | exact hba' | exact undrew hba' | exact up1 hba' | exact up1 (undrew hba') | exact undrew (up1 hba')); obtain ⟨_, _, _, _⟩ := Pa.out.on hba; obtain ⟨_, _, _, _⟩ := Pb.out.on hba)
      | (go_at_call_of 78 (.agg #[.int .i64 q, .int .i64 m, .slice a2 yy.length c2] : Value); refine (shapeOf_any q m _).mono ?_; rintro e wb ⟨rfl, hbb'⟩; have hbb1 : Below wa.heap.size wa wb := (by first | exact hbb' | exact undrew hbb' | exact up1 hbb' | exact up1 (undrew hbb') | exact undrew (up1 hbb')); have hbb : Below W0.heap.size W0 wb := hba.trans (hbb1.mono hba.size); obtain ⟨_, _, _, _⟩ := Pa.out.on hbb; obtain ⟨_, _, _, _⟩ := Pb.out.on hbb)))
  | fail
  all_goals
    have HB2 := Lib.hid (HB.out.trans (hbb.mono HB.out.size))
    go_wp2_with fail
    go_ret
    exact ⟨rfl, HB2.out⟩
set_option maxRecDepth 100000 in
set_option maxHeartbeats 6400000 in
theorem twoCode_o {p n q m : Int} {u v : Value} {xx yy : List (List Int)} {w : World} (hu : RowsD w u xx) (hv : RowsD w v yy) (h1 : true = vB p n xx) (h2 : true = vB q m yy) (e0 : (p == q) = true) (e1 : (n == m) = true) :
    Calls Try.prog 104 #[.agg #[.int .i64 p, .int .i64 n, u], .agg #[.int .i64 q, .int .i64 m, v]] w fun e w' => e = .returned (.int .i64 0) ∧ Below w.heap.size w w' := by
  have HU := Lib.hid hu
  have HV := Lib.hid hv
  obtain ⟨a1, c1, rfl⟩ := hu.1.slice
  obtain ⟨a2, c2, rfl⟩ := hv.1.slice
  clear hu hv
  have Pa0 := PtV.new1 w p n (.slice a1 xx.length c1) 32 (.cells #[.int .i64 q, .int .i64 m, .slice a2 yy.length c2] 32)
  have Pb0 := PtV.new (w.alloc (.cells #[.int .i64 p, .int .i64 n, .slice a1 xx.length c1] 32)) q m (.slice a2 yy.length c2) 32
  rw [World.size_alloc] at Pb0
  have bb := al1 (al1 (Below.refl w.heap.size w) (.cells #[.int .i64 p, .int .i64 n, .slice a1 xx.length c1] 32)) (.cells #[.int .i64 q, .int .i64 m, .slice a2 yy.length c2] 32)
  have HK1 := Lib.hid h1
  have HK2 := Lib.hid h2
  clear h1 h2
  go_enter Try.func104, Try.ntmps104
  go_wp2_with fail
  generalize hW : World.alloc (World.alloc w (.cells #[.int .i64 p, .int .i64 n, .slice a1 xx.length c1] 32)) (.cells #[.int .i64 q, .int .i64 m, .slice a2 yy.length c2] 32) = W0 at bb Pa0 Pb0 ⊢
  have Pa := Lib.hid Pa0
  have Pb := Lib.hid Pb0
  have HB := Lib.hid bb
  have hs0 := bb.size
  clear hW bb Pa0 Pb0
  refine (implVS_is (T := true) (HU.out.on HB.out) HK1.out).mono ?_
  rintro e w1 ⟨rfl, hb⟩
  have HB := Lib.hid (HB.out.trans (hb.mono HB.out.size))
  have Pa := Lib.hid (Pa.out.on hb)
  have Pb := Lib.hid (Pb.out.on hb)
  clear hb
  obtain ⟨lA, x0, x1, x2⟩ := Pa.out
  obtain ⟨lB, y0, y1, y2⟩ := Pb.out
  go_wp2_with fail
  clear lA x0 x1 x2 lB y0 y1 y2
  refine (implVS_is (T := true) (HV.out.on HB.out) HK2.out).mono ?_
  rintro e w2 ⟨rfl, hb⟩
  have HB := Lib.hid (HB.out.trans (hb.mono HB.out.size))
  have Pa := Lib.hid (Pa.out.on hb)
  have Pb := Lib.hid (Pb.out.on hb)
  clear hb
  obtain ⟨lA, x0, x1, x2⟩ := Pa.out
  obtain ⟨lB, y0, y1, y2⟩ := Pb.out
  go_wp2_with fail
  generalize hW : w2 = W0 at *
  clear hW
  have nea := Pa.out.ne
  have neb := Pb.out.ne
  first
  | (go_region_with
    (first
      | (go_at_call_of 78 (.agg #[.int .i64 p, .int .i64 n, .slice a1 xx.length c1] : Value); refine (shapeOf_any p n _).mono ?_; rintro e wa ⟨rfl, hba'⟩; have hba : Below W0.heap.size W0 wa := (by first | exact hba' | exact undrew hba' | exact up1 hba' | exact up1 (undrew hba') | exact undrew (up1 hba')); obtain ⟨_, _, _, _⟩ := Pa.out.on hba; obtain ⟨_, _, _, _⟩ := Pb.out.on hba)
      | (go_at_call_of 78 (.agg #[.int .i64 q, .int .i64 m, .slice a2 yy.length c2] : Value); refine (shapeOf_any q m _).mono ?_; rintro e wb ⟨rfl, hbb'⟩; have hbb1 : Below wa.heap.size wa wb := (by first | exact hbb' | exact undrew hbb' | exact up1 hbb' | exact up1 (undrew hbb') | exact undrew (up1 hbb')); have hbb : Below W0.heap.size W0 wb := hba.trans (hbb1.mono hba.size); obtain ⟨_, _, _, _⟩ := Pa.out.on hbb; obtain ⟨_, _, _, _⟩ := Pb.out.on hbb)))
  | fail
  all_goals
    have HB2 := Lib.hid (HB.out.trans (hbb.mono HB.out.size))
    go_wp2_with fail
    go_ret
    exact ⟨rfl, HB2.out⟩
theorem twoCode_is {p n q m k : Int} {u v : Value} {xx yy : List (List Int)} {w : World} (hu : RowsD w u xx) (hv : RowsD w v yy) (h : TwoK p n xx q m yy k) :
    Calls Try.prog 104 #[.agg #[.int .i64 p, .int .i64 n, u], .agg #[.int .i64 q, .int .i64 m, v]] w fun e w' => e = .returned (.int .i64 k) ∧ Below w.heap.size w w' := by
  rcases h with ⟨h, rfl⟩ | ⟨h1, h2, h, rfl⟩ | ⟨h1, h2, rfl, rfl, rfl⟩
  · by_cases h1 : VOk p n xx
    · exact twoCode_b hu hv (vB_yes h1).symm (vB_no fun h2 => h ⟨h1, h2⟩).symm
    · exact twoCode_a hu hv (vB_no h1).symm
  · by_cases e : p = q
    · exact twoCode_n hu hv (vB_yes h1).symm (vB_yes h2).symm (by simpa using e) (by simpa using fun e2 => h ⟨e, e2⟩)
    · exact twoCode_p hu hv (vB_yes h1).symm (vB_yes h2).symm (by simpa using e)
  · exact twoCode_o hu hv (vB_yes h1).symm (vB_yes h2).symm (by simp) (by simp)
end Go.Proofs.Ytpimnngomodnhaa
