/-
  SameSpace and ValidSpace of the program.
-/
import Derived.Test.YtpimnngomodnhaaSpD
import Derived.Deep.RegionHeld3
namespace Go.Proofs.Ytpimnngomodnhaa
open Go.RowKit
open Lin
set_option linter.unusedVariables false
set_option linter.unusedSectionVars false

/-- Two spaces are the same, as a Bool. -/
def ssB (p n : Int) (xx : List (List Int)) (q m : Int) (yy : List (List Int)) : Bool := decide (p = q ∧ n = m ∧ xx = yy)
theorem ssB_no {p n q m : Int} {xx yy : List (List Int)} (h : ¬ (p = q ∧ n = m ∧ xx = yy)) : ssB p n xx q m yy = false := by simp only [ssB, decide_eq_false_iff_not]; exact h
set_option maxRecDepth 100000 in
set_option maxHeartbeats 6400000 in
theorem implSS_p {p n q m : Int} {u v : Value} {xx yy : List (List Int)} {w : World} (hu : RowsAt w u xx) (hv : RowsAt w v yy) (e0 : (p == q) = false) :
    Calls Try.prog 77 #[.agg #[.int .i64 p, .int .i64 n, u], .agg #[.int .i64 q, .int .i64 m, v]] w fun e w' => e = .returned (.bool false) ∧ Below w.heap.size w w' := by
  have HU := Lib.hid hu
  have HV := Lib.hid hv
  obtain ⟨a1, c1, rfl⟩ := hu.slice
  obtain ⟨a2, c2, rfl⟩ := hv.slice
  clear hu hv
  have Pa0 := PtV.new1 w p n (.slice a1 xx.length c1) 32 (.cells #[.int .i64 q, .int .i64 m, .slice a2 yy.length c2] 32)
  have Pb0 := PtV.new (w.alloc (.cells #[.int .i64 p, .int .i64 n, .slice a1 xx.length c1] 32)) q m (.slice a2 yy.length c2) 32
  rw [World.size_alloc] at Pb0
  have bb := al1 (al1 (Below.refl w.heap.size w) (.cells #[.int .i64 p, .int .i64 n, .slice a1 xx.length c1] 32)) (.cells #[.int .i64 q, .int .i64 m, .slice a2 yy.length c2] 32)
  go_enter Try.func77, Try.ntmps77
  go_wp2_with fail
  generalize hW : World.alloc (World.alloc w (.cells #[.int .i64 p, .int .i64 n, .slice a1 xx.length c1] 32)) (.cells #[.int .i64 q, .int .i64 m, .slice a2 yy.length c2] 32) = W0 at bb Pa0 Pb0 ⊢
  have Pa := Lib.hid Pa0
  have Pb := Lib.hid Pb0
  have HB := Lib.hid bb
  clear hW bb Pa0 Pb0
  have nea := Pa.out.ne
  have neb := Pb.out.ne
  obtain ⟨lA, x0, x1, x2⟩ := Pa.out
  obtain ⟨lB, y0, y1, y2⟩ := Pb.out
  first
  | (go_region_with
    (first
      | (go_at_call_of 78 (.agg #[.int .i64 p, .int .i64 n, .slice a1 xx.length c1] : Value); refine (shapeOf_any p n _).mono ?_; rintro e wa ⟨rfl, hba'⟩; have hba : Below W0.heap.size W0 wa := (by first | exact hba' | exact undrew hba' | exact up1 hba' | exact up1 (undrew hba') | exact undrew (up1 hba')); obtain ⟨_, _, _, _⟩ := Pa.out.on hba; obtain ⟨_, _, _, _⟩ := Pb.out.on hba)
      | (go_at_call_of 78 (.agg #[.int .i64 q, .int .i64 m, .slice a2 yy.length c2] : Value); refine (shapeOf_any q m _).mono ?_; rintro e wb ⟨rfl, hbb'⟩; have hbb1 : Below wa.heap.size wa wb := (by first | exact hbb' | exact undrew hbb' | exact up1 hbb' | exact up1 (undrew hbb') | exact undrew (up1 hbb')); have hbb : Below W0.heap.size W0 wb := hba.trans (hbb1.mono hba.size); obtain ⟨_, _, _, _⟩ := Pa.out.on hbb; obtain ⟨_, _, _, _⟩ := Pb.out.on hbb)))
  | fail
  all_goals
    have HB2 := Lib.hid (HB.out.trans (hbb.mono HB.out.size))
    go_wp2_with fail
    go_ret
    exact ⟨rfl, HB2.out⟩
set_option maxRecDepth 100000 in
set_option maxHeartbeats 6400000 in
theorem implSS_n {p n q m : Int} {u v : Value} {xx yy : List (List Int)} {w : World} (hu : RowsAt w u xx) (hv : RowsAt w v yy) (e0 : (p == q) = true) (e1 : (n == m) = false) :
    Calls Try.prog 77 #[.agg #[.int .i64 p, .int .i64 n, u], .agg #[.int .i64 q, .int .i64 m, v]] w fun e w' => e = .returned (.bool false) ∧ Below w.heap.size w w' := by
  have HU := Lib.hid hu
  have HV := Lib.hid hv
  obtain ⟨a1, c1, rfl⟩ := hu.slice
  obtain ⟨a2, c2, rfl⟩ := hv.slice
  clear hu hv
  have Pa0 := PtV.new1 w p n (.slice a1 xx.length c1) 32 (.cells #[.int .i64 q, .int .i64 m, .slice a2 yy.length c2] 32)
  have Pb0 := PtV.new (w.alloc (.cells #[.int .i64 p, .int .i64 n, .slice a1 xx.length c1] 32)) q m (.slice a2 yy.length c2) 32
  rw [World.size_alloc] at Pb0
  have bb := al1 (al1 (Below.refl w.heap.size w) (.cells #[.int .i64 p, .int .i64 n, .slice a1 xx.length c1] 32)) (.cells #[.int .i64 q, .int .i64 m, .slice a2 yy.length c2] 32)
  go_enter Try.func77, Try.ntmps77
  go_wp2_with fail
  generalize hW : World.alloc (World.alloc w (.cells #[.int .i64 p, .int .i64 n, .slice a1 xx.length c1] 32)) (.cells #[.int .i64 q, .int .i64 m, .slice a2 yy.length c2] 32) = W0 at bb Pa0 Pb0 ⊢
  have Pa := Lib.hid Pa0
  have Pb := Lib.hid Pb0
  have HB := Lib.hid bb
  clear hW bb Pa0 Pb0
  have nea := Pa.out.ne
  have neb := Pb.out.ne
  obtain ⟨lA, x0, x1, x2⟩ := Pa.out
  obtain ⟨lB, y0, y1, y2⟩ := Pb.out
  first
  | (go_region_with
    (first
      | (go_at_call_of 78 (.agg #[.int .i64 p, .int .i64 n, .slice a1 xx.length c1] : Value); refine (shapeOf_any p n _).mono ?_; rintro e wa ⟨rfl, hba'⟩; have hba : Below W0.heap.size W0 wa := (by first | exact hba' | exact undrew hba' | exact up1 hba' | exact up1 (undrew hba') | exact undrew (up1 hba')); obtain ⟨_, _, _, _⟩ := Pa.out.on hba; obtain ⟨_, _, _, _⟩ := Pb.out.on hba)
      | (go_at_call_of 78 (.agg #[.int .i64 q, .int .i64 m, .slice a2 yy.length c2] : Value); refine (shapeOf_any q m _).mono ?_; rintro e wb ⟨rfl, hbb'⟩; have hbb1 : Below wa.heap.size wa wb := (by first | exact hbb' | exact undrew hbb' | exact up1 hbb' | exact up1 (undrew hbb') | exact undrew (up1 hbb')); have hbb : Below W0.heap.size W0 wb := hba.trans (hbb1.mono hba.size); obtain ⟨_, _, _, _⟩ := Pa.out.on hbb; obtain ⟨_, _, _, _⟩ := Pb.out.on hbb)))
  | fail
  all_goals
    have HB2 := Lib.hid (HB.out.trans (hbb.mono HB.out.size))
    go_wp2_with fail
    go_ret
    exact ⟨rfl, HB2.out⟩
set_option maxRecDepth 100000 in
set_option maxHeartbeats 6400000 in
theorem implSS_a {p n q m : Int} {u v : Value} {xx yy : List (List Int)} {w : World} (hu : RowsAt w u xx) (hv : RowsAt w v yy) (e0 : (p == q) = true) (e1 : (n == m) = true) :
    Calls Try.prog 77 #[.agg #[.int .i64 p, .int .i64 n, u], .agg #[.int .i64 q, .int .i64 m, v]] w fun e w' => e = .returned (.bool (eqRB xx yy)) ∧ Below w.heap.size w w' := by
  have HU := Lib.hid hu
  have HV := Lib.hid hv
  obtain ⟨a1, c1, rfl⟩ := hu.slice
  obtain ⟨a2, c2, rfl⟩ := hv.slice
  clear hu hv
  have Pa0 := PtV.new1 w p n (.slice a1 xx.length c1) 32 (.cells #[.int .i64 q, .int .i64 m, .slice a2 yy.length c2] 32)
  have Pb0 := PtV.new (w.alloc (.cells #[.int .i64 p, .int .i64 n, .slice a1 xx.length c1] 32)) q m (.slice a2 yy.length c2) 32
  rw [World.size_alloc] at Pb0
  have bb := al1 (al1 (Below.refl w.heap.size w) (.cells #[.int .i64 p, .int .i64 n, .slice a1 xx.length c1] 32)) (.cells #[.int .i64 q, .int .i64 m, .slice a2 yy.length c2] 32)
  go_enter Try.func77, Try.ntmps77
  go_wp2_with fail
  generalize hW : World.alloc (World.alloc w (.cells #[.int .i64 p, .int .i64 n, .slice a1 xx.length c1] 32)) (.cells #[.int .i64 q, .int .i64 m, .slice a2 yy.length c2] 32) = W0 at bb Pa0 Pb0 ⊢
  have Pa := Lib.hid Pa0
  have Pb := Lib.hid Pb0
  have HB := Lib.hid bb
  clear hW bb Pa0 Pb0
  have nea := Pa.out.ne
  have neb := Pb.out.ne
  obtain ⟨lA, x0, x1, x2⟩ := Pa.out
  obtain ⟨lB, y0, y1, y2⟩ := Pb.out
  go_region_held3 (fun w' => w'.cell? ⟨w.heap.size, 0, none⟩ = some (.int .i64 p) ∧ w'.cell? ⟨w.heap.size, 1, none⟩ = some (.int .i64 n) ∧ w'.cell? ⟨w.heap.size, 2, none⟩ = some (.slice a1 xx.length c1) ∧ w'.cell? ⟨w.heap.size + 1, 0, none⟩ = some (.int .i64 q) ∧ w'.cell? ⟨w.heap.size + 1, 1, none⟩ = some (.int .i64 m) ∧ w'.cell? ⟨w.heap.size + 1, 2, none⟩ = some (.slice a2 yy.length c2)) (go_keep)
    (first
      | (go_at_call_of 78 (.agg #[.int .i64 p, .int .i64 n, .slice a1 xx.length c1] : Value); refine (shapeOf_any p n _).mono ?_; rintro e wa ⟨rfl, hba'⟩; have hba : Below W0.heap.size W0 wa := (by first | exact hba' | exact undrew hba' | exact up1 hba' | exact up1 (undrew hba') | exact undrew (up1 hba')); obtain ⟨_, _, _, _⟩ := Pa.out.on hba; obtain ⟨_, _, _, _⟩ := Pb.out.on hba)
      | (go_at_call_of 78 (.agg #[.int .i64 q, .int .i64 m, .slice a2 yy.length c2] : Value); refine (shapeOf_any q m _).mono ?_; rintro e wb ⟨rfl, hbb'⟩; have hbb1 : Below wa.heap.size wa wb := (by first | exact hbb' | exact undrew hbb' | exact up1 hbb' | exact up1 (undrew hbb') | exact undrew (up1 hbb')); have hbb : Below W0.heap.size W0 wb := hba.trans (hbb1.mono hba.size); obtain ⟨_, _, _, _⟩ := Pa.out.on hbb; obtain ⟨_, _, _, _⟩ := Pb.out.on hbb)
      | (go_at_call 106; have hx := equalF_any (HU.out.on (HB.out.trans (hbb.mono HB.out.size))) (HV.out.on (HB.out.trans (hbb.mono HB.out.size))); refine hx.mono ?_; rintro e wc ⟨rfl, nq, rfl⟩; have hbc : Below W0.heap.size W0 (wb.drewN nq) := below_drewX hbb nq))
  all_goals
    have HB2 := Lib.hid (HB.out.trans (hbc.mono HB.out.size))
    go_wp2_with fail
    go_ret
    exact ⟨rfl, HB2.out⟩
theorem implSS_is {p n q m : Int} {u v : Value} {xx yy : List (List Int)} {T : Bool} {w : World} (hu : RowsAt w u xx) (hv : RowsAt w v yy) (h : T = ssB p n xx q m yy) :
    Calls Try.prog 77 #[.agg #[.int .i64 p, .int .i64 n, u], .agg #[.int .i64 q, .int .i64 m, v]] w fun e w' => e = .returned (.bool T) ∧ Below w.heap.size w w' := by
  subst h
  by_cases e0 : p = q
  · by_cases e1 : n = m
    · have e : ssB p n xx q m yy = eqRB xx yy := by unfold ssB eqRB; simp [e0, e1]
      rw [e]
      exact implSS_a hu hv (by simpa using e0) (by simpa using e1)
    · rw [ssB_no fun h => e1 h.2.1]
      exact implSS_n hu hv (by simpa using e0) (by simpa using e1)
  · rw [ssB_no fun h => e0 h.1]
    exact implSS_p hu hv (by simpa using e0)
/-- What ValidSpace answers. -/
noncomputable def vB (p n : Int) (zz : List (List Int)) : Bool := by classical exact decide (VOk p n zz)
theorem vB_yes {p n : Int} {zz : List (List Int)} (h : VOk p n zz) : vB p n zz = true := by simp [vB, h]
theorem vB_no {p n : Int} {zz : List (List Int)} (h : ¬ VOk p n zz) : vB p n zz = false := by simp [vB, h]
theorem vB_of {p n : Int} {zz : List (List Int)} (h : vB p n zz = true) : VOk p n zz := by simpa [vB] using h
theorem vB_ne {p n : Int} {zz : List (List Int)} (h : vB p n zz = false) : ¬ VOk p n zz := by simpa [vB] using h
theorem spRes_ok {p n P N k : Int} {zz Z : List (List Int)} (h : SpRes p n zz P N Z k) (hk : k = 0) : P = p ∧ N = n ∧ (VOk p n zz ↔ Z = zz) := by
  rcases h with ⟨_, _, _, _, rfl⟩ | ⟨_, rfl, rfl, q, M, hz, rfl, rfl, hp, hM, hv, rfl⟩
  · omega
  · refine ⟨rfl, rfl, fun h => h.2.2.2.2 q M hz rfl rfl, fun h => ⟨hp, by omega, by omega, hv, fun q' M' hz' hq hM' => ?_⟩⟩
    have e1 : q' = q := by omega
    have e2 : M' = M := by omega
    subst e1 e2
    exact h
theorem spRes_bad {p n P N k : Int} {zz Z : List (List Int)} (h : SpRes p n zz P N Z k) (hk : k ≠ 0) : k = 1 ∧ ¬ VOk p n zz := by
  rcases h with ⟨h, _, _, _, rfl⟩ | ⟨h, _⟩
  · exact ⟨rfl, fun hv => h ⟨hv.1, hv.2.1, hv.2.2.1, hv.2.2.2.1⟩⟩
  · exact absurd h hk
set_option maxRecDepth 100000 in
set_option maxHeartbeats 6400000 in
theorem implVS_is {p n : Int} {u : Value} {zz : List (List Int)} {T : Bool} {w : World} (hu : RowsD w u zz) (h : T = vB p n zz) :
    Calls Try.prog 53 #[.agg #[.int .i64 p, .int .i64 n, u]] w fun e w' => e = .returned (.bool T) ∧ Below w.heap.size w w' := by
  obtain ⟨P, N, Z, k, hr⟩ := spRes_has p n zz
  have HR := Lib.hid hr
  have HU := Lib.hid hu
  obtain ⟨a, c, rfl⟩ := hu.1.slice
  have Pa0 := PtV.new w p n (.slice a zz.length c) 32
  clear hu
  by_cases hk : k = 0
  · subst hk
    obtain ⟨rfl, rfl, hiff⟩ := spRes_ok hr rfl
    have ht : T = ssB P N Z P N zz := by
      subst h
      by_cases hz : Z = zz
      · rw [vB_yes (hiff.2 hz)]; unfold ssB; simp [hz]
      · rw [vB_no (fun hv => hz (hiff.1 hv)), ssB_no (fun hh => hz hh.2.2)]
    have HT := Lib.hid ht
    have HF := Lib.hid hr.fit
    clear ht h hiff hr
    go_enter Try.func53, Try.ntmps53
    go_wp2_with fail
    refine (implSpO_any (HU.out.on (al1 (Below.refl _ _) _)) HR.out).mono ?_
    rintro e w1 ⟨v, rfl, ho, hb⟩
    have HO := Lib.hid (ho.at HF.out)
    obtain ⟨va, vc, rfl⟩ := ho.slice
    have HB := Lib.hid (up1 hb)
    have Pa := Lib.hid (Pa0.on hb)
    obtain ⟨lA, x0, x1, x2⟩ := Pa.out
    clear hb ho Pa0
    go_wp2_with fail
    refine (implSS_is (HO.out.on (al1 (Below.refl _ _) _)) (HU.out.1.on (al1 HB.out _)) HT.out).mono ?_
    rintro e w2 ⟨rfl, hb⟩
    have HB2 := Lib.hid (HB.out.trans ((up1 hb).mono HB.out.size))
    clear hb
    go_wp2_with fail
    go_ret
    exact ⟨rfl, HB2.out⟩
  · obtain ⟨rfl, hv⟩ := spRes_bad hr hk
    rw [vB_no hv] at h
    subst h
    clear hv hk hr
    go_enter Try.func53, Try.ntmps53
    go_wp2_with fail
    refine (implSpO_any (HU.out.on (al1 (Below.refl _ _) _)) HR.out).mono ?_
    rintro e w1 ⟨v, rfl, ho, hb⟩
    obtain ⟨va, vc, rfl⟩ := ho.slice
    have HB := Lib.hid (up1 hb)
    have Pa := Lib.hid (Pa0.on hb)
    obtain ⟨lA, x0, x1, x2⟩ := Pa.out
    clear hb ho Pa0
    go_wp2_with fail
    go_ret
    exact ⟨rfl, al1 HB.out _⟩
end Go.Proofs.Ytpimnngomodnhaa
