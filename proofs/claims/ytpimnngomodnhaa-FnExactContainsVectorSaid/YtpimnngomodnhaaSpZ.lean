/-
  ContainsVector of the model.
-/
import Derived.Test.YtpimnngomodnhaaSpX
import Derived.Deep.RegionHeld3
namespace Go.Proofs.Ytpimnngomodnhaa
open Go.RowKit
open Lin
set_option linter.unusedVariables false
set_option linter.unusedSectionVars false

set_option maxRecDepth 100000 in
set_option maxHeartbeats 3200000 in
theorem specCon_b {p n : Int} {zz : List (List Int)} {ys : List Int} {u v : Value} {w : World} (hu : RowsD w u zz) (hv : IntsC w v ys) (h : ¬ VOk p n zz) :
    Calls Try.prog 25 #[.agg #[.int .i64 p, .int .i64 n, u], v] w fun e w' => e = .returned (.bool false) ∧ Below w.heap.size w w' := by
  have HU := Lib.hid hu
  have HK : Hid (false = vB p n zz) := (vB_no h).symm
  obtain ⟨a, c, rfl⟩ := hu.1.slice
  obtain ⟨a2, c2, rfl, -, -⟩ := hv.1
  have Pa0 := PtV.new w p n (.slice a zz.length c) 32
  clear h hu
  go_enter Try.func25, Try.ntmps25
  go_wp2_with fail
  refine (l04Ok_is (T := false) Pa0 (HU.out.on (al1 (Below.refl _ _) _)) HK.out).mono ?_
  rintro e w1 ⟨rfl, hb⟩
  have HB := Lib.hid (up1 hb)
  clear hb Pa0
  go_wp2_with fail
  go_ret
  exact ⟨rfl, HB.out⟩
set_option maxRecDepth 100000 in
set_option maxHeartbeats 3200000 in
theorem specCon_c {q N r : Nat} [NeZero q] {A : Mt q} {zz : List (List Int)} {ys : List Int} {u v : Value} {w : World} (hu : RowsD w u zz) (hv : IntsC w v ys) (hA : VIs q N zz q N r A) (h : ¬ Vec1 q N ys) :
    Calls Try.prog 25 #[.agg #[.int .i64 (q : Int), .int .i64 (N : Int), u], v] w fun e w' => e = .returned (.bool false) ∧ Below w.heap.size w w' := by
  have HU := Lib.hid hu
  have HK : Hid (true = vB (q : Int) N zz) := (vB_yes hA.ok).symm
  have HV := Lib.hid hv.1
  have HPR := Lib.hid hA.pr
  have HT : Hid (v1B (q : Int) (N : Int) ys = false) := v1B_no h
  have hN32 : (N : Int) ≤ 32 := by have := hA.n32; omega
  obtain ⟨a, c, rfl⟩ := hu.1.slice
  obtain ⟨a2, c2, rfl, -, -⟩ := hv.1
  have Pa0 := PtV.new w (q : Int) (N : Int) (.slice a zz.length c) 32
  clear h hu hA
  go_enter Try.func25, Try.ntmps25
  go_wp2_with fail
  refine (l04Ok_is (T := true) Pa0 (HU.out.on (al1 (Below.refl _ _) _)) HK.out).mono ?_
  rintro e w1 ⟨rfl, hb⟩
  have HB := Lib.hid (up1 hb)
  obtain ⟨lA, x0, x1, x2⟩ := Pa0.on hb
  clear hb Pa0
  go_wp2_with fail
  refine (vector_is (HV.out.on HB.out) HPR.out hN32 HT.out).mono ?_
  rintro e w2 ⟨rfl, rfl⟩
  go_wp2_with fail
  go_ret
  exact ⟨rfl, HB.out⟩
set_option maxRecDepth 100000 in
set_option maxHeartbeats 3200000 in
theorem specCon_d {q N r : Nat} [NeZero q] {A : Mt q} {zz : List (List Int)} {x : Nat → Fin q} {u v : Value} {w : World} (hu : RowsD w u zz) (hv : IntsC w v (bL N x)) (hA : VIs q N zz q N r A) {T : Bool} (h : (((red (r + 1) (adj r A x) N).piv.length : Int) == (r : Int)) = T) :
    Calls Try.prog 25 #[.agg #[.int .i64 (q : Int), .int .i64 (N : Int), u], v] w fun e w' => e = .returned (.bool T) ∧ Below w.heap.size w w' := by
  have HU := Lib.hid hu
  have HRC := Lib.hid (hA.rowsC hu)
  have HK : Hid (true = vB (q : Int) N zz) := (vB_yes hA.ok).symm
  have HV := Lib.hid hv
  have HV1 := Lib.hid hv.1
  have HPR := Lib.hid hA.pr
  have HH := Lib.hid h
  have HT : Hid (v1B (q : Int) (N : Int) (bL N x) = true) := v1B_yes ⟨by rw [bL_len], rowL_ok N _ 0⟩
  have hN32 : (N : Int) ≤ 32 := by have := hA.n32; omega
  have hr32 : r ≤ 32 := by have := hA.r32; have := hA.n32; omega
  have hl := hA.len
  obtain ⟨a, c, rfl⟩ := hu.1.slice
  rw [hl] at HU HRC ⊢
  obtain ⟨a2, c2, rfl, -, -⟩ := hv.1
  have Pa0 := PtV.new w (q : Int) (N : Int) (.slice a r c) 32
  clear h hu hA hl
  go_enter Try.func25, Try.ntmps25
  go_wp2_with fail
  refine (l04Ok_is (T := true) Pa0 (HU.out.on (al1 (Below.refl _ _) _)) HK.out).mono ?_
  rintro e w1 ⟨rfl, hb⟩
  have HB := Lib.hid (up1 hb)
  have Pa := Lib.hid (Pa0.on hb)
  have hs1 := HB.out.size
  clear hb Pa0
  obtain ⟨lA, x0, x1, x2⟩ := Pa.out
  go_wp2_with fail
  refine (vector_is (HV1.out.on HB.out) HPR.out hN32 HT.out).mono ?_
  rintro e w2 ⟨rfl, rfl⟩
  go_wp2_with fail
  refine (l04Has_is Pa.out (HRC.out.on HB.out) (HV.out.on HB.out) HPR.out hr32 (by omega) HH.out).mono ?_
  rintro e w2 ⟨rfl, hb⟩
  have HB := Lib.hid (HB.out.trans (hb.mono hs1))
  clear hb
  go_wp2_with fail
  go_ret
  exact ⟨rfl, HB.out⟩
theorem specCon_any {p n : Int} {zz : List (List Int)} {ys : List Int} {T : Bool} {u v : Value} {w : World} (hu : RowsD w u zz) (hv : IntsC w v ys) (h : ConRes p n zz ys T) :
    Calls Try.prog 25 #[.agg #[.int .i64 p, .int .i64 n, u], v] w fun e w' => e = .returned (.bool T) ∧ Below w.heap.size w w' := by
  obtain ⟨Z, k, h, rfl⟩ := h
  rcases h with ⟨h, rfl, rfl⟩ | ⟨q, _, N, r, A, hA, hs⟩
  · exact specCon_b hu hv h
  · obtain ⟨rfl, rfl⟩ : p = q ∧ n = N := ⟨hA.p, hA.n⟩
    rcases coo_cases hA hs with ⟨h, rfl, rfl⟩ | ⟨x, rfl, h, rfl, rfl⟩ | ⟨x, rfl, h, rfl, rfl⟩
    · exact specCon_c hu hv hA h
    · exact specCon_d hu hv hA h
    · exact specCon_d hu hv hA h
end Go.Proofs.Ytpimnngomodnhaa
