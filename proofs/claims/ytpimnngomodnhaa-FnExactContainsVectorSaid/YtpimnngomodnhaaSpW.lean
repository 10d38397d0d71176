/-
  CoordinatesIn and ContainsVector of the program.
-/
import Derived.Test.YtpimnngomodnhaaSpR
namespace Go.Proofs.Ytpimnngomodnhaa
open Go.RowKit
open Lin
set_option linter.unusedVariables false
set_option linter.unusedSectionVars false

/-- The basis as a matrix. -/
theorem VIs.mis {p n : Int} {zz : List (List Int)} {q : Nat} [NeZero q] {N r : Nat} {A : Mt q} (h : VIs p n zz q N r A) : MIs q r N (flat r N A) q r N A := ⟨rfl, rfl, rfl, rfl, h.pr, by have := h.r32; have := h.n32; omega, h.n32⟩
theorem VIs.turn {p n : Int} {zz : List (List Int)} {q : Nat} [NeZero q] {N r : Nat} {A : Mt q} (h : VIs p n zz q N r A) : MIs q N r (flat N r (turn A)) q N r (turn A) := ⟨rfl, rfl, rfl, rfl, h.pr, h.n32, by have := h.r32; have := h.n32; omega⟩
theorem VIs.rowsC {p n : Int} {zz : List (List Int)} {q : Nat} [NeZero q] {N r : Nat} {A : Mt q} {v : Value} {w : World} (h : VIs p n zz q N r A) (hu : RowsD w v zz) : RowsC w v r (rowL N A) := by
  have := hu
  rw [h.zz] at this
  exact this.of_rows
set_option maxRecDepth 100000 in
set_option maxHeartbeats 3200000 in
/-- The matrix with vectors as its columns. -/
theorem columns_any {q N r : Nat} [NeZero q] {A : Mt q} {v : Value} {w : World} (hv : RowsC w v r (rowL N A)) (hA : MIs q r N (flat r N A) q r N A) :
    Calls Try.prog 97 #[.agg #[.int .i64 (q : Int), .int .i64 (N : Int)], v] w fun e w' => RetMx q N r (flat N r (turn A)) w e w' := by
  have hr := hA.m32
  have hN := hA.n32
  have hrN : r * N ≤ 1024 := Nat.mul_le_mul hr hN
  have hNr : N * r ≤ 1024 := Nat.mul_le_mul hN hr
  have HA := Lib.hid hA
  have HV := Lib.hid hv
  obtain ⟨a, c, rfl, -, -⟩ := hv
  have Pr0 := PtM.new (w.alloc (.cells #[.int .i64 (q : Int), .int .i64 (N : Int)] 96)) 0 0 0 (.slice none 0 0) 26
  have Fr0 := Fz.new (w.alloc (.cells #[.int .i64 (q : Int), .int .i64 (N : Int)] 96)) #[.int .i64 0, .int .i64 0, .int .i64 0, .slice none 0 0] 26
  rw [World.size_alloc] at Pr0 Fr0
  clear hA
  go_enter Try.func97, Try.ntmps97
  go_wp2_with fail
  refine (matrixOf_any (q : Int) (HV.out.on (al1 (al1 (Below.refl _ _) _) _)) hr hN).mono ?_
  rintro e w1 ⟨v1, rfl, ho, hb⟩
  have HO := Lib.hid (ho.atC (by rw [flat_len]; omega))
  obtain ⟨va, vc, rfl⟩ := ho.slice
  have HB := Lib.hid (up2 hb)
  have HP := Lib.hid (Pr0.on hb)
  have HF : Hid (Fz w1 (w.heap.size + 1)) := Fr0.on (by simp) hb
  have hs : w.heap.size + 2 ≤ w1.heap.size := by have := hb.size; simp at this; omega
  clear ho hb Pr0 Fr0
  go_wp2_with fail
  refine (implTr_ok HO.out HA.out).mono ?_
  rintro e w2 ⟨v2, rfl, ho, hb⟩
  rw [turn_eq] at ho
  have HO := Lib.hid ho
  obtain ⟨vb, vd, rfl⟩ := ho.slice
  have HB := Lib.hid (HB.out.trans (hb.mono (by omega)))
  have HP := Lib.hid (HP.out.on hb)
  have HF : Hid (Fz w2 (w.heap.size + 1)) := HF.out.on (by omega) hb
  have hs2 := hb.size
  obtain ⟨lR, r0, r1, r2, r3⟩ := HP.out
  obtain ⟨f0, f1, f2, f3⟩ := HF.out.all
  have bb := al1 (Below.refl w2.heap.size w2) (.cells #[.int .i64 q, .int .i64 N, .int .i64 r, .slice vb (flat N r (turn A)).length vd] 26)
  have hq := Lib.hid ((HP.out.set4 (q : Int) (N : Int) (r : Int) (.slice vb (flat N r (turn A)).length vd)).on (al1 (Below.refl _ _) (.cells #[.int .i64 q, .int .i64 N, .int .i64 r, .slice vb (flat N r (turn A)).length vd] 26)))
  clear ho hb
  go_wp2_with fail
  obtain ⟨_, q0, q1, q2, q3⟩ := hq.out
  refine bodyPost_ret (v := .agg #[.int .i64 q, .int .i64 N, .int .i64 r, .slice vb (flat N r (turn A)).length vd]) (by simp [results, Try.results97, go_sem, q0, q1, q2, q3]) rfl ⟨_, rfl, ?_, ?_⟩
  · refine OwnI.mono (B := w1.heap.size) ?_ (by omega)
    refine OwnI.al ?_
    repeat (refine OwnI.setOut ?_ (by omega) _)
    exact HO.out
  · refine al1 ?_ _
    repeat (refine Below.setC ?_ (by omega) _)
    exact HB.out
set_option maxRecDepth 100000 in
set_option maxHeartbeats 3200000 in
theorem basisCols_any {q N r : Nat} [NeZero q] {A : Mt q} {v : Value} {w : World} (hv : RowsC w v r (rowL N A)) (hA : MIs q r N (flat r N A) q r N A) :
    Calls Try.prog 55 #[.agg #[.int .i64 (q : Int), .int .i64 (N : Int), v]] w fun e w' => RetMx q N r (flat N r (turn A)) w e w' := by
  have hr := hA.m32
  have hN := hA.n32
  have HA := Lib.hid hA
  have HV := Lib.hid hv
  obtain ⟨a, c, rfl, -, -⟩ := hv
  have Pa0 := PtV.new1 w (q : Int) (N : Int) (.slice a r c) 32 (.cells #[.int .i64 0, .int .i64 0, .int .i64 0, .slice none 0 0] 26)
  have Pr0 := PtM.new (w.alloc (.cells #[.int .i64 (q : Int), .int .i64 (N : Int), .slice a r c] 32)) 0 0 0 (.slice none 0 0) 26
  have Fr0 := Fz.new (w.alloc (.cells #[.int .i64 (q : Int), .int .i64 (N : Int), .slice a r c] 32)) #[.int .i64 0, .int .i64 0, .int .i64 0, .slice none 0 0] 26
  have bb := al1 (al1 (Below.refl w.heap.size w) (.cells #[.int .i64 (q : Int), .int .i64 (N : Int), .slice a r c] 32)) (.cells #[.int .i64 0, .int .i64 0, .int .i64 0, .slice none 0 0] 26)
  rw [World.size_alloc] at Pr0 Fr0
  clear hA
  go_enter Try.func55, Try.ntmps55
  go_wp2_with fail
  generalize hW : ((w.alloc (.cells #[.int .i64 (q : Int), .int .i64 (N : Int), .slice a r c] 32)).alloc (.cells #[.int .i64 0, .int .i64 0, .int .i64 0, .slice none 0 0] 26)) = W0 at bb Pa0 Pr0 Fr0 ⊢
  have hz0 : w.heap.size + 2 ≤ W0.heap.size := by rw [← hW]; simp
  have Pa := Lib.hid Pa0
  have Pr := Lib.hid Pr0
  have Fr : Hid (Fz W0 (w.heap.size + 1)) := Fr0
  have HB := Lib.hid bb
  clear hW bb Pa0 Pr0 Fr0
  obtain ⟨lA, x0, x1, x2⟩ := Pa.out
  obtain ⟨lR, r0, r1, r2, r3⟩ := Pr.out
  obtain ⟨f0, f1, f2, f3⟩ := Fr.out.all
  have neA := Pa.out.ne
  have neR := Pr.out.ne
  have n1 : ¬ w.heap.size + 1 = w.heap.size := by omega
  have n2 : ¬ w.heap.size = w.heap.size + 1 := by omega
  go_region_held3 (fun w' => w'.cell? ⟨w.heap.size, 0, none⟩ = some (.int .i64 (q : Int)) ∧ w'.cell? ⟨w.heap.size, 1, none⟩ = some (.int .i64 (N : Int)) ∧ w'.cell? ⟨w.heap.size, 2, none⟩ = some (.slice a r c)) (go_keep)
    (first
      | (go_at_call 78; refine (shapeOf_any (q : Int) (N : Int) _).mono ?_; rintro e wa ⟨rfl, hba'⟩; have hba : Below W0.heap.size W0 wa := (by first | with_reducible exact hba' | with_reducible exact undrew hba'); obtain ⟨_, _, _, _⟩ := Pa.out.on hba; obtain ⟨_, _, _, _, _⟩ := Pr.out.on hba; obtain ⟨_, _, _, _⟩ := (Fz.on Fr.out lR hba).all)
      | (go_at_call 97; refine (columns_any (HV.out.on (HB.out.trans (hba.mono HB.out.size))) HA.out).mono ?_; rintro e wc ⟨vc, rfl, hoc, hbc'⟩; have hbc : Below W0.heap.size W0 wc := hba.trans (hbc'.mono hba.size); obtain ⟨va, vd, rfl⟩ := hoc.slice; obtain ⟨_, _, _, _⟩ := Pa.out.on hbc; obtain ⟨_, _, _, _, _⟩ := Pr.out.on hbc; obtain ⟨_, _, _, _⟩ := (Fz.on Fr.out lR hbc).all))
  all_goals
    have HQ := Lib.hid ((Pr.out.on hbc).set4 (q : Int) (N : Int) (r : Int) (.slice va (flat N r (turn A)).length vd))
    have HO := Lib.hid (hoc.mono (show W0.heap.size ≤ wa.heap.size from hba.size))
    have HB5 := Lib.hid (HB.out.trans (hbc.mono HB.out.size))
    have hsd := hbc.size
    clear hoc hbc hba hbc'
    go_wp2_with fail
    obtain ⟨_, q0, q1, q2, q3⟩ := HQ.out
    refine bodyPost_ret (v := .agg #[.int .i64 q, .int .i64 N, .int .i64 r, .slice va (flat N r (turn A)).length vd]) (by simp [results, Try.results55, go_sem, q0, q1, q2, q3]) rfl ⟨_, rfl, ?_, ?_⟩
    · refine OwnI.mono (B := W0.heap.size) ?_ (by omega)
      repeat (refine OwnI.setOut ?_ (by omega) _)
      exact HO.out
    · repeat (refine Below.setC ?_ (by omega) _)
      exact HB5.out
/-- What CoordinatesIn answers. -/
def CooRes (p n : Int) (zz : List (List Int)) (ys Z : List Int) (k : Int) : Prop :=
  (¬ VOk p n zz ∧ Z = [] ∧ k = 1) ∨ (∃ (q : Nat) (_ : NeZero q) (N r : Nat) (A : Mt q), VIs p n zz q N r A ∧ SolRes q N r (flat N r (turn A)) ys Z k)
theorem cooRes_has (p n : Int) (zz : List (List Int)) (ys : List Int) : ∃ Z k, CooRes p n zz ys Z k := by
  by_cases h : VOk p n zz
  · obtain ⟨q, i, N, r, A, hA⟩ := h.form
    obtain ⟨Z, k, hs⟩ := solRes_has q N r (flat N r (turn A)) ys
    exact ⟨Z, k, .inr ⟨q, i, N, r, A, hA, hs⟩⟩
  · exact ⟨_, _, .inl ⟨h, rfl, rfl⟩⟩
theorem CooRes.len {p n k : Int} {zz : List (List Int)} {ys Z : List Int} (h : CooRes p n zz ys Z k) : Z.length ≤ 1048576 := by
  rcases h with ⟨_, rfl, _⟩ | ⟨q, _, N, r, A, hA, hs⟩
  · simp
  · exact hs.len
set_option maxRecDepth 100000 in
set_option maxHeartbeats 3200000 in
theorem implCoo_b {p n : Int} {zz : List (List Int)} {ys : List Int} {u v : Value} {w : World} (hu : RowsD w u zz) (hv : IntsC w v ys) (h : ¬ VOk p n zz) :
    Calls Try.prog 19 #[.agg #[.int .i64 p, .int .i64 n, u], v] w fun e w' => RetSC [] 1 w e w' := by
  have HU := Lib.hid hu
  have HK : Hid (false = vB p n zz) := (vB_no h).symm
  obtain ⟨a, c, rfl⟩ := hu.1.slice
  obtain ⟨a2, c2, rfl, -, -⟩ := hv.1
  clear h hu
  go_enter Try.func19, Try.ntmps19
  go_wp2_with fail
  refine (implVS_is (T := false) (HU.out.on (al1 (Below.refl _ _) _)) HK.out).mono ?_
  rintro e w1 ⟨rfl, hb⟩
  have HB := Lib.hid (up1 hb)
  clear hb
  go_wp2_with fail
  go_ret2
  exact ⟨_, rfl, OwnI.nul _ _, HB.out⟩
set_option maxRecDepth 100000 in
set_option maxHeartbeats 3200000 in
theorem implCoo_ok {q N r : Nat} [NeZero q] {A : Mt q} {zz : List (List Int)} {ys Z : List Int} {k : Int} {u v : Value} {w : World} (hu : RowsD w u zz) (hv : IntsC w v ys) (hA : VIs q N zz q N r A) (hS : SolRes q N r (flat N r (turn A)) ys Z k) :
    Calls Try.prog 19 #[.agg #[.int .i64 (q : Int), .int .i64 (N : Int), u], v] w fun e w' => RetSC Z k w e w' := by
  have HU := Lib.hid hu
  have HV := Lib.hid hv
  have HK : Hid (true = vB (q : Int) N zz) := (vB_yes hA.ok).symm
  have HRC := Lib.hid (hA.rowsC hu)
  have HM := Lib.hid hA.mis
  have HSR := Lib.hid hS
  have hNr : N * r ≤ 1024 := Nat.mul_le_mul hA.turn.m32 hA.turn.n32
  obtain ⟨a, c, rfl⟩ := hu.1.slice
  obtain ⟨a2, c2, rfl, -, -⟩ := hv.1
  have Pa0 := PtV.new w (q : Int) (N : Int) (.slice a zz.length c) 32
  clear hu hv hA hS
  go_enter Try.func19, Try.ntmps19
  go_wp2_with fail
  refine (implVS_is (T := true) (HU.out.on (al1 (Below.refl _ _) _)) HK.out).mono ?_
  rintro e w1 ⟨rfl, hb⟩
  have HB := Lib.hid (up1 hb)
  have hs1 := HB.out.size
  obtain ⟨lA, x0, x1, x2⟩ := Pa0.on hb
  clear hb Pa0
  go_wp2_with fail
  refine (basisCols_any (HRC.out.on HB.out) HM.out).mono ?_
  rintro e w2 ⟨v2, rfl, ho, hb⟩
  have HC := Lib.hid (ho.atC (by rw [flat_len]; omega))
  obtain ⟨va, vc, rfl⟩ := ho.slice
  have HB := Lib.hid (HB.out.trans (hb.mono hs1))
  have hs2 := HB.out.size
  clear ho hb
  go_wp2_with fail
  refine (implSol_any HC.out (HV.out.on HB.out) HSR.out).mono ?_
  rintro e w3 ⟨v3, rfl, ho, hb⟩
  have HO := Lib.hid ho
  obtain ⟨vb, vd, rfl⟩ := ho.slice
  have HB := Lib.hid (HB.out.trans (hb.mono hs2))
  clear ho hb
  go_wp2_with fail
  go_ret2
  exact ⟨_, rfl, HO.out.mono hs2, HB.out⟩
theorem implCoo_any {p n k : Int} {zz : List (List Int)} {ys Z : List Int} {u v : Value} {w : World} (hu : RowsD w u zz) (hv : IntsC w v ys) (h : CooRes p n zz ys Z k) :
    Calls Try.prog 19 #[.agg #[.int .i64 p, .int .i64 n, u], v] w fun e w' => RetSC Z k w e w' := by
  rcases h with ⟨h, rfl, rfl⟩ | ⟨q, _, N, r, A, hA, hs⟩
  · exact implCoo_b hu hv h
  · obtain ⟨rfl, rfl⟩ : p = q ∧ n = N := ⟨hA.p, hA.n⟩
    exact implCoo_ok hu hv hA hs
/-- What ContainsVector answers. -/
def ConRes (p n : Int) (zz : List (List Int)) (ys : List Int) (T : Bool) : Prop := ∃ Z k, CooRes p n zz ys Z k ∧ T = (k == 0)
theorem conRes_has (p n : Int) (zz : List (List Int)) (ys : List Int) : ∃ T, ConRes p n zz ys T := by
  obtain ⟨Z, k, h⟩ := cooRes_has p n zz ys
  exact ⟨_, Z, k, h, rfl⟩
set_option maxRecDepth 100000 in
set_option maxHeartbeats 3200000 in
theorem implCon_any {p n : Int} {zz : List (List Int)} {ys : List Int} {T : Bool} {u v : Value} {w : World} (hu : RowsD w u zz) (hv : IntsC w v ys) (h : ConRes p n zz ys T) :
    Calls Try.prog 17 #[.agg #[.int .i64 p, .int .i64 n, u], v] w fun e w' => e = .returned (.bool T) ∧ Below w.heap.size w w' := by
  obtain ⟨Z, k, h, rfl⟩ := h
  have HR := Lib.hid h
  have HU := Lib.hid hu
  have HV := Lib.hid hv
  obtain ⟨a, c, rfl⟩ := hu.1.slice
  obtain ⟨a2, c2, rfl, -, -⟩ := hv.1
  clear h hu hv
  go_enter Try.func17, Try.ntmps17
  go_wp2_with fail
  refine (implCoo_any (HU.out.on (by first | exact (Below.refl _ _) | exact al1 (Below.refl _ _) _)) (HV.out.on (by first | exact (Below.refl _ _) | exact al1 (Below.refl _ _) _)) HR.out).mono ?_
  rintro e w1 ⟨v1, rfl, ho, hb⟩
  obtain ⟨vb, vd, rfl⟩ := ho.slice
  have HB : Hid (Below w.heap.size w w1) := by first | exact hb | exact up1 hb
  clear ho hb
  go_wp2_with fail
  go_ret
  exact ⟨rfl, HB.out⟩
end Go.Proofs.Ytpimnngomodnhaa
