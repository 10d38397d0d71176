/-
  OrthogonalOf of the model and of the program.
-/
import Derived.Test.YtlakkmhfaojebaaSpW
import Derived.Test.YtlakkmhfaojebaaSpK
import Derived.Test.YtlakkmhfaojebaaPC
namespace Go.Proofs.Ytlakkmhfaojebaa
open Go.RowKit
open Lin
set_option linter.unusedVariables false
set_option linter.unusedSectionVars false

theorem vecs_kerOf {q : Nat} [NeZero q] (m n : Nat) (A : Mt q) : Vecs q n (kerOf m n A) := vecs_kerR n _ _ _
theorem kerOf_len {q : Nat} [NeZero q] (m n : Nat) (A : Mt q) : (kerOf m n A).length ≤ n := by unfold kerOf; rw [kerR_len]; exact freeL_len _ _
/-- The rows that are orthogonal to those of a matrix, reduced. -/
noncomputable def ortOf {q : Nat} [NeZero q] (m n : Nat) (A : Mt q) : List (List Int) := bas q n (kerOf m n A)
theorem fit_ortOf {q m n : Nat} [NeZero q] (hf : FldP q) (A : Mt q) (hn : n ≤ 1024) : FitR (ortOf m n A) := fit_bas hf hn _
/-- What OrthogonalOf answers. -/
def OrtRes (p n : Int) (zz : List (List Int)) (P N : Int) (Z : List (List Int)) (k : Int) : Prop :=
  (¬ VOk p n zz ∧ P = 0 ∧ N = 0 ∧ Z = [] ∧ k = 1) ∨ (k = 0 ∧ P = p ∧ N = n ∧ ∃ (q : Nat) (_ : NeZero q) (M r : Nat) (A : Mt q), VIs p n zz q M r A ∧ Z = ortOf r M A)
theorem ortRes_has (p n : Int) (zz : List (List Int)) : ∃ P N Z k, OrtRes p n zz P N Z k := by
  by_cases h : VOk p n zz
  · obtain ⟨q, i, N, r, A, hA⟩ := h.form
    exact ⟨_, _, _, _, .inr ⟨rfl, rfl, rfl, q, i, N, r, A, hA, rfl⟩⟩
  · exact ⟨_, _, _, _, .inl ⟨h, rfl, rfl, rfl, rfl⟩⟩
theorem OrtRes.fit {p n P N k : Int} {zz Z : List (List Int)} (h : OrtRes p n zz P N Z k) : FitR Z := by
  rcases h with ⟨_, _, _, rfl, _⟩ | ⟨_, _, _, q, _, M, r, A, hA, rfl⟩
  · exact FitR.nil
  · exact fit_ortOf (fd_of hA.pr) _ (by have := hA.n32; omega)
set_option maxRecDepth 100000 in
set_option maxHeartbeats 3200000 in
theorem implOrt_b {p n : Int} {zz : List (List Int)} {u : Value} {w : World} (hu : RowsD w u zz) (h : ¬ VOk p n zz) :
    Calls Try.prog 92 #[.agg #[.int .i64 p, .int .i64 n, u]] w fun e w' => RetVC 0 0 [] 1 w e w' := by
  have HU := Lib.hid hu
  have HK : Hid (false = vB p n zz) := (vB_no h).symm
  obtain ⟨a, c, rfl⟩ := hu.1.slice
  have Pr0 := PtV.new (w.alloc (.cells #[.int .i64 p, .int .i64 n, .slice a zz.length c] 32)) 0 0 (.slice none 0 0) 32
  have Fr0 := Fz.new (w.alloc (.cells #[.int .i64 p, .int .i64 n, .slice a zz.length c] 32)) #[.int .i64 0, .int .i64 0, .slice none 0 0] 32
  rw [World.size_alloc] at Pr0 Fr0
  clear h hu
  go_enter Try.func92, Try.ntmps92
  go_wp2_with fail
  refine (implVS_is (T := false) (HU.out.on (al1 (al1 (Below.refl _ _) _) _)) HK.out).mono ?_
  rintro e w1 ⟨rfl, hb⟩
  have HB := Lib.hid (up2 hb)
  have HPt := Lib.hid (Pr0.on hb)
  have HF : Hid (Fz w1 (w.heap.size + 1)) := Fr0.on (by simp) hb
  obtain ⟨lR, r0, r1, r2⟩ := HPt.out
  have f0 := HF.out 0
  have f1 := HF.out 1
  have f2 := HF.out 2
  have HQ3 := Lib.hid (HPt.out.set3 0 0 (.slice none 0 0))
  clear hb Pr0 Fr0
  go_wp2_with fail
  obtain ⟨_, q0, q1, q2⟩ := HQ3.out
  refine bodyPost_ret (v := .tuple #[.agg #[.int .i64 0, .int .i64 0, .slice none 0 0], .int .i64 1]) (by simp [results, Try.results92, go_sem, q0, q1, q2]) rfl ⟨_, rfl, OwnRI.nul _ _, ?_⟩
  repeat (refine Below.setC ?_ (by omega) _)
  exact HB.out
set_option maxRecDepth 100000 in
set_option maxHeartbeats 6400000 in
theorem implOrt_ok {q N r : Nat} [NeZero q] {A : Mt q} {zz : List (List Int)} {u : Value} {w : World} (hu : RowsD w u zz) (hA : VIs q N zz q N r A) :
    Calls Try.prog 92 #[.agg #[.int .i64 (q : Int), .int .i64 (N : Int), u]] w fun e w' => RetVC q N (ortOf r N A) 0 w e w' := by
  have HU := Lib.hid hu
  have HK : Hid (true = vB (q : Int) N zz) := (vB_yes hA.ok).symm
  have HRC := Lib.hid (hA.rowsC hu)
  have HM := Lib.hid hA.mis
  have HPR := Lib.hid hA.pr
  have hr32 := hA.mis.m32
  have hN32 := hA.n32
  have hrN : r * N ≤ 1024 := Nat.mul_le_mul hr32 hN32
  have hl := hA.len
  obtain ⟨a, c, rfl⟩ := hu.1.slice
  rw [hl] at HU HRC ⊢
  have Pa0 := PtV.new1 w (q : Int) (N : Int) (.slice a r c) 32 (.cells #[.int .i64 0, .int .i64 0, .slice none 0 0] 32)
  have Pr0 := PtV.new (w.alloc (.cells #[.int .i64 (q : Int), .int .i64 (N : Int), .slice a r c] 32)) 0 0 (.slice none 0 0) 32
  have Fr0 := Fz.new (w.alloc (.cells #[.int .i64 (q : Int), .int .i64 (N : Int), .slice a r c] 32)) #[.int .i64 0, .int .i64 0, .slice none 0 0] 32
  rw [World.size_alloc] at Pr0 Fr0
  clear hu hA hl
  go_enter Try.func92, Try.ntmps92
  go_wp2_with fail
  refine (implVS_is (T := true) (HU.out.on (al1 (al1 (Below.refl _ _) _) _)) HK.out).mono ?_
  rintro e w1 ⟨rfl, hb⟩
  have HB := Lib.hid (up2 hb)
  have Pa := Lib.hid (Pa0.on hb)
  have Pr := Lib.hid (Pr0.on hb)
  have Fr : Hid (Fz w1 (w.heap.size + 1)) := Fr0.on (by simp) hb
  have hs1 : w.heap.size + 2 ≤ w1.heap.size := by have := hb.size; simp at this; omega
  clear hb Pa0 Pr0 Fr0
  obtain ⟨lA, x0, x1, x2⟩ := Pa.out
  go_wp2_with fail
  refine (basisMat_any (HRC.out.on HB.out) hr32 hN32).mono ?_
  rintro e w2 ⟨v2, rfl, ho, hb⟩
  have HC := Lib.hid (ho.atC (by rw [flat_len]; omega))
  obtain ⟨va, vc, rfl⟩ := ho.slice
  have HB := Lib.hid (HB.out.trans (hb.mono (by omega)))
  have Pa := Lib.hid (Pa.out.on hb)
  have Pr := Lib.hid (Pr.out.on hb)
  have Fr : Hid (Fz w2 (w.heap.size + 1)) := Fr.out.on (by omega) hb
  have hs2 := hb.size
  clear ho hb lA x0 x1 x2
  obtain ⟨lA, x0, x1, x2⟩ := Pa.out
  go_wp2_with fail
  refine (implKer_ok HC.out HM.out).mono ?_
  rintro e w3 ⟨v3, rfl, ho, hb⟩
  have HKR := Lib.hid ((ho.atD (fit_kerOf A (by omega))).mat (vecs_kerOf r N A))
  obtain ⟨vb, vd, rfl⟩ := ho.slice
  have HB := Lib.hid (HB.out.trans (hb.mono (by omega)))
  have Pa := Lib.hid (Pa.out.on hb)
  have Pr := Lib.hid (Pr.out.on hb)
  have Fr : Hid (Fz w3 (w.heap.size + 1)) := Fr.out.on (by omega) hb
  have hs3 := hb.size
  clear ho hb lA x0 x1 x2
  obtain ⟨lA, x0, x1, x2⟩ := Pa.out
  go_wp2_with fail
  refine (shapeOf_any (q : Int) (N : Int) w3).mono ?_
  rintro e w4 ⟨rfl, hb⟩
  have HB := Lib.hid (HB.out.trans (hb.mono (by omega)))
  have Pr := Lib.hid (Pr.out.on hb)
  have Fr : Hid (Fz w4 (w.heap.size + 1)) := Fr.out.on (by omega) hb
  have HKR := Lib.hid (HKR.out.on hb)
  have hs4 := hb.size
  clear hb lA x0 x1 x2
  have hkl := kerOf_len r N A
  go_wp2_with fail
  refine (span_any HKR.out HPR.out (by omega) (by omega)).mono ?_
  rintro e w5 ⟨v5, rfl, ho, hb⟩
  have HO : Hid (OwnRI w4.heap.size w5 v5 (ortOf r N A)) := ho
  obtain ⟨vx, vy, rfl⟩ := HO.out.slice
  have HB := Lib.hid (HB.out.trans (hb.mono (by omega)))
  have Pr := Lib.hid (Pr.out.on hb)
  have Fr : Hid (Fz w5 (w.heap.size + 1)) := Fr.out.on (by omega) hb
  have hs5 := hb.size
  obtain ⟨lR, r0, r1, r2⟩ := Pr.out
  have f0 := Fr.out 0
  have f1 := Fr.out 1
  have f2 := Fr.out 2
  have HQ3 := Lib.hid (Pr.out.set3 q N (.slice vx (ortOf r N A).length vy))
  clear ho hb
  go_wp2_with fail
  obtain ⟨_, q0, q1, q2⟩ := HQ3.out
  refine bodyPost_ret (v := .tuple #[.agg #[.int .i64 q, .int .i64 N, .slice vx (ortOf r N A).length vy], .int .i64 0]) (by simp [results, Try.results92, go_sem, q0, q1, q2]) rfl ⟨_, rfl, ?_, ?_⟩
  · refine OwnRI.mono (B := w4.heap.size) ?_ (by omega)
    repeat (refine OwnRI.setOut ?_ (by omega) _)
    exact HO.out
  · repeat (refine Below.setC ?_ (by omega) _)
    exact HB.out
theorem implOrt_any {p n P N k : Int} {u : Value} {zz Z : List (List Int)} {w : World} (hu : RowsD w u zz) (h : OrtRes p n zz P N Z k) :
    Calls Try.prog 92 #[.agg #[.int .i64 p, .int .i64 n, u]] w fun e w' => RetVC P N Z k w e w' := by
  rcases h with ⟨h, rfl, rfl, rfl, rfl⟩ | ⟨rfl, rfl, rfl, q, _, M, r, A, hA, rfl⟩
  · exact implOrt_b hu h
  · obtain ⟨rfl, rfl⟩ : P = q ∧ N = M := ⟨hA.p, hA.n⟩
    exact implOrt_ok hu hA
end Go.Proofs.Ytlakkmhfaojebaa
