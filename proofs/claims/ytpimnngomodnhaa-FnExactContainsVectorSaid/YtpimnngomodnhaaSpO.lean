/-
  ColumnSpace of the model and of the program.
-/
import Derived.Test.YtpimnngomodnhaaSpN
import Derived.Test.YtpimnngomodnhaaSpK
namespace Go.Proofs.Ytpimnngomodnhaa
open Go.RowKit
open Lin
set_option linter.unusedVariables false
set_option linter.unusedSectionVars false

theorem turn_eq {q : Nat} [NeZero q] (A : Mt q) : (fun i j => A j i) = turn A := rfl
theorem RowsC.toD {q m n : Nat} [NeZero q] {A : Mt q} {w : World} {v : Value} (h : RowsC w v m (rowL n A)) (hm : m ≤ 1048576) : RowsD w v (rowsOf m n A) := by
  refine ⟨?_, ?_⟩
  · obtain ⟨a, cap, rfl, _, ⟨rfl, rfl, rfl⟩ | ⟨H, o, rfl, hH, hc⟩⟩ := h
    · exact ⟨none, 0, by rw [rowsOf_len], by rw [rowsOf_len]; omega, .inl (List.eq_nil_of_length_eq_zero (rowsOf_len _ _ _))⟩
    · refine ⟨_, cap, by rw [rowsOf_len], by rw [rowsOf_len]; exact hm, ?_⟩
      by_cases h0 : m = 0
      · subst h0; exact .inl (List.eq_nil_of_length_eq_zero (rowsOf_len _ _ _))
      · refine .inr ⟨H, o, rfl, by omega, fun i hi => ?_⟩
        obtain ⟨u, h1, h2⟩ := hc i (by rw [rowsOf_len] at hi; exact hi)
        refine ⟨u, h1, ?_⟩
        rw [rowsOf_at]; exact h2.1
  · rw [rowsOf_len]
    exact h.congr fun i hi => by rw [getD_row (by rw [rowsOf_len]; exact hi), rowsOf_at]
theorem RowsD.drew {w : World} {v : Value} {zz : List (List Int)} (h : RowsD w v zz) : RowsD w.drew v zz := h
/-- What ColumnSpace answers. -/
def ColRes (p r c : Int) (xs : List Int) (P N : Int) (Z : List (List Int)) (k : Int) : Prop :=
  (¬ MOk p r c xs ∧ P = 0 ∧ N = 0 ∧ Z = [] ∧ k = 1) ∨ (k = 0 ∧ ∃ (u : Nat) (_ : NeZero u) (m n : Nat) (A : Mt u), MIs p r c xs u m n A ∧ P = p ∧ N = r ∧ Z = basOf n m (turn A))
theorem colRes_has (p r c : Int) (xs : List Int) : ∃ P N Z k, ColRes p r c xs P N Z k := by
  by_cases h : MOk p r c xs
  · obtain ⟨u, i, m, n, A, hA⟩ := h.form
    exact ⟨_, _, _, _, .inr ⟨rfl, u, i, m, n, A, hA, rfl, rfl, rfl⟩⟩
  · exact ⟨_, _, _, _, .inl ⟨h, rfl, rfl, rfl, rfl⟩⟩
theorem fit_basOf {q m n : Nat} [NeZero q] (hf : FldP q) (A : Mt q) (hn : n ≤ 1024) : FitR (basOf m n A) := fit_rows _ (Nat.le_trans (piv_le_cols hf m n A) hn) hn
theorem ColRes.fit {p r c P N k : Int} {xs : List Int} {Z : List (List Int)} (h : ColRes p r c xs P N Z k) : FitR Z := by
  rcases h with ⟨_, _, _, rfl, _⟩ | ⟨_, u, _, m, n, A, hA, _, _, rfl⟩
  · exact FitR.nil
  · exact fit_basOf (fd_of hA.pr) _ (by have := hA.m32; omega)
set_option maxRecDepth 100000 in
set_option maxHeartbeats 6400000 in
theorem implCS_b {p r c : Int} {xs : List Int} {u : Value} {w : World} (hu : IntsC w u xs) (hk : ¬ MOk p r c xs) :
    Calls Try.prog 11 #[.agg #[.int .i64 p, .int .i64 r, .int .i64 c, u]] w fun e w' => RetVC 0 0 [] 1 w e w' := by
  have HU := Lib.hid hu
  have HK : Hid (TrRes p r c xs 0 0 0 [] 1) := .inl ⟨hk, rfl, rfl, rfl, rfl, rfl⟩
  obtain ⟨a1, c1, rfl, hl1, -⟩ := hu.1
  clear hk hu
  have Pa0 := PtM.new1 w p r c (.slice a1 xs.length c1) 26 (.cells #[.int .i64 0, .int .i64 0, .slice none 0 0] 32)
  have Pr0 := PtV.new (w.alloc (.cells #[.int .i64 p, .int .i64 r, .int .i64 c, .slice a1 xs.length c1] 26)) 0 0 (.slice none 0 0) 32
  have Fr0 := Fz.new (w.alloc (.cells #[.int .i64 p, .int .i64 r, .int .i64 c, .slice a1 xs.length c1] 26)) #[.int .i64 0, .int .i64 0, .slice none 0 0] 32
  rw [World.size_alloc] at Pr0 Fr0
  go_enter Try.func11, Try.ntmps11
  go_wp2_with fail
  refine (implTr_any (HU.out.on (al1 (al1 (Below.refl _ _) _) _)) HK.out).mono ?_
  rintro e w1 ⟨v, rfl, ho, hb⟩
  obtain ⟨va, vc, rfl⟩ := ho.slice
  have HB := Lib.hid (al1 (up2 hb) (.cells #[.int .i64 0, .int .i64 0, .int .i64 0, .slice va 0 vc] 26))
  have HPt := Lib.hid ((Pr0.on hb).on (al1 (Below.refl _ _) (.cells #[.int .i64 0, .int .i64 0, .int .i64 0, .slice va 0 vc] 26)))
  have HF : Hid (Fz (w1.alloc (.cells #[.int .i64 0, .int .i64 0, .int .i64 0, .slice va 0 vc] 26)) (w.heap.size + 1)) := (Fr0.on (by simp) hb).on (by have := (Pr0.on hb).1; exact this) (al1 (Below.refl _ _) _)
  obtain ⟨lR, r0, r1, r2⟩ := HPt.out
  have f0 := HF.out 0
  have f1 := HF.out 1
  have f2 := HF.out 2
  have HQ3 := Lib.hid (HPt.out.set3 0 0 (.slice none 0 0))
  clear hb ho Pr0 Fr0
  go_wp2_with fail
  obtain ⟨_, q0, q1, q2⟩ := HQ3.out
  refine bodyPost_ret (v := .tuple #[.agg #[.int .i64 0, .int .i64 0, .slice none 0 0], .int .i64 1]) (by simp [results, Try.results11, go_sem, q0, q1, q2]) rfl ⟨_, rfl, OwnRI.nul _ _, ?_⟩
  repeat (refine Below.setC ?_ (by omega) _)
  exact HB.out
set_option maxRecDepth 100000 in
set_option maxHeartbeats 6400000 in
theorem implCS_ok {q m n : Nat} [NeZero q] {A : Mt q} {u : Value} {w : World} (hu : IntsC w u (flat m n A)) (hA : MIs q m n (flat m n A) q m n A) :
    Calls Try.prog 11 #[.agg #[.int .i64 (q : Int), .int .i64 (m : Int), .int .i64 (n : Int), u]] w fun e w' => RetVC q m (basOf n m (turn A)) 0 w e w' := by
  have hm32 := hA.m32
  have hn32 := hA.n32
  have HPR := Lib.hid hA.pr
  have HA := Lib.hid hA
  have HU := Lib.hid hu
  obtain ⟨a1, c1, rfl, hl1, -⟩ := hu.1
  have hnm : n * m ≤ 1024 := Nat.mul_le_mul hn32 hm32
  simp only [flat_len] at HU hl1 ⊢
  clear hA hu
  have Pa0 := PtM.new1 w q m n (.slice a1 (m * n) c1) 26 (.cells #[.int .i64 0, .int .i64 0, .slice none 0 0] 32)
  have Pr0 := PtV.new (w.alloc (.cells #[.int .i64 (q : Int), .int .i64 (m : Int), .int .i64 (n : Int), .slice a1 (m * n) c1] 26)) 0 0 (.slice none 0 0) 32
  have Fr0 := Fz.new (w.alloc (.cells #[.int .i64 (q : Int), .int .i64 (m : Int), .int .i64 (n : Int), .slice a1 (m * n) c1] 26)) #[.int .i64 0, .int .i64 0, .slice none 0 0] 32
  rw [World.size_alloc] at Pr0 Fr0
  go_enter Try.func11, Try.ntmps11
  go_wp2_with fail
  refine (implTr_ok (HU.out.on (al1 (al1 (Below.refl _ _) _) _)) HA.out).mono ?_
  rintro e w0 ⟨v, rfl, ho, hb⟩
  rw [turn_eq] at ho
  have HC := Lib.hid (ho.atC (by rw [flat_len]; omega))
  obtain ⟨va, vc, rfl⟩ := ho.slice
  simp only [flat_len] at HC ⊢
  have Pa := Lib.hid (Pa0.on hb)
  have Pr := Lib.hid (Pr0.on hb)
  have Fr : Hid (Fz w0 (w.heap.size + 1)) := Fr0.on (by simp) hb
  have HB := Lib.hid (up2 hb)
  have hz : w.heap.size + 2 ≤ w0.heap.size := by have := hb.size; simp at this; omega
  clear hb ho Pa0 Pr0 Fr0
  obtain ⟨lA, x0, x1, x2, x3⟩ := Pa.out
  have bb := al1 (Below.refl w0.heap.size w0) (.cells #[.int .i64 q, .int .i64 n, .int .i64 m, .slice va (n * m) vc] 26)
  have Pm0 := PtM.new w0 (q : Int) (n : Int) (m : Int) (.slice va (n * m) vc) 26
  go_wp2_with fail
  generalize hW : World.alloc w0 (.cells #[.int .i64 q, .int .i64 n, .int .i64 m, .slice va (n * m) vc] 26) = w1 at bb Pm0 ⊢
  have hz1 : w0.heap.size + 1 ≤ w1.heap.size := by rw [← hW]; simp
  have Pm := Lib.hid Pm0
  have HC := Lib.hid (HC.out.on bb)
  have Pa := Lib.hid (Pa.out.on bb)
  have Pr := Lib.hid (Pr.out.on bb)
  have Fr : Hid (Fz w1 (w.heap.size + 1)) := Fr.out.on (by omega) bb
  have HB := Lib.hid (HB.out.trans (bb.mono (by omega)))
  clear hW bb Pm0 lA x0 x1 x2 x3
  obtain ⟨lA, x0, x1, x2, x3⟩ := Pa.out
  obtain ⟨lR, r0, r1, r2⟩ := Pr.out
  have f0 := Fr.out 0
  have f1 := Fr.out 1
  have f2 := Fr.out 2
  have neA := Pa.out.ne
  have neR := Pr.out.ne
  go_wp2_with fail
  go_region_held3 (fun w' => w'.cell? ⟨w.heap.size, 0, none⟩ = some (.int .i64 q) ∧ w'.cell? ⟨w.heap.size, 1, none⟩ = some (.int .i64 m)) (go_keep)
    (first
      | (go_at_call 43; refine (implRowsC (A := turn A) Pm.out.drew HC.out.drew hn32 (by omega)).mono ?_; rintro e wa ⟨Ha, rfl, hoa, hHa, hHa2, hba'⟩; have hba := undrew hba'; obtain ⟨_, _, _, _, _⟩ := Pa.out.on hba; obtain ⟨_, _, _, _⟩ := Pr.out.on hba; have := (Pa.out.on hba).ne; have := (Pr.out.on hba).ne)
      | (go_at_call 24; refine (implSpO_ok (q := q) (M := m) (hoa.toD (by omega)) HPR.out hm32 (vecs_rowsOf _ _ _) (by rw [rowsOf_len]; omega)).mono ?_; rintro e wb ⟨vb, rfl, hob, hbb⟩; rw [bas_rowsOf (fd_of HPR.out)] at hob; have hb2 : Below w1.heap.size w1 wb := hba.trans (hbb.mono hba.size); obtain ⟨vba, vbc, rfl⟩ := hob.slice; obtain ⟨_, _, _, _, _⟩ := Pa.out.on hb2; obtain ⟨_, _, _, _⟩ := Pr.out.on hb2; have := Fr.out.on (by omega) hb2 0; have := Fr.out.on (by omega) hb2 1; have := Fr.out.on (by omega) hb2 2; have := (Pa.out.on hb2).ne; have := (Pr.out.on hb2).ne))
  have HQ3 := Lib.hid ((Pr.out.on hb2).set3 q m (.slice vba (basOf n m (turn A)).length vbc))
  have HO := Lib.hid hob
  have HB2 := Lib.hid (HB.out.trans (hb2.mono (by omega)))
  have hs2 := hba.size
  have hs3 := hbb.size
  clear hoa hob hba hbb hb2 hba'
  go_wp2_with fail
  obtain ⟨_, q0, q1, q2⟩ := HQ3.out
  refine bodyPost_ret (v := .tuple #[.agg #[.int .i64 q, .int .i64 m, .slice vba (basOf n m (turn A)).length vbc], .int .i64 0]) (by simp [results, Try.results11, go_sem, q0, q1, q2]) rfl ⟨_, rfl, ?_, ?_⟩
  · refine OwnRI.mono (B := wa.heap.size) ?_ (by omega)
    repeat (refine OwnRI.setOut ?_ (by omega) _)
    exact HO.out
  · repeat (refine Below.setC ?_ (by omega) _)
    exact HB2.out
theorem implCS_any {p r c P N k : Int} {u : Value} {xs : List Int} {Z : List (List Int)} {w : World} (hu : IntsC w u xs) (h : ColRes p r c xs P N Z k) :
    Calls Try.prog 11 #[.agg #[.int .i64 p, .int .i64 r, .int .i64 c, u]] w fun e w' => RetVC P N Z k w e w' := by
  rcases h with ⟨h, rfl, rfl, rfl, rfl⟩ | ⟨rfl, u', _, m, n, A, hA, rfl, rfl, rfl⟩
  · exact implCS_b hu h
  · obtain ⟨rfl, rfl, rfl, rfl, h5, h6, h7⟩ := hA
    exact implCS_ok hu ⟨rfl, rfl, rfl, rfl, h5, h6, h7⟩
end Go.Proofs.Ytpimnngomodnhaa
