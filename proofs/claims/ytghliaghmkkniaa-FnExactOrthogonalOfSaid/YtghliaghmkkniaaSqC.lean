/-
  OrthogonalOf of the model.
-/
import Derived.Test.YtghliaghmkkniaaSqB
import Derived.Test.YtghliaghmkkniaaSpU
namespace Go.Proofs.Ytghliaghmkkniaa
open Go.RowKit
open Lin
set_option linter.unusedVariables false
set_option linter.unusedSectionVars false

set_option maxRecDepth 100000 in
set_option maxHeartbeats 6400000 in
theorem l04Ort_any {q N r : Nat} [NeZero q] {A : Mt q} {L : Nat} {u : Value} {w : World} (hp : PtV w L q N u) (hu : RowsC w u r (rowL N A)) (hq : IsPr (q : Int)) (hr : r ≤ 64) (hN : N ≤ 32) :
    Calls Try.prog 153 #[.pointer (some ⟨L, 0, none⟩)] w fun e w' => RetV q N (ortOf r N A) w e w' := by
  have HRC := Lib.hid hu
  have HQ := Lib.hid hq
  have hrN : r * N ≤ 1048576 := Nat.le_trans (Nat.mul_le_mul hr hN) (by decide)
  obtain ⟨a, c, rfl, -, -⟩ := hu
  have bb := (Below.refl w.heap.size w).alloc (Nat.le_refl _) (.cells #[.int .i64 0, .int .i64 0, .slice none 0 0] 45)
  have Pa0 := hp.on bb
  have Pr0 := PtV.new w 0 0 (.slice none 0 0) 45
  have Fr0 := Fz.new w #[.int .i64 0, .int .i64 0, .slice none 0 0] 45
  have lL := hp.1
  clear hp hq
  go_enter Try.func153, Try.ntmps153
  go_wp2_with fail
  generalize hW : World.alloc w (.cells #[.int .i64 0, .int .i64 0, .slice none 0 0] 45) = w3 at Pa0 Pr0 Fr0 bb ⊢
  obtain ⟨R, hR⟩ : ∃ R, w.heap.size = R := ⟨_, rfl⟩
  have hz : R + 1 ≤ w3.heap.size := by rw [← hW, ← hR]; simp
  rw [hR] at Pr0 Fr0 lL ⊢
  have HB := Lib.hid bb
  have P3 := Lib.hid Pa0
  have Pr := Lib.hid Pr0
  have Fr : Hid (Fz w3 R) := Fr0
  have HRC := Lib.hid (HRC.out.on bb)
  have HRR := Lib.hid hR
  clear hW bb Pa0 Pr0 Fr0 hR
  obtain ⟨lA, x0, x1, x2⟩ := P3.out
  have neA := P3.out.ne
  go_cut [3] (fun sp wx => ∃ (L2 B E : Nat) (a : Option Addr) (c : Nat), sp = .pointer (some ⟨L2, 0, none⟩) ∧ Hid (RegM w3 wx L2 B E (q : Int) (r : Int) (N : Int) (.slice a (r * N) c) (flat r N A)))
  case first =>
    go_region_held3 (fun w' => w'.cell? ⟨L, 0, none⟩ = some (.int .i64 (q : Int)) ∧ w'.cell? ⟨L, 1, none⟩ = some (.int .i64 (N : Int)) ∧ w'.cell? ⟨L, 2, none⟩ = some (.slice a r c)) (go_keep)
      (first
        | (go_at_call 182; refine (l04Rows_any (A := A) (by first | exact HRC.out | exact HRC.out.on ((Below.refl _ _).alloc (Nat.le_refl _) _) | exact (HRC.out.on ((Below.refl _ _).alloc (Nat.le_refl _) _)).drew | exact HRC.out.drew | exact HRC.out.drew.on ((Below.refl _ _).alloc (Nat.le_refl _) _)) (by omega) (by omega) hrN).mono ?_; rintro e wa ⟨va2, rfl, hoa, hba'⟩; have hba : Below w3.heap.size w3 wa := (by first | exact hba' | exact undrew hba' | exact up1 hba' | exact up1 (undrew hba') | exact undrew (up1 hba')); obtain ⟨_, _⟩ := bcell hba'; have hsa := hba'.size; (try simp at hsa); (try have := (by omega : w3.heap.size < wa.heap.size)); obtain ⟨vaa, vac, rfl⟩ := hoa.slice; rw [flat_len] at *; obtain ⟨_, _, _, _⟩ := P3.out.on hba; have := (P3.out.on hba).ne))
    · go_wp2_with fail
      go_meet
      case rel => exact ⟨_, _, _, _, _, rfl, RegM.new (OwnX.of hoa (Nat.le_refl _)) (by have h1 := hba.size; first | omega | (simp; done) | (simp; omega)) hba⟩
    · go_wp2_with fail
      go_meet
      case rel => exact ⟨_, _, _, _, _, rfl, RegM.set (by first | exact (PtM.new _ _ _ _ _ _).on hba' | exact ((PtM.new _ _ _ _ _ _).drew).on hba') (OwnX.of hoa (Nat.le_refl _)) (by have h1 := hba.size; first | omega | (simp; done) | (simp; omega)) (by have h1 := hba.size; first | omega | (simp; done) | (simp; omega)) (by have h1 := hba.size; first | omega | (simp; done) | (simp; omega)) hba⟩
  obtain ⟨L2, B, E, a2, c2, rfl, hc⟩ := hcut
  obtain ⟨hp2, ho2, hB2, hd2, hL2, hb2⟩ := hc.out
  clear hc x0 x1 x2 lA neA
  rename World => w4
  have P4 := Lib.hid hp2
  have HC4 : Hid (IntsC w4 (.slice a2 (r * N) c2) (flat r N A)) := ho2.1.atC (by rw [flat_len]; exact hrN)
  have HB4 := Lib.hid (HB.out.trans (hb2.mono HB.out.size))
  have Pv := Lib.hid (P3.out.on hb2)
  have Pr := Lib.hid (Pr.out.on hb2)
  have Fr : Hid (Fz w4 R) := Fr.out.on (by omega) hb2
  have hz4 : R + 1 ≤ w4.heap.size := by have := hb2.size; omega
  clear hp2 ho2 hb2 hd2
  obtain ⟨lA, x0, x1, x2⟩ := Pv.out
  obtain ⟨lR, r0, r1, r2⟩ := Pr.out
  have f0 := Fr.out 0
  have f1 := Fr.out 1
  have f2 := Fr.out 2
  have neA := Pv.out.ne
  have neR := Pr.out.ne
  have nLR : ¬ L = R := by omega
  have nRL : ¬ R = L := by omega
  have hkl := kerOf_len r N A
  have hkN : (kerOf r N A).length * N ≤ 1048576 := Nat.le_trans (Nat.mul_le_mul (show (kerOf r N A).length ≤ 32 by omega) hN) (by decide)
  go_wp2_with fail
  go_region_held3 (fun w' => w'.cell? ⟨L, 0, none⟩ = some (.int .i64 (q : Int)) ∧ w'.cell? ⟨L, 1, none⟩ = some (.int .i64 (N : Int))) (go_keep)
    (first
      | (go_at_call 144; refine (l03Kernel_any (A := A) P4.out.drew (by first | exact HC4.out.drew | (rw [flat_len]; exact HC4.out.drew)) HQ.out (by omega) (by omega)).mono ?_; rintro e wa ⟨va, rfl, hoa, hba'⟩; have hba := undrew hba'; have hoa2 : OwnRI w4.heap.size wa va (kerOf r N A) := hoa; obtain ⟨vaa, vac, rfl⟩ := hoa.slice; obtain ⟨_, _, _, _⟩ := Pv.out.on hba; obtain ⟨_, _, _, _⟩ := Pr.out.on hba; have := (Pv.out.on hba).ne; have := (Pr.out.on hba).ne)
      | (go_at_call 142; refine (l04Space_any (q := q) (m := (kerOf r N A).length) (n := N) (A := mat q (kerOf r N A)) ((hoa2.atD (fit_kerOf A (by omega))).mat (vecs_kerOf r N A)) HQ.out (by omega) (by omega) hkN).mono ?_; rintro e wb ⟨vb, rfl, hob, hbb⟩; have hob2 : OwnRI wa.heap.size wb vb (ortOf r N A) := hob; have hb3 : Below w4.heap.size w4 wb := hba.trans (hbb.mono hba.size); obtain ⟨vba, vbc, rfl⟩ := hob2.slice; obtain ⟨_, _, _, _⟩ := Pv.out.on hb3; obtain ⟨_, _, _, _⟩ := Pr.out.on hb3; have := Fr.out.on (by omega) hb3 0; have := Fr.out.on (by omega) hb3 1; have := Fr.out.on (by omega) hb3 2; have := (Pv.out.on hb3).ne; have := (Pr.out.on hb3).ne))
  have HQ3 := Lib.hid ((Pr.out.on hb3).set3 q N (.slice vba (ortOf r N A).length vbc))
  have HO := Lib.hid hob2
  have HB5 := Lib.hid (HB4.out.trans (hb3.mono (by have := HRR.out; omega)))
  have hs2 := hba.size
  have hs3 := hbb.size
  clear hoa hob hba hbb hb3 hba' hoa2 hob2
  go_wp2_with fail
  obtain ⟨_, q0, q1, q2⟩ := HQ3.out
  refine bodyPost_ret (v := .agg #[.int .i64 q, .int .i64 N, .slice vba (ortOf r N A).length vbc]) (by simp [results, Try.results153, go_sem, q0, q1, q2]) rfl ⟨_, rfl, ?_, ?_⟩
  · refine OwnRI.mono (B := wa.heap.size) ?_ (by have := HRR.out; omega)
    repeat (refine OwnRI.setOut ?_ (by omega) _)
    exact HO.out
  · repeat (refine Below.setC ?_ (by have := HRR.out; omega) _)
    exact HB5.out
set_option maxRecDepth 100000 in
set_option maxHeartbeats 3200000 in
theorem specOrt_b {p n : Int} {zz : List (List Int)} {u : Value} {w : World} (hu : RowsD w u zz) (h : ¬ VOk p n zz) :
    Calls Try.prog 86 #[.agg #[.int .i64 p, .int .i64 n, u]] w fun e w' => RetVC 0 0 [] 1 w e w' := by
  have HU := Lib.hid hu
  have HK : Hid (false = vB p n zz) := (vB_no h).symm
  obtain ⟨a, c, rfl⟩ := hu.1.slice
  have Pa0 := PtV.new1 w p n (.slice a zz.length c) 45 (.cells #[.int .i64 0, .int .i64 0, .slice none 0 0] 45)
  have Pr0 := PtV.new (w.alloc (.cells #[.int .i64 p, .int .i64 n, .slice a zz.length c] 45)) 0 0 (.slice none 0 0) 45
  have Fr0 := Fz.new (w.alloc (.cells #[.int .i64 p, .int .i64 n, .slice a zz.length c] 45)) #[.int .i64 0, .int .i64 0, .slice none 0 0] 45
  rw [World.size_alloc] at Pr0 Fr0
  clear h hu
  go_enter Try.func86, Try.ntmps86
  go_wp2_with fail
  refine (l04Ok_is (T := false) Pa0 (HU.out.on (al1 (al1 (Below.refl _ _) _) _)) HK.out).mono ?_
  rintro e w1 ⟨rfl, hb⟩
  have HB := Lib.hid (up2 hb)
  have HPt := Lib.hid (Pr0.on hb)
  have HF : Hid (Fz w1 (w.heap.size + 1)) := Fr0.on (by simp) hb
  obtain ⟨lR, r0, r1, r2⟩ := HPt.out
  have f0 := HF.out 0
  have f1 := HF.out 1
  have f2 := HF.out 2
  have HQ3 := Lib.hid (HPt.out.set3 0 0 (.slice none 0 0))
  clear hb Pr0 Fr0
  go_wp2_with fail
  obtain ⟨_, q0, q1, q2⟩ := HQ3.out
  refine bodyPost_ret (v := .tuple #[.agg #[.int .i64 0, .int .i64 0, .slice none 0 0], .int .i64 1]) (by simp [results, Try.results86, go_sem, q0, q1, q2]) rfl ⟨_, rfl, OwnRI.nul _ _, ?_⟩
  repeat (refine Below.setC ?_ (by omega) _)
  exact HB.out
set_option maxRecDepth 100000 in
set_option maxHeartbeats 6400000 in
theorem specOrt_ok {q N r : Nat} [NeZero q] {A : Mt q} {zz : List (List Int)} {u : Value} {w : World} (hu : RowsD w u zz) (hA : VIs q N zz q N r A) :
    Calls Try.prog 86 #[.agg #[.int .i64 (q : Int), .int .i64 (N : Int), u]] w fun e w' => RetVC q N (ortOf r N A) 0 w e w' := by
  have HU := Lib.hid hu
  have HK : Hid (true = vB (q : Int) N zz) := (vB_yes hA.ok).symm
  have HRC := Lib.hid (hA.rowsC hu)
  have HPR := Lib.hid hA.pr
  have hr32 := hA.mis.m32
  have hN32 := hA.n32
  have hl := hA.len
  obtain ⟨a, c, rfl⟩ := hu.1.slice
  rw [hl] at HU HRC ⊢
  have Pa0 := PtV.new1 w (q : Int) (N : Int) (.slice a r c) 45 (.cells #[.int .i64 0, .int .i64 0, .slice none 0 0] 45)
  have Pr0 := PtV.new (w.alloc (.cells #[.int .i64 (q : Int), .int .i64 (N : Int), .slice a r c] 45)) 0 0 (.slice none 0 0) 45
  have Fr0 := Fz.new (w.alloc (.cells #[.int .i64 (q : Int), .int .i64 (N : Int), .slice a r c] 45)) #[.int .i64 0, .int .i64 0, .slice none 0 0] 45
  rw [World.size_alloc] at Pr0 Fr0
  clear hu hA hl
  go_enter Try.func86, Try.ntmps86
  go_wp2_with fail
  refine (l04Ok_is (T := true) Pa0 (HU.out.on (al1 (al1 (Below.refl _ _) _) _)) HK.out).mono ?_
  rintro e w1 ⟨rfl, hb⟩
  have HB := Lib.hid (up2 hb)
  have Pa := Lib.hid (Pa0.on hb)
  have Pr := Lib.hid (Pr0.on hb)
  have Fr : Hid (Fz w1 (w.heap.size + 1)) := Fr0.on (by simp) hb
  have hs1 : w.heap.size + 2 ≤ w1.heap.size := by have := hb.size; simp at this; omega
  clear hb Pa0 Pr0 Fr0
  go_wp2_with fail
  refine (l04Ort_any Pa.out (HRC.out.on HB.out) HPR.out (by omega) hN32).mono ?_
  rintro e w5 ⟨v5, rfl, ho, hb⟩
  have HO := Lib.hid ho
  obtain ⟨vx, vy, rfl⟩ := ho.slice
  have HB := Lib.hid (HB.out.trans (hb.mono (by omega)))
  have Pr := Lib.hid (Pr.out.on hb)
  have Fr : Hid (Fz w5 (w.heap.size + 1)) := Fr.out.on (by omega) hb
  have hs5 := hb.size
  obtain ⟨lR, r0, r1, r2⟩ := Pr.out
  have f0 := Fr.out 0
  have f1 := Fr.out 1
  have f2 := Fr.out 2
  have HQ3 := Lib.hid (Pr.out.set3 q N (.slice vx (ortOf r N A).length vy))
  clear ho hb
  go_wp2_with fail
  obtain ⟨_, q0, q1, q2⟩ := HQ3.out
  refine bodyPost_ret (v := .tuple #[.agg #[.int .i64 q, .int .i64 N, .slice vx (ortOf r N A).length vy], .int .i64 0]) (by simp [results, Try.results86, go_sem, q0, q1, q2]) rfl ⟨_, rfl, ?_, ?_⟩
  · refine OwnRI.mono (B := w1.heap.size) ?_ (by omega)
    repeat (refine OwnRI.setOut ?_ (by omega) _)
    exact HO.out
  · repeat (refine Below.setC ?_ (by omega) _)
    exact HB.out
theorem specOrt_any {p n P N k : Int} {u : Value} {zz Z : List (List Int)} {w : World} (hu : RowsD w u zz) (h : OrtRes p n zz P N Z k) :
    Calls Try.prog 86 #[.agg #[.int .i64 p, .int .i64 n, u]] w fun e w' => RetVC P N Z k w e w' := by
  rcases h with ⟨h, rfl, rfl, rfl, rfl⟩ | ⟨rfl, rfl, rfl, q, _, M, r, A, hA, rfl⟩
  · exact specOrt_b hu h
  · obtain ⟨rfl, rfl⟩ : P = q ∧ N = M := ⟨hA.p, hA.n⟩
    exact specOrt_ok hu hA
end Go.Proofs.Ytghliaghmkkniaa
