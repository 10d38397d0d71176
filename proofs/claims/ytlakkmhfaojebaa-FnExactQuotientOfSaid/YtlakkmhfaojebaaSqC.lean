/-
  OrthogonalOf of the model.
-/
import Derived.Test.YtlakkmhfaojebaaSqB
import Derived.Test.YtlakkmhfaojebaaSpU
namespace Go.Proofs.Ytlakkmhfaojebaa
open Go.RowKit
open Lin
set_option linter.unusedVariables false
set_option linter.unusedSectionVars false

set_option maxRecDepth 100000 in
set_option maxHeartbeats 6400000 in
theorem l04Ort_any {q N r : Nat} [NeZero q] {A : Mt q} {L : Nat} {u : Value} {w : World} (hp : PtV w L q N u) (hu : RowsC w u r (rowL N A)) (hq : IsPr (q : Int)) (hr : r ≤ 64) (hN : N ≤ 32) :
    Calls Try.prog 91 #[.pointer (some ⟨L, 0, none⟩)] w fun e w' => RetV q N (ortOf r N A) w e w' := by
  have HRC := Lib.hid hu
  have HQ := Lib.hid hq
  have hrN : r * N ≤ 1048576 := Nat.le_trans (Nat.mul_le_mul hr hN) (by decide)
  obtain ⟨a, c, rfl, -, -⟩ := hu
  have bb := (Below.refl w.heap.size w).alloc (Nat.le_refl _) (.cells #[.int .i64 0, .int .i64 0, .slice none 0 0] 32)
  have Pa0 := hp.on bb
  have Pr0 := PtV.new w 0 0 (.slice none 0 0) 32
  have Fr0 := Fz.new w #[.int .i64 0, .int .i64 0, .slice none 0 0] 32
  have lL := hp.1
  clear hp hq
  go_enter Try.func91, Try.ntmps91
  go_wp2_with fail
  generalize hW : World.alloc w (.cells #[.int .i64 0, .int .i64 0, .slice none 0 0] 32) = w3 at Pa0 Pr0 Fr0 bb ⊢
  obtain ⟨R, hR⟩ : ∃ R, w.heap.size = R := ⟨_, rfl⟩
  have hz : R + 1 ≤ w3.heap.size := by rw [← hW, ← hR]; simp
  rw [hR] at Pr0 Fr0 lL ⊢
  have HB := Lib.hid bb
  have P3 := Lib.hid Pa0
  have Pr := Lib.hid Pr0
  have Fr : Hid (Fz w3 R) := Fr0
  have HRC := Lib.hid (HRC.out.on bb)
  have HRR := Lib.hid hR
  clear hW bb Pa0 Pr0 Fr0 hR
  obtain ⟨lA, x0, x1, x2⟩ := P3.out
  have neA := P3.out.ne
  go_cut [3] (fun sp wx => ∃ (L2 B E : Nat) (a : Option Addr) (c : Nat), sp = .pointer (some ⟨L2, 0, none⟩) ∧ Hid (RegM w3 wx L2 B E (q : Int) (r : Int) (N : Int) (.slice a (r * N) c) (flat r N A)))
  case first =>
    go_region_held3 (fun w' => w'.cell? ⟨L, 0, none⟩ = some (.int .i64 (q : Int)) ∧ w'.cell? ⟨L, 1, none⟩ = some (.int .i64 (N : Int)) ∧ w'.cell? ⟨L, 2, none⟩ = some (.slice a r c)) (go_keep)
      (first
        | (go_at_call 128; refine (l04Rows_any (A := A) (by first | exact HRC.out | exact HRC.out.on ((Below.refl _ _).alloc (Nat.le_refl _) _) | exact (HRC.out.on ((Below.refl _ _).alloc (Nat.le_refl _) _)).drew | exact HRC.out.drew | exact HRC.out.drew.on ((Below.refl _ _).alloc (Nat.le_refl _) _)) (by omega) (by omega) hrN).mono ?_; rintro e wa ⟨va2, rfl, hoa, hba'⟩; have hba : Below w3.heap.size w3 wa := (by first | exact hba' | exact undrew hba' | exact up1 hba' | exact up1 (undrew hba') | exact undrew (up1 hba')); obtain ⟨_, _⟩ := bcell hba'; have hsa := hba'.size; (try simp at hsa); (try have := (by omega : w3.heap.size < wa.heap.size)); obtain ⟨vaa, vac, rfl⟩ := hoa.slice; rw [flat_len] at *; obtain ⟨_, _, _, _⟩ := P3.out.on hba; have := (P3.out.on hba).ne))
    · go_wp2_with fail
      go_meet
      case rel => exact ⟨_, _, _, _, _, rfl, RegM.new (OwnX.of hoa (Nat.le_refl _)) (by have h1 := hba.size; first | omega | (simp; done) | (simp; omega)) hba⟩
    · go_wp2_with fail
      go_meet
      case rel => exact ⟨_, _, _, _, _, rfl, RegM.set (by first | exact (PtM.new _ _ _ _ _ _).on hba' | exact ((PtM.new _ _ _ _ _ _).drew).on hba') (OwnX.of hoa (Nat.le_refl _)) (by have h1 := hba.size; first | omega | (simp; done) | (simp; omega)) (by have h1 := hba.size; first | omega | (simp; done) | (simp; omega)) (by have h1 := hba.size; first | omega | (simp; done) | (simp; omega)) hba⟩
  obtain ⟨L2, B, E, a2, c2, rfl, hc⟩ := hcut
  obtain ⟨hp2, ho2, hB2, hd2, hL2, hb2⟩ := hc.out
  clear hc x0 x1 x2 lA neA
  rename World => w4
  have P4 := Lib.hid hp2
  have HC4 : Hid (IntsC w4 (.slice a2 (r * N) c2) (flat r N A)) := ho2.1.atC (by rw [flat_len]; exact hrN)
  have HB4 := Lib.hid (HB.out.trans (hb2.mono HB.out.size))
  have Pv := Lib.hid (P3.out.on hb2)
  have Pr := Lib.hid (Pr.out.on hb2)
  have Fr : Hid (Fz w4 R) := Fr.out.on (by omega) hb2
  have hz4 : R + 1 ≤ w4.heap.size := by have := hb2.size; omega
  clear hp2 ho2 hb2 hd2
  obtain ⟨lA, x0, x1, x2⟩ := Pv.out
  obtain ⟨lR, r0, r1, r2⟩ := Pr.out
  have f0 := Fr.out 0
  have f1 := Fr.out 1
  have f2 := Fr.out 2
  have neA := Pv.out.ne
  have neR := Pr.out.ne
  have nLR : ¬ L = R := by omega
  have nRL : ¬ R = L := by omega
  have hkl := kerOf_len r N A
  have hkN : (kerOf r N A).length * N ≤ 1048576 := Nat.le_trans (Nat.mul_le_mul (show (kerOf r N A).length ≤ 32 by omega) hN) (by decide)
  go_wp2_with fail
  go_region_held3 (fun w' => w'.cell? ⟨L, 0, none⟩ = some (.int .i64 (q : Int)) ∧ w'.cell? ⟨L, 1, none⟩ = some (.int .i64 (N : Int))) (go_keep)
    (first
      | (go_at_call 129; refine (l03Kernel_any (A := A) P4.out.drew (by first | exact HC4.out.drew | (rw [flat_len]; exact HC4.out.drew)) HQ.out (by omega) (by omega)).mono ?_; rintro e wa ⟨va, rfl, hoa, hba'⟩; have hba := undrew hba'; have hoa2 : OwnRI w4.heap.size wa va (kerOf r N A) := hoa; obtain ⟨vaa, vac, rfl⟩ := hoa.slice; obtain ⟨_, _, _, _⟩ := Pv.out.on hba; obtain ⟨_, _, _, _⟩ := Pr.out.on hba; have := (Pv.out.on hba).ne; have := (Pr.out.on hba).ne)
      | (go_at_call 86; refine (l04Space_any (q := q) (m := (kerOf r N A).length) (n := N) (A := mat q (kerOf r N A)) ((hoa2.atD (fit_kerOf A (by omega))).mat (vecs_kerOf r N A)) HQ.out (by omega) (by omega) hkN).mono ?_; rintro e wb ⟨vb, rfl, hob, hbb⟩; have hob2 : OwnRI wa.heap.size wb vb (ortOf r N A) := hob; have hb3 : Below w4.heap.size w4 wb := hba.trans (hbb.mono hba.size); obtain ⟨vba, vbc, rfl⟩ := hob2.slice; obtain ⟨_, _, _, _⟩ := Pv.out.on hb3; obtain ⟨_, _, _, _⟩ := Pr.out.on hb3; have := Fr.out.on (by omega) hb3 0; have := Fr.out.on (by omega) hb3 1; have := Fr.out.on (by omega) hb3 2; have := (Pv.out.on hb3).ne; have := (Pr.out.on hb3).ne))
  have HQ3 := Lib.hid ((Pr.out.on hb3).set3 q N (.slice vba (ortOf r N A).length vbc))
  have HO := Lib.hid hob2
  have HB5 := Lib.hid (HB4.out.trans (hb3.mono (by have := HRR.out; omega)))
  have hs2 := hba.size
  have hs3 := hbb.size
  clear hoa hob hba hbb hb3 hba' hoa2 hob2
  go_wp2_with fail
  obtain ⟨_, q0, q1, q2⟩ := HQ3.out
  refine bodyPost_ret (v := .agg #[.int .i64 q, .int .i64 N, .slice vba (ortOf r N A).length vbc]) (by simp [results, Try.results91, go_sem, q0, q1, q2]) rfl ⟨_, rfl, ?_, ?_⟩
  · refine OwnRI.mono (B := wa.heap.size) ?_ (by have := HRR.out; omega)
    repeat (refine OwnRI.setOut ?_ (by omega) _)
    exact HO.out
  · repeat (refine Below.setC ?_ (by have := HRR.out; omega) _)
    exact HB5.out
end Go.Proofs.Ytlakkmhfaojebaa
