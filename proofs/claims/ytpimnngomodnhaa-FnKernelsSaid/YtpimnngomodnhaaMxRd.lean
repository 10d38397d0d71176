/-
  The reduction of the model, at any size.
-/
import Derived.Test.YtpimnngomodnhaaMxRc
namespace Go.Proofs.Ytpimnngomodnhaa
open Go.RowKit
open Lin
set_option linter.unusedVariables false
set_option linter.unusedSectionVars false

set_option maxRecDepth 100000 in
set_option maxHeartbeats 3200000 in
theorem l03Reduced_zero {q m n : Nat} [NeZero q] {A : Mt q} {L : Nat} {v : Value} {w : World} (hp : PtM w L q m n v) (hv : IntsC w v (flat m n A)) (hpr : IsPr (q : Int)) (hm : m ≤ 1048576) (hn : n ≤ 64) (hN : m * n ≤ 1048576) (h0 : m = 0 ∨ n = 0) :
    Calls Try.prog 87 #[.pointer (some ⟨L, 0, none⟩)] w fun e w' => RetRd m n (red m A n) w e w' := by
  have hq2 : 2 ≤ q := by have := hpr.1; omega
  have hq : q ≤ 251 := by have := hpr.2.1; omega
  have hf := fd_of hpr
  have HPR := Lib.hid hpr
  obtain ⟨N0, hN0⟩ : ∃ N0, m * n = N0 := ⟨_, rfl⟩
  have HN0 := Lib.hid hN0
  have hN1 : N0 ≤ 1048576 := by rw [← hN0]; exact hN
  clear hN0
  have HV := Lib.hid hv
  obtain ⟨a1, cp, rfl, hl1, -⟩ := hv.1
  obtain ⟨i0, hi, hz0, hz1, hz2⟩ := info_parts info2
  simp only [flat_len] at hp HV hl1 ⊢
  clear hv
  have lL := hp.1
  have bb := (Below.refl w.heap.size w).alloc (Nat.le_refl _) (.cells #[.int .i64 0, .int .i64 0, .int .i64 0, .slice none 0 0] 26)
  have Pa0 := hp.on bb
  have Pr0 := PtM.new w 0 0 0 (.slice none 0 0) 26
  have Fr0 := Fz.new w #[.int .i64 0, .int .i64 0, .int .i64 0, .slice none 0 0] 26
  clear hp
  have hred : red m A n = ⟨A, 0, [], 1⟩ := by
    rcases h0 with rfl | rfl
    · have h := red_stop (m := 0) (k := 0) (A := A) rfl n
      rw [Nat.zero_add] at h
      rw [h]
      rfl
    · rfl
  have HRD := Lib.hid hred
  have HZ0 := Lib.hid h0
  clear hred h0
  go_enter Try.func87, Try.ntmps87
  go_wp2_with fail
  generalize hW : World.alloc w (.cells #[.int .i64 0, .int .i64 0, .int .i64 0, .slice none 0 0] 26) = W0 at Pa0 Pr0 Fr0 bb ⊢
  obtain ⟨R, hR⟩ : ∃ R, w.heap.size = R := ⟨_, rfl⟩
  have hz : R + 1 ≤ W0.heap.size := by rw [← hW, ← hR]; simp
  have HV := Lib.hid (HV.out.on bb)
  rw [hR] at Pr0 Fr0 lL ⊢
  have HB := Lib.hid bb
  have Pa := Lib.hid Pa0
  have Pr := Lib.hid Pr0
  have Fr : Hid (Fz W0 R) := Fr0
  clear hW bb Pa0 Pr0 Fr0
  obtain ⟨lA, x0, x1, x2, x3⟩ := Pa.out
  have neA := Pa.out.ne
  go_cut [5] (fun sp wx => Hid (∃ (O B E : Nat) (a : Option Addr) (c : Nat), sp = .pointer (some ⟨O, 0, none⟩) ∧ RegM W0 wx O B E q m n (.slice a (flat m n A).length c) (flat m n A)))
  case first =>
    go_region_held3 (fun w' => w'.cell? ⟨L, 0, none⟩ = some (.int .i64 q) ∧ w'.cell? ⟨L, 1, none⟩ = some (.int .i64 m) ∧ w'.cell? ⟨L, 2, none⟩ = some (.int .i64 n) ∧ w'.cell? ⟨L, 3, none⟩ = some (.slice a1 (m * n) cp)) (go_keep)
      (first
        | (go_at_call 103; refine (l00Own_any (by first | exact HV.out | exact HV.out.drew | exact HV.out.al | exact HV.out.al.drew | exact HV.out.drew.al) (by rw [flat_len]; omega)).mono ?_; rintro e w3 ⟨v3, rfl, ho3, hb'⟩; have hb : Below W0.heap.size W0 w3 := (by first | exact hb' | exact undrew hb' | exact up1 hb' | exact up1 (undrew hb') | exact undrew (up1 hb')); obtain ⟨_, _⟩ := bcell hb'; have hs := hb'.size; (try simp at hs); (try have := (by omega : W0.heap.size < w3.heap.size)); obtain ⟨v3a, v3c, rfl⟩ := ho3.slice; obtain ⟨_, _, _, _, _⟩ := Pa.out.on hb; have := (Pa.out.on hb).ne))
    · go_wp2_with fail
      go_meet
      case rel => exact ⟨_, _, _, _, _, rfl, RegM.new (OwnX.of ho3 (Nat.le_refl _)) (by first | exact Nat.le_refl _ | omega | (simp; done) | (simp; omega)) hb⟩
    · go_wp2_with fail
      go_meet
      case rel => exact ⟨_, _, _, _, _, rfl, RegM.set ((PtM.new _ _ _ _ _ _).drew.on hb') (OwnX.of ho3 (Nat.le_refl _)) (by first | omega | (simp; done) | (simp; omega)) (by first | omega | (simp; done) | (simp; omega)) (by first | omega | (simp; done) | (simp; omega)) hb⟩
  obtain ⟨O, B5, E5, av, ac, rfl, hpO, hoO, hB5, hd5, hO5, hb5⟩ := hcut.out
  clear hcut lA x0 x1 x2 x3 neA
  rename World => W1
  simp only [flat_len] at hpO hoO
  have PM := Lib.hid hpO
  have HO := Lib.hid hoO.1
  have HOE := Lib.hid hoO.2
  have Pa := Lib.hid (Pa.out.on hb5)
  have Pr := Lib.hid (Pr.out.on hb5)
  have Fr : Hid (Fz W1 R) := Fr.out.on (by omega) hb5
  have HB := Lib.hid (HB.out.trans (hb5.mono HB.out.size))
  have sO := hpO.1
  have sw := hb5.size
  clear hpO hoO hb5 hd5 HV
  obtain ⟨lA, x0, x1, x2, x3⟩ := Pa.out
  obtain ⟨lM, m0, m1, m2, m3⟩ := PM.out
  go_wp2_with fail
  clear lA x0 x1 x2 x3 lM m0 m1 m2 m3
  have hpv : OwnI W1.heap.size (W1.alloc (.cells #[] 2)) (.slice (some ⟨W1.heap.size, 0, none⟩) 0 0) [] := madeI _ _ (Nat.le_refl _)
  have bb2 := (Below.refl W1.heap.size W1).alloc (Nat.le_refl _) (.cells #[] 2)
  generalize hW2 : World.alloc W1 (.cells #[] 2) = W2 at hpv bb2 ⊢
  obtain ⟨V, hV⟩ : ∃ V, W1.heap.size = V := ⟨_, rfl⟩
  rw [hV] at hpv ⊢
  have HPV := Lib.hid hpv
  have PM := Lib.hid (PM.out.on bb2)
  have HO := Lib.hid (HO.out.on bb2)
  have Pa := Lib.hid (Pa.out.on bb2)
  have Pr := Lib.hid (Pr.out.on bb2)
  have Fr : Hid (Fz W2 R) := Fr.out.on (by omega) bb2
  have HB := Lib.hid (HB.out.trans (bb2.mono (by omega)))
  have sw2 := bb2.size
  clear hW2 bb2 hpv
  obtain ⟨lA, x0, x1, x2, x3⟩ := Pa.out
  obtain ⟨lM, m0, m1, m2, m3⟩ := PM.out
  obtain ⟨lR, r0, r1, r2, r3⟩ := Pr.out
  obtain ⟨f0, f1, f2, f3⟩ := Fr.out.all
  have hq4 := Lib.hid (Pr.out.set4 q m n (.slice av (m * n) ac))
  have neM := PM.out.ne
  rcases HZ0.out with h0 | h0
  · have g1 : ¬ ((0 : Int) < (m : Int)) := by omega
    by_cases hn0 : n = 0
    · as_aux_lemma =>
      have g2 : ¬ ((0 : Int) < (n : Int)) := by omega
      clear hn0 h0
      refine wp_loop_rounds 1 ?_
      rw [rounds_succ]
      go_wp2
      obtain ⟨_, q0, q1, q2, q3⟩ := hq4.out
      refine bodyPost_ret (v := .tuple #[.agg #[.int .i64 q, .int .i64 m, .int .i64 n, .slice av (m * n) ac], .slice (some ⟨V, 0, none⟩) 0 0, .int .i64 1]) (by simp [results, Try.results87, go_sem, q0, q1, q2, q3]) rfl ⟨.slice av (m * n) ac, .slice (some ⟨V, 0, none⟩) 0 0, by rw [HRD.out, fv_one hq2], ?_, ?_, ?_, ⟨V, .inl ⟨fun g hg => by have := HOE.out.2 g hg; have := HOE.out.1; omega, fun g hg => by simp [Value.ownBlock] at hg; omega⟩⟩⟩
      · rw [HRD.out]
        refine OwnI.mono (B := R + 1) ?_ (by omega)
        repeat (refine OwnI.setOut ?_ (by omega) _)
        exact HO.out.mono (by omega)
      · rw [HRD.out]
        refine OwnI.mono (B := V) ?_ (by omega)
        repeat (refine OwnI.setOut ?_ (by omega) _)
        exact HPV.out
      · repeat (refine Below.setC ?_ (by omega) _)
        exact HB.out
    · as_aux_lemma =>
      have g2 : (0 : Int) < (n : Int) := by omega
      clear hn0 h0
      refine wp_loop_rounds 1 ?_
      rw [rounds_succ]
      go_wp2
      obtain ⟨_, q0, q1, q2, q3⟩ := hq4.out
      refine bodyPost_ret (v := .tuple #[.agg #[.int .i64 q, .int .i64 m, .int .i64 n, .slice av (m * n) ac], .slice (some ⟨V, 0, none⟩) 0 0, .int .i64 1]) (by simp [results, Try.results87, go_sem, q0, q1, q2, q3]) rfl ⟨.slice av (m * n) ac, .slice (some ⟨V, 0, none⟩) 0 0, by rw [HRD.out, fv_one hq2], ?_, ?_, ?_, ⟨V, .inl ⟨fun g hg => by have := HOE.out.2 g hg; have := HOE.out.1; omega, fun g hg => by simp [Value.ownBlock] at hg; omega⟩⟩⟩
      · rw [HRD.out]
        refine OwnI.mono (B := R + 1) ?_ (by omega)
        repeat (refine OwnI.setOut ?_ (by omega) _)
        exact HO.out.mono (by omega)
      · rw [HRD.out]
        refine OwnI.mono (B := V) ?_ (by omega)
        repeat (refine OwnI.setOut ?_ (by omega) _)
        exact HPV.out
      · repeat (refine Below.setC ?_ (by omega) _)
        exact HB.out
  · as_aux_lemma =>
    have g2 : ¬ ((0 : Int) < (n : Int)) := by omega
    clear h0
    refine wp_loop_rounds 1 ?_
    rw [rounds_succ]
    go_wp2
    obtain ⟨_, q0, q1, q2, q3⟩ := hq4.out
    refine bodyPost_ret (v := .tuple #[.agg #[.int .i64 q, .int .i64 m, .int .i64 n, .slice av (m * n) ac], .slice (some ⟨V, 0, none⟩) 0 0, .int .i64 1]) (by simp [results, Try.results87, go_sem, q0, q1, q2, q3]) rfl ⟨.slice av (m * n) ac, .slice (some ⟨V, 0, none⟩) 0 0, by rw [HRD.out, fv_one hq2], ?_, ?_, ?_, ⟨V, .inl ⟨fun g hg => by have := HOE.out.2 g hg; have := HOE.out.1; omega, fun g hg => by simp [Value.ownBlock] at hg; omega⟩⟩⟩
    · rw [HRD.out]
      refine OwnI.mono (B := R + 1) ?_ (by omega)
      repeat (refine OwnI.setOut ?_ (by omega) _)
      exact HO.out.mono (by omega)
    · rw [HRD.out]
      refine OwnI.mono (B := V) ?_ (by omega)
      repeat (refine OwnI.setOut ?_ (by omega) _)
      exact HPV.out
    · repeat (refine Below.setC ?_ (by omega) _)
      exact HB.out
theorem l03Reduced_big {q m n : Nat} [NeZero q] {A : Mt q} {L : Nat} {v : Value} {w : World} (hp : PtM w L q m n v) (hv : IntsC w v (flat m n A)) (hpr : IsPr (q : Int)) (hm : m ≤ 1048576) (hn : n ≤ 64) (hN : m * n ≤ 1048576) :
    Calls Try.prog 87 #[.pointer (some ⟨L, 0, none⟩)] w fun e w' => RetRd m n (red m A n) w e w' := by
  rcases Nat.eq_zero_or_pos m with h | h
  · exact l03Reduced_zero hp hv hpr hm hn hN (.inl h)
  · rcases Nat.eq_zero_or_pos n with h2 | h2
    · exact l03Reduced_zero hp hv hpr hm hn hN (.inr h2)
    · exact l03Reduced_ok hp hv hpr hm hn hN (Nat.mul_pos h h2)
theorem l03Reduced_any {q m n : Nat} [NeZero q] {A : Mt q} {L : Nat} {v : Value} {w : World} (hp : PtM w L q m n v) (hv : IntsC w v (flat m n A)) (hpr : IsPr (q : Int)) (hm : m ≤ 32) (hn : n ≤ 64) :
    Calls Try.prog 87 #[.pointer (some ⟨L, 0, none⟩)] w fun e w' => RetRd m n (red m A n) w e w' :=
  l03Reduced_big hp hv hpr (by omega) hn (Nat.le_trans (Nat.mul_le_mul hm hn) (by decide))
end Go.Proofs.Ytpimnngomodnhaa
