/-
  RankOf of the program.
  ReducedForm of the program.
  DeterminantOf of the program.
  The inverse of the model's chapter 3.
  A matrix that is worked on in its flat cells.
-/
import Derived.Test.YtpimnngomodnhaaPF
import Derived.Test.YtpimnngomodnhaaPB
namespace Go.Proofs.Ytpimnngomodnhaa
open Go.RowKit
open Lin
set_option linter.unusedVariables false
set_option linter.unusedSectionVars false

/-- What RankOf answers. -/
def RkRes (p r c : Int) (xs : List Int) (k1 k2 : Int) : Prop :=
  (¬ MOk p r c xs ∧ k1 = 0 ∧ k2 = 1) ∨ (k2 = 0 ∧ ∃ (u : Nat) (_ : NeZero u) (m n : Nat) (A : Mt u), MIs p r c xs u m n A ∧ k1 = ((red m A n).piv.length : Int))
theorem rkRes_has (p r c : Int) (xs : List Int) : ∃ k1 k2, RkRes p r c xs k1 k2 := by
  by_cases h : MOk p r c xs
  · obtain ⟨u, i, m, n, A, hA⟩ := h.form
    exact ⟨_, _, .inr ⟨rfl, u, i, m, n, A, hA, rfl⟩⟩
  · exact ⟨_, _, .inl ⟨h, rfl, rfl⟩⟩
/-- Two numbers. -/
def RetII (k1 k2 : Int) (w : World) (e : Ending) (w' : World) : Prop := e = .returned (.tuple #[.int .i64 k1, .int .i64 k2]) ∧ Below w.heap.size w w'
end Go.Proofs.Ytpimnngomodnhaa

namespace Go.Proofs.Ytpimnngomodnhaa
open Go.RowKit
open Lin
set_option linter.unusedVariables false
set_option linter.unusedSectionVars false

/-- What ReducedForm answers. -/
def RfRes (p r c : Int) (xs : List Int) (P R C : Int) (zs ps : List Int) (k : Int) : Prop :=
  (¬ MOk p r c xs ∧ P = 0 ∧ R = 0 ∧ C = 0 ∧ zs = [] ∧ ps = [] ∧ k = 1) ∨ (k = 0 ∧ ∃ (u : Nat) (_ : NeZero u) (m n : Nat) (A : Mt u), MIs p r c xs u m n A ∧ P = p ∧ R = r ∧ C = c ∧ zs = flat m n (red m A n).A ∧ ps = pivI (red m A n).piv)
theorem rfRes_has (p r c : Int) (xs : List Int) : ∃ P R C zs ps k, RfRes p r c xs P R C zs ps k := by
  by_cases h : MOk p r c xs
  · obtain ⟨u, i, m, n, A, hA⟩ := h.form
    exact ⟨_, _, _, _, _, _, .inr ⟨rfl, u, i, m, n, A, hA, rfl, rfl, rfl, rfl, rfl⟩⟩
  · exact ⟨_, _, _, _, _, _, .inl ⟨h, rfl, rfl, rfl, rfl, rfl, rfl⟩⟩
/-- Two values lie in blocks of their own. -/
def Sep (v pv : Value) : Prop := ∃ K, ((∀ g, v.ownBlock = some g → g < K) ∧ ∀ g, pv.ownBlock = some g → K ≤ g) ∨ ((∀ g, pv.ownBlock = some g → g < K) ∧ ∀ g, v.ownBlock = some g → K ≤ g)
theorem OwnI.up {B C : Nat} {w : World} {v : Value} {zs : List Int} (h : OwnI B w v zs) (hC : ∀ g, v.ownBlock = some g → C ≤ g) : OwnI C w v zs := by
  obtain ⟨hx, ⟨rfl, hn⟩ | ⟨g, cap, cur, rfl, hB, r⟩⟩ := h
  · exact ⟨hx, .inl ⟨rfl, hn⟩⟩
  · exact ⟨hx, .inr ⟨g, cap, cur, rfl, hC g rfl, r⟩⟩
theorem sep_half {B K : Nat} {w : World} {v pv : Value} {zs ps : List Int} (h1 : OwnI B w v zs) (h2 : OwnI B w pv ps) (hB : B ≤ w.heap.size) (a : ∀ g, v.ownBlock = some g → g < K) (b : ∀ g, pv.ownBlock = some g → K ≤ g) :
    ∃ B1 E1 B2 E2, OwnX B1 E1 w v zs ∧ OwnX B2 E2 w pv ps ∧ E1 ≤ B2 ∧ B ≤ B1 ∧ B ≤ B2 ∧ E1 ≤ w.heap.size ∧ E2 ≤ w.heap.size := by
  refine ⟨B, max B (min K w.heap.size), max B (min K w.heap.size), w.heap.size, ⟨h1, by omega, fun g hg => ?_⟩, ⟨h2.up fun g hg => ?_, Nat.le_refl _, fun g hg => (h2.out.lt g hg).2⟩, Nat.le_refl _, Nat.le_refl _, by omega, by omega, Nat.le_refl _⟩
  · have := (h1.out.lt g hg).2
    have := a g hg
    omega
  · have := (h2.out.lt g hg).1
    have := b g hg
    omega
theorem sep_own {B : Nat} {w : World} {v pv : Value} {zs ps : List Int} (h1 : OwnI B w v zs) (h2 : OwnI B w pv ps) (hs : Sep v pv) (hB : B ≤ w.heap.size) :
    ∃ B1 E1 B2 E2, OwnX B1 E1 w v zs ∧ OwnX B2 E2 w pv ps ∧ Hid (E1 ≤ B2 ∨ E2 ≤ B1) ∧ B ≤ B1 ∧ B ≤ B2 ∧ E1 ≤ w.heap.size ∧ E2 ≤ w.heap.size := by
  obtain ⟨K, ⟨a, b⟩ | ⟨a, b⟩⟩ := hs
  · obtain ⟨B1, E1, B2, E2, x1, x2, x3, x4, x5, x6, x7⟩ := sep_half h1 h2 hB a b
    exact ⟨B1, E1, B2, E2, x1, x2, .inl x3, x4, x5, x6, x7⟩
  · obtain ⟨B1, E1, B2, E2, x1, x2, x3, x4, x5, x6, x7⟩ := sep_half h2 h1 hB a b
    exact ⟨B2, E2, B1, E1, x2, x1, .inr x3, x5, x4, x7, x6⟩
theorem sep_nil (v : Value) : Sep v (.slice none 0 0) := ⟨0, .inr ⟨fun g hg => by simp [Value.ownBlock] at hg, fun g _ => Nat.zero_le g⟩⟩
/-- A matrix, numbers and a code. -/
def RetMSI (P R C : Int) (zs ps : List Int) (k : Int) (w : World) (e : Ending) (w' : World) : Prop :=
  ∃ v pv, e = .returned (.tuple #[.agg #[.int .i64 P, .int .i64 R, .int .i64 C, v], pv, .int .i64 k]) ∧ OwnI w.heap.size w' v zs ∧ OwnI w.heap.size w' pv ps ∧ Below w.heap.size w w' ∧ Sep v pv
set_option maxRecDepth 100000 in
set_option maxHeartbeats 3200000 in
theorem implRf_b1 {p r c : Int} {u : Value} {xs : List Int} {w : World} (hu : IntsAt w u xs) (hk : false = okB p r c xs) :
    Calls Try.prog 42 #[.agg #[.int .i64 p, .int .i64 r, .int .i64 c, u]] w fun e w' => RetMSI 0 0 0 [] [] 1 w e w' := by
  have HU := Lib.hid hu
  obtain ⟨a1, c1, rfl, hl1, _⟩ := hu
  have HK := Lib.hid hk
  clear hk
  have Pa0 := PtM.new1 w p r c (.slice a1 xs.length c1) 26 (.cells #[.int .i64 0, .int .i64 0, .int .i64 0, .slice none 0 0] 26)
  have Pr0 := PtM.new (w.alloc (.cells #[.int .i64 p, .int .i64 r, .int .i64 c, .slice a1 xs.length c1] 26)) 0 0 0 (.slice none 0 0) 26
  have Fr0 := Fz.new (w.alloc (.cells #[.int .i64 p, .int .i64 r, .int .i64 c, .slice a1 xs.length c1] 26)) #[.int .i64 0, .int .i64 0, .int .i64 0, .slice none 0 0] 26
  rw [World.size_alloc] at Pr0 Fr0
  go_enter Try.func42, Try.ntmps42
  go_wp2_with fail
  with_reducible refine Calls.mono (implVM_r (T := false) (HU.out.on (al1 (al1 (Below.refl _ _) _) _)) HK.out) ?_
  rintro e w1 ⟨rfl, hb⟩
  have Pa := Lib.hid (Pa0.on hb)
  have Pr := Lib.hid (Pr0.on hb)
  have Fr : Hid (Fz w1 (w.heap.size + 1)) := Fr0.on (by simp) hb
  have HB := Lib.hid (up2 hb)
  have hz : w.heap.size + 2 ≤ w1.heap.size := by have := hb.size; simp at this; omega
  clear hb Pa0 Pr0 Fr0
  obtain ⟨lA, x0, x1, x2, x3⟩ := Pa.out
  obtain ⟨lR, r0, r1, r2, r3⟩ := Pr.out
  obtain ⟨f0, f1, f2, f3⟩ := Fr.out.all
  go_wp2_with fail
  refine bodyPost_ret (v := .tuple #[.agg #[.int .i64 0, .int .i64 0, .int .i64 0, .slice none 0 0], .slice none 0 0, .int .i64 1]) (by simp [results, Try.results42, go_sem, r0, r1, r2, r3]) rfl ⟨_, _, rfl, OwnI.nul _ _, OwnI.nul _ _, ?_, sep_nil _⟩
  repeat (refine Below.setC ?_ (by omega) _)
  exact HB.out
set_option maxRecDepth 100000 in
set_option maxHeartbeats 6400000 in
theorem implRf_ok {q m n : Nat} [NeZero q] {A : Mt q} {u : Value} {w : World} (hu : IntsC w u (flat m n A)) (hA : MIs q m n (flat m n A) q m n A) :
    Calls Try.prog 42 #[.agg #[.int .i64 (q : Int), .int .i64 (m : Int), .int .i64 (n : Int), u]] w fun e w' => RetMSI q m n (flat m n (red m A n).A) (pivI (red m A n).piv) 0 w e w' := by
  have hk : true = okB (q : Int) m n (flat m n A) := (okB_yes hA.ok).symm
  have hpr := hA.pr
  have hm32 := hA.m32
  have hn32 := hA.n32
  have HC := Lib.hid hu
  have HU := Lib.hid hu.1
  obtain ⟨a1, c1, rfl, hl1, -⟩ := hu.1
  have HK := Lib.hid hk
  have HPR := Lib.hid hpr
  simp only [flat_len] at HU HC hl1 ⊢
  clear hk hu hpr
  have Pa0 := PtM.new1 w q m n (.slice a1 (m * n) c1) 26 (.cells #[.int .i64 0, .int .i64 0, .int .i64 0, .slice none 0 0] 26)
  have Pr0 := PtM.new (w.alloc (.cells #[.int .i64 q, .int .i64 m, .int .i64 n, .slice a1 (m * n) c1] 26)) 0 0 0 (.slice none 0 0) 26
  have Fr0 := Fz.new (w.alloc (.cells #[.int .i64 q, .int .i64 m, .int .i64 n, .slice a1 (m * n) c1] 26)) #[.int .i64 0, .int .i64 0, .int .i64 0, .slice none 0 0] 26
  rw [World.size_alloc] at Pr0 Fr0
  go_enter Try.func42, Try.ntmps42
  go_wp2_with fail
  with_reducible refine Calls.mono (implVM_r (T := true) (HU.out.on (al1 (al1 (Below.refl _ _) _) _)) HK.out) ?_
  rintro e w1 ⟨rfl, hb⟩
  have Pa := Lib.hid (Pa0.on hb)
  have Pr := Lib.hid (Pr0.on hb)
  have Fr : Hid (Fz w1 (w.heap.size + 1)) := Fr0.on (by simp) hb
  have HB := Lib.hid (up2 hb)
  have hz : w.heap.size + 2 ≤ w1.heap.size := by have := hb.size; simp at this; omega
  clear hb Pa0 Pr0 Fr0
  obtain ⟨lA, x0, x1, x2, x3⟩ := Pa.out
  obtain ⟨lR, r0, r1, r2, r3⟩ := Pr.out
  obtain ⟨f0, f1, f2, f3⟩ := Fr.out.all
  go_wp2_with fail
  go_region_held3 (fun w' => w'.cell? ⟨w.heap.size, 2, none⟩ = some (.int .i64 n) ∧ w'.cell? ⟨w.heap.size, 0, none⟩ = some (.int .i64 q)) (go_keep)
    (first
      | (go_at_call 43; refine (implRowsC Pa.out.drew (HC.out.on HB.out).drew hm32 hn32).mono ?_; rintro e wa ⟨Ha, rfl, hra, hHa, hHa2, hba'⟩; have hba := undrew hba'; obtain ⟨_, _, _, _, _⟩ := Pa.out.on hba)
      | (go_at_call 82; refine (reduce_all hra HPR.out hm32 (by omega) (Nat.le_refl _)).mono ?_; rintro e wb ⟨L, rfl, hL, hT, hbb⟩; have hb2 : Below w1.heap.size w1 wb := hba.trans (hbb.mono hba.size); obtain ⟨_, _, _, _, _⟩ := Pa.out.on hb2))
  have HB2 := Lib.hid (HB.out.trans (hb2.mono (by omega)))
  have hL1 : w1.heap.size ≤ L := by have := hba.size; omega
  obtain ⟨H, zs, pv, hP, hRC, hO⟩ := hT
  obtain ⟨pa, pc, rfl⟩ := hO.slice
  have hO2 : OwnI w1.heap.size wb _ _ := hO.mono (by have := hba.size; omega)
  have HP := Lib.hid hP
  have HRC := Lib.hid hRC
  have HO2 := Lib.hid hO2
  have PaB := Lib.hid (Pa.out.on hb2)
  have PrB := Lib.hid (Pr.out.on hb2)
  have FrB : Hid (Fz wb (w.heap.size + 1)) := Fr.out.on (by omega) hb2
  have hzb : w.heap.size + 2 ≤ wb.heap.size := by have := hb2.size; omega
  have hLb := hP.lt
  clear hP hRC hO hO2 hbb hba' hba hb2 hra x0 x1 x2 x3 r0 r1 r2 r3 f0 f1 f2 f3 Pa Pr Fr HB HC HU HK HPR
  obtain ⟨_, x0, x1, x2, x3⟩ := PaB.out
  obtain ⟨_, r0, r1, r2, r3⟩ := PrB.out
  obtain ⟨f0, f1, f2, f3⟩ := FrB.out.all
  have d0 := HP.out.rows
  have d3 := HP.out.piv
  rw [pivI_len] at d3
  have neA := PaB.out.ne
  have neR := PrB.out.ne
  have nLR : ¬ w.heap.size + 1 = L := by omega
  have nLR' : ¬ L = w.heap.size + 1 := by omega
  have nLA : ¬ L = w.heap.size := by omega
  have nLA' : ¬ w.heap.size = L := by omega
  go_wp2_with fail
  go_region_held3 (fun w' => w'.cell? ⟨w.heap.size, 0, none⟩ = some (.int .i64 q) ∧ w'.cell? ⟨w.heap.size, 2, none⟩ = some (.int .i64 n) ∧ w'.cell? ⟨L, 0, none⟩ = some (.slice (some ⟨H, 0, none⟩) m m) ∧ w'.cell? ⟨L, 253, none⟩ = some (.slice pa (red m A n).piv.length pc)) (go_keep)
    (first
      | (go_at_call 83; refine (matrixOf_any q HRC.out.drew hm32 hn32).mono ?_; rintro e wd ⟨vd, rfl, hod, hbd'⟩; have hbd := undrew hbd'; obtain ⟨vda, vdc, rfl⟩ := hod.slice; obtain ⟨_, _, _, _, _⟩ := PaB.out.on hbd; obtain ⟨_, _, _, _, _⟩ := PrB.out.on hbd; obtain ⟨_, _, _, _⟩ := (FrB.out.on (by omega) hbd).all; have := (PaB.out.on hbd).ne; have := (HP.out.on hbd).rows; have HPD := (HP.out.on hbd).piv; rw [pivI_len] at HPD))
  have hq := Lib.hid ((PrB.out.on hbd).set4 q m n (.slice vda (flat m n (red m A n).A).length vdc))
  have HO := Lib.hid hod
  have HPV := Lib.hid (HO2.out.on hbd)
  have HB4 := Lib.hid (HB2.out.trans (hbd.mono (by omega)))
  have hz3 := hbd.size
  go_wp2_with fail
  obtain ⟨_, q0, q1, q2, q3⟩ := hq.out
  refine bodyPost_ret (v := .tuple #[.agg #[.int .i64 q, .int .i64 m, .int .i64 n, .slice vda (flat m n (red m A n).A).length vdc], .slice pa (red m A n).piv.length pc, .int .i64 0]) (by simp [results, Try.results42, go_sem, q0, q1, q2, q3]) rfl ⟨_, _, rfl, ?_, ?_, below_set4 HB4.out (by omega) _ _ _ _, ?_⟩
  · refine OwnI.mono (B := wb.heap.size) ?_ (by omega)
    repeat (refine OwnI.setOut ?_ (by omega) _)
    exact HO.out
  · have hx := HPV.out
    rw [pivI_len] at hx
    refine OwnI.mono (B := w1.heap.size) ?_ (by omega)
    repeat (refine OwnI.setOut ?_ (by omega) _)
    exact hx
  · exact ⟨wb.heap.size, .inr ⟨fun g hg => (HO2.out.out.lt g (by rw [pivI_len]; exact hg)).2, fun g hg => (HO.out.out.lt g hg).1⟩⟩
theorem implRf_any {p r c P R C k : Int} {u : Value} {xs zs ps : List Int} {w : World} (hu : IntsC w u xs) (h : RfRes p r c xs P R C zs ps k) :
    Calls Try.prog 42 #[.agg #[.int .i64 p, .int .i64 r, .int .i64 c, u]] w fun e w' => RetMSI P R C zs ps k w e w' := by
  rcases h with ⟨h, rfl, rfl, rfl, rfl, rfl, rfl⟩ | ⟨rfl, u', _, m, n, A, hA, rfl, rfl, rfl, rfl, rfl⟩
  · exact implRf_b1 hu.1 (okB_no h).symm
  · obtain ⟨rfl, rfl, rfl, rfl, h5, h6, h7⟩ := hA
    exact implRf_ok hu ⟨rfl, rfl, rfl, rfl, h5, h6, h7⟩
end Go.Proofs.Ytpimnngomodnhaa

namespace Go.Proofs.Ytpimnngomodnhaa
open Go.RowKit
open Lin
set_option linter.unusedVariables false
set_option linter.unusedSectionVars false

theorem below_drewN1 (w : World) (n : Nat) : Below w.heap.size w (w.drewN n) := by
  have h := Below.refl w.heap.size w
  exact ⟨h.os, h.tape, h.output, h.size, h.block⟩
/-- What DeterminantOf answers. -/
def DeRes (p r c : Int) (xs : List Int) (d k : Int) : Prop :=
  ((∃ b, (r == c) = b ∧ FitK p r c xs p r c xs b k) ∧ k ≠ 0 ∧ d = 0) ∨ (k = 0 ∧ ∃ (u : Nat) (_ : NeZero u) (m : Nat) (A : Mt u), MIs p r c xs u m m A ∧ d = fv (rdet m A))
theorem sq_form {p r c : Int} {xs : List Int} (h : MOk p r c xs) (e : r = c) : ∃ (u : Nat) (_ : NeZero u) (m : Nat) (A : Mt u), MIs p r c xs u m m A := by
  obtain ⟨u, i, m, n, A, hA⟩ := h.form
  have : m = n := by have h1 := hA.r; have h2 := hA.c; omega
  subst this
  exact ⟨u, i, m, A, hA⟩
theorem deRes_has (p r c : Int) (xs : List Int) : ∃ d k, DeRes p r c xs d k := by
  obtain ⟨k, hk⟩ := fitK_has p r c xs p r c xs (r == c)
  by_cases h : k = 0
  · subst h
    obtain ⟨h1, _, _, h2⟩ := hk.good
    obtain ⟨u, i, m, A, hA⟩ := sq_form h1 (by simpa using h2)
    exact ⟨_, _, .inr ⟨rfl, u, i, m, A, hA, rfl⟩⟩
  · exact ⟨_, _, .inl ⟨⟨_, rfl, hk⟩, h, rfl⟩⟩
end Go.Proofs.Ytpimnngomodnhaa

namespace Go.Proofs.Ytpimnngomodnhaa
open Go.RowKit
open Lin
set_option linter.unusedVariables false
set_option linter.unusedSectionVars false

theorem finv_pw {q : Nat} [NeZero q] (h : IsPr (q : Int)) {a : Fin q} (ha : a ≠ 0) : pw (fv a) (q : Int) (q - 2) = fv (finv a) := by
  have h0 : fv a ≠ 0 := fun e => ha (fv_eq_zero.1 e)
  have h1 := fv_nn a
  have h2 := inv_pw h (a := fv a) (by omega) (fv_lt a)
  have h3 := finv_of (by have := h.1; omega) h2
  rwa [show ((q : Int) - 2).toNat = q - 2 by omega] at h3
set_option maxRecDepth 100000 in
set_option maxHeartbeats 1600000 in
theorem l03Inverse_any {q : Nat} [NeZero q] {a : Fin q} (h : IsPr (q : Int)) (ha : a ≠ 0) (w : World) :
    Calls Try.prog 117 #[.int .i64 (fv a), .int .i64 (q : Int)] w fun e w' => e = .returned (.int .i64 (fv (finv a))) ∧ w = w' := by
  have hq2 : 2 ≤ q := by have := h.1; omega
  have hq3 : q ≤ 251 := by have := h.2.1; omega
  have ep := finv_pw h ha
  have a0 := fv_nn a
  have a1 := fv_lt a
  generalize fv a = x at ep a0 a1 ⊢
  have w2 : IntKind.i64.wrap ((q : Int) - 2) = ((q - 2 : Nat) : Int) := by rw [show ((q - 2 : Nat) : Int) = (q : Int) - 2 by omega]; exact IntWalk.i64_in _ (by omega)
  obtain ⟨N, hN⟩ : ∃ N, q - 2 = N := ⟨_, rfl⟩
  rw [hN] at ep w2
  have qz : ¬ (q : Int) = 0 := by omega
  go_enter Try.func117, Try.ntmps117
  go_wp2_with fail
  go_loopw [6, 5] (fun s o wr => ∃ i : Nat, i ≤ N ∧ s = .int .i64 ((N - i : Nat) : Int) ∧ o = .int .i64 (pw x (q : Int) i) ∧ w = wr) (fun s _ _ => (intOf s).toNat)
  case atStart => exact ⟨0, Nat.zero_le _, rfl, by rw [pw_zero _ (by omega)], rfl⟩
  case round =>
    obtain ⟨i, hi, rfl, rfl, rfl⟩ := hrel
    by_cases hlt : i < N
    · have e1 : ((N - i : Nat) : Int) = (N : Int) - i := by omega
      have pb := pw_bd x (show 2 ≤ (q : Int) by omega) i
      have ps := pw_succ x (q : Int) i
      obtain ⟨y, hy⟩ : ∃ y, pw x (q : Int) i = y := ⟨_, rfl⟩
      rw [hy] at pb ps ⊢
      have yx : 0 ≤ y * x ∧ y * x ≤ 251 * 251 := ⟨Int.mul_nonneg pb.1 a0, Int.mul_le_mul (by omega) (by omega) a0 (by omega)⟩
      have w3 : IntKind.i64.wrap (y * x) = y * x := IntWalk.i64_in _ (by omega)
      have t1 : (y * x).tmod (q : Int) = y * x % (q : Int) := Int.tmod_eq_emod_of_nonneg yx.1
      have t2 := Int.emod_nonneg (y * x) qz
      have t3 := Int.emod_lt_of_pos (y * x) (show 0 < (q : Int) by omega)
      have w4 : IntKind.i64.wrap (y * x % (q : Int)) = y * x % (q : Int) := IntWalk.i64_in _ (by omega)
      obtain ⟨z, hz⟩ : ∃ z, ((N - i : Nat) : Int) = z := ⟨_, rfl⟩
      rw [hz]
      have z0 : (0 : Int) < z := by omega
      have w5 : IntKind.i64.wrap (z - 1) = z - 1 := IntWalk.i64_in _ (by omega)
      go_wp2
      go_roundw
      case rel => exact ⟨i + 1, by omega, by rw [show z - 1 = ((N - (i + 1) : Nat) : Int) by omega], by first | rfl | rw [ps], by first | rfl | trivial⟩
      case measure => simp [intOf]; omega
    · obtain rfl : i = N := by omega
      rw [Nat.sub_self, ep]
      go_wp2
      go_ret
      exact ⟨rfl, rfl⟩
end Go.Proofs.Ytpimnngomodnhaa

namespace Go.Proofs.Ytpimnngomodnhaa
open Go.RowKit
open Lin
set_option linter.unusedVariables false
set_option linter.unusedSectionVars false

/-- A row of memory that holds the cells of a matrix. -/
def MatG {q : Nat} [NeZero q] (w : World) (G C m n : Nat) (B : Mt q) : Prop :=
  ∃ F, w.rowIs G 2 C F ∧ m * n ≤ C ∧ C ≤ maxLen ∧ ∀ t, t < m * n → F t = .int .i64 (fv (cellF n B t))
/-- One cell is another. -/
def upd {q : Nat} (B : Mt q) (i j : Nat) (x : Fin q) : Mt q := fun a b => if a = i ∧ b = j then x else B a b
section
variable {q : Nat} [NeZero q] {w : World} {G C m n : Nat} {B : Mt q}
theorem MatG.lt (h : MatG w G C m n B) : G < w.heap.size := by obtain ⟨F, hr, _⟩ := h; exact hr.lt
theorem MatG.frozen (h : MatG w G C m n B) (t : Nat) : w.frozen? ⟨G, t, none⟩ = false := by obtain ⟨F, hr, _⟩ := h; exact hr.frozen t
theorem MatG.cell (h : MatG w G C m n B) {i j : Nat} (hi : i < m) (hj : j < n) : w.cell? ⟨G, i * n + j, none⟩ = some (.int .i64 (fv (B i j))) := by
  obtain ⟨F, hr, h1, h2, hF⟩ := h
  have hl := idx_lt hi hj
  rw [hr.cell (by omega), hF _ hl]
  unfold cellF
  rw [idx_div hj, idx_mod hj]
theorem MatG.set (h : MatG w G C m n B) {i j : Nat} (hi : i < m) (hj : j < n) (x : Fin q) : MatG (w.setCell ⟨G, i * n + j, none⟩ (.int .i64 (fv x))) G C m n (upd B i j x) := by
  obtain ⟨F, hr, h1, h2, hF⟩ := h
  refine ⟨_, hr.set (i * n + j) _, h1, h2, fun t ht => ?_⟩
  have hd := Nat.div_add_mod t n
  rw [Nat.mul_comm] at hd
  by_cases e : t = i * n + j
  · subst e
    rw [if_pos rfl]
    unfold cellF upd
    rw [idx_div hj, idx_mod hj, if_pos ⟨rfl, rfl⟩]
  · rw [if_neg e, hF t ht]
    unfold cellF upd
    rw [if_neg (by rintro ⟨h1, h2⟩; rw [h1, h2] at hd; omega)]
theorem MatG.drew (h : MatG w G C m n B) : MatG w.drew G C m n B := h
theorem MatG.drewN (h : MatG w G C m n B) (k : Nat) : MatG (w.drewN k) G C m n B := h
theorem MatG.on {w' : World} (h : MatG w G C m n B) (hb : Below w.heap.size w w') : MatG w' G C m n B := by
  obtain ⟨F, hr, h2⟩ := h
  exact ⟨F, rowIs_on hr hb, h2⟩
theorem MatG.congr {B' : Mt q} (h : MatG w G C m n B) (e : ∀ i j, i < m → j < n → B i j = B' i j) : MatG w G C m n B' := by
  obtain ⟨F, hr, h1, h2, hF⟩ := h
  refine ⟨F, hr, h1, h2, fun t ht => ?_⟩
  have hn : 0 < n := Nat.pos_of_ne_zero (by rintro rfl; simp at ht)
  rw [hF t ht]
  unfold cellF
  rw [e _ _ (Nat.div_lt_of_lt_mul (by rw [Nat.mul_comm]; exact ht)) (Nat.mod_lt _ hn)]
theorem MatG.own {b : Nat} (h : MatG w G C m n B) (hb : b ≤ G) : OwnI b w (.slice (some ⟨G, 0, none⟩) (m * n) C) (flat m n B) := by
  obtain ⟨F, ⟨c, hc, hn, hi⟩, h1, h2, hF⟩ := h
  have e := flat_len m n B
  refine ⟨by simp [iv_len], .inr ⟨G, C, c, by rw [e], hb, hc, by rw [e]; exact h1, h2, by omega, ?_⟩⟩
  refine List.ext_getElem (by simp [iv_len, hn, e]; omega) fun j g1 g2 => ?_
  have hj : j < (flat m n B).length := by simpa [iv_len] using g2
  have hj' : j < m * n := by omega
  have := hi j (by omega)
  rw [getElem?_pos c j (by omega)] at this
  injection this with this
  rw [List.getElem_take]
  show c[j] = (iv (flat m n B))[j]
  rw [this, hF j hj']
  simp only [iv, List.getElem_map, flat_at]
  rfl
theorem MatG.of_own {b : Nat} {v : Value} (h : OwnI b w v (flat m n B)) (h0 : 0 < m * n) : ∃ G C, v = .slice (some ⟨G, 0, none⟩) (m * n) C ∧ b ≤ G ∧ C ≤ maxLen ∧ MatG w G C m n B := by
  have hne : v ≠ .slice none 0 0 := by
    rintro rfl
    obtain ⟨hx, ⟨_, hz⟩ | ⟨_, _, _, e, _⟩⟩ := h
    · rw [flat_len] at hz; omega
    · exact absurd e (by simp)
  have e := flat_len m n B
  obtain ⟨G, C, rfl, h1, h2, h3, F, hr, hF⟩ := own_some h hne
  rw [e] at h2
  refine ⟨G, C, by rw [e], h1, h3, F, hr, h2, h3, fun t ht => hF t _ ?_⟩
  rw [List.getElem?_eq_getElem (by rw [iv_len, e]; exact ht)]
  simp only [iv, List.getElem_map, flat_at]
  rfl
end
theorem gb_push {a w w1 : World} {g : Nat} {o : Obj} {v : Value} {zs : List Int} (h : a.grownBy w (some g)) (ho : OwnI a.heap.size w v zs) (hg : (w.alloc o).grownBy w1 v.ownBlock) : a.grownBy w1 (some g) := by
  have h2 := gb_alloc h o
  refine ⟨hg.os.trans h2.os, hg.tape.trans h2.tape, hg.output.trans h2.output, Nat.le_trans h2.size hg.size, fun i hi hne => ?_⟩
  refine (hg.block i (Nat.lt_of_lt_of_le hi h2.size) fun e => ?_).trans (h2.block i hi hne)
  have := (ho.out.lt i e.symm).1
  omega
theorem matG_push {q : Nat} [NeZero q] {b G C m n : Nat} {B : Mt q} {w w1 : World} {o : Obj} {v : Value} {zs : List Int} (h : MatG w G C m n B) (hG : G < b) (ho : OwnI b w v zs) (hg : (w.alloc o).grownBy w1 v.ownBlock) : MatG w1 G C m n B := by
  obtain ⟨F, hr, h2⟩ := h
  refine ⟨F, hr.of_block ?_, h2⟩
  have hl := hr.lt
  rw [hg.block G (by simp; omega) (fun e => by have := (ho.out.lt G e.symm).1; omega)]
  exact Deep.blk_alloc_lt w o G hl
/-! ### What the loops leave -/
/-- Two rows are exchanged up to a column. -/
def swJ {q : Nat} (B : Mt q) (a b j : Nat) : Mt q := fun i l => if l < j then swapR B a b i l else B i l
theorem swJ_step {q : Nat} [NeZero q] {B : Mt q} {a b j : Nat} (h : a ≠ b) : upd (upd (swJ B a b j) b j (swJ B a b j a j)) a j (swJ B a b j b j) = swJ B a b (j + 1) := by
  funext i l
  unfold upd swJ swapR
  rw [if_neg (Nat.lt_irrefl j), if_neg (Nat.lt_irrefl j)]
  by_cases e : l = j
  · subst e
    by_cases e1 : i = a
    · subst e1; simp
    · by_cases e2 : i = b
      · subst e2; simp [e1]
      · simp [e1, e2]
  · by_cases e2 : l < j
    · simp [e, e2, show l < j + 1 by omega]
    · simp [e, e2, show ¬ l < j + 1 by omega]
theorem swJ_all {q : Nat} {B : Mt q} {a b n i l : Nat} (h : l < n) : swJ B a b n i l = swapR B a b i l := by unfold swJ; rw [if_pos h]
theorem swJ_zero {q : Nat} {B : Mt q} {a b : Nat} : swJ B a b 0 = B := by funext i l; unfold swJ; rw [if_neg (Nat.not_lt_zero _)]
/-- A row is scaled up to a column. -/
def scJ {q : Nat} [NeZero q] (B : Mt q) (t : Nat) (c : Fin q) (j : Nat) : Mt q := fun i l => if i = t ∧ l < j then B i l * c else B i l
theorem scJ_step {q : Nat} [NeZero q] {B : Mt q} {t j : Nat} {c : Fin q} : upd (scJ B t c j) t j (scJ B t c j t j * c) = scJ B t c (j + 1) := by
  funext i l
  unfold upd scJ
  rw [if_neg (by omega : ¬ (t = t ∧ j < j))]
  by_cases e : i = t ∧ l = j
  · obtain ⟨rfl, rfl⟩ := e; simp
  · rw [if_neg e]
    by_cases e2 : i = t ∧ l < j
    · rw [if_pos e2, if_pos ⟨e2.1, by omega⟩]
    · rw [if_neg e2, if_neg (by omega)]
theorem scJ_zero {q : Nat} [NeZero q] {B : Mt q} {t : Nat} {c : Fin q} : scJ B t c 0 = B := by funext i l; unfold scJ; rw [if_neg (by omega)]
theorem scJ_all {q : Nat} [NeZero q] {B : Mt q} {t n i l : Nat} {c : Fin q} (h : l < n) : scJ B t c n i l = scaleR B t c i l := by
  unfold scJ scaleR
  by_cases e : i = t <;> simp [e, h]
/-- A column is cleared in the rows up to one, in that one up to a column. -/
def clJ {q : Nat} [NeZero q] (B : Mt q) (t : Nat) (c : Nat → Fin q) (i j : Nat) : Mt q := fun a l => if a < i ∨ (a = i ∧ l < j) then addR B t c a l else B a l
theorem clJ_zero {q : Nat} [NeZero q] {B : Mt q} {t : Nat} {c : Nat → Fin q} : clJ B t c 0 0 = B := by funext i l; unfold clJ; rw [if_neg (by omega)]
theorem clJ_step {q : Nat} [NeZero q] {B : Mt q} {t i j : Nat} {c : Nat → Fin q} (h : i ≠ t) : upd (clJ B t c i j) i j (clJ B t c i j i j - c i * clJ B t c i j t j) = clJ B t c i (j + 1) := by
  funext a l
  have e1 : clJ B t c i j i j = B i j := by unfold clJ; rw [if_neg (by omega)]
  have e2 : clJ B t c i j t j = B t j := by unfold clJ addR; simp
  rw [e1, e2]
  unfold upd clJ
  by_cases e : a = i ∧ l = j
  · obtain ⟨rfl, rfl⟩ := e
    rw [if_pos ⟨rfl, rfl⟩, if_pos (.inr ⟨rfl, Nat.lt_succ_self _⟩)]
    unfold addR
    rw [if_neg h]
  · rw [if_neg e]
    by_cases e3 : a < i ∨ (a = i ∧ l < j)
    · rw [if_pos e3, if_pos (by omega)]
    · rw [if_neg e3, if_neg (by omega)]
theorem clJ_row {q : Nat} [NeZero q] {B : Mt q} {t i n a l : Nat} {c : Nat → Fin q} (h : l < n) : clJ B t c i n a l = clJ B t c (i + 1) 0 a l := by
  unfold clJ
  by_cases e : a < i ∨ (a = i ∧ l < n)
  · rw [if_pos e, if_pos (by omega)]
  · rw [if_neg e, if_neg (by omega)]
theorem clJ_skip {q : Nat} [NeZero q] {B : Mt q} {t i a l : Nat} {c : Nat → Fin q} (h : i = t ∨ c i = 0) : clJ B t c i 0 a l = clJ B t c (i + 1) 0 a l := by
  unfold clJ
  by_cases e : a < i
  · rw [if_pos (.inl e), if_pos (.inl (by omega))]
  · by_cases e2 : a = i
    · subst e2
      rw [if_neg (by omega), if_pos (.inl (by omega))]
      unfold addR
      rcases h with rfl | h
      · rw [if_pos rfl]
      · by_cases e3 : a = t
        · rw [if_pos e3]
        · rw [if_neg e3, h, Fin.zero_mul]; grind
    · rw [if_neg (by omega), if_neg (by omega)]
theorem clJ_all {q : Nat} [NeZero q] {B : Mt q} {t m a l : Nat} {c : Nat → Fin q} (h : a < m) : clJ B t c m 0 a l = addR B t c a l := by unfold clJ; rw [if_pos (.inl h)]
/-- Nothing is left to reduce. -/
theorem red_stop {q : Nat} [NeZero q] {m k : Nat} {A : Mt q} (h : (red m A k).top = m) : ∀ d, red m A (k + d) = red m A k
  | 0 => rfl
  | d + 1 => by
    have ih := red_stop h d
    show stepK m (k + d) (red m A (k + d)) = _
    rw [ih]
    unfold stepK
    have hs := seek_is (red m A k).A (k + d) m (m - (red m A k).top) (red m A k).top (by omega)
    rw [if_neg (by have := hs.1; omega)]
theorem specMod_any (x p : Int) (w : World) (h0 : -100000 ≤ x) (h1 : x ≤ 100000) (p0 : 0 < p) (p1 : p ≤ 251) :
    Calls Try.prog 118 #[.int .i64 x, .int .i64 p] w fun e w' => e = .returned (.int .i64 (x % p)) ∧ w = w' := by
  have kz : ¬ p = 0 := by omega
  have b1 := Int.tmod_lt_of_pos x p0
  have b0 : -p < x.tmod p := by
    have h := Int.tmod_lt_of_pos (-x) p0
    rw [Int.neg_tmod] at h
    omega
  have e0 : (x.tmod p) % p = x % p := by rw [Int.tmod_def, Int.sub_mul_emod_self_left]
  have e3 : (x.tmod p + p).tmod p = x % p := by rw [Int.tmod_eq_emod_of_nonneg (by omega), Int.add_emod_right, e0]
  obtain ⟨y, hy⟩ : ∃ y, x.tmod p = y := ⟨_, rfl⟩
  have c0 := Int.emod_nonneg x kz
  have c1 := Int.emod_lt_of_pos x p0
  obtain ⟨z, hz⟩ : ∃ z, x % p = z := ⟨_, rfl⟩
  rw [hz] at c0 c1
  rw [hy, hz] at e3
  rw [hy] at b0 b1
  rw [hz]
  clear e0
  have e2 : IntKind.i64.wrap (y + p) = y + p := IntWalk.i64_in _ (by omega)
  have e5 : IntKind.i64.wrap y = y := IntWalk.i64_in _ (by omega)
  have e4 : IntKind.i64.wrap z = z := IntWalk.i64_in _ (by omega)
  go_enter Try.func118, Try.ntmps118
  go_wp2
  go_ret
  exact ⟨rfl, rfl⟩
end Go.Proofs.Ytpimnngomodnhaa
