/-
  Contracts of ScaleMatrix of the program.
-/
import Derived.Test.YtabanmaaagmeaaaMxG
import Derived.Test.YtabanmaaagmeaaaNumsP
namespace Go.Proofs.Ytabanmaaagmeaaa
open Go.RowKit
open Lin
set_option linter.unusedVariables false
set_option linter.unusedSectionVars false

theorem num_at (w : World) (a : Int) (t : TypeId) : IntsAt (w.alloc (.cells #[.int .i64 a] t)) (.slice (some ⟨w.heap.size, 0, none⟩) 1 1) [a] := by
  refine ⟨_, 1, rfl, by simp, .inr ⟨w.heap.size, 0, rfl, by simp, fun j hj => ?_⟩⟩
  obtain rfl : j = 0 := by simpa using hj
  rw [World.cell?_alloc_at _ _ _ _ rfl]; rfl
theorem numOk_1 (p a : Int) : NumOk p [a] ↔ 0 ≤ a ∧ a ≤ p - 1 := by
  constructor
  · intro h; exact h 0 (by simp)
  · intro h j hj; obtain rfl : j = 0 := by simpa using hj
    exact h
/-- A matrix, a number, and what ScaleMatrix answers. -/
def ScRes (p r c : Int) (xs : List Int) (f : Int) (P R C : Int) (zs : List Int) (k : Int) : Prop :=
  (¬ MOk p r c xs ∧ P = 0 ∧ R = 0 ∧ C = 0 ∧ zs = [] ∧ k = 1) ∨ (MOk p r c xs ∧ ¬ (0 ≤ f ∧ f ≤ p - 1) ∧ P = 0 ∧ R = 0 ∧ C = 0 ∧ zs = [] ∧ k = 2) ∨
  (P = p ∧ R = r ∧ C = c ∧ k = 0 ∧ ∃ (u : Nat) (_ : NeZero u) (m n : Nat) (A : Mt u) (g : Fin u), MIs p r c xs u m n A ∧ f = fv g ∧ zs = flat m n (fun i j => A i j * g))
theorem scRes_has (p r c : Int) (xs : List Int) (f : Int) : ∃ P R C zs k, ScRes p r c xs f P R C zs k := by
  by_cases h : MOk p r c xs
  · by_cases hf : 0 ≤ f ∧ f ≤ p - 1
    · obtain ⟨u, i, m, n, A, hA⟩ := h.form
      have hp := hA.p
      obtain ⟨g, hg⟩ : ∃ g : Fin u, fv g = f := fv_of hf.1 (by omega)
      exact ⟨_, _, _, _, _, .inr (.inr ⟨rfl, rfl, rfl, rfl, u, i, m, n, A, g, hA, hg.symm, rfl⟩)⟩
    · exact ⟨_, _, _, _, _, .inr (.inl ⟨h, hf, rfl, rfl, rfl, rfl, rfl⟩)⟩
  · exact ⟨_, _, _, _, _, .inl ⟨h, rfl, rfl, rfl, rfl, rfl⟩⟩
theorem ScRes.len {p r c : Int} {xs : List Int} {f P R C : Int} {zs : List Int} {k : Int} (h : ScRes p r c xs f P R C zs k) : zs.length ≤ 1048576 := by
  rcases h with ⟨_, _, _, _, rfl, _⟩ | ⟨_, _, _, _, _, rfl, _⟩ | ⟨_, _, _, _, u, _, m, n, A, g, hA, _, rfl⟩
  · simp
  · simp
  · rw [flat_len]; have := side_mul hA.m32 hA.n32; omega
set_option maxRecDepth 100000 in
set_option maxHeartbeats 1600000 in
theorem implScale_b1 {p r c f : Int} {u : Value} {xs : List Int} {w : World} (hu : IntsAt w u xs) (hk : false = okB p r c xs) :
    Calls Try.prog 49 #[.agg #[.int .i64 p, .int .i64 r, .int .i64 c, u], .int .i64 f] w fun e w' => RetMC 0 0 0 [] 1 w e w' := by
  have HU := Lib.hid hu
  obtain ⟨a1, c1, rfl, hl1, _⟩ := hu
  have HK := Lib.hid hk
  clear hk
  have Pa0 := PtM.new1 w p r c (.slice a1 xs.length c1) 27 (.cells #[.int .i64 0, .int .i64 0, .int .i64 0, .slice none 0 0] 27)
  have Pr0 := PtM.new (w.alloc (.cells #[.int .i64 p, .int .i64 r, .int .i64 c, .slice a1 xs.length c1] 27)) 0 0 0 (.slice none 0 0) 27
  have Fr0 := Fz.new (w.alloc (.cells #[.int .i64 p, .int .i64 r, .int .i64 c, .slice a1 xs.length c1] 27)) #[.int .i64 0, .int .i64 0, .int .i64 0, .slice none 0 0] 27
  rw [World.size_alloc] at Pr0 Fr0
  go_enter Try.func49, Try.ntmps49
  go_wp2_with fail
  with_reducible refine Calls.mono (implVM_r (T := false) (HU.out.on (al1 (al1 (Below.refl _ _) _) _)) HK.out) ?_
  rintro e w1 ⟨rfl, hb⟩
  have Pa := Lib.hid (Pa0.on hb)
  have Pr := Lib.hid (Pr0.on hb)
  have Fr : Hid (Fz w1 (w.heap.size + 1)) := Fr0.on (by simp) hb
  have HB := Lib.hid (up2 hb)
  have hz : w.heap.size + 2 ≤ w1.heap.size := by have := hb.size; simp at this; omega
  clear hb Pa0 Pr0 Fr0
  obtain ⟨lA, x0, x1, x2, x3⟩ := Pa.out
  obtain ⟨lR, r0, r1, r2, r3⟩ := Pr.out
  obtain ⟨f0, f1, f2, f3⟩ := Fr.out.all
  go_wp2_with fail
  refine bodyPost_ret (v := .tuple #[.agg #[.int .i64 0, .int .i64 0, .int .i64 0, .slice none 0 0], .int .i64 1]) (by simp [results, Try.results49, go_sem, r0, r1, r2, r3]) rfl ⟨_, rfl, OwnI.nul _ _, ?_⟩
  repeat (refine Below.setC ?_ (by omega) _)
  exact HB.out
set_option maxRecDepth 100000 in
set_option maxHeartbeats 1600000 in
theorem implScale_b2 {p r c f : Int} {u : Value} {xs : List Int} {w : World} (hu : IntsAt w u xs) (hk : true = okB p r c xs) (hn : NumCode p [f] 2) :
    Calls Try.prog 49 #[.agg #[.int .i64 p, .int .i64 r, .int .i64 c, u], .int .i64 f] w fun e w' => RetMC 0 0 0 [] 2 w e w' := by
  have HU := Lib.hid hu
  obtain ⟨a1, c1, rfl, hl1, _⟩ := hu
  have HK := Lib.hid hk
  have HN := Lib.hid hn
  clear hk hn
  have Pa0 := PtM.new1 w p r c (.slice a1 xs.length c1) 27 (.cells #[.int .i64 0, .int .i64 0, .int .i64 0, .slice none 0 0] 27)
  have Pr0 := PtM.new (w.alloc (.cells #[.int .i64 p, .int .i64 r, .int .i64 c, .slice a1 xs.length c1] 27)) 0 0 0 (.slice none 0 0) 27
  have Fr0 := Fz.new (w.alloc (.cells #[.int .i64 p, .int .i64 r, .int .i64 c, .slice a1 xs.length c1] 27)) #[.int .i64 0, .int .i64 0, .int .i64 0, .slice none 0 0] 27
  rw [World.size_alloc] at Pr0 Fr0
  go_enter Try.func49, Try.ntmps49
  go_wp2_with fail
  with_reducible refine Calls.mono (implVM_r (T := true) (HU.out.on (al1 (al1 (Below.refl _ _) _) _)) HK.out) ?_
  rintro e w1 ⟨rfl, hb⟩
  have Pa := Lib.hid (Pa0.on hb)
  have Pr := Lib.hid (Pr0.on hb)
  have Fr : Hid (Fz w1 (w.heap.size + 1)) := Fr0.on (by simp) hb
  have HB := Lib.hid (up2 hb)
  have hz : w.heap.size + 2 ≤ w1.heap.size := by have := hb.size; simp at this; omega
  clear hb Pa0 Pr0 Fr0
  obtain ⟨lA, x0, x1, x2, x3⟩ := Pa.out
  obtain ⟨lR, r0, r1, r2, r3⟩ := Pr.out
  obtain ⟨f0, f1, f2, f3⟩ := Fr.out.all
  go_wp2_with fail
  refine (numsP_any (num_at _ _ _) HN.out).mono ?_
  rintro e w2 ⟨rfl, hw2⟩
  have bb : Below w1.heap.size w1 w2 := by rw [← hw2]; exact (Below.refl _ _).alloc (Nat.le_refl _) _
  clear hw2
  clear lA x0 x1 x2 x3 lR r0 r1 r2 r3 f0 f1 f2 f3
  have Pa := Lib.hid (Pa.out.on bb)
  have Pr := Lib.hid (Pr.out.on bb)
  have Fr : Hid (Fz w2 (w.heap.size + 1)) := Fr.out.on (by omega) bb
  have HB := Lib.hid (HB.out.trans (bb.mono (by omega)))
  have hz2 : w.heap.size + 2 ≤ w2.heap.size := by have := bb.size; omega
  obtain ⟨lA, x0, x1, x2, x3⟩ := Pa.out
  obtain ⟨lR, r0, r1, r2, r3⟩ := Pr.out
  obtain ⟨f0, f1, f2, f3⟩ := Fr.out.all
  go_wp2_with fail
  refine bodyPost_ret (v := .tuple #[.agg #[.int .i64 0, .int .i64 0, .int .i64 0, .slice none 0 0], .int .i64 2]) (by simp [results, Try.results49, go_sem, r0, r1, r2, r3]) rfl ⟨_, rfl, OwnI.nul _ _, ?_⟩
  repeat (refine Below.setC ?_ (by omega) _)
  exact HB.out
set_option maxRecDepth 100000 in
set_option maxHeartbeats 3200000 in
theorem implScale_ok {q m n : Nat} [NeZero q] {A : Mt q} {g : Fin q} {u : Value} {w : World} (hu : IntsAt w u (flat m n A)) (hA : MIs q m n (flat m n A) q m n A) (h0 : 0 < m * n) :
    Calls Try.prog 49 #[.agg #[.int .i64 (q : Int), .int .i64 (m : Int), .int .i64 (n : Int), u], .int .i64 (fv g)] w fun e w' => RetMC q m n (flat m n (fun i j => A i j * g)) 0 w e w' := by
  have hk : true = okB (q : Int) m n (flat m n A) := (okB_yes hA.ok).symm
  have hn : NumCode (q : Int) [fv g] 0 := .inr (.inr ⟨hA.pr, by rw [numOk_1]; have := fv_nn g; have := fv_lt g; omega, rfl⟩)
  have hN := side_mul hA.m32 hA.n32
  obtain ⟨hq2, hq⟩ := hA.q2
  have HU := Lib.hid hu
  obtain ⟨a1, c1, rfl, _, h1 | ⟨b1, o1, rfl, hb1, k1⟩⟩ := hu
  · have := congrArg List.length h1; rw [flat_len] at this; simp at this; omega
  have HK := Lib.hid hk
  have HN := Lib.hid hn
  have K1 := Lib.hid (flat_cells k1)
  simp only [flat_len] at HU ⊢
  clear hk hn hA k1
  obtain ⟨f, hf⟩ : ∃ f, fv g = f := ⟨_, rfl⟩
  rw [hf] at HN ⊢
  have Pa0 := PtM.new1 w q m n (.slice (some ⟨b1, o1, none⟩) (m * n) c1) 27 (.cells #[.int .i64 0, .int .i64 0, .int .i64 0, .slice none 0 0] 27)
  have Pr0 := PtM.new (w.alloc (.cells #[.int .i64 q, .int .i64 m, .int .i64 n, .slice (some ⟨b1, o1, none⟩) (m * n) c1] 27)) 0 0 0 (.slice none 0 0) 27
  have Fr0 := Fz.new (w.alloc (.cells #[.int .i64 q, .int .i64 m, .int .i64 n, .slice (some ⟨b1, o1, none⟩) (m * n) c1] 27)) #[.int .i64 0, .int .i64 0, .int .i64 0, .slice none 0 0] 27
  rw [World.size_alloc] at Pr0 Fr0
  go_enter Try.func49, Try.ntmps49
  go_wp2_with fail
  with_reducible refine Calls.mono (implVM_r (T := true) (HU.out.on (al1 (al1 (Below.refl _ _) _) _)) HK.out) ?_
  rintro e w1 ⟨rfl, hb⟩
  have Pa := Lib.hid (Pa0.on hb)
  have Pr := Lib.hid (Pr0.on hb)
  have Fr : Hid (Fz w1 (w.heap.size + 1)) := Fr0.on (by simp) hb
  have HB := Lib.hid (up2 hb)
  have hz : w.heap.size + 2 ≤ w1.heap.size := by have := hb.size; simp at this; omega
  clear hb Pa0 Pr0 Fr0
  obtain ⟨lA, x0, x1, x2, x3⟩ := Pa.out
  obtain ⟨lR, r0, r1, r2, r3⟩ := Pr.out
  obtain ⟨f0, f1, f2, f3⟩ := Fr.out.all
  go_wp2_with fail
  refine (numsP_any (num_at _ _ _) HN.out).mono ?_
  rintro e w2 ⟨rfl, hw2⟩
  have bb : Below w1.heap.size w1 w2 := by rw [← hw2]; exact (Below.refl _ _).alloc (Nat.le_refl _) _
  clear hw2
  clear lA x0 x1 x2 x3 lR r0 r1 r2 r3 f0 f1 f2 f3
  have Pa := Lib.hid (Pa.out.on bb)
  have Pr := Lib.hid (Pr.out.on bb)
  have Fr : Hid (Fz w2 (w.heap.size + 1)) := Fr.out.on (by omega) bb
  have HB := Lib.hid (HB.out.trans (bb.mono (by omega)))
  have hz2 : w.heap.size + 2 ≤ w2.heap.size := by have := bb.size; omega
  clear bb hz
  obtain ⟨lA, x0, x1, x2, x3⟩ := Pa.out
  obtain ⟨lR, r0, r1, r2, r3⟩ := Pr.out
  obtain ⟨f0, f1, f2, f3⟩ := Fr.out.all
  go_wp2_with fail
  refine (implZeros_any q m n (m * n) _ (Int.natCast_mul m n).symm (by omega)).mono ?_
  rintro e w3 ⟨h, rfl, hg, hrow, hb⟩
  clear lA x0 x1 x2 x3 lR r0 r1 r2 r3 f0 f1 f2 f3
  have Pa := Lib.hid (Pa.out.on hb)
  have Pr := Lib.hid (Pr.out.on hb)
  have Fr : Hid (Fz w3 (w.heap.size + 1)) := Fr.out.on (by omega) hb
  have HB := Lib.hid (HB.out.trans (hb.mono (by omega)))
  have hz3 : w.heap.size + 2 ≤ w3.heap.size := by have := hb.size; omega
  have hg3 := hrow.lt
  have HR := Lib.hid hrow
  have hg2 : w.heap.size + 2 ≤ h := by omega
  clear hb hrow hg
  obtain ⟨lA, x0, x1, x2, x3⟩ := Pa.out
  obtain ⟨lR, r0, r1, r2, r3⟩ := Pr.out
  obtain ⟨f0, f1, f2, f3⟩ := Fr.out.all
  go_wp2_with fail
  clear lA x0 x1 x2 x3 lR r0 r1 r2 r3 f0 f1 f2 f3
  have bb := (Below.refl w3.heap.size w3).alloc (Nat.le_refl _) (.cells #[.int .i64 q, .int .i64 m, .int .i64 n, .slice (some ⟨h, 0, none⟩) (m * n) (m * n)] 27)
  have PM := PtM.new w3 q m n (.slice (some ⟨h, 0, none⟩) (m * n) (m * n)) 27
  generalize hW : World.alloc w3 (.cells #[.int .i64 q, .int .i64 m, .int .i64 n, .slice (some ⟨h, 0, none⟩) (m * n) (m * n)] 27) = W1 at PM bb ⊢
  obtain ⟨L, hL⟩ : ∃ L, w3.heap.size = L := ⟨_, rfl⟩
  rw [hL] at PM ⊢
  have Pa := Lib.hid (Pa.out.on bb)
  have Pr := Lib.hid (Pr.out.on bb)
  have Fr : Hid (Fz W1 (w.heap.size + 1)) := Fr.out.on (by omega) bb
  have HB := Lib.hid (HB.out.trans (bb.mono (by omega)))
  have HR := Lib.hid (rowIs_on HR.out bb)
  have PM := Lib.hid PM
  have sL : L < W1.heap.size := PM.out.1
  rw [hL] at hg3 hz3
  clear bb hW hL
  with_reducible refine Calls.mono (addMul_k (q := q) (gs := h) (os := 0) (n := m * n) (N := m * n) (X := fun _ => 0) (Y := cellF n A) (c := g) (F := fun _ => .int .i64 0) (b := b1) (o := o1) hf hq2 hq (by omega) HR.out (by omega) (by omega) (by unfold maxLen; omega) (by omega) (by omega) (fun j hj => by rw [fv_zero]) (fun j hj => ?_)) ?_
  · exact (HB.out.cell (p := ⟨b1, o1 + j, none⟩) hb1).trans (K1.out j hj)
  rintro e w4 ⟨rfl, hrow, hg⟩
  have Pr := Lib.hid (Pr.out.gb hg (by omega))
  have Fr : Hid (Fz w4 (w.heap.size + 1)) := Fr.out.gb (by omega) hg (by omega)
  have PM := Lib.hid (PM.out.gb hg (by omega))
  have HB := Lib.hid (below_gb HB.out hg (by omega) (by omega))
  have HR := Lib.hid hrow
  clear hg hrow
  obtain ⟨lR, r0, r1, r2, r3⟩ := Pr.out
  obtain ⟨f0, f1, f2, f3⟩ := Fr.out.all
  obtain ⟨lM, m0, m1, m2, m3⟩ := PM.out
  go_wp2_with fail
  refine bodyPost_ret (v := .tuple #[.agg #[.int .i64 q, .int .i64 m, .int .i64 n, .slice (some ⟨h, 0, none⟩) (m * n) (m * n)], .int .i64 0]) (by simp [results, Try.results49, go_sem, r0, r1, r2, r3]) rfl ⟨_, rfl, ?_, ?_⟩
  · refine OwnI.mono (B := w.heap.size + 2) ?_ (by omega)
    repeat (refine OwnI.setOut ?_ (by omega) _)
    refine OwnI.of_flat HR.out hg2 (by omega) fun i j hi hj => ?_
    have := idx_lt hi hj
    unfold AddF cellF
    rw [if_pos (by omega), Nat.sub_zero, idx_div hj, idx_mod hj, show (0 : Fin q) + A i j * g = A i j * g by grind]
  · repeat (refine Below.setC ?_ (by omega) _)
    exact HB.out
set_option maxRecDepth 100000 in
set_option maxHeartbeats 3200000 in
theorem implScale_nil {q m n : Nat} [NeZero q] {A : Mt q} {g : Fin q} {u : Value} {w : World} (hu : IntsAt w u (flat m n A)) (hA : MIs q m n (flat m n A) q m n A) (h0 : m * n = 0) :
    Calls Try.prog 49 #[.agg #[.int .i64 (q : Int), .int .i64 (m : Int), .int .i64 (n : Int), u], .int .i64 (fv g)] w fun e w' => RetMC q m n (flat m n (fun i j => A i j * g)) 0 w e w' := by
  have hk : true = okB (q : Int) m n (flat m n A) := (okB_yes hA.ok).symm
  have hn : NumCode (q : Int) [fv g] 0 := .inr (.inr ⟨hA.pr, by rw [numOk_1]; have := fv_nn g; have := fv_lt g; omega, rfl⟩)
  have hN := side_mul hA.m32 hA.n32
  obtain ⟨hq2, hq⟩ := hA.q2
  have HU := Lib.hid hu
  have fA : flat m n A = [] := List.eq_nil_of_length_eq_zero (by rw [flat_len]; exact h0)
  have fC : flat m n (fun i j => A i j * g) = [] := List.eq_nil_of_length_eq_zero (by rw [flat_len]; exact h0)
  have HZ : Hid ((m : Int) * n = ((0 : Nat) : Int)) := by show _ = _; rw [← h0, Int.natCast_mul]
  rw [fA] at hu HU hk
  rw [fC]
  obtain ⟨a1, c1, rfl, _, _⟩ := hu
  simp only [List.length_nil] at HU ⊢
  have HK := Lib.hid hk
  have HN := Lib.hid hn
  clear hk hn hA fA fC h0
  obtain ⟨f, hf⟩ : ∃ f, fv g = f := ⟨_, rfl⟩
  rw [hf] at HN ⊢
  have Pa0 := PtM.new1 w q m n (.slice a1 0 c1) 27 (.cells #[.int .i64 0, .int .i64 0, .int .i64 0, .slice none 0 0] 27)
  have Pr0 := PtM.new (w.alloc (.cells #[.int .i64 q, .int .i64 m, .int .i64 n, .slice a1 0 c1] 27)) 0 0 0 (.slice none 0 0) 27
  have Fr0 := Fz.new (w.alloc (.cells #[.int .i64 q, .int .i64 m, .int .i64 n, .slice a1 0 c1] 27)) #[.int .i64 0, .int .i64 0, .int .i64 0, .slice none 0 0] 27
  rw [World.size_alloc] at Pr0 Fr0
  go_enter Try.func49, Try.ntmps49
  go_wp2_with fail
  with_reducible refine Calls.mono (implVM_r (T := true) (HU.out.on (al1 (al1 (Below.refl _ _) _) _)) HK.out) ?_
  rintro e w1 ⟨rfl, hb⟩
  have Pa := Lib.hid (Pa0.on hb)
  have Pr := Lib.hid (Pr0.on hb)
  have Fr : Hid (Fz w1 (w.heap.size + 1)) := Fr0.on (by simp) hb
  have HB := Lib.hid (up2 hb)
  have hz : w.heap.size + 2 ≤ w1.heap.size := by have := hb.size; simp at this; omega
  clear hb Pa0 Pr0 Fr0
  obtain ⟨lA, x0, x1, x2, x3⟩ := Pa.out
  obtain ⟨lR, r0, r1, r2, r3⟩ := Pr.out
  obtain ⟨f0, f1, f2, f3⟩ := Fr.out.all
  go_wp2_with fail
  refine (numsP_any (num_at _ _ _) HN.out).mono ?_
  rintro e w2 ⟨rfl, hw2⟩
  have bb : Below w1.heap.size w1 w2 := by rw [← hw2]; exact (Below.refl _ _).alloc (Nat.le_refl _) _
  clear hw2
  clear lA x0 x1 x2 x3 lR r0 r1 r2 r3 f0 f1 f2 f3
  have Pa := Lib.hid (Pa.out.on bb)
  have Pr := Lib.hid (Pr.out.on bb)
  have Fr : Hid (Fz w2 (w.heap.size + 1)) := Fr.out.on (by omega) bb
  have HB := Lib.hid (HB.out.trans (bb.mono (by omega)))
  have hz2 : w.heap.size + 2 ≤ w2.heap.size := by have := bb.size; omega
  clear bb hz
  obtain ⟨lA, x0, x1, x2, x3⟩ := Pa.out
  obtain ⟨lR, r0, r1, r2, r3⟩ := Pr.out
  obtain ⟨f0, f1, f2, f3⟩ := Fr.out.all
  go_wp2_with fail
  refine (implZeros_any q m n 0 _ HZ.out (by omega)).mono ?_
  rintro e w3 ⟨h, rfl, hg, hrow, hb⟩
  clear lA x0 x1 x2 x3 lR r0 r1 r2 r3 f0 f1 f2 f3
  have Pa := Lib.hid (Pa.out.on hb)
  have Pr := Lib.hid (Pr.out.on hb)
  have Fr : Hid (Fz w3 (w.heap.size + 1)) := Fr.out.on (by omega) hb
  have HB := Lib.hid (HB.out.trans (hb.mono (by omega)))
  have hz3 : w.heap.size + 2 ≤ w3.heap.size := by have := hb.size; omega
  have hg3 := hrow.lt
  have HR := Lib.hid hrow
  have hg2 : w.heap.size + 2 ≤ h := by omega
  clear hb hrow hg
  obtain ⟨lA, x0, x1, x2, x3⟩ := Pa.out
  obtain ⟨lR, r0, r1, r2, r3⟩ := Pr.out
  obtain ⟨f0, f1, f2, f3⟩ := Fr.out.all
  go_wp2_with fail
  clear lA x0 x1 x2 x3 lR r0 r1 r2 r3 f0 f1 f2 f3
  have bb := (Below.refl w3.heap.size w3).alloc (Nat.le_refl _) (.cells #[.int .i64 q, .int .i64 m, .int .i64 n, .slice (some ⟨h, 0, none⟩) 0 0] 27)
  have PM := PtM.new w3 q m n (.slice (some ⟨h, 0, none⟩) 0 0) 27
  generalize hW : World.alloc w3 (.cells #[.int .i64 q, .int .i64 m, .int .i64 n, .slice (some ⟨h, 0, none⟩) 0 0] 27) = W1 at PM bb ⊢
  obtain ⟨L, hL⟩ : ∃ L, w3.heap.size = L := ⟨_, rfl⟩
  rw [hL] at PM ⊢
  have Pa := Lib.hid (Pa.out.on bb)
  have Pr := Lib.hid (Pr.out.on bb)
  have Fr : Hid (Fz W1 (w.heap.size + 1)) := Fr.out.on (by omega) bb
  have HB := Lib.hid (HB.out.trans (bb.mono (by omega)))
  have HR := Lib.hid (rowIs_on HR.out bb)
  have PM := Lib.hid PM
  have sL : L < W1.heap.size := PM.out.1
  rw [hL] at hg3 hz3
  clear bb hW hL
  with_reducible refine Calls.mono (addMul_nil f q _ HR.out) ?_
  rintro e w4 ⟨rfl, hrow, hg⟩
  have Pr := Lib.hid (Pr.out.gb hg (by omega))
  have Fr : Hid (Fz w4 (w.heap.size + 1)) := Fr.out.gb (by omega) hg (by omega)
  have PM := Lib.hid (PM.out.gb hg (by omega))
  have HB := Lib.hid (below_gb HB.out hg (by omega) (by omega))
  have HR := Lib.hid hrow
  clear hg hrow
  obtain ⟨lR, r0, r1, r2, r3⟩ := Pr.out
  obtain ⟨f0, f1, f2, f3⟩ := Fr.out.all
  obtain ⟨lM, m0, m1, m2, m3⟩ := PM.out
  go_wp2_with fail
  refine bodyPost_ret (v := .tuple #[.agg #[.int .i64 q, .int .i64 m, .int .i64 n, .slice (some ⟨h, 0, none⟩) 0 0], .int .i64 0]) (by simp [results, Try.results49, go_sem, r0, r1, r2, r3]) rfl ⟨_, rfl, ?_, ?_⟩
  · refine OwnI.mono (B := w.heap.size + 2) ?_ (by omega)
    repeat (refine OwnI.setOut ?_ (by omega) _)
    exact OwnI.zeros (n := 0) HR.out hg2 (by omega)
  · repeat (refine Below.setC ?_ (by omega) _)
    exact HB.out
theorem implScale_any {p r c f P R C k : Int} {u : Value} {xs zs : List Int} {w : World} (hu : IntsAt w u xs) (h : ScRes p r c xs f P R C zs k) :
    Calls Try.prog 49 #[.agg #[.int .i64 p, .int .i64 r, .int .i64 c, u], .int .i64 f] w fun e w' => RetMC P R C zs k w e w' := by
  rcases h with ⟨h, rfl, rfl, rfl, rfl, rfl⟩ | ⟨h, hf, rfl, rfl, rfl, rfl, rfl⟩ | ⟨rfl, rfl, rfl, rfl, u', _, m, n, A, g, hA, rfl, rfl⟩
  · exact implScale_b1 hu (okB_no h).symm
  · exact implScale_b2 hu (okB_yes h).symm (.inr (.inl ⟨h.1, by rw [numOk_1]; omega, rfl⟩))
  · obtain ⟨rfl, rfl, rfl, rfl, h5, h6, h7⟩ := hA
    rcases Nat.eq_zero_or_pos (m * n) with h0 | h0
    · exact implScale_nil hu ⟨rfl, rfl, rfl, rfl, h5, h6, h7⟩ h0
    · exact implScale_ok hu ⟨rfl, rfl, rfl, rfl, h5, h6, h7⟩ h0
end Go.Proofs.Ytabanmaaagmeaaa
