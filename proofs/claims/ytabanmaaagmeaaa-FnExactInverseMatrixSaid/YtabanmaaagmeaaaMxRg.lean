/-
  InverseMatrix of the model.
-/
import Derived.Test.YtabanmaaagmeaaaPH
import Derived.Test.YtabanmaaagmeaaaMxDj
import Derived.Test.YtabanmaaagmeaaaPE
namespace Go.Proofs.Ytabanmaaagmeaaa
open Go.RowKit
open Lin
set_option linter.unusedVariables false
set_option linter.unusedSectionVars false

/-- A matrix copied up to a cell. -/
def inJ {q : Nat} [NeZero q] (X : Mt q) (i k : Nat) : Mt q := fun a l => if a < i ∨ (a = i ∧ l < k) then X a l else 0
theorem inJ_zero {q : Nat} [NeZero q] {X : Mt q} : inJ X 0 0 = fun _ _ => 0 := by funext a l; unfold inJ; rw [if_neg (by omega)]
theorem inJ_step {q : Nat} [NeZero q] {X : Mt q} {i k : Nat} : upd (inJ X i k) i k (X i k) = inJ X i (k + 1) := by
  funext a l
  unfold upd inJ
  by_cases e : a = i ∧ l = k
  · obtain ⟨rfl, rfl⟩ := e
    rw [if_pos ⟨rfl, rfl⟩, if_pos (.inr ⟨rfl, Nat.lt_succ_self _⟩)]
  · rw [if_neg e]
    by_cases e2 : a < i ∨ (a = i ∧ l < k)
    · rw [if_pos e2, if_pos (by omega)]
    · rw [if_neg e2, if_neg (by omega)]
theorem inJ_row {q : Nat} [NeZero q] {X : Mt q} {i n a l : Nat} (h : l < n) : inJ X i n a l = inJ X (i + 1) 0 a l := by
  unfold inJ
  by_cases e : a < i ∨ (a = i ∧ l < n)
  · rw [if_pos e, if_pos (by omega)]
  · rw [if_neg e, if_neg (by omega)]
theorem inJ_all {q : Nat} [NeZero q] {X : Mt q} {m a l : Nat} (h : a < m) : inJ X m 0 a l = X a l := by unfold inJ; rw [if_pos (.inl h)]
theorem inv_full {q m : Nat} [NeZero q] {A : Mt q} (hf : FldP q) (h : (red m A m).piv.length = m) (a l : Nat) : (red m (join m A unitM) (m + m)).A a (m + l) = inverse m A a l := by
  rw [red_full hf m (join m A unitM) m (by rw [piv_join hf m m A unitM]; exact h) m]
  rfl
set_option maxRecDepth 100000 in
set_option maxHeartbeats 3200000 in
theorem specIn_b1 {p r c : Int} {xs : List Int} {u : Value} {w : World} (hu : IntsAt w u xs) (hk : okB p r c xs = false) :
    Calls Try.prog 62 #[.agg #[.int .i64 p, .int .i64 r, .int .i64 c, u]] w fun e w' => RetMC 0 0 0 [] 1 w e w' := by
  have HU := Lib.hid hu
  obtain ⟨a1, c1, rfl, hl1, -⟩ := hu
  have HK := Lib.hid hk
  clear hk
  have Pa0 := PtM.new1 w p r c (.slice a1 xs.length c1) 27 (.cells #[.int .i64 0, .int .i64 0, .int .i64 0, .slice none 0 0] 27)
  have Pr0 := PtM.new (w.alloc (.cells #[.int .i64 p, .int .i64 r, .int .i64 c, .slice a1 xs.length c1] 27)) 0 0 0 (.slice none 0 0) 27
  have Fr0 := Fz.new (w.alloc (.cells #[.int .i64 p, .int .i64 r, .int .i64 c, .slice a1 xs.length c1] 27)) #[.int .i64 0, .int .i64 0, .int .i64 0, .slice none 0 0] 27
  rw [World.size_alloc] at Pr0 Fr0
  go_enter Try.func62, Try.ntmps62
  go_wp2_with fail
  with_reducible refine Calls.mono (specOk_is (T := false) Pa0 (HU.out.on (al1 (al1 (Below.refl _ _) _) _)) HK.out) ?_
  rintro e w1 ⟨rfl, d, hw1⟩
  have hb : Below ((w.alloc (.cells #[.int .i64 p, .int .i64 r, .int .i64 c, .slice a1 xs.length c1] 27)).alloc (.cells #[.int .i64 0, .int .i64 0, .int .i64 0, .slice none 0 0] 27)).heap.size ((w.alloc (.cells #[.int .i64 p, .int .i64 r, .int .i64 c, .slice a1 xs.length c1] 27)).alloc (.cells #[.int .i64 0, .int .i64 0, .int .i64 0, .slice none 0 0] 27)) w1 := by rw [hw1]; exact below_drewX (Below.refl _ _) d
  clear hw1
  have Pa := Lib.hid (Pa0.on hb)
  have Pr := Lib.hid (Pr0.on hb)
  have Fr : Hid (Fz w1 (w.heap.size + 1)) := Fr0.on (by simp) hb
  have HB := Lib.hid (up2 hb)
  have hz : w.heap.size + 2 ≤ w1.heap.size := by have := hb.size; simp at this; omega
  clear hb Pa0 Pr0 Fr0
  obtain ⟨lA, x0, x1, x2, x3⟩ := Pa.out
  obtain ⟨lR, r0, r1, r2, r3⟩ := Pr.out
  obtain ⟨f0, f1, f2, f3⟩ := Fr.out.all
  go_wp2_with fail
  refine bodyPost_ret (v := .tuple #[.agg #[.int .i64 0, .int .i64 0, .int .i64 0, .slice none 0 0], .int .i64 1]) (by simp [results, Try.results62, go_sem, r0, r1, r2, r3]) rfl ⟨_, rfl, OwnI.nul _ _, ?_⟩
  repeat (refine Below.setC ?_ (by omega) _)
  exact HB.out
set_option maxRecDepth 100000 in
set_option maxHeartbeats 3200000 in
theorem specIn_b2 {p r c : Int} {xs : List Int} {u : Value} {w : World} (hu : IntsAt w u xs) (hk : okB p r c xs = true) (hrc : (r != c) = true) :
    Calls Try.prog 62 #[.agg #[.int .i64 p, .int .i64 r, .int .i64 c, u]] w fun e w' => RetMC 0 0 0 [] 6 w e w' := by
  have HU := Lib.hid hu
  obtain ⟨a1, c1, rfl, hl1, -⟩ := hu
  have HK := Lib.hid hk
  clear hk
  have Pa0 := PtM.new1 w p r c (.slice a1 xs.length c1) 27 (.cells #[.int .i64 0, .int .i64 0, .int .i64 0, .slice none 0 0] 27)
  have Pr0 := PtM.new (w.alloc (.cells #[.int .i64 p, .int .i64 r, .int .i64 c, .slice a1 xs.length c1] 27)) 0 0 0 (.slice none 0 0) 27
  have Fr0 := Fz.new (w.alloc (.cells #[.int .i64 p, .int .i64 r, .int .i64 c, .slice a1 xs.length c1] 27)) #[.int .i64 0, .int .i64 0, .int .i64 0, .slice none 0 0] 27
  rw [World.size_alloc] at Pr0 Fr0
  go_enter Try.func62, Try.ntmps62
  go_wp2_with fail
  with_reducible refine Calls.mono (specOk_is (T := true) Pa0 (HU.out.on (al1 (al1 (Below.refl _ _) _) _)) HK.out) ?_
  rintro e w1 ⟨rfl, d, hw1⟩
  have hb : Below ((w.alloc (.cells #[.int .i64 p, .int .i64 r, .int .i64 c, .slice a1 xs.length c1] 27)).alloc (.cells #[.int .i64 0, .int .i64 0, .int .i64 0, .slice none 0 0] 27)).heap.size ((w.alloc (.cells #[.int .i64 p, .int .i64 r, .int .i64 c, .slice a1 xs.length c1] 27)).alloc (.cells #[.int .i64 0, .int .i64 0, .int .i64 0, .slice none 0 0] 27)) w1 := by rw [hw1]; exact below_drewX (Below.refl _ _) d
  clear hw1
  have Pa := Lib.hid (Pa0.on hb)
  have Pr := Lib.hid (Pr0.on hb)
  have Fr : Hid (Fz w1 (w.heap.size + 1)) := Fr0.on (by simp) hb
  have HB := Lib.hid (up2 hb)
  have hz : w.heap.size + 2 ≤ w1.heap.size := by have := hb.size; simp at this; omega
  clear hb Pa0 Pr0 Fr0
  obtain ⟨lA, x0, x1, x2, x3⟩ := Pa.out
  obtain ⟨lR, r0, r1, r2, r3⟩ := Pr.out
  obtain ⟨f0, f1, f2, f3⟩ := Fr.out.all
  go_wp2_with fail
  refine bodyPost_ret (v := .tuple #[.agg #[.int .i64 0, .int .i64 0, .int .i64 0, .slice none 0 0], .int .i64 6]) (by simp [results, Try.results62, go_sem, r0, r1, r2, r3]) rfl ⟨_, rfl, OwnI.nul _ _, ?_⟩
  repeat (refine Below.setC ?_ (by omega) _)
  exact HB.out
set_option maxRecDepth 100000 in
set_option maxHeartbeats 6400000 in
theorem specIn_s {q m : Nat} [NeZero q] {A : Mt q} {u : Value} {w : World} (hu : IntsC w u (flat m m A)) (hA : MIs q m m (flat m m A) q m m A) (hx : (red m A m).piv.length ≠ m) :
    Calls Try.prog 62 #[.agg #[.int .i64 (q : Int), .int .i64 (m : Int), .int .i64 (m : Int), u]] w fun e w' => RetMC 0 0 0 [] 3 w e w' := by
  have hk : okB (q : Int) m m (flat m m A) = true := okB_yes hA.ok
  obtain ⟨hq2, hq⟩ := hA.q2
  have hpr := hA.pr
  have hm32 := hA.m32
  have hfd := fd_of hpr
  have hpl := piv_le_rows hfd m m A
  have HA := Lib.hid hA
  have HPR := Lib.hid hpr
  have HUC := Lib.hid hu
  have hu1 := hu.1
  clear hA hu hpr
  have HU := Lib.hid hu1
  obtain ⟨a1, c1, rfl, hl1, -⟩ := hu1
  have HK := Lib.hid hk
  clear hk
  simp only [flat_len] at HU HUC hl1 ⊢
  have Pa0 := PtM.new1 w q m m (.slice a1 (m * m) c1) 27 (.cells #[.int .i64 0, .int .i64 0, .int .i64 0, .slice none 0 0] 27)
  have Pr0 := PtM.new (w.alloc (.cells #[.int .i64 q, .int .i64 m, .int .i64 m, .slice a1 (m * m) c1] 27)) 0 0 0 (.slice none 0 0) 27
  have Fr0 := Fz.new (w.alloc (.cells #[.int .i64 q, .int .i64 m, .int .i64 m, .slice a1 (m * m) c1] 27)) #[.int .i64 0, .int .i64 0, .int .i64 0, .slice none 0 0] 27
  rw [World.size_alloc] at Pr0 Fr0
  go_enter Try.func62, Try.ntmps62
  go_wp2_with fail
  with_reducible refine Calls.mono (specOk_is (T := true) Pa0 (HU.out.on (al1 (al1 (Below.refl _ _) _) _)) HK.out) ?_
  rintro e w1 ⟨rfl, d, hw1⟩
  have hb : Below ((w.alloc (.cells #[.int .i64 q, .int .i64 m, .int .i64 m, .slice a1 (m * m) c1] 27)).alloc (.cells #[.int .i64 0, .int .i64 0, .int .i64 0, .slice none 0 0] 27)).heap.size ((w.alloc (.cells #[.int .i64 q, .int .i64 m, .int .i64 m, .slice a1 (m * m) c1] 27)).alloc (.cells #[.int .i64 0, .int .i64 0, .int .i64 0, .slice none 0 0] 27)) w1 := by rw [hw1]; exact below_drewX (Below.refl _ _) d
  clear hw1
  have Pa := Lib.hid (Pa0.on hb)
  have Pr := Lib.hid (Pr0.on hb)
  have Fr : Hid (Fz w1 (w.heap.size + 1)) := Fr0.on (by simp) hb
  have HB := Lib.hid (up2 hb)
  have hz : w.heap.size + 2 ≤ w1.heap.size := by have := hb.size; simp at this; omega
  clear hb Pa0 Pr0 Fr0
  obtain ⟨lA, x0, x1, x2, x3⟩ := Pa.out
  obtain ⟨lR, r0, r1, r2, r3⟩ := Pr.out
  obtain ⟨f0, f1, f2, f3⟩ := Fr.out.all
  have hmm : ((m : Int) != (m : Int)) = false := by simp
  obtain ⟨N, hN⟩ : ∃ N, (red m A m).piv.length = N := ⟨_, rfl⟩
  have HNN := Lib.hid hN
  rw [hN] at hx hpl
  have hx1 : ((N : Int) != (m : Int)) = true := by simp; omega
  have hx := Lib.hid hx
  clear hN
  have neA := Pa.out.ne
  go_wp2_with fail
  go_region_held3 (fun w' => w'.cell? ⟨w.heap.size, 1, none⟩ = some (.int .i64 m)) (go_keep)
    (first
      | (go_at_call 98; have hc := l03Rank_any Pa.out.drew (HUC.out.on HB.out).drew HPR.out hm32 (by omega : m ≤ 64); rw [HNN.out] at hc; refine hc.mono ?_; rintro e wb ⟨rfl, hbb'⟩; have hbb := undrew hbb'; obtain ⟨_, _, _, _, _⟩ := Pa.out.on hbb))
  clear lA x0 x1 x2 x3 lR r0 r1 r2 r3 f0 f1 f2 f3
  have Pa := Lib.hid (Pa.out.on hbb)
  have Pr := Lib.hid (Pr.out.on hbb)
  have Fr : Hid (Fz wb (w.heap.size + 1)) := Fr.out.on (by omega) hbb
  have HB := Lib.hid (HB.out.trans (hbb.mono (by omega)))
  have hzwb : w.heap.size + 2 ≤ wb.heap.size := by have := hbb.size; omega
  have hvwb := hbb.size
  clear hbb hbb'
  obtain ⟨lA, x0, x1, x2, x3⟩ := Pa.out
  obtain ⟨lR, r0, r1, r2, r3⟩ := Pr.out
  obtain ⟨f0, f1, f2, f3⟩ := Fr.out.all
  go_wp2_with fail
  refine bodyPost_ret (v := .tuple #[.agg #[.int .i64 0, .int .i64 0, .int .i64 0, .slice none 0 0], .int .i64 3]) (by simp [results, Try.results62, go_sem, r0, r1, r2, r3]) rfl ⟨_, rfl, OwnI.nul _ _, ?_⟩
  repeat (refine Below.setC ?_ (by omega) _)
  exact HB.out
set_option maxRecDepth 100000 in
set_option maxHeartbeats 12800000 in
theorem specIn_ok {q m : Nat} [NeZero q] {A : Mt q} {u : Value} {w : World} (hu : IntsC w u (flat m m A)) (hA : MIs q m m (flat m m A) q m m A) (hx : (red m A m).piv.length = m) :
    Calls Try.prog 62 #[.agg #[.int .i64 (q : Int), .int .i64 (m : Int), .int .i64 (m : Int), u]] w fun e w' => RetMC q m m (flat m m (inverse m A)) 0 w e w' := by
  have hk : okB (q : Int) m m (flat m m A) = true := okB_yes hA.ok
  obtain ⟨hq2, hq⟩ := hA.q2
  have hpr := hA.pr
  have hm32 := hA.m32
  have hfd := fd_of hpr
  have hpl := piv_le_rows hfd m m A
  have HA := Lib.hid hA
  have HPR := Lib.hid hpr
  have HUC := Lib.hid hu
  have hu1 := hu.1
  clear hA hu hpr
  have HU := Lib.hid hu1
  obtain ⟨a1, c1, rfl, hl1, -⟩ := hu1
  have HK := Lib.hid hk
  clear hk
  simp only [flat_len] at HU HUC hl1 ⊢
  have Pa0 := PtM.new1 w q m m (.slice a1 (m * m) c1) 27 (.cells #[.int .i64 0, .int .i64 0, .int .i64 0, .slice none 0 0] 27)
  have Pr0 := PtM.new (w.alloc (.cells #[.int .i64 q, .int .i64 m, .int .i64 m, .slice a1 (m * m) c1] 27)) 0 0 0 (.slice none 0 0) 27
  have Fr0 := Fz.new (w.alloc (.cells #[.int .i64 q, .int .i64 m, .int .i64 m, .slice a1 (m * m) c1] 27)) #[.int .i64 0, .int .i64 0, .int .i64 0, .slice none 0 0] 27
  rw [World.size_alloc] at Pr0 Fr0
  go_enter Try.func62, Try.ntmps62
  go_wp2_with fail
  with_reducible refine Calls.mono (specOk_is (T := true) Pa0 (HU.out.on (al1 (al1 (Below.refl _ _) _) _)) HK.out) ?_
  rintro e w1 ⟨rfl, d, hw1⟩
  have hb : Below ((w.alloc (.cells #[.int .i64 q, .int .i64 m, .int .i64 m, .slice a1 (m * m) c1] 27)).alloc (.cells #[.int .i64 0, .int .i64 0, .int .i64 0, .slice none 0 0] 27)).heap.size ((w.alloc (.cells #[.int .i64 q, .int .i64 m, .int .i64 m, .slice a1 (m * m) c1] 27)).alloc (.cells #[.int .i64 0, .int .i64 0, .int .i64 0, .slice none 0 0] 27)) w1 := by rw [hw1]; exact below_drewX (Below.refl _ _) d
  clear hw1
  have Pa := Lib.hid (Pa0.on hb)
  have Pr := Lib.hid (Pr0.on hb)
  have Fr : Hid (Fz w1 (w.heap.size + 1)) := Fr0.on (by simp) hb
  have HB := Lib.hid (up2 hb)
  have hz : w.heap.size + 2 ≤ w1.heap.size := by have := hb.size; simp at this; omega
  clear hb Pa0 Pr0 Fr0
  obtain ⟨lA, x0, x1, x2, x3⟩ := Pa.out
  obtain ⟨lR, r0, r1, r2, r3⟩ := Pr.out
  obtain ⟨f0, f1, f2, f3⟩ := Fr.out.all
  have HIV := Lib.hid (fun a l => inv_full hfd hx a l)
  have hmm2 := side_mul hm32 hm32
  have hmm : ((m : Int) != (m : Int)) = false := by simp
  obtain ⟨N, hN⟩ : ∃ N, (red m A m).piv.length = N := ⟨_, rfl⟩
  have HNN := Lib.hid hN
  rw [hN] at hx hpl
  have hx1 : ((N : Int) != (m : Int)) = false := by simp; omega
  have hx := Lib.hid hx
  clear hN
  have neA := Pa.out.ne
  go_wp2_with fail
  go_region_held3 (fun w' => w'.cell? ⟨w.heap.size, 1, none⟩ = some (.int .i64 m)) (go_keep)
    (first
      | (go_at_call 98; have hc := l03Rank_any Pa.out.drew (HUC.out.on HB.out).drew HPR.out hm32 (by omega : m ≤ 64); rw [HNN.out] at hc; refine hc.mono ?_; rintro e wb ⟨rfl, hbb'⟩; have hbb := undrew hbb'; obtain ⟨_, _, _, _, _⟩ := Pa.out.on hbb))
  clear lA x0 x1 x2 x3 lR r0 r1 r2 r3 f0 f1 f2 f3
  have Pa := Lib.hid (Pa.out.on hbb)
  have Pr := Lib.hid (Pr.out.on hbb)
  have Fr : Hid (Fz wb (w.heap.size + 1)) := Fr.out.on (by omega) hbb
  have HB := Lib.hid (HB.out.trans (hbb.mono (by omega)))
  have hzwb : w.heap.size + 2 ≤ wb.heap.size := by have := hbb.size; omega
  have hvwb := hbb.size
  clear hbb hbb'
  obtain ⟨lA, x0, x1, x2, x3⟩ := Pa.out
  obtain ⟨lR, r0, r1, r2, r3⟩ := Pr.out
  obtain ⟨f0, f1, f2, f3⟩ := Fr.out.all
  go_wp2_with fail
  with_reducible refine Calls.mono (specUnitF_any (q := q) (q : Int) m _ hq2 hm32) ?_
  rintro e w3 ⟨v, rfl, ho, hb⟩
  have HUN := Lib.hid (ho.atC (by rw [flat_len]; omega))
  obtain ⟨ua, uc, rfl⟩ := ho.slice
  simp only [flat_len] at HUN ⊢
  clear lA x0 x1 x2 x3 lR r0 r1 r2 r3 f0 f1 f2 f3
  have Pa := Lib.hid (Pa.out.on hb)
  have Pr := Lib.hid (Pr.out.on hb)
  have Fr : Hid (Fz w3 (w.heap.size + 1)) := Fr.out.on (by omega) hb
  have HB := Lib.hid (HB.out.trans (hb.mono (by omega)))
  have hzw3 : w.heap.size + 2 ≤ w3.heap.size := by have := hb.size; omega
  have hvw3 := hb.size
  clear hb ho
  obtain ⟨lA, x0, x1, x2, x3⟩ := Pa.out
  obtain ⟨lR, r0, r1, r2, r3⟩ := Pr.out
  obtain ⟨f0, f1, f2, f3⟩ := Fr.out.all
  go_wp2_with fail
  have bb := (Below.refl w3.heap.size w3).alloc (Nat.le_refl _) (.cells #[.int .i64 q, .int .i64 m, .int .i64 m, .slice ua (m * m) uc] 27)
  have Pu := PtM.new w3 (q : Int) (m : Int) (m : Int) (.slice ua (m * m) uc) 27
  generalize hW : World.alloc w3 (.cells #[.int .i64 q, .int .i64 m, .int .i64 m, .slice ua (m * m) uc] 27) = W3 at bb Pu ⊢
  obtain ⟨X3, hX3⟩ : ∃ X, w3.heap.size = X := ⟨_, rfl⟩
  have hzX3 : X3 + 1 ≤ W3.heap.size := by rw [← hW, ← hX3]; simp
  have hzY3 : w.heap.size + 2 ≤ X3 := by omega
  rw [hX3] at Pu ⊢
  have Pu := Lib.hid Pu
  clear lA x0 x1 x2 x3 lR r0 r1 r2 r3 f0 f1 f2 f3
  have Pa := Lib.hid (Pa.out.on bb)
  have Pr := Lib.hid (Pr.out.on bb)
  have Fr : Hid (Fz W3 (w.heap.size + 1)) := Fr.out.on (by omega) bb
  have HB := Lib.hid (HB.out.trans (bb.mono (by omega)))
  have HUN := Lib.hid (HUN.out.on bb)
  have hzW3 : w.heap.size + 2 ≤ W3.heap.size := by have := bb.size; omega
  have hvW3 := bb.size
  clear bb hW
  obtain ⟨lA, x0, x1, x2, x3⟩ := Pa.out
  obtain ⟨lR, r0, r1, r2, r3⟩ := Pr.out
  obtain ⟨f0, f1, f2, f3⟩ := Fr.out.all
  obtain ⟨n2, hn2⟩ : ∃ n2, m + m = n2 := ⟨_, rfl⟩
  have HN2 := Lib.hid hn2
  have hn64 : n2 ≤ 64 := by omega
  have hm2 : n2 = m + m := hn2.symm
  have HM2 := Lib.hid hm2
  have hj := l03Join_any Pa.out Pu.out (HUC.out.on HB.out) HUN.out hm32 hm32 hm32
  rw [show (m : Int) + (m : Int) = (n2 : Int) by omega, hn2] at hj
  clear hn2 hm2
  refine hj.mono ?_
  rintro e w4 ⟨v, rfl, ho, hb⟩
  clear hj
  have hl4 : m * n2 ≤ 32 * 64 := Nat.mul_le_mul hm32 hn64
  have HBO := Lib.hid (ho.atC (by rw [flat_len]; omega))
  obtain ⟨ba, bc, rfl⟩ := ho.slice
  simp only [flat_len] at HBO ⊢
  clear lA x0 x1 x2 x3 lR r0 r1 r2 r3 f0 f1 f2 f3
  have Pa := Lib.hid (Pa.out.on hb)
  have Pr := Lib.hid (Pr.out.on hb)
  have Fr : Hid (Fz w4 (w.heap.size + 1)) := Fr.out.on (by omega) hb
  have HB := Lib.hid (HB.out.trans (hb.mono (by omega)))
  have hzw4 : w.heap.size + 2 ≤ w4.heap.size := by have := hb.size; omega
  have hvw4 := hb.size
  clear hb ho
  obtain ⟨lA, x0, x1, x2, x3⟩ := Pa.out
  obtain ⟨lR, r0, r1, r2, r3⟩ := Pr.out
  obtain ⟨f0, f1, f2, f3⟩ := Fr.out.all
  go_wp2_with fail
  have bb := (Below.refl w4.heap.size w4).alloc (Nat.le_refl _) (.cells #[.int .i64 q, .int .i64 m, .int .i64 n2, .slice ba (m * n2) bc] 27)
  have Pb := PtM.new w4 (q : Int) (m : Int) (n2 : Int) (.slice ba (m * n2) bc) 27
  generalize hW : World.alloc w4 (.cells #[.int .i64 q, .int .i64 m, .int .i64 n2, .slice ba (m * n2) bc] 27) = W4 at bb Pb ⊢
  obtain ⟨X4, hX4⟩ : ∃ X, w4.heap.size = X := ⟨_, rfl⟩
  have hzX4 : X4 + 1 ≤ W4.heap.size := by rw [← hW, ← hX4]; simp
  have hzY4 : w.heap.size + 2 ≤ X4 := by omega
  rw [hX4] at Pb ⊢
  have Pb := Lib.hid Pb
  clear lA x0 x1 x2 x3 lR r0 r1 r2 r3 f0 f1 f2 f3
  have Pa := Lib.hid (Pa.out.on bb)
  have Pr := Lib.hid (Pr.out.on bb)
  have Fr : Hid (Fz W4 (w.heap.size + 1)) := Fr.out.on (by omega) bb
  have HB := Lib.hid (HB.out.trans (bb.mono (by omega)))
  have HBO := Lib.hid (HBO.out.on bb)
  have hzW4 : w.heap.size + 2 ≤ W4.heap.size := by have := bb.size; omega
  have hvW4 := bb.size
  clear bb hW
  with_reducible refine Calls.mono (l03Reduced_any Pb.out HBO.out HPR.out hm32 hn64) ?_
  rintro e w5 ⟨v, pv, rfl, ho, hop, hb, -⟩
  obtain ⟨s, hs⟩ : ∃ s, red m (join m A unitM) n2 = s := ⟨_, rfl⟩
  have HS := Lib.hid hs
  rw [hs] at ho hop ⊢
  have HFO := Lib.hid ho
  have HFB := Lib.hid (fun g hg => (ho.out.lt g hg).2)
  obtain ⟨fa, fc, rfl⟩ := ho.slice
  obtain ⟨pa, pc, rfl⟩ := hop.slice
  simp only [flat_len] at HFO ⊢
  have Pa := Lib.hid (Pa.out.on hb)
  have Pr := Lib.hid (Pr.out.on hb)
  have Fr : Hid (Fz w5 (w.heap.size + 1)) := Fr.out.on (by omega) hb
  have HB := Lib.hid (HB.out.trans (hb.mono (by omega)))
  have Pb := Lib.hid (Pb.out.on hb)
  have hzw5 : w.heap.size + 2 ≤ w5.heap.size := by have := hb.size; omega
  have hvw5 := hb.size
  have hz45 := hb.size
  clear hb ho hop hs
  obtain ⟨lA, x0, x1, x2, x3⟩ := Pa.out
  obtain ⟨lR, r0, r1, r2, r3⟩ := Pr.out
  obtain ⟨f0, f1, f2, f3⟩ := Fr.out.all
  go_wp2_with fail
  have bb := (Below.refl w5.heap.size w5).alloc (Nat.le_refl _) (.cells #[.int .i64 q, .int .i64 m, .int .i64 n2, .slice fa (m * n2) fc] 27)
  have Pf := PtM.new w5 (q : Int) (m : Int) (n2 : Int) (.slice fa (m * n2) fc) 27
  generalize hW : World.alloc w5 (.cells #[.int .i64 q, .int .i64 m, .int .i64 n2, .slice fa (m * n2) fc] 27) = W5 at bb Pf ⊢
  obtain ⟨X5, hX5⟩ : ∃ X, w5.heap.size = X := ⟨_, rfl⟩
  have hzX5 : X5 + 1 ≤ W5.heap.size := by rw [← hW, ← hX5]; simp
  have hzY5 : w.heap.size + 2 ≤ X5 := by omega
  rw [hX5] at Pf ⊢
  have Pf := Lib.hid Pf
  clear lA x0 x1 x2 x3 lR r0 r1 r2 r3 f0 f1 f2 f3
  have Pa := Lib.hid (Pa.out.on bb)
  have Pr := Lib.hid (Pr.out.on bb)
  have Fr : Hid (Fz W5 (w.heap.size + 1)) := Fr.out.on (by omega) bb
  have HB := Lib.hid (HB.out.trans (bb.mono (by omega)))
  have Pb := Lib.hid (Pb.out.on bb)
  have HFO := Lib.hid (HFO.out.on bb)
  have hzW5 : w.heap.size + 2 ≤ W5.heap.size := by have := bb.size; omega
  have hvW5 := bb.size
  clear bb hW
  with_reducible refine Calls.mono (specZeros_any q m m (m * m) _ (Int.natCast_mul m m).symm (by omega)) ?_
  rintro e w6 ⟨h, rfl, hh, hrow, hb⟩
  have HMG : Hid (MatG w6 h (m * m) m m (fun _ _ => (0 : Fin q))) := ⟨_, hrow, Nat.le_refl _, by unfold maxLen; omega, fun t _ => by show _ = Value.int .i64 (fv (0 : Fin q)); rw [fv_zero]⟩
  have Pa := Lib.hid (Pa.out.on hb)
  have Pr := Lib.hid (Pr.out.on hb)
  have Fr : Hid (Fz w6 (w.heap.size + 1)) := Fr.out.on (by omega) hb
  have HB := Lib.hid (HB.out.trans (hb.mono (by omega)))
  have Pb := Lib.hid (Pb.out.on hb)
  have Pf := Lib.hid (Pf.out.on hb)
  have HFO := Lib.hid (HFO.out.on hb)
  have hzw6 : w.heap.size + 2 ≤ w6.heap.size := by have := hb.size; omega
  have hvw6 := hb.size
  have hz56 := hb.size
  clear hb hrow
  obtain ⟨lA, x0, x1, x2, x3⟩ := Pa.out
  obtain ⟨lR, r0, r1, r2, r3⟩ := Pr.out
  obtain ⟨f0, f1, f2, f3⟩ := Fr.out.all
  go_wp2_with fail
  have bb := (Below.refl w6.heap.size w6).alloc (Nat.le_refl _) (.cells #[.int .i64 q, .int .i64 m, .int .i64 m, .slice (some ⟨h, 0, none⟩) (m * m) (m * m)] 27)
  have Po := PtM.new w6 (q : Int) (m : Int) (m : Int) (.slice (some ⟨h, 0, none⟩) (m * m) (m * m)) 27
  generalize hW : World.alloc w6 (.cells #[.int .i64 q, .int .i64 m, .int .i64 m, .slice (some ⟨h, 0, none⟩) (m * m) (m * m)] 27) = W6 at bb Po ⊢
  obtain ⟨X6, hX6⟩ : ∃ X, w6.heap.size = X := ⟨_, rfl⟩
  have hzX6 : X6 + 1 ≤ W6.heap.size := by rw [← hW, ← hX6]; simp
  have hhX : h < X6 := by rw [← hX6]; exact HMG.out.lt
  have hzY6 : w.heap.size + 2 ≤ X6 := by omega
  rw [hX6] at Po ⊢
  have Po := Lib.hid Po
  clear lA x0 x1 x2 x3 lR r0 r1 r2 r3 f0 f1 f2 f3
  have Pa := Lib.hid (Pa.out.on bb)
  have Pr := Lib.hid (Pr.out.on bb)
  have Fr : Hid (Fz W6 (w.heap.size + 1)) := Fr.out.on (by omega) bb
  have HB := Lib.hid (HB.out.trans (bb.mono (by omega)))
  have Pb := Lib.hid (Pb.out.on bb)
  have Pf := Lib.hid (Pf.out.on bb)
  have HFO := Lib.hid (HFO.out.on bb)
  have HMG := Lib.hid (HMG.out.on bb)
  have hzW6 : w.heap.size + 2 ≤ W6.heap.size := by have := bb.size; omega
  have hvW6 := bb.size
  clear bb hW
  go_loopw [10] (fun si wr => ∃ i : Nat, i ≤ m ∧ si = .int .i64 (i : Int) ∧ Hid (MatG wr h (m * m) m m (inJ (fun a l => s.A a (m + l)) i 0)) ∧ Hid (W6.grownBy wr (some h))) (fun si _ => m - (intOf si).toNat)
  case atStart => exact ⟨0, Nat.zero_le _, rfl, by rw [inJ_zero]; exact HMG.out, grown_refl _ _⟩
  case round =>
    obtain ⟨i, hi, rfl, HX, HG⟩ := hrel
    obtain ⟨lA, x0, x1, x2, x3⟩ := Pa.out.gb HG.out (by omega)
    by_cases hit : i < m
    · as_aux_lemma =>
      have i1 : (i : Int) < (m : Int) := by omega
      go_wp2_with fail
      clear lA x0 x1 x2 x3
      go_loopw [11] (fun sk wr => ∃ k : Nat, k ≤ m ∧ sk = .int .i64 (k : Int) ∧ Hid (MatG wr h (m * m) m m (inJ (fun a l => s.A a (m + l)) i k)) ∧ Hid (W6.grownBy wr (some h))) (fun sk _ => m - (intOf sk).toNat)
      case atStart => exact ⟨0, Nat.zero_le _, rfl, HX.out, HG.out⟩
      case round =>
        clear HX HG
        obtain ⟨k, hk, rfl, HX, HG⟩ := hrel
        obtain ⟨lA, x0, x1, x2, x3⟩ := Pa.out.gb HG.out (by omega)
        by_cases hkt : k < m
        · as_aux_lemma =>
          have k1 : (k : Int) < (m : Int) := by omega
          have h2 : m + k < n2 := by have := HM2.out; omega
          obtain ⟨G, GC, eG, hGb, hGC, hMG⟩ := MatG.of_own HFO.out (Nat.mul_pos (by omega) (by omega))
          obtain ⟨e1, -, e3⟩ : fa = _ ∧ _ ∧ fc = GC := by injection eG with e1 e2 e3; exact ⟨e1, e2, e3⟩
          subst e1
          subst e3
          have hGh : G ≠ h := by have := HFB.out G rfl; omega
          have cf := (gb_cell HG.out (b := G) (o := i * n2 + (m + k)) hMG.lt hGh).trans (hMG.cell hit h2)
          have lf := idx_lt hit h2
          have co := HX.out.cell hit hkt
          have lo := idx_lt hit hkt
          have fo := HX.out.frozen (i * m + k)
          have HXN : Hid (MatG ((wr.setCell ⟨h, i * m + k, none⟩ (.int .i64 (fv (s.A i (m + k))))).drew) h (m * m) m m (inJ (fun a l => s.A a (m + l)) i (k + 1))) := by
            have h := (HX.out.set hit hkt (s.A i (m + k))).drew
            rw [inJ_step (X := fun a l => s.A a (m + l))] at h
            exact h
          have HGN : Hid (W6.grownBy ((wr.setCell ⟨h, i * m + k, none⟩ (.int .i64 (fv (s.A i (m + k))))).drew) (some h)) := gb_drew (gb_set HG.out _)
          obtain ⟨lB, b0, b1, b2, b3⟩ := Pb.out.gb HG.out (by omega)
          obtain ⟨lF, g0, g1, g2, g3⟩ := Pf.out.gb HG.out (by omega)
          obtain ⟨lO, o0, o1, o2, o3⟩ := Po.out.gb HG.out (by omega)
          obtain ⟨M1, hM1⟩ : ∃ M, m * m = M := ⟨_, rfl⟩
          obtain ⟨M2, hM2⟩ : ∃ M, m * n2 = M := ⟨_, rfl⟩
          rw [hM1] at lo o3 HXN hmm2
          rw [hM2] at lf g3 hl4
          obtain ⟨y1, hy1⟩ : ∃ y, i * m = y := ⟨_, rfl⟩
          rw [hy1] at lo co fo HXN HGN
          obtain ⟨v1, hv1⟩ : ∃ v, y1 + k = v := ⟨_, rfl⟩
          rw [hv1] at lo co fo HXN HGN
          obtain ⟨y2, hy2⟩ : ∃ y, i * n2 = y := ⟨_, rfl⟩
          rw [hy2] at lf cf
          obtain ⟨v2, hv2⟩ : ∃ v, y2 + (m + k) = v := ⟨_, rfl⟩
          rw [hv2] at lf cf
          obtain ⟨z, hzz⟩ : ∃ z, fv (s.A i (m + k)) = z := ⟨_, rfl⟩
          rw [hzz] at cf HXN HGN
          have wa : IntKind.i64.wrap ((i : Int) * (m : Int)) = (y1 : Int) := by rw [← Int.natCast_mul, hy1]; exact IntWalk.i64_in _ (by omega)
          have wb' : IntKind.i64.wrap ((y1 : Int) + (k : Int)) = (v1 : Int) := by rw [← Int.natCast_add, hv1]; exact IntWalk.i64_in _ (by omega)
          have wc : IntKind.i64.wrap ((i : Int) * (n2 : Int)) = (y2 : Int) := by rw [← Int.natCast_mul, hy2]; exact IntWalk.i64_in _ (by omega)
          obtain ⟨y3, hy3⟩ : ∃ y, y2 + m = y := ⟨_, rfl⟩
          have wd : IntKind.i64.wrap ((y2 : Int) + (m : Int)) = (y3 : Int) := by rw [← Int.natCast_add, hy3]; exact IntWalk.i64_in _ (by omega)
          have we : IntKind.i64.wrap ((y3 : Int) + (k : Int)) = (v2 : Int) := by rw [show (y3 : Int) + (k : Int) = (v2 : Int) by omega]; exact IntWalk.i64_in _ (by omega)
          have p0 : (0 : Int) ≤ (v1 : Int) := by omega
          have p1 : (v1 : Int) < (M1 : Int) := by omega
          have p2 : (0 : Int) ≤ (v2 : Int) := by omega
          have p3 : (v2 : Int) < (M2 : Int) := by omega
          have hM1 := Lib.hid hM1
          have hGh' := Ne.symm hGh
          have nhA : ¬ h = w.heap.size := by omega
          have nhO : ¬ h = X6 := by omega
          have nhB : ¬ h = X4 := by omega
          have nhF : ¬ h = X5 := by omega
          clear hM2 hy1 hv1 hy2 hv2 hzz hy3 hMG eG HX HG
          go_wp2
          go_region
          go_wp2
          go_roundw
          case rel => exact ⟨k + 1, by omega, by go_num, by rw [hM1.out]; exact HXN.out, HGN.out⟩
          case measure => simp [intOf]; omega
        · as_aux_lemma =>
          obtain rfl : m = k := by omega
          have HXN : Hid (MatG wr h (m * m) m m (inJ (fun a l => s.A a (m + l)) (i + 1) 0)) := HX.out.congr fun a l _ hl => inJ_row hl
          clear HX
          go_wp2
          go_roundw
          case rel => exact ⟨i + 1, by omega, by go_num, HXN.out, HG.out⟩
          case measure => simp [intOf]; omega
    · as_aux_lemma =>
      obtain rfl : m = i := by omega
      have HXE : Hid (MatG wr h (m * m) m m (inverse m A)) := by
        refine HX.out.congr fun a l ha _ => ?_
        rw [inJ_all ha, ← HS.out, HM2.out]
        exact HIV.out a l
      have hq := Lib.hid ((Pr.out.gb HG.out (by omega)).set4 q m m (.slice (some ⟨h, 0, none⟩) (m * m) (m * m)))
      have HBB := Lib.hid (below_gb HB.out HG.out (by omega) (by omega))
      obtain ⟨lR, r0, r1, r2, r3⟩ := Pr.out.gb HG.out (by omega)
      obtain ⟨f0, f1, f2, f3⟩ := (Fr.out.gb (by omega) HG.out (by omega)).all
      obtain ⟨lO, o0, o1, o2, o3⟩ := Po.out.gb HG.out (by omega)
      have neO := (Po.out.gb HG.out (by omega)).ne
      go_wp2_with fail
      obtain ⟨_, q0, q1, q2, q3⟩ := hq.out
      refine bodyPost_ret (v := .tuple #[.agg #[.int .i64 q, .int .i64 m, .int .i64 m, .slice (some ⟨h, 0, none⟩) (m * m) (m * m)], .int .i64 0]) (by simp [results, Try.results62, go_sem, q0, q1, q2, q3]) rfl ⟨_, rfl, ?_, ?_⟩
      · refine OwnI.mono (B := w1.heap.size) ?_ (by omega)
        repeat (refine OwnI.setOut ?_ (by omega) _)
        exact HXE.out.own (by omega)
      · repeat (refine Below.setC ?_ (by omega) _)
        exact HBB.out
theorem specIn_any {p r c P R C k : Int} {u : Value} {xs zs : List Int} {w : World} (hu : IntsC w u xs) (h : InRes p r c xs P R C zs k) :
    Calls Try.prog 62 #[.agg #[.int .i64 p, .int .i64 r, .int .i64 c, u]] w fun e w' => RetMC P R C zs k w e w' := by
  rcases h with ⟨⟨b, hb, h⟩, hk, rfl, rfl, rfl, rfl⟩ | ⟨u', _, m, A, hA, ⟨hx, rfl, rfl, rfl, rfl, rfl⟩ | ⟨hx, rfl, rfl, rfl, rfl, rfl⟩⟩
  · rcases h.bad hk with ⟨hb', rfl⟩ | ⟨h1, h2, hf, rfl⟩
    · exact specIn_b1 hu.1 (okB_no fun e => hb' ⟨e, e⟩)
    · exact specIn_b2 hu.1 (okB_yes h1) (by cases b with
      | false => simp [bne, hb]
      | true => exact absurd ⟨rfl, rfl⟩ hf)
  · obtain ⟨rfl, rfl, rfl, rfl, h5, h6, h7⟩ := hA
    exact specIn_s hu ⟨rfl, rfl, rfl, rfl, h5, h6, h7⟩ hx
  · obtain ⟨rfl, rfl, rfl, rfl, h5, h6, h7⟩ := hA
    exact specIn_ok hu ⟨rfl, rfl, rfl, rfl, h5, h6, h7⟩ hx
end Go.Proofs.Ytabanmaaagmeaaa
