/-
  Contracts of AddMatrices and ScaleMatrix of the program.
-/
import Derived.Test.YtabanmaaagmeaaaMxF
import Derived.Test.YtabanmaaagmeaaaMxD
namespace Go.Proofs.Ytabanmaaagmeaaa
open Go.RowKit
open Lin
set_option linter.unusedVariables false
set_option linter.unusedSectionVars false

theorem MOk.form2 {p r c s d : Int} {xs ys : List Int} (h : MOk p r c xs) (g : MOk p s d ys) : ∃ (q : Nat) (_ : NeZero q) (m n : Nat) (A : Mt q) (m' n' : Nat) (B : Mt q), MIs p r c xs q m n A ∧ MIs p s d ys q m' n' B := by
  obtain ⟨q, i1, m, n, A, hA⟩ := h.form
  obtain ⟨q', i2, m', n', B, hB⟩ := g.form
  obtain rfl : q = q' := by have := hA.p; have := hB.p; omega
  exact ⟨q, i1, m, n, A, m', n', B, hA, hB⟩
theorem MIs.q2 {p r c : Int} {zs : List Int} {q : Nat} [NeZero q] {m n : Nat} {A : Mt q} (h : MIs p r c zs q m n A) : 2 ≤ q ∧ q ≤ 251 := by have := h.pr.1; have := h.pr.2.1; omega
theorem side_mul {m n : Nat} (h : m ≤ 32) (g : n ≤ 32) : m * n ≤ 1024 := Nat.mul_le_mul h g
/-- The t-th cell. -/
def cellF {q : Nat} (n : Nat) (A : Mt q) (t : Nat) : Fin q := A (t / n) (t % n)
theorem flat_cells {q : Nat} [NeZero q] {m n : Nat} {A : Mt q} {b o : Nat} {w : World} (h : ∀ j (h : j < (flat m n A).length), w.cell? ⟨b, o + j, none⟩ = some (.int .i64 (flat m n A)[j])) (j : Nat) (hj : j < m * n) : w.cell? ⟨b, o + j, none⟩ = some (.int .i64 (fv (cellF n A j))) := by
  rw [h j (by rw [flat_len]; exact hj), flat_at]; rfl
theorem addMul_k {q : Nat} [NeZero q] {gs os ms cs b o cb n N : Nat} {F : Nat → Value} {X Y : Nat → Fin q} {c : Fin q} {f : Int} {w : World} (hf : fv c = f) (hq2 : 2 ≤ q) (hq : q ≤ 251) (hn : n ≤ 1048576) (hrow : w.rowIs gs 2 N F) (hfit : os + n ≤ N) (hms : n ≤ ms) (hm2 : ms ≤ maxLen) (hb : b ≠ gs) (hb2 : b < w.heap.size)
    (hX : ∀ j, j < n → F (os + j) = .int .i64 (fv (X j))) (hY : ∀ j, j < n → w.cell? ⟨b, o + j, none⟩ = some (.int .i64 (fv (Y j)))) :
    Calls Try.prog 79 #[.slice (some ⟨gs, os, none⟩) ms cs, .slice (some ⟨b, o, none⟩) n cb, .int .i64 f, .int .i64 (q : Int)] w fun e w' => RetAdd gs N (AddF F os n X Y c) w e w' := by
  subst hf
  exact addMul_some hq2 hq hn hrow hfit hms hm2 hb hb2 hX hY

theorem PtM.new2 (w : World) (p r c : Int) (v : Value) (t : TypeId) (o u : Obj) : PtM (((w.alloc (.cells #[.int .i64 p, .int .i64 r, .int .i64 c, v] t)).alloc o).alloc u) w.heap.size p r c v := (PtM.new1 w p r c v t o).on ((Below.refl _ _).alloc (Nat.le_refl _) u)
theorem up3 {w w' : World} {o u x : Obj} (h : Below (((w.alloc o).alloc u).alloc x).heap.size (((w.alloc o).alloc u).alloc x) w') : Below w.heap.size w w' := up1 (up2 h)

/-! ### AddMatrices -/
def AddMRes (p r c : Int) (xs : List Int) (q s d : Int) (ys : List Int) (P R C : Int) (zs : List Int) (k : Int) : Prop :=
  FitK p r c xs q s d ys (r == s && c == d) k ∧ ((k ≠ 0 ∧ P = 0 ∧ R = 0 ∧ C = 0 ∧ zs = []) ∨ (k = 0 ∧ P = p ∧ R = r ∧ C = c ∧ ∃ (u : Nat) (_ : NeZero u) (m n : Nat) (A B : Mt u), MIs p r c xs u m n A ∧ MIs p r c ys u m n B ∧ zs = flat m n (fun i j => A i j + B i j)))
theorem addMRes_has (p r c : Int) (xs : List Int) (q s d : Int) (ys : List Int) : ∃ P R C zs k, AddMRes p r c xs q s d ys P R C zs k := by
  obtain ⟨k, hk⟩ := fitK_has p r c xs q s d ys (r == s && c == d)
  by_cases h0 : k = 0
  · subst h0
    obtain ⟨h1, h2, e, hf⟩ := hk.good
    obtain ⟨e1, e2⟩ : r = s ∧ c = d := by simpa using hf
    subst e e1 e2
    obtain ⟨u, i, m, n, A, m', n', B, hA, hB⟩ := h1.form2 h2
    obtain rfl : m = m' := by have := hA.r; have := hB.r; omega
    obtain rfl : n = n' := by have := hA.c; have := hB.c; omega
    exact ⟨_, _, _, _, 0, hk, .inr ⟨rfl, rfl, rfl, rfl, u, i, m, n, A, B, hA, hB, rfl⟩⟩
  · exact ⟨_, _, _, _, k, hk, .inl ⟨h0, rfl, rfl, rfl, rfl⟩⟩
theorem AddMRes.len {p r c : Int} {xs : List Int} {q s d : Int} {ys : List Int} {P R C : Int} {zs : List Int} {k : Int} (h : AddMRes p r c xs q s d ys P R C zs k) : zs.length ≤ 1048576 := by
  obtain ⟨_, ⟨_, _, _, _, rfl⟩ | ⟨_, _, _, _, u, _, m, n, A, B, hA, _, rfl⟩⟩ := h
  · simp
  · have := side_mul hA.m32 hA.n32; rw [flat_len]; omega
set_option maxRecDepth 100000 in
set_option maxHeartbeats 1600000 in
theorem implAdd_b1 {p r c q s d k : Int} {u v : Value} {xs ys : List Int} {w : World} (hu : IntsAt w u xs) (hv : IntsAt w v ys) (e1 : (r == s) = false) (hk : FitK p r c xs q s d ys false k) (e0 : (k != 0) = true) :
    Calls Try.prog 47 #[.agg #[.int .i64 p, .int .i64 r, .int .i64 c, u], .agg #[.int .i64 q, .int .i64 s, .int .i64 d, v]] w fun e w' => RetMC 0 0 0 [] k w e w' := by
  have HU := Lib.hid hu
  have HV := Lib.hid hv
  obtain ⟨a1, c1, rfl, hl1, _⟩ := hu
  obtain ⟨a2, c2, rfl, hl2, _⟩ := hv
  have HK := Lib.hid hk
  clear hk
  have Pa0 := PtM.new2 w p r c (.slice a1 xs.length c1) 27 (.cells #[.int .i64 q, .int .i64 s, .int .i64 d, .slice a2 ys.length c2] 27) (.cells #[.int .i64 0, .int .i64 0, .int .i64 0, .slice none 0 0] 27)
  have Pb0 := PtM.new1 (w.alloc (.cells #[.int .i64 p, .int .i64 r, .int .i64 c, .slice a1 xs.length c1] 27)) q s d (.slice a2 ys.length c2) 27 (.cells #[.int .i64 0, .int .i64 0, .int .i64 0, .slice none 0 0] 27)
  have Pr0 := PtM.new ((w.alloc (.cells #[.int .i64 p, .int .i64 r, .int .i64 c, .slice a1 xs.length c1] 27)).alloc (.cells #[.int .i64 q, .int .i64 s, .int .i64 d, .slice a2 ys.length c2] 27)) 0 0 0 (.slice none 0 0) 27
  have Fr0 := Fz.new ((w.alloc (.cells #[.int .i64 p, .int .i64 r, .int .i64 c, .slice a1 xs.length c1] 27)).alloc (.cells #[.int .i64 q, .int .i64 s, .int .i64 d, .slice a2 ys.length c2] 27)) #[.int .i64 0, .int .i64 0, .int .i64 0, .slice none 0 0] 27
  rw [World.size_alloc] at Pb0
  rw [World.size_alloc, World.size_alloc] at Pr0 Fr0
  go_enter Try.func47, Try.ntmps47
  go_wp2_with fail
  refine (fit_any (HU.out.on (al1 (al1 (al1 (Below.refl _ _) _) _) _)) (HV.out.on (al1 (al1 (al1 (Below.refl _ _) _) _) _)) HK.out).mono ?_
  rintro e w1 ⟨rfl, hb⟩
  have Pa := Lib.hid (Pa0.on hb)
  have Pb := Lib.hid (Pb0.on hb)
  have Pr := Lib.hid (Pr0.on hb)
  have Fr : Hid (Fz w1 (w.heap.size + 1 + 1)) := Fr0.on (by simp) hb
  have HB := Lib.hid (up3 hb)
  have hz : w.heap.size + 3 ≤ w1.heap.size := by have := hb.size; simp at this; omega
  clear hb Pa0 Pb0 Pr0 Fr0
  obtain ⟨lA, x0, x1, x2, x3⟩ := Pa.out
  obtain ⟨lB, y0, y1, y2, y3⟩ := Pb.out
  obtain ⟨lR, r0, r1, r2, r3⟩ := Pr.out
  obtain ⟨f0, f1, f2, f3⟩ := Fr.out.all
  go_wp2_with fail
  refine bodyPost_ret (v := .tuple #[.agg #[.int .i64 0, .int .i64 0, .int .i64 0, .slice none 0 0], .int .i64 k]) (by simp [results, Try.results47, go_sem, r0, r1, r2, r3]) rfl ⟨_, rfl, OwnI.nul _ _, ?_⟩
  repeat (refine Below.setC ?_ (by omega) _)
  exact HB.out
set_option maxRecDepth 100000 in
set_option maxHeartbeats 1600000 in
theorem implAdd_b2 {p r c q s d k : Int} {u v : Value} {xs ys : List Int} {w : World} (hu : IntsAt w u xs) (hv : IntsAt w v ys) (e1 : (r == s) = true) (e2 : (c == d) = false) (hk : FitK p r c xs q s d ys false k) (e0 : (k != 0) = true) :
    Calls Try.prog 47 #[.agg #[.int .i64 p, .int .i64 r, .int .i64 c, u], .agg #[.int .i64 q, .int .i64 s, .int .i64 d, v]] w fun e w' => RetMC 0 0 0 [] k w e w' := by
  have HU := Lib.hid hu
  have HV := Lib.hid hv
  obtain ⟨a1, c1, rfl, hl1, _⟩ := hu
  obtain ⟨a2, c2, rfl, hl2, _⟩ := hv
  have HK := Lib.hid hk
  clear hk
  have Pa0 := PtM.new2 w p r c (.slice a1 xs.length c1) 27 (.cells #[.int .i64 q, .int .i64 s, .int .i64 d, .slice a2 ys.length c2] 27) (.cells #[.int .i64 0, .int .i64 0, .int .i64 0, .slice none 0 0] 27)
  have Pb0 := PtM.new1 (w.alloc (.cells #[.int .i64 p, .int .i64 r, .int .i64 c, .slice a1 xs.length c1] 27)) q s d (.slice a2 ys.length c2) 27 (.cells #[.int .i64 0, .int .i64 0, .int .i64 0, .slice none 0 0] 27)
  have Pr0 := PtM.new ((w.alloc (.cells #[.int .i64 p, .int .i64 r, .int .i64 c, .slice a1 xs.length c1] 27)).alloc (.cells #[.int .i64 q, .int .i64 s, .int .i64 d, .slice a2 ys.length c2] 27)) 0 0 0 (.slice none 0 0) 27
  have Fr0 := Fz.new ((w.alloc (.cells #[.int .i64 p, .int .i64 r, .int .i64 c, .slice a1 xs.length c1] 27)).alloc (.cells #[.int .i64 q, .int .i64 s, .int .i64 d, .slice a2 ys.length c2] 27)) #[.int .i64 0, .int .i64 0, .int .i64 0, .slice none 0 0] 27
  rw [World.size_alloc] at Pb0
  rw [World.size_alloc, World.size_alloc] at Pr0 Fr0
  go_enter Try.func47, Try.ntmps47
  go_wp2_with fail
  refine (fit_any (HU.out.on (al1 (al1 (al1 (Below.refl _ _) _) _) _)) (HV.out.on (al1 (al1 (al1 (Below.refl _ _) _) _) _)) HK.out).mono ?_
  rintro e w1 ⟨rfl, hb⟩
  have Pa := Lib.hid (Pa0.on hb)
  have Pb := Lib.hid (Pb0.on hb)
  have Pr := Lib.hid (Pr0.on hb)
  have Fr : Hid (Fz w1 (w.heap.size + 1 + 1)) := Fr0.on (by simp) hb
  have HB := Lib.hid (up3 hb)
  have hz : w.heap.size + 3 ≤ w1.heap.size := by have := hb.size; simp at this; omega
  clear hb Pa0 Pb0 Pr0 Fr0
  obtain ⟨lA, x0, x1, x2, x3⟩ := Pa.out
  obtain ⟨lB, y0, y1, y2, y3⟩ := Pb.out
  obtain ⟨lR, r0, r1, r2, r3⟩ := Pr.out
  obtain ⟨f0, f1, f2, f3⟩ := Fr.out.all
  go_wp2_with fail
  refine bodyPost_ret (v := .tuple #[.agg #[.int .i64 0, .int .i64 0, .int .i64 0, .slice none 0 0], .int .i64 k]) (by simp [results, Try.results47, go_sem, r0, r1, r2, r3]) rfl ⟨_, rfl, OwnI.nul _ _, ?_⟩
  repeat (refine Below.setC ?_ (by omega) _)
  exact HB.out
set_option maxRecDepth 100000 in
set_option maxHeartbeats 1600000 in
theorem implAdd_b3 {p r c q s d k : Int} {u v : Value} {xs ys : List Int} {w : World} (hu : IntsAt w u xs) (hv : IntsAt w v ys) (e1 : (r == s) = true) (e2 : (c == d) = true) (hk : FitK p r c xs q s d ys true k) (e0 : (k != 0) = true) :
    Calls Try.prog 47 #[.agg #[.int .i64 p, .int .i64 r, .int .i64 c, u], .agg #[.int .i64 q, .int .i64 s, .int .i64 d, v]] w fun e w' => RetMC 0 0 0 [] k w e w' := by
  have HU := Lib.hid hu
  have HV := Lib.hid hv
  obtain ⟨a1, c1, rfl, hl1, _⟩ := hu
  obtain ⟨a2, c2, rfl, hl2, _⟩ := hv
  have HK := Lib.hid hk
  clear hk
  have Pa0 := PtM.new2 w p r c (.slice a1 xs.length c1) 27 (.cells #[.int .i64 q, .int .i64 s, .int .i64 d, .slice a2 ys.length c2] 27) (.cells #[.int .i64 0, .int .i64 0, .int .i64 0, .slice none 0 0] 27)
  have Pb0 := PtM.new1 (w.alloc (.cells #[.int .i64 p, .int .i64 r, .int .i64 c, .slice a1 xs.length c1] 27)) q s d (.slice a2 ys.length c2) 27 (.cells #[.int .i64 0, .int .i64 0, .int .i64 0, .slice none 0 0] 27)
  have Pr0 := PtM.new ((w.alloc (.cells #[.int .i64 p, .int .i64 r, .int .i64 c, .slice a1 xs.length c1] 27)).alloc (.cells #[.int .i64 q, .int .i64 s, .int .i64 d, .slice a2 ys.length c2] 27)) 0 0 0 (.slice none 0 0) 27
  have Fr0 := Fz.new ((w.alloc (.cells #[.int .i64 p, .int .i64 r, .int .i64 c, .slice a1 xs.length c1] 27)).alloc (.cells #[.int .i64 q, .int .i64 s, .int .i64 d, .slice a2 ys.length c2] 27)) #[.int .i64 0, .int .i64 0, .int .i64 0, .slice none 0 0] 27
  rw [World.size_alloc] at Pb0
  rw [World.size_alloc, World.size_alloc] at Pr0 Fr0
  go_enter Try.func47, Try.ntmps47
  go_wp2_with fail
  refine (fit_any (HU.out.on (al1 (al1 (al1 (Below.refl _ _) _) _) _)) (HV.out.on (al1 (al1 (al1 (Below.refl _ _) _) _) _)) HK.out).mono ?_
  rintro e w1 ⟨rfl, hb⟩
  have Pa := Lib.hid (Pa0.on hb)
  have Pb := Lib.hid (Pb0.on hb)
  have Pr := Lib.hid (Pr0.on hb)
  have Fr : Hid (Fz w1 (w.heap.size + 1 + 1)) := Fr0.on (by simp) hb
  have HB := Lib.hid (up3 hb)
  have hz : w.heap.size + 3 ≤ w1.heap.size := by have := hb.size; simp at this; omega
  clear hb Pa0 Pb0 Pr0 Fr0
  obtain ⟨lA, x0, x1, x2, x3⟩ := Pa.out
  obtain ⟨lB, y0, y1, y2, y3⟩ := Pb.out
  obtain ⟨lR, r0, r1, r2, r3⟩ := Pr.out
  obtain ⟨f0, f1, f2, f3⟩ := Fr.out.all
  go_wp2_with fail
  refine bodyPost_ret (v := .tuple #[.agg #[.int .i64 0, .int .i64 0, .int .i64 0, .slice none 0 0], .int .i64 k]) (by simp [results, Try.results47, go_sem, r0, r1, r2, r3]) rfl ⟨_, rfl, OwnI.nul _ _, ?_⟩
  repeat (refine Below.setC ?_ (by omega) _)
  exact HB.out
set_option maxRecDepth 100000 in
set_option maxHeartbeats 3200000 in
theorem implAdd_ok {q m n : Nat} [NeZero q] {A B : Mt q} {u v : Value} {w : World} (hu : IntsAt w u (flat m n A)) (hv : IntsAt w v (flat m n B)) (hA : MIs q m n (flat m n A) q m n A) (hB : MIs q m n (flat m n B) q m n B) (h0 : 0 < m * n) :
    Calls Try.prog 47 #[.agg #[.int .i64 (q : Int), .int .i64 (m : Int), .int .i64 (n : Int), u], .agg #[.int .i64 (q : Int), .int .i64 (m : Int), .int .i64 (n : Int), v]] w fun e w' => RetMC q m n (flat m n (fun i j => A i j + B i j)) 0 w e w' := by
  have hk : FitK (q : Int) m n (flat m n A) q m n (flat m n B) true 0 := .inr (.inr ⟨hA.ok, hB.ok, rfl, rfl, rfl⟩)
  have hN := side_mul hA.m32 hA.n32
  obtain ⟨hq2, hq⟩ := hA.q2
  have e1 : ((m : Int) == (m : Int)) = true := by simp
  have e2 : ((n : Int) == (n : Int)) = true := by simp
  have HU := Lib.hid hu
  have HV := Lib.hid hv
  obtain ⟨a1, c1, rfl, _, h1 | ⟨b1, o1, rfl, hb1, k1⟩⟩ := hu
  · have := congrArg List.length h1; rw [flat_len] at this; simp at this; omega
  obtain ⟨a2, c2, rfl, _, h2 | ⟨b2, o2, rfl, hb2, k2⟩⟩ := hv
  · have := congrArg List.length h2; rw [flat_len] at this; simp at this; omega
  have HK := Lib.hid hk
  have K1 := Lib.hid (flat_cells k1)
  have K2 := Lib.hid (flat_cells k2)
  simp only [flat_len] at HU HV ⊢
  clear hk hA hB k1 k2
  have Pa0 := PtM.new2 w q m n (.slice (some ⟨b1, o1, none⟩) (m * n) c1) 27 (.cells #[.int .i64 q, .int .i64 m, .int .i64 n, .slice (some ⟨b2, o2, none⟩) (m * n) c2] 27) (.cells #[.int .i64 0, .int .i64 0, .int .i64 0, .slice none 0 0] 27)
  have Pb0 := PtM.new1 (w.alloc (.cells #[.int .i64 q, .int .i64 m, .int .i64 n, .slice (some ⟨b1, o1, none⟩) (m * n) c1] 27)) q m n (.slice (some ⟨b2, o2, none⟩) (m * n) c2) 27 (.cells #[.int .i64 0, .int .i64 0, .int .i64 0, .slice none 0 0] 27)
  have Pr0 := PtM.new ((w.alloc (.cells #[.int .i64 q, .int .i64 m, .int .i64 n, .slice (some ⟨b1, o1, none⟩) (m * n) c1] 27)).alloc (.cells #[.int .i64 q, .int .i64 m, .int .i64 n, .slice (some ⟨b2, o2, none⟩) (m * n) c2] 27)) 0 0 0 (.slice none 0 0) 27
  have Fr0 := Fz.new ((w.alloc (.cells #[.int .i64 q, .int .i64 m, .int .i64 n, .slice (some ⟨b1, o1, none⟩) (m * n) c1] 27)).alloc (.cells #[.int .i64 q, .int .i64 m, .int .i64 n, .slice (some ⟨b2, o2, none⟩) (m * n) c2] 27)) #[.int .i64 0, .int .i64 0, .int .i64 0, .slice none 0 0] 27
  rw [World.size_alloc] at Pb0
  rw [World.size_alloc, World.size_alloc] at Pr0 Fr0
  go_enter Try.func47, Try.ntmps47
  go_wp2_with fail
  refine (fit_any (HU.out.on (al1 (al1 (al1 (Below.refl _ _) _) _) _)) (HV.out.on (al1 (al1 (al1 (Below.refl _ _) _) _) _)) HK.out).mono ?_
  rintro e w1 ⟨rfl, hb⟩
  have Pa := Lib.hid (Pa0.on hb)
  have Pb := Lib.hid (Pb0.on hb)
  have Pr := Lib.hid (Pr0.on hb)
  have Fr : Hid (Fz w1 (w.heap.size + 1 + 1)) := Fr0.on (by simp) hb
  have HB := Lib.hid (up3 hb)
  have hz : w.heap.size + 3 ≤ w1.heap.size := by have := hb.size; simp at this; omega
  clear hb Pa0 Pb0 Pr0 Fr0
  obtain ⟨lA, x0, x1, x2, x3⟩ := Pa.out
  obtain ⟨lB, y0, y1, y2, y3⟩ := Pb.out
  obtain ⟨lR, r0, r1, r2, r3⟩ := Pr.out
  obtain ⟨f0, f1, f2, f3⟩ := Fr.out.all
  go_wp2_with fail
  refine (implZeros_any q m n (m * n) _ (Int.natCast_mul m n).symm (by omega)).mono ?_
  rintro e w2 ⟨g, rfl, hg, hrow, hb⟩
  clear lA x0 x1 x2 x3 lB y0 y1 y2 y3 lR r0 r1 r2 r3 f0 f1 f2 f3
  have Pa := Lib.hid (Pa.out.on hb)
  have Pb := Lib.hid (Pb.out.on hb)
  have Pr := Lib.hid (Pr.out.on hb)
  have Fr : Hid (Fz w2 (w.heap.size + 1 + 1)) := Fr.out.on (by omega) hb
  have HB := Lib.hid (HB.out.trans (hb.mono (by omega)))
  have hz2 : w.heap.size + 3 ≤ w2.heap.size := by have := hb.size; omega
  have hg3 := hrow.lt
  have HR := Lib.hid hrow
  have hg2 : w.heap.size + 3 ≤ g := by omega
  clear hb hrow hg
  obtain ⟨lA, x0, x1, x2, x3⟩ := Pa.out
  obtain ⟨lB, y0, y1, y2, y3⟩ := Pb.out
  obtain ⟨lR, r0, r1, r2, r3⟩ := Pr.out
  obtain ⟨f0, f1, f2, f3⟩ := Fr.out.all
  go_wp2_with fail
  clear lA x0 x1 x2 x3 lB y0 y1 y2 y3 lR r0 r1 r2 r3 f0 f1 f2 f3
  have bb := (Below.refl w2.heap.size w2).alloc (Nat.le_refl _) (.cells #[.int .i64 q, .int .i64 m, .int .i64 n, .slice (some ⟨g, 0, none⟩) (m * n) (m * n)] 27)
  have PM := PtM.new w2 q m n (.slice (some ⟨g, 0, none⟩) (m * n) (m * n)) 27
  generalize hW : World.alloc w2 (.cells #[.int .i64 q, .int .i64 m, .int .i64 n, .slice (some ⟨g, 0, none⟩) (m * n) (m * n)] 27) = W1 at PM bb ⊢
  obtain ⟨L, hL⟩ : ∃ L, w2.heap.size = L := ⟨_, rfl⟩
  rw [hL] at PM ⊢
  have Pa := Lib.hid (Pa.out.on bb)
  have Pb := Lib.hid (Pb.out.on bb)
  have Pr := Lib.hid (Pr.out.on bb)
  have Fr : Hid (Fz W1 (w.heap.size + 1 + 1)) := Fr.out.on (by omega) bb
  have HB := Lib.hid (HB.out.trans (bb.mono (by omega)))
  have HR := Lib.hid (rowIs_on HR.out bb)
  have PM := Lib.hid PM
  have sL : L < W1.heap.size := PM.out.1
  rw [hL] at hg3 hz2
  clear bb hW hL
  with_reducible refine Calls.mono (addMul_k (q := q) (gs := g) (os := 0) (n := m * n) (N := m * n) (X := fun _ => 0) (Y := cellF n A) (c := 1) (F := fun _ => .int .i64 0) (b := b1) (o := o1) (fv_one hq2) hq2 hq (by omega) HR.out (by omega) (by omega) (by unfold maxLen; omega) (by omega) (by omega) (fun j hj => by rw [fv_zero]) (fun j hj => ?_)) ?_
  · exact (HB.out.cell (p := ⟨b1, o1 + j, none⟩) hb1).trans (K1.out j hj)
  rintro e w3 ⟨rfl, hrow, hg⟩
  have Pa := Lib.hid (Pa.out.gb hg (by omega))
  have Pb := Lib.hid (Pb.out.gb hg (by omega))
  have Pr := Lib.hid (Pr.out.gb hg (by omega))
  have Fr : Hid (Fz w3 (w.heap.size + 1 + 1)) := Fr.out.gb (by omega) hg (by omega)
  have PM := Lib.hid (PM.out.gb hg (by omega))
  have HB := Lib.hid (below_gb HB.out hg (by omega) (by omega))
  have HR := Lib.hid hrow
  have sL : L < w3.heap.size := PM.out.1
  clear hg hrow
  obtain ⟨lA, x0, x1, x2, x3⟩ := Pa.out
  obtain ⟨lB, y0, y1, y2, y3⟩ := Pb.out
  obtain ⟨lR, r0, r1, r2, r3⟩ := Pr.out
  obtain ⟨f0, f1, f2, f3⟩ := Fr.out.all
  obtain ⟨lM, m0, m1, m2, m3⟩ := PM.out
  go_wp2_with fail
  clear lA x0 x1 x2 x3 lB y0 y1 y2 y3 lR r0 r1 r2 r3 f0 f1 f2 f3
  clear lM m0 m1 m2 m3
  with_reducible refine Calls.mono (addMul_k (q := q) (gs := g) (os := 0) (n := m * n) (N := m * n) (X := cellF n A) (Y := cellF n B) (c := 1) (F := AddF (fun _ => .int .i64 0) 0 (m * n) (fun _ => 0) (cellF n A) 1) (b := b2) (o := o2) (fv_one hq2) hq2 hq (by omega) HR.out (by omega) (by omega) (by unfold maxLen; omega) (by omega) (by omega) (fun j hj => ?_) (fun j hj => ?_)) ?_
  · unfold AddF; rw [if_pos (by omega), Nat.zero_add, Nat.sub_zero, show (0 : Fin q) + cellF n A j * 1 = cellF n A j by grind]
  · exact (HB.out.cell (p := ⟨b2, o2 + j, none⟩) hb2).trans (K2.out j hj)
  rintro e w4 ⟨rfl, hrow, hg⟩
  have Pr := Lib.hid (Pr.out.gb hg (by omega))
  have Fr : Hid (Fz w4 (w.heap.size + 1 + 1)) := Fr.out.gb (by omega) hg (by omega)
  have PM := Lib.hid (PM.out.gb hg (by omega))
  have HB := Lib.hid (below_gb HB.out hg (by omega) (by omega))
  have HR := Lib.hid hrow
  clear hg hrow
  obtain ⟨lR, r0, r1, r2, r3⟩ := Pr.out
  obtain ⟨f0, f1, f2, f3⟩ := Fr.out.all
  obtain ⟨lM, m0, m1, m2, m3⟩ := PM.out
  go_wp2_with fail
  refine bodyPost_ret (v := .tuple #[.agg #[.int .i64 q, .int .i64 m, .int .i64 n, .slice (some ⟨g, 0, none⟩) (m * n) (m * n)], .int .i64 0]) (by simp [results, Try.results47, go_sem, r0, r1, r2, r3]) rfl ⟨_, rfl, ?_, ?_⟩
  · refine OwnI.mono (B := w.heap.size + 3) ?_ (by omega)
    repeat (refine OwnI.setOut ?_ (by omega) _)
    refine OwnI.of_flat HR.out hg2 (by omega) fun i j hi hj => ?_
    have := idx_lt hi hj
    unfold AddF cellF
    rw [if_pos (by omega), Nat.sub_zero, idx_div hj, idx_mod hj, show A i j + B i j * 1 = A i j + B i j by grind]
  · repeat (refine Below.setC ?_ (by omega) _)
    exact HB.out
set_option maxRecDepth 100000 in
set_option maxHeartbeats 3200000 in
theorem implAdd_nil {q m n : Nat} [NeZero q] {A B : Mt q} {u v : Value} {w : World} (hu : IntsAt w u (flat m n A)) (hv : IntsAt w v (flat m n B)) (hA : MIs q m n (flat m n A) q m n A) (hB : MIs q m n (flat m n B) q m n B) (h0 : m * n = 0) :
    Calls Try.prog 47 #[.agg #[.int .i64 (q : Int), .int .i64 (m : Int), .int .i64 (n : Int), u], .agg #[.int .i64 (q : Int), .int .i64 (m : Int), .int .i64 (n : Int), v]] w fun e w' => RetMC q m n (flat m n (fun i j => A i j + B i j)) 0 w e w' := by
  have hk : FitK (q : Int) m n (flat m n A) q m n (flat m n B) true 0 := .inr (.inr ⟨hA.ok, hB.ok, rfl, rfl, rfl⟩)
  have hN := side_mul hA.m32 hA.n32
  obtain ⟨hq2, hq⟩ := hA.q2
  have e1 : ((m : Int) == (m : Int)) = true := by simp
  have e2 : ((n : Int) == (n : Int)) = true := by simp
  have HU := Lib.hid hu
  have HV := Lib.hid hv
  have fA : flat m n A = [] := List.eq_nil_of_length_eq_zero (by rw [flat_len]; exact h0)
  have fB : flat m n B = [] := List.eq_nil_of_length_eq_zero (by rw [flat_len]; exact h0)
  have fC : flat m n (fun i j => A i j + B i j) = [] := List.eq_nil_of_length_eq_zero (by rw [flat_len]; exact h0)
  have HZ : Hid ((m : Int) * n = ((0 : Nat) : Int)) := by show _ = _; rw [← h0, Int.natCast_mul]
  rw [fA] at hu HU hk
  rw [fB] at hv HV hk
  rw [fC]
  obtain ⟨a1, c1, rfl, _, _⟩ := hu
  obtain ⟨a2, c2, rfl, _, _⟩ := hv
  simp only [List.length_nil] at HU HV ⊢
  have HK := Lib.hid hk
  clear hk hA hB fA fB fC h0
  have Pa0 := PtM.new2 w q m n (.slice a1 0 c1) 27 (.cells #[.int .i64 q, .int .i64 m, .int .i64 n, .slice a2 0 c2] 27) (.cells #[.int .i64 0, .int .i64 0, .int .i64 0, .slice none 0 0] 27)
  have Pb0 := PtM.new1 (w.alloc (.cells #[.int .i64 q, .int .i64 m, .int .i64 n, .slice a1 0 c1] 27)) q m n (.slice a2 0 c2) 27 (.cells #[.int .i64 0, .int .i64 0, .int .i64 0, .slice none 0 0] 27)
  have Pr0 := PtM.new ((w.alloc (.cells #[.int .i64 q, .int .i64 m, .int .i64 n, .slice a1 0 c1] 27)).alloc (.cells #[.int .i64 q, .int .i64 m, .int .i64 n, .slice a2 0 c2] 27)) 0 0 0 (.slice none 0 0) 27
  have Fr0 := Fz.new ((w.alloc (.cells #[.int .i64 q, .int .i64 m, .int .i64 n, .slice a1 0 c1] 27)).alloc (.cells #[.int .i64 q, .int .i64 m, .int .i64 n, .slice a2 0 c2] 27)) #[.int .i64 0, .int .i64 0, .int .i64 0, .slice none 0 0] 27
  rw [World.size_alloc] at Pb0
  rw [World.size_alloc, World.size_alloc] at Pr0 Fr0
  go_enter Try.func47, Try.ntmps47
  go_wp2_with fail
  refine (fit_any (HU.out.on (al1 (al1 (al1 (Below.refl _ _) _) _) _)) (HV.out.on (al1 (al1 (al1 (Below.refl _ _) _) _) _)) HK.out).mono ?_
  rintro e w1 ⟨rfl, hb⟩
  have Pa := Lib.hid (Pa0.on hb)
  have Pb := Lib.hid (Pb0.on hb)
  have Pr := Lib.hid (Pr0.on hb)
  have Fr : Hid (Fz w1 (w.heap.size + 1 + 1)) := Fr0.on (by simp) hb
  have HB := Lib.hid (up3 hb)
  have hz : w.heap.size + 3 ≤ w1.heap.size := by have := hb.size; simp at this; omega
  clear hb Pa0 Pb0 Pr0 Fr0
  obtain ⟨lA, x0, x1, x2, x3⟩ := Pa.out
  obtain ⟨lB, y0, y1, y2, y3⟩ := Pb.out
  obtain ⟨lR, r0, r1, r2, r3⟩ := Pr.out
  obtain ⟨f0, f1, f2, f3⟩ := Fr.out.all
  go_wp2_with fail
  refine (implZeros_any q m n 0 _ HZ.out (by omega)).mono ?_
  rintro e w2 ⟨g, rfl, hg, hrow, hb⟩
  clear lA x0 x1 x2 x3 lB y0 y1 y2 y3 lR r0 r1 r2 r3 f0 f1 f2 f3
  have Pa := Lib.hid (Pa.out.on hb)
  have Pb := Lib.hid (Pb.out.on hb)
  have Pr := Lib.hid (Pr.out.on hb)
  have Fr : Hid (Fz w2 (w.heap.size + 1 + 1)) := Fr.out.on (by omega) hb
  have HB := Lib.hid (HB.out.trans (hb.mono (by omega)))
  have hz2 : w.heap.size + 3 ≤ w2.heap.size := by have := hb.size; omega
  have hg3 := hrow.lt
  have HR := Lib.hid hrow
  have hg2 : w.heap.size + 3 ≤ g := by omega
  clear hb hrow hg
  obtain ⟨lA, x0, x1, x2, x3⟩ := Pa.out
  obtain ⟨lB, y0, y1, y2, y3⟩ := Pb.out
  obtain ⟨lR, r0, r1, r2, r3⟩ := Pr.out
  obtain ⟨f0, f1, f2, f3⟩ := Fr.out.all
  go_wp2_with fail
  clear lA x0 x1 x2 x3 lB y0 y1 y2 y3 lR r0 r1 r2 r3 f0 f1 f2 f3
  have bb := (Below.refl w2.heap.size w2).alloc (Nat.le_refl _) (.cells #[.int .i64 q, .int .i64 m, .int .i64 n, .slice (some ⟨g, 0, none⟩) 0 0] 27)
  have PM := PtM.new w2 q m n (.slice (some ⟨g, 0, none⟩) 0 0) 27
  generalize hW : World.alloc w2 (.cells #[.int .i64 q, .int .i64 m, .int .i64 n, .slice (some ⟨g, 0, none⟩) 0 0] 27) = W1 at PM bb ⊢
  obtain ⟨L, hL⟩ : ∃ L, w2.heap.size = L := ⟨_, rfl⟩
  rw [hL] at PM ⊢
  have Pa := Lib.hid (Pa.out.on bb)
  have Pb := Lib.hid (Pb.out.on bb)
  have Pr := Lib.hid (Pr.out.on bb)
  have Fr : Hid (Fz W1 (w.heap.size + 1 + 1)) := Fr.out.on (by omega) bb
  have HB := Lib.hid (HB.out.trans (bb.mono (by omega)))
  have HR := Lib.hid (rowIs_on HR.out bb)
  have PM := Lib.hid PM
  have sL : L < W1.heap.size := PM.out.1
  rw [hL] at hg3 hz2
  clear bb hW hL
  with_reducible refine Calls.mono (addMul_nil 1 q _ HR.out) ?_
  rintro e w3 ⟨rfl, hrow, hg⟩
  have Pa := Lib.hid (Pa.out.gb hg (by omega))
  have Pb := Lib.hid (Pb.out.gb hg (by omega))
  have Pr := Lib.hid (Pr.out.gb hg (by omega))
  have Fr : Hid (Fz w3 (w.heap.size + 1 + 1)) := Fr.out.gb (by omega) hg (by omega)
  have PM := Lib.hid (PM.out.gb hg (by omega))
  have HB := Lib.hid (below_gb HB.out hg (by omega) (by omega))
  have HR := Lib.hid hrow
  have sL : L < w3.heap.size := PM.out.1
  clear hg hrow
  obtain ⟨lA, x0, x1, x2, x3⟩ := Pa.out
  obtain ⟨lB, y0, y1, y2, y3⟩ := Pb.out
  obtain ⟨lR, r0, r1, r2, r3⟩ := Pr.out
  obtain ⟨f0, f1, f2, f3⟩ := Fr.out.all
  obtain ⟨lM, m0, m1, m2, m3⟩ := PM.out
  go_wp2_with fail
  clear lA x0 x1 x2 x3 lB y0 y1 y2 y3 lR r0 r1 r2 r3 f0 f1 f2 f3
  clear lM m0 m1 m2 m3
  with_reducible refine Calls.mono (addMul_nil 1 q _ HR.out) ?_
  rintro e w4 ⟨rfl, hrow, hg⟩
  have Pr := Lib.hid (Pr.out.gb hg (by omega))
  have Fr : Hid (Fz w4 (w.heap.size + 1 + 1)) := Fr.out.gb (by omega) hg (by omega)
  have PM := Lib.hid (PM.out.gb hg (by omega))
  have HB := Lib.hid (below_gb HB.out hg (by omega) (by omega))
  have HR := Lib.hid hrow
  clear hg hrow
  obtain ⟨lR, r0, r1, r2, r3⟩ := Pr.out
  obtain ⟨f0, f1, f2, f3⟩ := Fr.out.all
  obtain ⟨lM, m0, m1, m2, m3⟩ := PM.out
  go_wp2_with fail
  refine bodyPost_ret (v := .tuple #[.agg #[.int .i64 q, .int .i64 m, .int .i64 n, .slice (some ⟨g, 0, none⟩) 0 0], .int .i64 0]) (by simp [results, Try.results47, go_sem, r0, r1, r2, r3]) rfl ⟨_, rfl, ?_, ?_⟩
  · refine OwnI.mono (B := w.heap.size + 3) ?_ (by omega)
    repeat (refine OwnI.setOut ?_ (by omega) _)
    exact OwnI.zeros (n := 0) HR.out hg2 (by omega)
  · repeat (refine Below.setC ?_ (by omega) _)
    exact HB.out
theorem implAdd_any {p r c q s d P R C k : Int} {u v : Value} {xs ys zs : List Int} {w : World} (hu : IntsAt w u xs) (hv : IntsAt w v ys) (h : AddMRes p r c xs q s d ys P R C zs k) :
    Calls Try.prog 47 #[.agg #[.int .i64 p, .int .i64 r, .int .i64 c, u], .agg #[.int .i64 q, .int .i64 s, .int .i64 d, v]] w fun e w' => RetMC P R C zs k w e w' := by
  obtain ⟨hk, ⟨h0, rfl, rfl, rfl, rfl⟩ | ⟨rfl, rfl, rfl, rfl, u', _, m, n, A, B, hA, hB, rfl⟩⟩ := h
  · have e0 : (k != 0) = true := by simpa using h0
    cases e1 : (r == s) with
    | false => rw [e1, Bool.false_and] at hk; exact implAdd_b1 hu hv e1 hk e0
    | true =>
      rw [e1, Bool.true_and] at hk
      cases e2 : (c == d) with
      | false => rw [e2] at hk; exact implAdd_b2 hu hv e1 e2 hk e0
      | true => rw [e2] at hk; exact implAdd_b3 hu hv e1 e2 hk e0
  · obtain ⟨_, _, e, hf⟩ := hk.good
    obtain ⟨e1, e2⟩ : R = s ∧ C = d := by simpa using hf
    subst e e1 e2
    obtain ⟨rfl, rfl, rfl, rfl, h5, h6, h7⟩ := hA
    obtain ⟨_, _, _, rfl, g5, g6, g7⟩ := hB
    rcases Nat.eq_zero_or_pos (m * n) with h0 | h0
    · exact implAdd_nil hu hv ⟨rfl, rfl, rfl, rfl, h5, h6, h7⟩ ⟨rfl, rfl, rfl, rfl, g5, g6, g7⟩ h0
    · exact implAdd_ok hu hv ⟨rfl, rfl, rfl, rfl, h5, h6, h7⟩ ⟨rfl, rfl, rfl, rfl, g5, g6, g7⟩ h0
end Go.Proofs.Ytabanmaaagmeaaa
