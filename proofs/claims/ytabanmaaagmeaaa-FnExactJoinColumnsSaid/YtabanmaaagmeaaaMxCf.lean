/-
  Contracts of JoinColumns of the program.
-/
import Derived.Test.YtabanmaaagmeaaaMxCe
namespace Go.Proofs.Ytabanmaaagmeaaa
open Go.RowKit
open Lin
set_option linter.unusedVariables false
set_option linter.unusedSectionVars false

/-- Two matrices and what JoinColumns answers. -/
def JoRes (p r c : Int) (xs : List Int) (q s d : Int) (ys : List Int) (P R C : Int) (zs : List Int) (k : Int) : Prop :=
  ∃ k0, FitK p r c xs q s d ys (r == s) k0 ∧ ((k0 ≠ 0 ∧ k = k0 ∧ P = 0 ∧ R = 0 ∧ C = 0 ∧ zs = []) ∨ (k0 = 0 ∧ 32 < c + d ∧ k = 5 ∧ P = 0 ∧ R = 0 ∧ C = 0 ∧ zs = []) ∨ (k0 = 0 ∧ c + d ≤ 32 ∧ k = 0 ∧ P = p ∧ R = r ∧ C = c + d ∧ ∃ (u : Nat) (_ : NeZero u) (m n1 n2 : Nat) (A B : Mt u), MIs p r c xs u m n1 A ∧ MIs p s d ys u m n2 B ∧ zs = flat m (n1 + n2) (join n1 A B)))
theorem joRes_has (p r c : Int) (xs : List Int) (q s d : Int) (ys : List Int) : ∃ P R C zs k, JoRes p r c xs q s d ys P R C zs k := by
  obtain ⟨k0, hk⟩ := fitK_has p r c xs q s d ys (r == s)
  by_cases h0 : k0 = 0
  · by_cases h1 : c + d ≤ 32
    · subst h0
      obtain ⟨g1, g2, e, hf⟩ := hk.good
      have e1 : r = s := by simpa using hf
      subst e e1
      obtain ⟨u, i, m, n1, A, m', n2, B, hA, hB⟩ := g1.form2 g2
      obtain rfl : m = m' := by have := hA.r; have := hB.r; omega
      exact ⟨_, _, _, _, _, 0, hk, .inr (.inr ⟨rfl, h1, rfl, rfl, rfl, rfl, u, i, m, n1, n2, A, B, hA, hB, rfl⟩)⟩
    · exact ⟨_, _, _, _, _, k0, hk, .inr (.inl ⟨h0, by omega, rfl, rfl, rfl, rfl, rfl⟩)⟩
  · exact ⟨_, _, _, _, _, k0, hk, .inl ⟨h0, rfl, rfl, rfl, rfl, rfl⟩⟩
theorem JoRes.len {p r c : Int} {xs : List Int} {q s d : Int} {ys : List Int} {P R C : Int} {zs : List Int} {k : Int} (h : JoRes p r c xs q s d ys P R C zs k) : zs.length ≤ 1048576 := by
  obtain ⟨k0, hk, ⟨_, _, _, _, _, rfl⟩ | ⟨_, _, _, _, _, _, rfl⟩ | ⟨rfl, hc, _, _, _, _, u, _, m, n1, n2, A, B, hA, hB, rfl⟩⟩ := h
  · simp
  · simp
  · have h1 := hA.c
    have h2 := hB.c
    have := side_mul (m := m) (n := n1 + n2) hA.m32 (by omega)
    rw [flat_len]; omega
theorem rowL_join {q : Nat} [NeZero q] (n1 n2 : Nat) (A B : Mt q) (i : Nat) : rowL (n1 + n2) (join n1 A B) i = rowL n1 A i ++ rowL n2 B i := by
  unfold rowL join
  rw [List.range_add, List.map_append, List.map_map]
  congr 1
  · apply List.map_congr_left
    intro j hj
    rw [if_pos (List.mem_range.1 hj)]
  · apply List.map_congr_left
    intro j hj
    show fv (if n1 + j < n1 then A i (n1 + j) else B i (n1 + j - n1)) = fv (B i j)
    rw [if_neg (by omega), Nat.add_sub_cancel_left]
set_option maxRecDepth 100000 in
set_option maxHeartbeats 1600000 in
theorem implJo_b {p r c q s d k : Int} {u v : Value} {xs ys : List Int} {w : World} (hu : IntsAt w u xs) (hv : IntsAt w v ys) {T : Bool} (e1 : (r == s) = T) (hk : FitK p r c xs q s d ys T k) (e0 : (k != 0) = true) :
    Calls Try.prog 28 #[.agg #[.int .i64 p, .int .i64 r, .int .i64 c, u], .agg #[.int .i64 q, .int .i64 s, .int .i64 d, v]] w fun e w' => RetMC 0 0 0 [] k w e w' := by
  have HU := Lib.hid hu
  have HV := Lib.hid hv
  obtain ⟨a1, c1, rfl, hl1, _⟩ := hu
  obtain ⟨a2, c2, rfl, hl2, _⟩ := hv
  have HK := Lib.hid hk
  clear hk
  have Pa0 := PtM.new2 w p r c (.slice a1 xs.length c1) 27 (.cells #[.int .i64 q, .int .i64 s, .int .i64 d, .slice a2 ys.length c2] 27) (.cells #[.int .i64 0, .int .i64 0, .int .i64 0, .slice none 0 0] 27)
  have Pb0 := PtM.new1 (w.alloc (.cells #[.int .i64 p, .int .i64 r, .int .i64 c, .slice a1 xs.length c1] 27)) q s d (.slice a2 ys.length c2) 27 (.cells #[.int .i64 0, .int .i64 0, .int .i64 0, .slice none 0 0] 27)
  have Pr0 := PtM.new ((w.alloc (.cells #[.int .i64 p, .int .i64 r, .int .i64 c, .slice a1 xs.length c1] 27)).alloc (.cells #[.int .i64 q, .int .i64 s, .int .i64 d, .slice a2 ys.length c2] 27)) 0 0 0 (.slice none 0 0) 27
  have Fr0 := Fz.new ((w.alloc (.cells #[.int .i64 p, .int .i64 r, .int .i64 c, .slice a1 xs.length c1] 27)).alloc (.cells #[.int .i64 q, .int .i64 s, .int .i64 d, .slice a2 ys.length c2] 27)) #[.int .i64 0, .int .i64 0, .int .i64 0, .slice none 0 0] 27
  rw [World.size_alloc] at Pb0
  rw [World.size_alloc, World.size_alloc] at Pr0 Fr0
  go_enter Try.func28, Try.ntmps28
  go_wp2_with fail
  refine (fit_any (HU.out.on (al1 (al1 (al1 (Below.refl _ _) _) _) _)) (HV.out.on (al1 (al1 (al1 (Below.refl _ _) _) _) _)) HK.out).mono ?_
  rintro e w1 ⟨rfl, hb⟩
  have Pa := Lib.hid (Pa0.on hb)
  have Pb := Lib.hid (Pb0.on hb)
  have Pr := Lib.hid (Pr0.on hb)
  have Fr : Hid (Fz w1 (w.heap.size + 1 + 1)) := Fr0.on (by simp) hb
  have HB := Lib.hid (up3 hb)
  have hz : w.heap.size + 3 ≤ w1.heap.size := by have := hb.size; simp at this; omega
  clear hb Pa0 Pb0 Pr0 Fr0
  obtain ⟨lA, x0, x1, x2, x3⟩ := Pa.out
  obtain ⟨lB, y0, y1, y2, y3⟩ := Pb.out
  obtain ⟨lR, r0, r1, r2, r3⟩ := Pr.out
  obtain ⟨f0, f1, f2, f3⟩ := Fr.out.all
  go_wp2_with fail
  refine bodyPost_ret (v := .tuple #[.agg #[.int .i64 0, .int .i64 0, .int .i64 0, .slice none 0 0], .int .i64 k]) (by simp [results, Try.results28, go_sem, r0, r1, r2, r3]) rfl ⟨_, rfl, OwnI.nul _ _, ?_⟩
  repeat (refine Below.setC ?_ (by omega) _)
  exact HB.out
set_option maxRecDepth 100000 in
set_option maxHeartbeats 1600000 in
theorem implJo_f {p r c q s d : Int} {u v : Value} {xs ys : List Int} {w : World} (hu : IntsAt w u xs) (hv : IntsAt w v ys) (e1 : (r == s) = true) (hk : FitK p r c xs q s d ys true 0) (hs : 32 < c + d) :
    Calls Try.prog 28 #[.agg #[.int .i64 p, .int .i64 r, .int .i64 c, u], .agg #[.int .i64 q, .int .i64 s, .int .i64 d, v]] w fun e w' => RetMC 0 0 0 [] 5 w e w' := by
  have w0 : IntKind.i64.wrap (c + d) = c + d := by
    obtain ⟨⟨_, _, _, _, h1, _⟩, ⟨_, _, _, _, h2, _⟩, _, _⟩ := hk.good
    exact IntWalk.i64_in _ (by omega)
  have hsd : inB (c + d) 0 32 = false := inB_no (by omega)
  have HU := Lib.hid hu
  have HV := Lib.hid hv
  obtain ⟨a1, c1, rfl, hl1, _⟩ := hu
  obtain ⟨a2, c2, rfl, hl2, _⟩ := hv
  have HK := Lib.hid hk
  clear hk
  have Pa0 := PtM.new2 w p r c (.slice a1 xs.length c1) 27 (.cells #[.int .i64 q, .int .i64 s, .int .i64 d, .slice a2 ys.length c2] 27) (.cells #[.int .i64 0, .int .i64 0, .int .i64 0, .slice none 0 0] 27)
  have Pb0 := PtM.new1 (w.alloc (.cells #[.int .i64 p, .int .i64 r, .int .i64 c, .slice a1 xs.length c1] 27)) q s d (.slice a2 ys.length c2) 27 (.cells #[.int .i64 0, .int .i64 0, .int .i64 0, .slice none 0 0] 27)
  have Pr0 := PtM.new ((w.alloc (.cells #[.int .i64 p, .int .i64 r, .int .i64 c, .slice a1 xs.length c1] 27)).alloc (.cells #[.int .i64 q, .int .i64 s, .int .i64 d, .slice a2 ys.length c2] 27)) 0 0 0 (.slice none 0 0) 27
  have Fr0 := Fz.new ((w.alloc (.cells #[.int .i64 p, .int .i64 r, .int .i64 c, .slice a1 xs.length c1] 27)).alloc (.cells #[.int .i64 q, .int .i64 s, .int .i64 d, .slice a2 ys.length c2] 27)) #[.int .i64 0, .int .i64 0, .int .i64 0, .slice none 0 0] 27
  rw [World.size_alloc] at Pb0
  rw [World.size_alloc, World.size_alloc] at Pr0 Fr0
  go_enter Try.func28, Try.ntmps28
  go_wp2_with fail
  refine (fit_any (HU.out.on (al1 (al1 (al1 (Below.refl _ _) _) _) _)) (HV.out.on (al1 (al1 (al1 (Below.refl _ _) _) _) _)) HK.out).mono ?_
  rintro e w1 ⟨rfl, hb⟩
  have Pa := Lib.hid (Pa0.on hb)
  have Pb := Lib.hid (Pb0.on hb)
  have Pr := Lib.hid (Pr0.on hb)
  have Fr : Hid (Fz w1 (w.heap.size + 1 + 1)) := Fr0.on (by simp) hb
  have HB := Lib.hid (up3 hb)
  have hz : w.heap.size + 3 ≤ w1.heap.size := by have := hb.size; simp at this; omega
  clear hb Pa0 Pb0 Pr0 Fr0
  obtain ⟨lA, x0, x1, x2, x3⟩ := Pa.out
  obtain ⟨lB, y0, y1, y2, y3⟩ := Pb.out
  obtain ⟨lR, r0, r1, r2, r3⟩ := Pr.out
  obtain ⟨f0, f1, f2, f3⟩ := Fr.out.all
  go_wp2_with fail
  refine (side_is _ hsd).mono ?_
  rintro e wx ⟨rfl, rfl⟩
  go_wp2_with fail
  refine bodyPost_ret (v := .tuple #[.agg #[.int .i64 0, .int .i64 0, .int .i64 0, .slice none 0 0], .int .i64 5]) (by simp [results, Try.results28, go_sem, r0, r1, r2, r3]) rfl ⟨_, rfl, OwnI.nul _ _, ?_⟩
  repeat (refine Below.setC ?_ (by omega) _)
  exact HB.out
set_option maxRecDepth 100000 in
set_option maxHeartbeats 3200000 in
theorem implJo_ok {q m n1 n2 : Nat} [NeZero q] {A B : Mt q} {u v : Value} {w : World} (hu : IntsC w u (flat m n1 A)) (hv : IntsC w v (flat m n2 B)) (hA : MIs q m n1 (flat m n1 A) q m n1 A) (hB : MIs q m n2 (flat m n2 B) q m n2 B) (hs : n1 + n2 ≤ 32) :
    Calls Try.prog 28 #[.agg #[.int .i64 (q : Int), .int .i64 (m : Int), .int .i64 (n1 : Int), u], .agg #[.int .i64 (q : Int), .int .i64 (m : Int), .int .i64 (n2 : Int), v]] w fun e w' => RetMC q m ((n1 : Int) + n2) (flat m (n1 + n2) (join n1 A B)) 0 w e w' := by
  have hk : FitK (q : Int) m n1 (flat m n1 A) q m n2 (flat m n2 B) true 0 := .inr (.inr ⟨hA.ok, hB.ok, rfl, rfl, rfl⟩)
  obtain ⟨hq2, hq⟩ := hA.q2
  have e1 : ((m : Int) == (m : Int)) = true := by simp
  have HCU := Lib.hid hu
  have HCV := Lib.hid hv
  have HU := Lib.hid hu.1
  have HV := Lib.hid hv.1
  obtain ⟨a1, k1, rfl, hl1, -⟩ := hu.1
  obtain ⟨a2, k2, rfl, hl2, -⟩ := hv.1
  have HK := Lib.hid hk
  simp only [flat_len] at HU HV HCU HCV hl1 hl2 ⊢
  have hm32 := hA.m32
  have hl32 := hA.n32
  have hn32 := hB.n32
  clear hk hA hB hu hv
  have Pa0 := PtM.new2 w q m n1 (.slice a1 (m * n1) k1) 27 (.cells #[.int .i64 q, .int .i64 m, .int .i64 n2, .slice a2 (m * n2) k2] 27) (.cells #[.int .i64 0, .int .i64 0, .int .i64 0, .slice none 0 0] 27)
  have Pb0 := PtM.new1 (w.alloc (.cells #[.int .i64 q, .int .i64 m, .int .i64 n1, .slice a1 (m * n1) k1] 27)) q m n2 (.slice a2 (m * n2) k2) 27 (.cells #[.int .i64 0, .int .i64 0, .int .i64 0, .slice none 0 0] 27)
  have Pr0 := PtM.new ((w.alloc (.cells #[.int .i64 q, .int .i64 m, .int .i64 n1, .slice a1 (m * n1) k1] 27)).alloc (.cells #[.int .i64 q, .int .i64 m, .int .i64 n2, .slice a2 (m * n2) k2] 27)) 0 0 0 (.slice none 0 0) 27
  have Fr0 := Fz.new ((w.alloc (.cells #[.int .i64 q, .int .i64 m, .int .i64 n1, .slice a1 (m * n1) k1] 27)).alloc (.cells #[.int .i64 q, .int .i64 m, .int .i64 n2, .slice a2 (m * n2) k2] 27)) #[.int .i64 0, .int .i64 0, .int .i64 0, .slice none 0 0] 27
  rw [World.size_alloc] at Pb0
  rw [World.size_alloc, World.size_alloc] at Pr0 Fr0
  have w0 : IntKind.i64.wrap ((n1 : Int) + n2) = (n1 : Int) + n2 := IntWalk.i64_in _ (by omega)
  have hsd : inB ((n1 : Int) + n2) 0 32 = true := by simp [inB]; omega
  go_enter Try.func28, Try.ntmps28
  go_wp2_with fail
  refine (fit_any (HU.out.on (al1 (al1 (al1 (Below.refl _ _) _) _) _)) (HV.out.on (al1 (al1 (al1 (Below.refl _ _) _) _) _)) HK.out).mono ?_
  rintro e w1 ⟨rfl, hb⟩
  have Pa := Lib.hid (Pa0.on hb)
  have Pb := Lib.hid (Pb0.on hb)
  have Pr := Lib.hid (Pr0.on hb)
  have Fr : Hid (Fz w1 (w.heap.size + 1 + 1)) := Fr0.on (by simp) hb
  have HB := Lib.hid (up3 hb)
  have hz : w.heap.size + 3 ≤ w1.heap.size := by have := hb.size; simp at this; omega
  clear hb Pa0 Pb0 Pr0 Fr0
  obtain ⟨lA, x0, x1, x2, x3⟩ := Pa.out
  obtain ⟨lB, y0, y1, y2, y3⟩ := Pb.out
  obtain ⟨lR, r0, r1, r2, r3⟩ := Pr.out
  obtain ⟨f0, f1, f2, f3⟩ := Fr.out.all
  go_wp2_with fail
  refine (side_is _ hsd).mono ?_
  rintro e wx ⟨rfl, rfl⟩
  have neA := Pa.out.ne
  have neB := Pb.out.ne
  have neR := Pr.out.ne
  have nAR : w.heap.size + 1 + 1 ≠ w.heap.size := by omega
  have nBR : ¬ w.heap.size + 1 + 1 = w.heap.size + 1 := by omega
  have nAR' : ¬ w.heap.size + 1 + 1 = w.heap.size := by omega
  go_wp2_with fail
  go_region_held3 (fun w' => w'.cell? ⟨w.heap.size, 0, none⟩ = some (.int .i64 q) ∧ w'.cell? ⟨w.heap.size, 2, none⟩ = some (.int .i64 n1) ∧ w'.cell? ⟨w.heap.size + 1, 2, none⟩ = some (.int .i64 n2)) (go_keep)
    (first
      | (go_at_call_of 68 (.pointer (some ⟨w.heap.size, 0, none⟩) : Value); refine (implRowsC Pa.out.drew (HCU.out.on HB.out).drew hm32 hl32).mono ?_; rintro e wa ⟨Ha, rfl, hra, hHa, hHa2, hba'⟩; have hba := undrew hba'; obtain ⟨_, _, _, _, _⟩ := Pa.out.on hba; obtain ⟨_, _, _, _, _⟩ := Pb.out.on hba)
      | (go_at_call 68; have hx := implRowsC (Pb.out.on hba) ((HCV.out.on HB.out).on hba) hm32 hn32; refine hx.mono ?_; rintro e wb ⟨Hb, rfl, hrb, hHb, hHb2, hbb⟩; have hb2 : Below w1.heap.size w1 wb := hba.trans (hbb.mono hba.size); obtain ⟨_, _, _, _, _⟩ := Pa.out.on hb2; obtain ⟨_, _, _, _, _⟩ := Pb.out.on hb2)
      | (go_at_call 75; have hx := besides_any (hra.on hbb) hrb hm32 (fun i _ => by rw [rowL_len]; omega) (fun i _ => by rw [rowL_len]; omega); refine hx.mono ?_; rintro e wc ⟨Hc, rfl, hHc, hmc, hbc⟩; have hrc : RowsC wc (.slice (some ⟨Hc, 0, none⟩) m m) m (rowL (n1 + n2) (join n1 A B)) := (by have h := hmc.rows (by omega) (fun i _ => by rw [List.length_append, rowL_len, rowL_len]; omega); simpa only [← rowL_join] using h); have hb3 : Below w1.heap.size w1 wc := hb2.trans (hbc.mono hb2.size); obtain ⟨_, _, _, _, _⟩ := Pa.out.on hb3; obtain ⟨_, _, _, _, _⟩ := Pb.out.on hb3)
      | (go_at_call 69; have hx := matrixOf_any q hrc hm32 hs; rw [Int.natCast_add] at hx; refine hx.mono ?_; rintro e wd ⟨vd, rfl, hod, hbd⟩; obtain ⟨vda, vdc, rfl⟩ := hod.slice; have hb4 : Below w1.heap.size w1 wd := hb3.trans (hbd.mono hb3.size); obtain ⟨_, _, _, _, _⟩ := Pa.out.on hb4; obtain ⟨_, _, _, _, _⟩ := Pb.out.on hb4; obtain ⟨_, _, _, _, _⟩ := Pr.out.on hb4; obtain ⟨_, _, _, _⟩ := (Fr.out.on (by omega) hb4).all))
  have hq := Lib.hid ((Pr.out.on hb4).set4 q m ((n1 : Int) + n2) (.slice vda (flat m (n1 + n2) (join n1 A B)).length vdc))
  have HO := Lib.hid hod
  have HB4 := Lib.hid (HB.out.trans (hb4.mono (by omega)))
  have hz3 : w.heap.size + 3 ≤ wc.heap.size := by have := hb3.size; omega
  go_wp2_with fail
  obtain ⟨_, q0, q1, q2, q3⟩ := hq.out
  refine bodyPost_ret (v := .tuple #[.agg #[.int .i64 q, .int .i64 m, .int .i64 ((n1 : Int) + n2), .slice vda (flat m (n1 + n2) (join n1 A B)).length vdc], .int .i64 0]) (by simp [results, Try.results28, go_sem, q0, q1, q2, q3]) rfl ⟨_, rfl, ?_, below_set4 HB4.out (by omega) _ _ _ _⟩
  refine OwnI.mono (B := wc.heap.size) ?_ (by omega)
  repeat (refine OwnI.setOut ?_ (by omega) _)
  exact HO.out
theorem implJo_any {p r c q s d P R C k : Int} {u v : Value} {xs ys zs : List Int} {w : World} (hu : IntsC w u xs) (hv : IntsC w v ys) (h : JoRes p r c xs q s d ys P R C zs k) :
    Calls Try.prog 28 #[.agg #[.int .i64 p, .int .i64 r, .int .i64 c, u], .agg #[.int .i64 q, .int .i64 s, .int .i64 d, v]] w fun e w' => RetMC P R C zs k w e w' := by
  obtain ⟨k0, hk, ⟨h0, rfl, rfl, rfl, rfl, rfl⟩ | ⟨rfl, h1, rfl, rfl, rfl, rfl, rfl⟩ | ⟨rfl, h1, rfl, rfl, rfl, rfl, u', _, m, n1, n2, A, B, hA, hB, rfl⟩⟩ := h
  · exact implJo_b hu.1 hv.1 rfl hk (by simpa using h0)
  · have e1 := hk.good.2.2.2
    rw [e1] at hk
    exact implJo_f hu.1 hv.1 e1 hk h1
  · obtain ⟨g1, g2, e, hf⟩ := hk.good
    have e1 : R = s := by simpa using hf
    subst e e1
    obtain ⟨rfl, rfl, rfl, rfl, h5, h6, h7⟩ := hA
    obtain ⟨_, _, rfl, rfl, g5, g6, g7⟩ := hB
    exact implJo_ok hu hv ⟨rfl, rfl, rfl, rfl, h5, h6, h7⟩ ⟨rfl, rfl, rfl, rfl, g5, g6, g7⟩ (by omega)
end Go.Proofs.Ytabanmaaagmeaaa
