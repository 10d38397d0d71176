/-
  MeetSpaces of the program.
-/
import Derived.Test.YtlakkmhfaojebaaSqE
import Derived.Test.YtlakkmhfaojebaaSqH
namespace Go.Proofs.Ytlakkmhfaojebaa
open Go.RowKit
open Lin
set_option linter.unusedVariables false
set_option linter.unusedSectionVars false

set_option maxRecDepth 100000 in
set_option maxHeartbeats 6400000 in
theorem implMeet_b {p n q m k : Int} {u v : Value} {xx yy : List (List Int)} {w : World} (hu : RowsD w u xx) (hv : RowsD w v yy) (h : TwoK p n xx q m yy k) (hk : k ≠ 0) :
    Calls Try.prog 41 #[.agg #[.int .i64 p, .int .i64 n, u], .agg #[.int .i64 q, .int .i64 m, v]] w fun e w' => RetVC 0 0 [] k w e w' := by
  have HU := Lib.hid hu
  have HV := Lib.hid hv
  have HK := Lib.hid h
  have ek : (k != 0) = true := by simpa using hk
  obtain ⟨a1, c1, rfl⟩ := hu.1.slice
  obtain ⟨a2, c2, rfl⟩ := hv.1.slice
  clear hu hv h hk
  have Pa0 := PtV.new1 w p n (.slice a1 xx.length c1) 32 (.cells #[.int .i64 q, .int .i64 m, .slice a2 yy.length c2] 32)
  have Pb0 := PtV.new (w.alloc (.cells #[.int .i64 p, .int .i64 n, .slice a1 xx.length c1] 32)) q m (.slice a2 yy.length c2) 32
  have Pr0 := PtV.new ((w.alloc (.cells #[.int .i64 p, .int .i64 n, .slice a1 xx.length c1] 32)).alloc (.cells #[.int .i64 q, .int .i64 m, .slice a2 yy.length c2] 32)) 0 0 (.slice none 0 0) 32
  have Fr0 := Fz.new ((w.alloc (.cells #[.int .i64 p, .int .i64 n, .slice a1 xx.length c1] 32)).alloc (.cells #[.int .i64 q, .int .i64 m, .slice a2 yy.length c2] 32)) #[.int .i64 0, .int .i64 0, .slice none 0 0] 32
  rw [World.size_alloc] at Pb0
  simp only [World.size_alloc] at Pr0 Fr0
  have b3 := (Below.refl ((w.alloc (.cells #[.int .i64 p, .int .i64 n, .slice a1 xx.length c1] 32)).alloc (.cells #[.int .i64 q, .int .i64 m, .slice a2 yy.length c2] 32)).heap.size ((w.alloc (.cells #[.int .i64 p, .int .i64 n, .slice a1 xx.length c1] 32)).alloc (.cells #[.int .i64 q, .int .i64 m, .slice a2 yy.length c2] 32))).alloc (Nat.le_refl _) (.cells #[.int .i64 0, .int .i64 0, .slice none 0 0] 32)
  have Pa0 := Pa0.on b3
  have Pb0 := Pb0.on b3
  have bb := al1 (al1 (al1 (Below.refl w.heap.size w) (.cells #[.int .i64 p, .int .i64 n, .slice a1 xx.length c1] 32)) (.cells #[.int .i64 q, .int .i64 m, .slice a2 yy.length c2] 32)) (.cells #[.int .i64 0, .int .i64 0, .slice none 0 0] 32)
  clear b3
  go_enter Try.func41, Try.ntmps41
  go_wp2_with fail
  generalize hW : World.alloc ((w.alloc (.cells #[.int .i64 p, .int .i64 n, .slice a1 xx.length c1] 32)).alloc (.cells #[.int .i64 q, .int .i64 m, .slice a2 yy.length c2] 32)) (.cells #[.int .i64 0, .int .i64 0, .slice none 0 0] 32) = W0 at bb Pa0 Pb0 Pr0 Fr0 ⊢
  have hz : w.heap.size + 3 ≤ W0.heap.size := by rw [← hW]; simp
  have Pa := Lib.hid Pa0
  have Pb := Lib.hid Pb0
  have Pr := Lib.hid Pr0
  have Fr : Hid (Fz W0 (w.heap.size + 1 + 1)) := Fr0
  have HB := Lib.hid bb
  clear hW bb Pa0 Pb0 Pr0 Fr0
  refine (twoCode_is (HU.out.on HB.out) (HV.out.on HB.out) HK.out).mono ?_
  rintro e w1 ⟨rfl, hb⟩
  have HB := Lib.hid (HB.out.trans (hb.mono HB.out.size))
  have Pa := Lib.hid (Pa.out.on hb)
  have Pb := Lib.hid (Pb.out.on hb)
  have Pr := Lib.hid (Pr.out.on hb)
  have Fr : Hid (Fz w1 (w.heap.size + 1 + 1)) := Fr.out.on (by omega) hb
  have hz1 : w.heap.size + 3 ≤ w1.heap.size := by have := hb.size; omega
  clear hb
  obtain ⟨lR, r0, r1, r2⟩ := Pr.out
  have f0 := Fr.out 0
  have f1 := Fr.out 1
  have f2 := Fr.out 2
  have HQ3 := Lib.hid (Pr.out.set3 0 0 (.slice none 0 0))
  go_wp2_with fail
  obtain ⟨_, q0, q1, q2⟩ := HQ3.out
  refine bodyPost_ret (v := .tuple #[.agg #[.int .i64 0, .int .i64 0, .slice none 0 0], .int .i64 k]) (by simp [results, Try.results41, go_sem, q0, q1, q2]) rfl ⟨_, rfl, OwnRI.nul _ _, ?_⟩
  repeat (refine Below.setC ?_ (by omega) _)
  exact HB.out
set_option maxRecDepth 100000 in
set_option maxHeartbeats 6400000 in
theorem implMeet_ok {q N r s : Nat} [NeZero q] {A B : Mt q} {u v : Value} {xx yy : List (List Int)} {w : World} (hu : RowsD w u xx) (hv : RowsD w v yy) (hA : VIs q N xx q N r A) (hB : VIs q N yy q N s B) :
    Calls Try.prog 41 #[.agg #[.int .i64 (q : Int), .int .i64 (N : Int), u], .agg #[.int .i64 (q : Int), .int .i64 (N : Int), v]] w fun e w' => RetVC q N (meetOf r s N A B) 0 w e w' := by
  have HU := Lib.hid hu
  have HV := Lib.hid hv
  have HK : Hid (TwoK (q : Int) N xx q N yy 0) := .inr (.inr ⟨hA.ok, hB.ok, rfl, rfl, rfl⟩)
  have HVA := Lib.hid hA
  have HVB := Lib.hid hB
  have V1 := Lib.hid (vis_ortOf hA.pr hA.n32 r A)
  have V2 := Lib.hid (vis_ortOf hA.pr hA.n32 s B)
  have V3 := Lib.hid (vis_sumOf hA.pr hA.n32 (ortR r N A) (ortR s N B) (ortA r N A) (ortA s N B))
  have F1 := Lib.hid (fit_ortOf (m := r) (n := N) (fd_of hA.pr) A (by have := hA.n32; omega))
  have F2 := Lib.hid (fit_ortOf (m := s) (n := N) (fd_of hA.pr) B (by have := hA.n32; omega))
  have F3 : Hid (FitR (sumOf (ortR r N A) (ortR s N B) N (ortA r N A) (ortA s N B))) := fit_basOf (fd_of hA.pr) _ (by have := hA.n32; omega)
  have HME : Hid (meetOf r s N A B = ortOf (sumR (ortR r N A) (ortR s N B) N (ortA r N A) (ortA s N B)) N (sumA (ortR r N A) (ortR s N B) N (ortA r N A) (ortA s N B))) := rfl
  generalize meetOf r s N A B = zm at HME ⊢
  obtain ⟨z3, hz3e⟩ : ∃ z, sumOf (ortR r N A) (ortR s N B) N (ortA r N A) (ortA s N B) = z := ⟨_, rfl⟩
  rw [hz3e] at V3 F3
  have HS3 : Hid (basOf (ortR r N A + ortR s N B) N (stack (ortR r N A) (ortA r N A) (ortA s N B)) = z3) := hz3e
  clear hz3e
  obtain ⟨a1, c1, rfl⟩ := hu.1.slice
  obtain ⟨a2, c2, rfl⟩ := hv.1.slice
  have hl1 := hA.len
  have hl2 := hB.len
  rw [hl1] at HU ⊢
  rw [hl2] at HV ⊢
  clear hu hv hA hB hl1 hl2
  have Pa0 := PtV.new1 w (q : Int) (N : Int) (.slice a1 r c1) 32 (.cells #[.int .i64 (q : Int), .int .i64 (N : Int), .slice a2 s c2] 32)
  have Pb0 := PtV.new (w.alloc (.cells #[.int .i64 (q : Int), .int .i64 (N : Int), .slice a1 r c1] 32)) (q : Int) (N : Int) (.slice a2 s c2) 32
  have Pr0 := PtV.new ((w.alloc (.cells #[.int .i64 (q : Int), .int .i64 (N : Int), .slice a1 r c1] 32)).alloc (.cells #[.int .i64 (q : Int), .int .i64 (N : Int), .slice a2 s c2] 32)) 0 0 (.slice none 0 0) 32
  have Fr0 := Fz.new ((w.alloc (.cells #[.int .i64 (q : Int), .int .i64 (N : Int), .slice a1 r c1] 32)).alloc (.cells #[.int .i64 (q : Int), .int .i64 (N : Int), .slice a2 s c2] 32)) #[.int .i64 0, .int .i64 0, .slice none 0 0] 32
  rw [World.size_alloc] at Pb0
  simp only [World.size_alloc] at Pr0 Fr0
  have b3 := (Below.refl ((w.alloc (.cells #[.int .i64 (q : Int), .int .i64 (N : Int), .slice a1 r c1] 32)).alloc (.cells #[.int .i64 (q : Int), .int .i64 (N : Int), .slice a2 s c2] 32)).heap.size ((w.alloc (.cells #[.int .i64 (q : Int), .int .i64 (N : Int), .slice a1 r c1] 32)).alloc (.cells #[.int .i64 (q : Int), .int .i64 (N : Int), .slice a2 s c2] 32))).alloc (Nat.le_refl _) (.cells #[.int .i64 0, .int .i64 0, .slice none 0 0] 32)
  have Pa0 := Pa0.on b3
  have Pb0 := Pb0.on b3
  have bb := al1 (al1 (al1 (Below.refl w.heap.size w) (.cells #[.int .i64 (q : Int), .int .i64 (N : Int), .slice a1 r c1] 32)) (.cells #[.int .i64 (q : Int), .int .i64 (N : Int), .slice a2 s c2] 32)) (.cells #[.int .i64 0, .int .i64 0, .slice none 0 0] 32)
  clear b3
  go_enter Try.func41, Try.ntmps41
  go_wp2_with fail
  generalize hW : World.alloc ((w.alloc (.cells #[.int .i64 (q : Int), .int .i64 (N : Int), .slice a1 r c1] 32)).alloc (.cells #[.int .i64 (q : Int), .int .i64 (N : Int), .slice a2 s c2] 32)) (.cells #[.int .i64 0, .int .i64 0, .slice none 0 0] 32) = W0 at bb Pa0 Pb0 Pr0 Fr0 ⊢
  have hz : w.heap.size + 3 ≤ W0.heap.size := by rw [← hW]; simp
  have Pa := Lib.hid Pa0
  have Pb := Lib.hid Pb0
  have Pr := Lib.hid Pr0
  have Fr : Hid (Fz W0 (w.heap.size + 1 + 1)) := Fr0
  have HB := Lib.hid bb
  clear hW bb Pa0 Pb0 Pr0 Fr0
  refine (twoCode_is (HU.out.on HB.out) (HV.out.on HB.out) HK.out).mono ?_
  rintro e w1 ⟨rfl, hb⟩
  have HB := Lib.hid (HB.out.trans (hb.mono HB.out.size))
  have Pa := Lib.hid (Pa.out.on hb)
  have Pb := Lib.hid (Pb.out.on hb)
  have Pr := Lib.hid (Pr.out.on hb)
  have Fr : Hid (Fz w1 (w.heap.size + 1 + 1)) := Fr.out.on (by omega) hb
  have hz1 : w.heap.size + 3 ≤ w1.heap.size := by have := hb.size; omega
  clear hb
  obtain ⟨lA, x0, x1, x2⟩ := Pa.out
  go_wp2_with fail
  refine (implOrt_ok (HU.out.on HB.out) HVA.out).mono ?_
  rintro e w2 ⟨v2, rfl, ho, hb⟩
  have HO1 := Lib.hid (ho.atD F1.out)
  obtain ⟨va, vc, rfl⟩ := ho.slice
  have HB := Lib.hid (HB.out.trans (hb.mono HB.out.size))
  have Pb := Lib.hid (Pb.out.on hb)
  have Pr := Lib.hid (Pr.out.on hb)
  have Fr : Hid (Fz w2 (w.heap.size + 1 + 1)) := Fr.out.on (by omega) hb
  have hz2 : w.heap.size + 3 ≤ w2.heap.size := by have := hb.size; omega
  clear ho hb lA x0 x1 x2
  obtain ⟨lB, y0, y1, y2⟩ := Pb.out
  have Pf0 := PtV.new w2 (q : Int) (N : Int) (.slice va (ortOf r N A).length vc) 32
  go_wp2_with fail
  refine (implOrt_ok (HV.out.on (al1 HB.out _)) HVB.out).mono ?_
  rintro e w3 ⟨v3, rfl, ho, hb'⟩
  have hb := up1 hb'
  have HO2 := Lib.hid (ho.atD F2.out)
  obtain ⟨vb, vd, rfl⟩ := ho.slice
  have HB := Lib.hid (HB.out.trans (hb.mono HB.out.size))
  have Pf := Lib.hid (Pf0.on hb')
  have Pr := Lib.hid (Pr.out.on hb)
  have HO1 := Lib.hid (HO1.out.on hb)
  have Fr : Hid (Fz w3 (w.heap.size + 1 + 1)) := Fr.out.on (by omega) hb
  have hz3 : w.heap.size + 3 ≤ w3.heap.size := by have := hb.size; omega
  clear ho hb hb' lB y0 y1 y2 Pf0
  obtain ⟨lF, x0, x1, x2⟩ := Pf.out
  have Pg0 := PtV.new w3 (q : Int) (N : Int) (.slice vb (ortOf s N B).length vd) 32
  go_wp2_with fail
  refine (implSum_ok (HO1.out.on (al1 (Below.refl _ _) _)) (HO2.out.on (al1 (Below.refl _ _) _)) V1.out V2.out).mono ?_
  rintro e w4 ⟨v4, rfl, ho, hb'⟩
  have hb := up1 hb'
  rw [HS3.out] at ho
  have HO3 : Hid (RowsD w4 v4 z3) := ho.atD F3.out
  obtain ⟨vx, vy, rfl⟩ := HO3.out.1.slice
  have HB := Lib.hid (HB.out.trans (hb.mono HB.out.size))
  have Pr := Lib.hid (Pr.out.on hb)
  have Fr : Hid (Fz w4 (w.heap.size + 1 + 1)) := Fr.out.on (by omega) hb
  have hz4 : w.heap.size + 3 ≤ w4.heap.size := by have := hb.size; omega
  clear ho hb hb' lF x0 x1 x2 Pg0 HO1 HO2
  have Ps0 := PtV.new w4 (q : Int) (N : Int) (.slice vx z3.length vy) 32
  go_wp2_with fail
  refine (implOrt_ok (HO3.out.on (al1 (Below.refl _ _) _)) V3.out).mono ?_
  rintro e w5 ⟨v5, rfl, ho, hb'⟩
  have hb := up1 hb'
  rw [← HME.out] at ho
  have HO := Lib.hid (ho.mono (show w4.heap.size ≤ (w4.alloc (.cells #[.int .i64 (q : Int), .int .i64 (N : Int), .slice vx z3.length vy] 32)).heap.size by simp))
  obtain ⟨vg, vh, rfl⟩ := ho.slice
  have HB := Lib.hid (HB.out.trans (hb.mono HB.out.size))
  have Pr := Lib.hid (Pr.out.on hb)
  have Fr : Hid (Fz w5 (w.heap.size + 1 + 1)) := Fr.out.on (by omega) hb
  have hz5 : w.heap.size + 3 ≤ w5.heap.size := by have := hb.size; omega
  clear ho hb hb'
  obtain ⟨lR, r0, r1, r2⟩ := Pr.out
  have f0 := Fr.out 0
  have f1 := Fr.out 1
  have f2 := Fr.out 2
  have HQ3 := Lib.hid (Pr.out.set3 q N (.slice vg zm.length vh))
  go_wp2_with fail
  obtain ⟨_, q0, q1, q2⟩ := HQ3.out
  refine bodyPost_ret (v := .tuple #[.agg #[.int .i64 q, .int .i64 N, .slice vg zm.length vh], .int .i64 0]) (by simp [results, Try.results41, go_sem, q0, q1, q2]) rfl ⟨_, rfl, ?_, ?_⟩
  · refine OwnRI.mono (B := w4.heap.size) ?_ (by omega)
    repeat (refine OwnRI.setOut ?_ (by omega) _)
    exact HO.out
  · repeat (refine Below.setC ?_ (by omega) _)
    exact HB.out
theorem implMeet_any {p n q m P N k : Int} {u v : Value} {xx yy Z : List (List Int)} {w : World} (hu : RowsD w u xx) (hv : RowsD w v yy) (h : MeetRes p n xx q m yy P N Z k) :
    Calls Try.prog 41 #[.agg #[.int .i64 p, .int .i64 n, u], .agg #[.int .i64 q, .int .i64 m, v]] w fun e w' => RetVC P N Z k w e w' := by
  rcases h with ⟨c, hc, h0, rfl, rfl, rfl, rfl⟩ | ⟨rfl, rfl, rfl, rfl, rfl, u', _, M, r, s, A, B, hA, hB, rfl⟩
  · exact implMeet_b hu hv hc h0
  · obtain ⟨rfl, rfl⟩ : P = u' ∧ N = M := ⟨hA.p, hA.n⟩
    exact implMeet_ok hu hv hA hB
end Go.Proofs.Ytlakkmhfaojebaa
