/-
  SumSpaces of the program.
-/
import Derived.Test.YtpimnngomodnhaaSqH
import Derived.Test.YtpimnngomodnhaaSqC
namespace Go.Proofs.Ytpimnngomodnhaa
open Go.RowKit
open Lin
set_option linter.unusedVariables false
set_option linter.unusedSectionVars false

set_option maxRecDepth 100000 in
set_option maxHeartbeats 6400000 in
theorem implSum_b {p n q m k : Int} {u v : Value} {xx yy : List (List Int)} {w : World} (hu : RowsD w u xx) (hv : RowsD w v yy) (h : TwoK p n xx q m yy k) (hk : k ≠ 0) :
    Calls Try.prog 76 #[.agg #[.int .i64 p, .int .i64 n, u], .agg #[.int .i64 q, .int .i64 m, v]] w fun e w' => RetVC 0 0 [] k w e w' := by
  have HU := Lib.hid hu
  have HV := Lib.hid hv
  have HK := Lib.hid h
  have ek : (k != 0) = true := by simpa using hk
  obtain ⟨a1, c1, rfl⟩ := hu.1.slice
  obtain ⟨a2, c2, rfl⟩ := hv.1.slice
  clear hu hv h hk
  have Pa0 := PtV.new1 w p n (.slice a1 xx.length c1) 32 (.cells #[.int .i64 q, .int .i64 m, .slice a2 yy.length c2] 32)
  have Pb0 := PtV.new (w.alloc (.cells #[.int .i64 p, .int .i64 n, .slice a1 xx.length c1] 32)) q m (.slice a2 yy.length c2) 32
  have Pr0 := PtV.new ((w.alloc (.cells #[.int .i64 p, .int .i64 n, .slice a1 xx.length c1] 32)).alloc (.cells #[.int .i64 q, .int .i64 m, .slice a2 yy.length c2] 32)) 0 0 (.slice none 0 0) 32
  have Fr0 := Fz.new ((w.alloc (.cells #[.int .i64 p, .int .i64 n, .slice a1 xx.length c1] 32)).alloc (.cells #[.int .i64 q, .int .i64 m, .slice a2 yy.length c2] 32)) #[.int .i64 0, .int .i64 0, .slice none 0 0] 32
  rw [World.size_alloc] at Pb0
  simp only [World.size_alloc] at Pr0 Fr0
  have b3 := (Below.refl ((w.alloc (.cells #[.int .i64 p, .int .i64 n, .slice a1 xx.length c1] 32)).alloc (.cells #[.int .i64 q, .int .i64 m, .slice a2 yy.length c2] 32)).heap.size ((w.alloc (.cells #[.int .i64 p, .int .i64 n, .slice a1 xx.length c1] 32)).alloc (.cells #[.int .i64 q, .int .i64 m, .slice a2 yy.length c2] 32))).alloc (Nat.le_refl _) (.cells #[.int .i64 0, .int .i64 0, .slice none 0 0] 32)
  have Pa0 := Pa0.on b3
  have Pb0 := Pb0.on b3
  have bb := al1 (al1 (al1 (Below.refl w.heap.size w) (.cells #[.int .i64 p, .int .i64 n, .slice a1 xx.length c1] 32)) (.cells #[.int .i64 q, .int .i64 m, .slice a2 yy.length c2] 32)) (.cells #[.int .i64 0, .int .i64 0, .slice none 0 0] 32)
  clear b3
  go_enter Try.func76, Try.ntmps76
  go_wp2_with fail
  generalize hW : World.alloc ((w.alloc (.cells #[.int .i64 p, .int .i64 n, .slice a1 xx.length c1] 32)).alloc (.cells #[.int .i64 q, .int .i64 m, .slice a2 yy.length c2] 32)) (.cells #[.int .i64 0, .int .i64 0, .slice none 0 0] 32) = W0 at bb Pa0 Pb0 Pr0 Fr0 ⊢
  have hz : w.heap.size + 3 ≤ W0.heap.size := by rw [← hW]; simp
  have Pa := Lib.hid Pa0
  have Pb := Lib.hid Pb0
  have Pr := Lib.hid Pr0
  have Fr : Hid (Fz W0 (w.heap.size + 1 + 1)) := Fr0
  have HB := Lib.hid bb
  clear hW bb Pa0 Pb0 Pr0 Fr0
  refine (twoCode_is (HU.out.on HB.out) (HV.out.on HB.out) HK.out).mono ?_
  rintro e w1 ⟨rfl, hb⟩
  have HB := Lib.hid (HB.out.trans (hb.mono HB.out.size))
  have Pa := Lib.hid (Pa.out.on hb)
  have Pb := Lib.hid (Pb.out.on hb)
  have Pr := Lib.hid (Pr.out.on hb)
  have Fr : Hid (Fz w1 (w.heap.size + 1 + 1)) := Fr.out.on (by omega) hb
  have hz1 : w.heap.size + 3 ≤ w1.heap.size := by have := hb.size; omega
  clear hb
  obtain ⟨lR, r0, r1, r2⟩ := Pr.out
  have f0 := Fr.out 0
  have f1 := Fr.out 1
  have f2 := Fr.out 2
  have HQ3 := Lib.hid (Pr.out.set3 0 0 (.slice none 0 0))
  go_wp2_with fail
  obtain ⟨_, q0, q1, q2⟩ := HQ3.out
  refine bodyPost_ret (v := .tuple #[.agg #[.int .i64 0, .int .i64 0, .slice none 0 0], .int .i64 k]) (by simp [results, Try.results76, go_sem, q0, q1, q2]) rfl ⟨_, rfl, OwnRI.nul _ _, ?_⟩
  repeat (refine Below.setC ?_ (by omega) _)
  exact HB.out
set_option maxRecDepth 100000 in
set_option maxHeartbeats 6400000 in
theorem implSum_ok {q N r s : Nat} [NeZero q] {A B : Mt q} {u v : Value} {xx yy : List (List Int)} {w : World} (hu : RowsD w u xx) (hv : RowsD w v yy) (hA : VIs q N xx q N r A) (hB : VIs q N yy q N s B) :
    Calls Try.prog 76 #[.agg #[.int .i64 (q : Int), .int .i64 (N : Int), u], .agg #[.int .i64 (q : Int), .int .i64 (N : Int), v]] w fun e w' => RetVC q N (basOf (r + s) N (stack r A B)) 0 w e w' := by
  have HU := Lib.hid hu
  have HV := Lib.hid hv
  have HRA := Lib.hid (hA.rowsC hu)
  have HRB := Lib.hid (hB.rowsC hv)
  have HK : Hid (TwoK (q : Int) N xx q N yy 0) := .inr (.inr ⟨hA.ok, hB.ok, rfl, rfl, rfl⟩)
  have HPR := Lib.hid hA.pr
  have hr32 := hA.mis.m32
  have hs32 := hB.mis.m32
  have hN32 := hA.n32
  have hl1 := hA.len
  have hl2 := hB.len
  obtain ⟨a1, c1, rfl⟩ := hu.1.slice
  obtain ⟨a2, c2, rfl⟩ := hv.1.slice
  rw [hl1] at HU HRA ⊢
  rw [hl2] at HV HRB ⊢
  clear hu hv hA hB hl1 hl2
  have Pa0 := PtV.new1 w (q : Int) (N : Int) (.slice a1 r c1) 32 (.cells #[.int .i64 (q : Int), .int .i64 (N : Int), .slice a2 s c2] 32)
  have Pb0 := PtV.new (w.alloc (.cells #[.int .i64 (q : Int), .int .i64 (N : Int), .slice a1 r c1] 32)) (q : Int) (N : Int) (.slice a2 s c2) 32
  have Pr0 := PtV.new ((w.alloc (.cells #[.int .i64 (q : Int), .int .i64 (N : Int), .slice a1 r c1] 32)).alloc (.cells #[.int .i64 (q : Int), .int .i64 (N : Int), .slice a2 s c2] 32)) 0 0 (.slice none 0 0) 32
  have Fr0 := Fz.new ((w.alloc (.cells #[.int .i64 (q : Int), .int .i64 (N : Int), .slice a1 r c1] 32)).alloc (.cells #[.int .i64 (q : Int), .int .i64 (N : Int), .slice a2 s c2] 32)) #[.int .i64 0, .int .i64 0, .slice none 0 0] 32
  rw [World.size_alloc] at Pb0
  simp only [World.size_alloc] at Pr0 Fr0
  have b3 := (Below.refl ((w.alloc (.cells #[.int .i64 (q : Int), .int .i64 (N : Int), .slice a1 r c1] 32)).alloc (.cells #[.int .i64 (q : Int), .int .i64 (N : Int), .slice a2 s c2] 32)).heap.size ((w.alloc (.cells #[.int .i64 (q : Int), .int .i64 (N : Int), .slice a1 r c1] 32)).alloc (.cells #[.int .i64 (q : Int), .int .i64 (N : Int), .slice a2 s c2] 32))).alloc (Nat.le_refl _) (.cells #[.int .i64 0, .int .i64 0, .slice none 0 0] 32)
  have Pa0 := Pa0.on b3
  have Pb0 := Pb0.on b3
  have bb := al1 (al1 (al1 (Below.refl w.heap.size w) (.cells #[.int .i64 (q : Int), .int .i64 (N : Int), .slice a1 r c1] 32)) (.cells #[.int .i64 (q : Int), .int .i64 (N : Int), .slice a2 s c2] 32)) (.cells #[.int .i64 0, .int .i64 0, .slice none 0 0] 32)
  clear b3
  go_enter Try.func76, Try.ntmps76
  go_wp2_with fail
  generalize hW : World.alloc ((w.alloc (.cells #[.int .i64 (q : Int), .int .i64 (N : Int), .slice a1 r c1] 32)).alloc (.cells #[.int .i64 (q : Int), .int .i64 (N : Int), .slice a2 s c2] 32)) (.cells #[.int .i64 0, .int .i64 0, .slice none 0 0] 32) = W0 at bb Pa0 Pb0 Pr0 Fr0 ⊢
  have hz : w.heap.size + 3 ≤ W0.heap.size := by rw [← hW]; simp
  have Pa := Lib.hid Pa0
  have Pb := Lib.hid Pb0
  have Pr := Lib.hid Pr0
  have Fr : Hid (Fz W0 (w.heap.size + 1 + 1)) := Fr0
  have HB := Lib.hid bb
  clear hW bb Pa0 Pb0 Pr0 Fr0
  refine (twoCode_is (HU.out.on HB.out) (HV.out.on HB.out) HK.out).mono ?_
  rintro e w1 ⟨rfl, hb⟩
  have HB := Lib.hid (HB.out.trans (hb.mono HB.out.size))
  have Pa := Lib.hid (Pa.out.on hb)
  have Pb := Lib.hid (Pb.out.on hb)
  have Pr := Lib.hid (Pr.out.on hb)
  have Fr : Hid (Fz w1 (w.heap.size + 1 + 1)) := Fr.out.on (by omega) hb
  have hz1 : w.heap.size + 3 ≤ w1.heap.size := by have := hb.size; omega
  clear hb
  have hra := HRA.out.on HB.out
  have hrb := HRB.out.on HB.out
  obtain ⟨LA, hLA, sA, oA, iA⟩ := hra.list
  obtain ⟨LB, hLB, sB, oB, iB⟩ := hrb.list
  have HLA := Lib.hid hLA
  have HLB := Lib.hid hLB
  have SA := Lib.hid sA
  have SB := Lib.hid sB
  have OA := Lib.hid oA
  have OB := Lib.hid oB
  have IA : Hid (∀ i (h : i < LA.length), IntsC w1 LA[i] (rowL N A i)) := iA
  have IB : Hid (∀ i (h : i < LB.length), IntsC w1 LB[i] (rowL N B i)) := iB
  clear hra hrb hLA hLB sA sB oA oB iA iB
  obtain ⟨lA, x0, x1, x2⟩ := Pa.out
  obtain ⟨lB, y0, y1, y2⟩ := Pb.out
  obtain ⟨lR, r0, r1, r2⟩ := Pr.out
  have neA := Pa.out.ne
  have neB := Pb.out.ne
  have neR := Pr.out.ne
  go_wp2_with fail
  go_region_held3 (fun w' => w'.cell? ⟨w.heap.size, 0, none⟩ = some (.int .i64 (q : Int)) ∧ w'.cell? ⟨w.heap.size, 1, none⟩ = some (.int .i64 (N : Int)) ∧ w'.cell? ⟨w.heap.size, 2, none⟩ = some (.slice a1 r c1) ∧ w'.cell? ⟨w.heap.size + 1, 2, none⟩ = some (.slice a2 s c2)) (go_keep)
    (first
      | (go_at_call 78; refine (shapeOf_any (q : Int) (N : Int) _).mono ?_; rintro e wa ⟨rfl, hba'⟩; have hba : Below w1.heap.size w1 wa := (by first | with_reducible exact hbc.trans (hba'.mono hbc.size) | with_reducible exact hba' | with_reducible exact undrew hba' | with_reducible exact undrew (up1 hba') | with_reducible exact up1 hba' | with_reducible exact up1 (undrew hba')); (try (have hcB0 : wa.cell? ⟨w1.heap.size, 0, none⟩ = some (.slice a1 r c1) := (hba'.cell (p := ⟨w1.heap.size, 0, none⟩) (by simp)).trans ((World.cell?_alloc_at _ _ _ _ rfl).trans rfl); have hcB1 : wa.cell? ⟨w1.heap.size, 1, none⟩ = some (.slice a2 s c2) := (hba'.cell (p := ⟨w1.heap.size, 1, none⟩) (by simp)).trans ((World.cell?_alloc_at _ _ _ _ rfl).trans rfl))); obtain ⟨_, _, _, _⟩ := Pa.out.on hba; obtain ⟨_, _, _, _⟩ := Pb.out.on hba; obtain ⟨_, _, _, _⟩ := Pr.out.on hba; have := (Pa.out.on hba).ne; have := (Pb.out.on hba).ne; have := (Pr.out.on hba).ne)
      | (go_at_call 105; go_loud (refine (concatS_any (c := 2) (xs := LA) (ys := LB) _ (by first | (simp; done) | (have := hba'.size; simp at this; omega)) (by first | with_reducible exact hcB0 | (rw [World.cell?_alloc_at _ _ _ _ rfl]; rfl)) (by first | with_reducible exact hcB1 | (rw [World.cell?_alloc_at _ _ _ _ rfl]; rfl)) (SA.out.on (by first | with_reducible exact hba | with_reducible exact al1 hba _ | with_reducible exact al1 (drew_below (Below.refl _ _)) _)) (SB.out.on (by first | with_reducible exact hba | with_reducible exact al1 hba _ | with_reducible exact al1 (drew_below (Below.refl _ _)) _)) (by have := HLA.out; have := HLB.out; omega) OA.out OB.out).mono ?_; rintro e wc ⟨vc, rfl, hvc, hbc'⟩; have hbc : Below w1.heap.size w1 wc := (by first | with_reducible exact hba.trans (hbc'.mono hba.size) | with_reducible exact (al1 hba _).trans (hbc'.mono (al1 hba _).size) | with_reducible exact (al1 (drew_below (Below.refl _ _)) _).trans (hbc'.mono (al1 (drew_below (Below.refl _ _)) _).size)); have hrc := RowsC.stacked hvc HLA.out HLB.out (by omega) (fun i h => (IA.out i h).on hbc) (fun i h => (IB.out i h).on hbc); have hvs : ∃ a c, vc = .slice a (r + s) c := (by obtain ⟨a, c, h, _⟩ := hrc; exact ⟨a, c, h⟩); obtain ⟨vca, vcc, rfl⟩ := hvs; obtain ⟨_, _, _, _⟩ := Pa.out.on hbc; obtain ⟨_, _, _, _⟩ := Pb.out.on hbc; obtain ⟨_, _, _, _⟩ := Pr.out.on hbc; have := (Pa.out.on hbc).ne; have := (Pb.out.on hbc).ne; have := (Pr.out.on hbc).ne))
      | (go_at_call 68; go_loud (refine (span_any (A := stack r A B) (by first | with_reducible exact hrc | with_reducible exact hrc.on hba') HPR.out (by omega) (by omega)).mono ?_; rintro e wd ⟨vd, rfl, hod, hbd'⟩; have n1 : ¬ w.heap.size + 1 + 1 = w.heap.size := (by omega); have n2 : ¬ w.heap.size + 1 + 1 = w.heap.size + 1 := (by omega); have n3 : ¬ w.heap.size = w.heap.size + 1 + 1 := (by omega); have n4 : ¬ w.heap.size + 1 = w.heap.size + 1 + 1 := (by omega); have hbd : Below w1.heap.size w1 wd := (by first | with_reducible exact hbc.trans (hbd'.mono hbc.size) | with_reducible exact hba.trans (hbd'.mono hba.size)); obtain ⟨vda, vdc, rfl⟩ := hod.slice; obtain ⟨_, _, _, _⟩ := Pa.out.on hbd; obtain ⟨_, _, _, _⟩ := Pb.out.on hbd; obtain ⟨_, _, _, _⟩ := Pr.out.on hbd; have := (Pa.out.on hbd).ne; have := (Pb.out.on hbd).ne; have := (Pr.out.on hbd).ne; have := Fr.out.on (by omega) hbd 0; have := Fr.out.on (by omega) hbd 1; have := Fr.out.on (by omega) hbd 2)))
  all_goals
    have HQ3 := Lib.hid ((Pr.out.on hbd).set3 q N (.slice vda (basOf (r + s) N (stack r A B)).length vdc))
    have HO := Lib.hid (hod.mono (show w1.heap.size ≤ wc.heap.size from hbc.size))
    have HB5 := Lib.hid (HB.out.trans (hbd.mono HB.out.size))
    have hsd := hbd.size
    clear hod hbd hbc hba hbd'
    go_wp2_with fail
    obtain ⟨_, q0, q1, q2⟩ := HQ3.out
    refine bodyPost_ret (v := .tuple #[.agg #[.int .i64 q, .int .i64 N, .slice vda (basOf (r + s) N (stack r A B)).length vdc], .int .i64 0]) (by simp [results, Try.results76, go_sem, q0, q1, q2]) rfl ⟨_, rfl, ?_, ?_⟩
    · refine OwnRI.mono (B := w1.heap.size) ?_ (by omega)
      repeat (refine OwnRI.setOut ?_ (by omega) _)
      exact HO.out
    · repeat (refine Below.setC ?_ (by omega) _)
      exact HB5.out
theorem implSum_any {p n q m P N k : Int} {u v : Value} {xx yy Z : List (List Int)} {w : World} (hu : RowsD w u xx) (hv : RowsD w v yy) (h : SumRes p n xx q m yy P N Z k) :
    Calls Try.prog 76 #[.agg #[.int .i64 p, .int .i64 n, u], .agg #[.int .i64 q, .int .i64 m, v]] w fun e w' => RetVC P N Z k w e w' := by
  rcases h with ⟨c, hc, h0, rfl, rfl, rfl, rfl⟩ | ⟨rfl, rfl, rfl, rfl, rfl, u', _, M, r, s, A, B, hA, hB, rfl⟩
  · exact implSum_b hu hv hc h0
  · obtain ⟨rfl, rfl⟩ : P = u' ∧ N = M := ⟨hA.p, hA.n⟩
    exact implSum_ok hu hv hA hB
end Go.Proofs.Ytpimnngomodnhaa
