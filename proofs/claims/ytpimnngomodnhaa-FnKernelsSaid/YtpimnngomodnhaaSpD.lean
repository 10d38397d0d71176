/-
  SpaceOf, SameSpace and ValidSpace of the program.
-/
import Derived.Test.YtpimnngomodnhaaSpC
import Derived.Deep.RegionHeld3
namespace Go.Proofs.Ytpimnngomodnhaa
open Go.RowKit
open Lin
set_option linter.unusedVariables false
set_option linter.unusedSectionVars false

/-- How a call ends that hands back a space and a code. -/
def RetVC (P N : Int) (zz : List (List Int)) (k : Int) (w : World) (e : Ending) (w' : World) : Prop :=
  ∃ v, e = .returned (.tuple #[.agg #[.int .i64 P, .int .i64 N, v], .int .i64 k]) ∧ OwnRI w.heap.size w' v zz ∧ Below w.heap.size w w'
/-- A slice of rows that reads as zz, with its capacity. -/
def RowsD (w : World) (v : Value) (zz : List (List Int)) : Prop := RowsAt w v zz ∧ RowsC w v zz.length (fun i => zz.getD i [])
theorem RowsD.on {w w' : World} {v : Value} {zz : List (List Int)} (h : RowsD w v zz) (hb : Below w.heap.size w w') : RowsD w' v zz := ⟨h.1.on hb, h.2.on hb⟩
theorem RowsC.congr {w : World} {v : Value} {m : Nat} {R R' : Nat → List Int} (h : RowsC w v m R) (e : ∀ i, i < m → R i = R' i) : RowsC w v m R' := by
  obtain ⟨a, cap, rfl, hm, h | ⟨H, o, rfl, hH, hc⟩⟩ := h
  · exact ⟨a, cap, rfl, hm, .inl h⟩
  · exact ⟨_, cap, rfl, hm, .inr ⟨H, o, rfl, hH, fun i hi => by rw [← e i hi]; exact hc i hi⟩⟩
theorem OwnRX.atD {B E : Nat} {w : World} {v : Value} {zz : List (List Int)} (h : OwnRX B E w v zz) (hl : FitR zz) : RowsD w v zz := by
  refine ⟨h.at hl, ?_⟩
  have hlen := hl.1
  obtain ⟨L, h⟩ := h
  rcases h.form with ⟨rfl, rfl⟩ | ⟨g, cap, rfl, _, _, hg, hc⟩
  · exact ⟨none, 0, rfl, by simp, .inl ⟨rfl, rfl, rfl⟩⟩
  · refine ⟨_, cap, rfl, by omega, .inr ⟨g, 0, rfl, .inr hg, fun i hi => ?_⟩⟩
    have hi' : i < L.length := by rw [h.len]; exact hi
    refine ⟨L[i], by rw [Nat.zero_add]; exact hc i _ (List.getElem?_eq_getElem hi'), ?_⟩
    have e : zz.getD i [] = zz[i] := getD_row hi
    show IntsC w L[i] (zz.getD i [])
    rw [e]
    exact (h.own i _ _ (List.getElem?_eq_getElem hi') (List.getElem?_eq_getElem hi)).atC (hl.row _ (List.getElem_mem hi))
theorem OwnRI.atD {B : Nat} {w : World} {v : Value} {zz : List (List Int)} (h : OwnRI B w v zz) (hl : FitR zz) : RowsD w v zz := OwnRX.atD h hl
theorem RowsD.mat {q N : Nat} [NeZero q] {w : World} {v : Value} {zz : List (List Int)} (h : RowsD w v zz) (hv : Vecs q N zz) : RowsC w v zz.length (rowL N (mat q zz)) :=
  h.2.congr fun i hi => by rw [getD_row hi]; exact vec_row (hv _ (List.getElem_mem hi)) zz i (List.getElem?_eq_getElem hi)
theorem RowsD.of_rows {q N m : Nat} [NeZero q] {w : World} {v : Value} {A : Mt q} (h : RowsD w v (rowsOf m N A)) : RowsC w v m (rowL N A) := by
  have h2 := h.2
  rw [rowsOf_len] at h2
  exact h2.congr fun i hi => by rw [getD_row (by rw [rowsOf_len]; exact hi), rowsOf_at]
/-- What SpaceOf answers. -/
def SpRes (p n : Int) (zz : List (List Int)) (P N : Int) (Z : List (List Int)) (k : Int) : Prop :=
  (¬ (IsPr p ∧ 0 ≤ n ∧ n ≤ 32 ∧ Vecs p n zz) ∧ P = 0 ∧ N = 0 ∧ Z = [] ∧ k = 1) ∨
  (k = 0 ∧ P = p ∧ N = n ∧ ∃ (q M : Nat) (_ : NeZero q), p = q ∧ n = M ∧ IsPr (q : Int) ∧ M ≤ 32 ∧ Vecs q M zz ∧ Z = bas q M zz)
theorem spRes_has (p n : Int) (zz : List (List Int)) : ∃ P N Z k, SpRes p n zz P N Z k := by
  by_cases h : IsPr p ∧ 0 ≤ n ∧ n ≤ 32 ∧ Vecs p n zz
  · obtain ⟨hp, h0, h1, hv⟩ := h
    obtain ⟨q, rfl⟩ := Int.eq_ofNat_of_zero_le (show 0 ≤ p by have := hp.1; omega)
    obtain ⟨M, rfl⟩ := Int.eq_ofNat_of_zero_le h0
    have hz : NeZero q := ⟨by have := hp.1; omega⟩
    exact ⟨_, _, _, _, .inr ⟨rfl, rfl, rfl, q, M, hz, rfl, rfl, hp, by omega, hv, rfl⟩⟩
  · exact ⟨_, _, _, _, .inl ⟨h, rfl, rfl, rfl, rfl⟩⟩
theorem fit_rows {q : Nat} [NeZero q] {m N : Nat} (A : Mt q) (hm : m ≤ 1024) (hN : N ≤ 1024) : FitR (rowsOf m N A) := by
  refine ⟨by rw [rowsOf_len]; omega, ?_⟩
  rw [tot_rowsOf]
  exact Nat.le_trans (Nat.mul_le_mul hm hN) (by decide)
theorem fit_bas {q M : Nat} [NeZero q] (hf : FldP q) (hM : M ≤ 1024) (zz : List (List Int)) : FitR (bas q M zz) := fit_rows _ (Nat.le_trans (piv_le_cols hf _ _ _) hM) hM
theorem FitR.nil : FitR [] := ⟨Nat.zero_le _, Nat.zero_le _⟩
theorem SpRes.fit {p n P N k : Int} {zz Z : List (List Int)} (h : SpRes p n zz P N Z k) : FitR Z := by
  rcases h with ⟨_, _, _, rfl, _⟩ | ⟨_, _, _, q, M, _, rfl, rfl, hp, hM, _, rfl⟩
  · exact FitR.nil
  · exact fit_bas (fd_of hp) (by omega) _
set_option maxRecDepth 100000 in
set_option maxHeartbeats 3200000 in
theorem implSpO_a {p n : Int} {u : Value} {zz : List (List Int)} {w : World} (hu : RowsAt w u zz) (h : (prB p && inB n 0 32) = false) :
    Calls Try.prog 24 #[.int .i64 p, .int .i64 n, u] w fun e w' => RetVC 0 0 [] 1 w e w' := by
  have HK := Lib.hid h
  obtain ⟨a, c, rfl⟩ := hu.slice
  have Pr0 := PtV.new1 w 0 0 (.slice none 0 0) 32 (.cells #[.int .i64 p, .int .i64 n] 96)
  have Fr0 : Fz ((w.alloc (.cells #[.int .i64 0, .int .i64 0, .slice none 0 0] 32)).alloc (.cells #[.int .i64 p, .int .i64 n] 96)) w.heap.size := (Fz.new w _ _).on (by simp) ((Below.refl _ _).alloc (Nat.le_refl _) _)
  clear hu h
  go_enter Try.func24, Try.ntmps24
  go_wp2_with fail
  refine (shapeOk_is _ HK.out).mono ?_
  rintro e w1 ⟨rfl, hb⟩
  have HB := Lib.hid (up2 hb)
  have HP := Lib.hid (Pr0.on hb)
  have HF : Hid (Fz w1 w.heap.size) := Fr0.on (by simp; omega) hb
  obtain ⟨lR, r0, r1, r2⟩ := HP.out
  have f0 := HF.out 0
  have f1 := HF.out 1
  have f2 := HF.out 2
  have HQ3 := Lib.hid (HP.out.set3 0 0 (.slice none 0 0))
  clear hb Pr0 Fr0
  go_wp2_with fail
  obtain ⟨_, q0, q1, q2⟩ := HQ3.out
  refine bodyPost_ret (v := .tuple #[.agg #[.int .i64 0, .int .i64 0, .slice none 0 0], .int .i64 1]) (by simp [results, Try.results24, go_sem, q0, q1, q2]) rfl ⟨_, rfl, OwnRI.nul _ _, ?_⟩
  repeat (refine Below.setC ?_ (by omega) _)
  exact HB.out
set_option maxRecDepth 100000 in
set_option maxHeartbeats 3200000 in
theorem implSpO_b {p n : Int} {u : Value} {zz : List (List Int)} {w : World} (hu : RowsAt w u zz) (hp : IsPr p) (hn0 : 0 ≤ n) (hn : n ≤ 32) (h : vsB p n zz = false) :
    Calls Try.prog 24 #[.int .i64 p, .int .i64 n, u] w fun e w' => RetVC 0 0 [] 1 w e w' := by
  have HU := Lib.hid hu
  have HP := Lib.hid hp
  have HK : Hid ((prB p && inB n 0 32) = true) := by show _ = _; rw [prB_yes hp, inB_yes hn0 hn]; rfl
  have HV := Lib.hid h
  obtain ⟨a, c, rfl⟩ := hu.slice
  have Pr0 := PtV.new1 w 0 0 (.slice none 0 0) 32 (.cells #[.int .i64 p, .int .i64 n] 96)
  have Fr0 : Fz ((w.alloc (.cells #[.int .i64 0, .int .i64 0, .slice none 0 0] 32)).alloc (.cells #[.int .i64 p, .int .i64 n] 96)) w.heap.size := (Fz.new w _ _).on (by simp) ((Below.refl _ _).alloc (Nat.le_refl _) _)
  have c0 : ((w.alloc (.cells #[.int .i64 0, .int .i64 0, .slice none 0 0] 32)).alloc (.cells #[.int .i64 p, .int .i64 n] 96)).cell? ⟨w.heap.size + 1, 0, none⟩ = some (.int .i64 p) := by
    have h := cell_new0 (w.alloc (.cells #[.int .i64 0, .int .i64 0, .slice none 0 0] 32)) (.int .i64 p) (.int .i64 n) 96
    rw [World.size_alloc] at h
    exact h
  have c1 : ((w.alloc (.cells #[.int .i64 0, .int .i64 0, .slice none 0 0] 32)).alloc (.cells #[.int .i64 p, .int .i64 n] 96)).cell? ⟨w.heap.size + 1, 1, none⟩ = some (.int .i64 n) := by
    have h := cell_new1 (w.alloc (.cells #[.int .i64 0, .int .i64 0, .slice none 0 0] 32)) (.int .i64 p) (.int .i64 n) 96
    rw [World.size_alloc] at h
    exact h
  have C0 := Lib.hid c0
  have C1 := Lib.hid c1
  clear hu h hp c0 c1
  go_enter Try.func24, Try.ntmps24
  go_wp2_with fail
  refine (shapeOk_is _ HK.out).mono ?_
  rintro e w1 ⟨rfl, hb⟩
  have HB := Lib.hid (up2 hb)
  have HPt := Lib.hid (Pr0.on hb)
  have HF : Hid (Fz w1 w.heap.size) := Fr0.on (by simp; omega) hb
  have hs1 := hb.size
  simp at hs1
  have d0 := (hb.cell (p := ⟨w.heap.size + 1, 0, none⟩) (by simp)).trans C0.out
  have d1 := (hb.cell (p := ⟨w.heap.size + 1, 1, none⟩) (by simp)).trans C1.out
  clear hb Pr0 Fr0
  go_wp2_with fail
  refine (fits_is (HU.out.on HB.out) HP.out hn0 hn HV.out).mono ?_
  rintro e w2 ⟨rfl, hb⟩
  have HB := Lib.hid (HB.out.trans (hb.mono HB.out.size))
  have HPt := Lib.hid (HPt.out.on hb)
  have HF : Hid (Fz w2 w.heap.size) := HF.out.on (by omega) hb
  obtain ⟨lR, r0, r1, r2⟩ := HPt.out
  have f0 := HF.out 0
  have f1 := HF.out 1
  have f2 := HF.out 2
  have HQ3 := Lib.hid (HPt.out.set3 0 0 (.slice none 0 0))
  clear hb d0 d1
  go_wp2_with fail
  obtain ⟨_, q0, q1, q2⟩ := HQ3.out
  refine bodyPost_ret (v := .tuple #[.agg #[.int .i64 0, .int .i64 0, .slice none 0 0], .int .i64 1]) (by simp [results, Try.results24, go_sem, q0, q1, q2]) rfl ⟨_, rfl, OwnRI.nul _ _, ?_⟩
  repeat (refine Below.setC ?_ (by omega) _)
  exact HB.out
set_option maxRecDepth 100000 in
set_option maxHeartbeats 3200000 in
theorem implSpO_ok {q M : Nat} [NeZero q] {u : Value} {zz : List (List Int)} {w : World} (hu : RowsD w u zz) (hp : IsPr (q : Int)) (hM : M ≤ 32) (hv : Vecs q M zz) (hz : zz.length ≤ 1048576) :
    Calls Try.prog 24 #[.int .i64 (q : Int), .int .i64 (M : Int), u] w fun e w' => RetVC q M (bas q M zz) 0 w e w' := by
  have HU := Lib.hid hu
  have HRC := Lib.hid (hu.mat hv)
  have HP := Lib.hid hp
  have HK : Hid ((prB (q : Int) && inB (M : Int) 0 32) = true) := by show _ = _; rw [prB_yes hp, inB_yes (by omega) (by omega)]; rfl
  have HV := Lib.hid (vsB_yes hv)
  obtain ⟨a, c, rfl⟩ := hu.1.slice
  have hM0 : (0 : Int) ≤ M := by omega
  have hM1 : (M : Int) ≤ 32 := by omega
  have Pr0 := PtV.new1 w 0 0 (.slice none 0 0) 32 (.cells #[.int .i64 (q : Int), .int .i64 (M : Int)] 96)
  have Fr0 : Fz ((w.alloc (.cells #[.int .i64 0, .int .i64 0, .slice none 0 0] 32)).alloc (.cells #[.int .i64 (q : Int), .int .i64 (M : Int)] 96)) w.heap.size := (Fz.new w _ _).on (by simp) ((Below.refl _ _).alloc (Nat.le_refl _) _)
  have c0 : ((w.alloc (.cells #[.int .i64 0, .int .i64 0, .slice none 0 0] 32)).alloc (.cells #[.int .i64 (q : Int), .int .i64 (M : Int)] 96)).cell? ⟨w.heap.size + 1, 0, none⟩ = some (.int .i64 (q : Int)) := by
    have h := cell_new0 (w.alloc (.cells #[.int .i64 0, .int .i64 0, .slice none 0 0] 32)) (.int .i64 (q : Int)) (.int .i64 (M : Int)) 96
    rw [World.size_alloc] at h
    exact h
  have c1 : ((w.alloc (.cells #[.int .i64 0, .int .i64 0, .slice none 0 0] 32)).alloc (.cells #[.int .i64 (q : Int), .int .i64 (M : Int)] 96)).cell? ⟨w.heap.size + 1, 1, none⟩ = some (.int .i64 (M : Int)) := by
    have h := cell_new1 (w.alloc (.cells #[.int .i64 0, .int .i64 0, .slice none 0 0] 32)) (.int .i64 (q : Int)) (.int .i64 (M : Int)) 96
    rw [World.size_alloc] at h
    exact h
  have C0 := Lib.hid c0
  have C1 := Lib.hid c1
  clear hu hp hv c0 c1
  go_enter Try.func24, Try.ntmps24
  go_wp2_with fail
  refine (shapeOk_is _ HK.out).mono ?_
  rintro e w1 ⟨rfl, hb⟩
  have HB := Lib.hid (up2 hb)
  have HPt := Lib.hid (Pr0.on hb)
  have HF : Hid (Fz w1 w.heap.size) := Fr0.on (by simp; omega) hb
  have hs1 := hb.size
  simp at hs1
  have D0 := Lib.hid ((hb.cell (p := ⟨w.heap.size + 1, 0, none⟩) (by simp)).trans C0.out)
  have D1 := Lib.hid ((hb.cell (p := ⟨w.heap.size + 1, 1, none⟩) (by simp)).trans C1.out)
  have d0 := D0.out
  have d1 := D1.out
  clear hb Pr0 Fr0
  go_wp2_with fail
  refine (fits_is (HU.out.1.on HB.out) HP.out hM0 hM1 HV.out).mono ?_
  rintro e w2 ⟨rfl, hb⟩
  have HPt := Lib.hid (HPt.out.on hb)
  have HF : Hid (Fz w2 w.heap.size) := HF.out.on (by omega) hb
  have HB := Lib.hid (HB.out.trans (hb.mono HB.out.size))
  have hs2 := hb.size
  clear d0 d1
  have d0 := (hb.cell (p := ⟨w.heap.size + 1, 0, none⟩) (show w.heap.size + 1 < w1.heap.size by omega)).trans D0.out
  have d1 := (hb.cell (p := ⟨w.heap.size + 1, 1, none⟩) (show w.heap.size + 1 < w1.heap.size by omega)).trans D1.out
  clear hb
  go_wp2_with fail
  refine (span_any (HRC.out.on HB.out) HP.out hz (by omega)).mono ?_
  rintro e w3 ⟨v, rfl, ho, hb⟩
  have HO := Lib.hid ho
  obtain ⟨va, vc, rfl⟩ := ho.slice
  have HPt := Lib.hid (HPt.out.on hb)
  have HF : Hid (Fz w3 w.heap.size) := HF.out.on (by omega) hb
  have HB := Lib.hid (HB.out.trans (hb.mono HB.out.size))
  obtain ⟨lR, r0, r1, r2⟩ := HPt.out
  have f0 := HF.out 0
  have f1 := HF.out 1
  have f2 := HF.out 2
  have HQ3 := Lib.hid (HPt.out.set3 q M (.slice va (basOf zz.length M (mat q zz)).length vc))
  clear hb d0 d1 ho
  go_wp2_with fail
  obtain ⟨_, q0, q1, q2⟩ := HQ3.out
  refine bodyPost_ret (v := .tuple #[.agg #[.int .i64 q, .int .i64 M, .slice va (basOf zz.length M (mat q zz)).length vc], .int .i64 0]) (by simp [results, Try.results24, go_sem, q0, q1, q2]) rfl ⟨_, rfl, ?_, ?_⟩
  · refine OwnRI.mono (B := w2.heap.size) ?_ (by omega)
    repeat (refine OwnRI.setOut ?_ (by omega) _)
    exact HO.out
  · repeat (refine Below.setC ?_ (by omega) _)
    exact HB.out
theorem implSpO_any {p n P N k : Int} {u : Value} {zz Z : List (List Int)} {w : World} (hu : RowsD w u zz) (h : SpRes p n zz P N Z k) :
    Calls Try.prog 24 #[.int .i64 p, .int .i64 n, u] w fun e w' => RetVC P N Z k w e w' := by
  rcases h with ⟨h, rfl, rfl, rfl, rfl⟩ | ⟨rfl, rfl, rfl, q, M, _, rfl, rfl, hp, hM, hv, rfl⟩
  · by_cases hs : (prB p && inB n 0 32) = true
    · have hp : IsPr p := by
        refine Classical.byContradiction fun hp => ?_
        rw [prB_no hp] at hs; simp at hs
      have hn : inB n 0 32 = true := by
        cases hh : inB n 0 32 with
        | true => rfl
        | false => rw [hh] at hs; simp at hs
      obtain ⟨h0, h1⟩ := inB_and hn
      exact implSpO_b hu.1 hp h0 h1 (vsB_no fun hv => h ⟨hp, h0, h1, hv⟩)
    · exact implSpO_a hu.1 (by simpa using hs)
  · have hl : zz.length ≤ 1048576 := by obtain ⟨_, _, _, hl, _⟩ := hu.1; exact hl
    exact implSpO_ok hu hp hM hv hl
end Go.Proofs.Ytpimnngomodnhaa
