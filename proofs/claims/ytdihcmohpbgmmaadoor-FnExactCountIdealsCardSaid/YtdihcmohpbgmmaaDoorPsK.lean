/-
  PosetOf of the model; IsBelow of the model.
-/
import Derived.Test.YtdihcmohpbgmmaaDoorPsJ
namespace Go.Proofs.YtdihcmohpbgmmaaDoor
open Go.RowKit
set_option linter.unusedVariables false
set_option linter.unusedSimpArgs false

set_option maxRecDepth 100000 in
set_option maxHeartbeats 3200000 in
theorem specPof_ok {N : Nat} {v : Value} {zz : List (List Int)} {m : Int} {yy : List (List Int)} {k : Int} {w : World} (hv : RowsAt w v zz) (hN : N ≤ 12) (hp : PairsIn (N : Int) zz)
    (h : (Circ (esP zz) N ∧ m = 0 ∧ yy = [] ∧ k = 6) ∨ (¬ Circ (esP zz) N ∧ 30 < (covL (esP zz) N).length ∧ m = 0 ∧ yy = [] ∧ k = 5) ∨ (¬ Circ (esP zz) N ∧ (covL (esP zz) N).length ≤ 30 ∧ m = (N : Int) ∧ yy = covL (esP zz) N ∧ k = 0)) :
    Calls Tryd.prog 21 #[.int .i64 (N : Int), v] w fun e w' => RetPI m yy k w e w' := by
  have HV := Lib.hid hv
  have HH := Lib.hid h
  have HPI := Lib.hid hp
  obtain ⟨a, c, rfl⟩ := hv.slice
  have P0 := PtP.new w 0 (.slice none 0 0) 27
  have PX := Lib.hid P0
  have F0 : Hid (Fz (w.alloc (.cells #[.int .i64 0, .slice none 0 0] 27)) w.heap.size) := Fz.new w _ _
  obtain ⟨ZC, TC, hcv⟩ := covIs_has (esP zz) N
  have HCV := Lib.hid hcv
  have h9 : inB (N : Int) 0 12 = true := inB_yes (by omega) (by omega)
  have AL : Hid (Below w.heap.size w (w.alloc (.cells #[.int .i64 0, .slice none 0 0] 27))) := al1 (Below.refl _ _) _
  clear h hv hp hcv P0
  go_enter Tryd.func21, Tryd.ntmps21
  go_wp2_with (first | (go_at_call 55; refine (l00In_is _ h9).mono ?_; rintro e w3 ⟨rfl, rfl⟩) | (go_at_call 56; refine (l06Pairs_is (T := true) hN (HV.out.on AL.out) ⟨fun _ => rfl, fun _ => HPI.out⟩).mono ?_; rintro e w3 ⟨rfl, rfl⟩))
  refine (l06Table_any hN (HV.out.on AL.out) HPI.out).mono ?_
  rintro e wa ⟨vt, rs, rfl, ht, hba⟩
  obtain ⟨gt, hgt⟩ := ht.toR
  have HGT := Lib.hid hgt
  obtain ⟨ta, tc, rfl⟩ := ht.slice
  have HBA := Lib.hid hba
  clear ht hgt hba
  go_wp2_with fail
  refine (l06Covers_any hN HPI.out.lt (table_rch HPI.out) HGT.out HCV.out).mono ?_
  rintro e wc ⟨vo, rfl, hoc, hbc'⟩
  have hbc := HBA.out.trans (hbc'.mono HBA.out.size)
  have PY := Lib.hid (PX.out.on hbc)
  have FY : Hid (Fz wc w.heap.size) := F0.out.on PX.out.1 hbc
  have HO := Lib.hid hoc
  have hsa : w.heap.size < wa.heap.size := by have h := HBA.out.size; rw [World.size_alloc] at h; omega
  have HB := Lib.hid (AL.out.trans (hbc.mono AL.out.size))
  obtain ⟨oa, ocp, rfl⟩ := hoc.slice
  obtain ⟨z, hz⟩ : ∃ z, ZC.length = z := ⟨_, rfl⟩
  have HZL := Lib.hid hz
  simp only [hz] at HO ⊢
  clear hoc hbc hbc' hz HBA
  obtain ⟨l0, q0, q1⟩ := PY.out
  obtain ⟨f0, f1, _, _⟩ := FY.out.all
  cases TC with
  | false =>
    obtain ⟨rfl, rfl, rfl⟩ : m = 0 ∧ yy = [] ∧ k = 6 := by
      rcases HCV.out with ⟨hc, _⟩ | ⟨_, _, h⟩
      · rcases HH.out with ⟨_, h⟩ | ⟨h, _⟩ | ⟨h, _⟩
        · exact h
        · exact absurd hc h
        · exact absurd hc h
      · simp at h
    have HQ := Lib.hid (PY.out.set2 0 (.slice none 0 0))
    go_wp2_with fail
    obtain ⟨_, r0, r1⟩ := HQ.out
    refine bodyPost_ret (v := .tuple #[.agg #[.int .i64 0, .slice none 0 0], .int .i64 6]) (by simp [results, Tryd.results21, go_sem, r0, r1]) rfl ⟨_, rfl, OwnRI.nul _ _, ?_⟩
    repeat (refine Below.setC ?_ (by omega) _)
    exact HB.out
  | true =>
    obtain ⟨hnc, rfl⟩ : ¬ Circ (esP zz) N ∧ ZC = covL (esP zz) N := by
      rcases HCV.out with ⟨_, _, h⟩ | ⟨h, h', _⟩
      · simp at h
      · exact ⟨h, h'⟩
    by_cases h30 : 30 < z
    · have h8 : (z : Int) > 30 := by omega
      obtain ⟨rfl, rfl, rfl⟩ : m = 0 ∧ yy = [] ∧ k = 5 := by
        rcases HH.out with ⟨h, _⟩ | ⟨_, _, h⟩ | ⟨_, h, _⟩
        · exact absurd h hnc
        · exact h
        · have := HZL.out; omega
      have HQ := Lib.hid (PY.out.set2 0 (.slice none 0 0))
      go_wp2_with fail
      obtain ⟨_, r0, r1⟩ := HQ.out
      refine bodyPost_ret (v := .tuple #[.agg #[.int .i64 0, .slice none 0 0], .int .i64 5]) (by simp [results, Tryd.results21, go_sem, r0, r1]) rfl ⟨_, rfl, OwnRI.nul _ _, ?_⟩
      repeat (refine Below.setC ?_ (by omega) _)
      exact HB.out
    · have h8 : ¬ (z : Int) > 30 := by omega
      obtain ⟨rfl, rfl, rfl⟩ : m = (N : Int) ∧ yy = covL (esP zz) N ∧ k = 0 := by
        rcases HH.out with ⟨h, _⟩ | ⟨_, h, _⟩ | ⟨_, _, h⟩
        · exact absurd h hnc
        · have := HZL.out; omega
        · exact h
      have HQ := Lib.hid (PY.out.set2 (N : Int) (.slice oa z ocp))
      go_wp2_with fail
      obtain ⟨_, r0, r1⟩ := HQ.out
      refine bodyPost_ret (v := .tuple #[.agg #[.int .i64 (N : Int), .slice oa z ocp], .int .i64 0]) (by simp [results, Tryd.results21, go_sem, r0, r1]) rfl ⟨_, rfl, ?_, ?_⟩
      · refine OwnRI.mono (B := wa.heap.size) ?_ (by omega)
        repeat (refine OwnRI.setOut ?_ (by omega) _)
        exact HO.out
      · repeat (refine Below.setC ?_ (by omega) _)
        exact HB.out
theorem specPof_is {n : Int} {v : Value} {zz : List (List Int)} {m : Int} {yy : List (List Int)} {k : Int} {w : World} (hv : RowsAt w v zz) (h : PofIs n zz m yy k) :
    Calls Tryd.prog 21 #[.int .i64 n, v] w fun e w' => RetPI m yy k w e w' := by
  rcases h with ⟨h, rfl, rfl, rfl⟩ | ⟨N, rfl, hN, hp, h⟩
  · exact specPof_b hv h
  · exact specPof_ok hv hN hp h
end Go.Proofs.YtdihcmohpbgmmaaDoor
