/-
  ClosureOf of the model, in whole; both closures.
-/
import Derived.Test.YtljmfpifhbfdcaaDoorCyG
namespace Go.Proofs.YtljmfpifhbfdcaaDoor
open Go.RowKit
set_option linter.unusedVariables false
set_option linter.unusedSimpArgs false

theorem tot_four : ∀ {zz : List (List Int)}, (∀ z ∈ zz, z.length ≤ 4) → tot zz ≤ 4 * zz.length
  | [], _ => by simp [tot]
  | z :: zz, h => by
    have h1 := h z (by simp)
    have h2 := tot_four (zz := zz) fun y hy => h y (by simp [hy])
    simp only [tot, List.length_cons]; omega
theorem CloIs.fit {zz yy : List (List Int)} {c : Int} (h : CloIs zz yy c) : FitR yy := by
  rcases h with ⟨_, rfl, _⟩ | ⟨_, _, rfl, _⟩ | ⟨hv, _, hl, rfl, _⟩
  · exact ⟨by simp, by simp [tot]⟩
  · exact ⟨by simp, by simp [tot]⟩
  · have h4 := tot_four (zz := cloL zz) fun z hz => by
      obtain ⟨s, hs, hf⟩ := (cloL_mem (simsB_iff.1 hv)).1 hz
      exact ((simsB_iff.1 hv s hs).face hf).le
    exact ⟨by omega, by omega⟩
set_option maxRecDepth 100000 in
set_option maxHeartbeats 6400000 in
theorem specClo_is {v : Value} {zz yy : List (List Int)} {cc : Int} {w : World} (hv : RowsQ w v zz) (hC : CloIs zz yy cc) :
    Calls Tryd.prog 20 #[v] w fun e w' => RetClo yy cc w e w' := by
  have HQ := Lib.hid hv
  obtain ⟨a, c, rfl, hl, k1⟩ := hv
  have K1 := Lib.hid k1
  have HC := Lib.hid hC
  clear k1 hC
  go_enter Tryd.func20, Tryd.ntmps20
  go_wp2_with fail
  have hR0 := PtC.new w (.slice none 0 0) 27
  have hZ0 : (w.alloc (.cells #[.slice none 0 0] 27)).frozen? ⟨w.heap.size, 0, none⟩ = false := World.frozen?_alloc_new w _ _ _
  have hB0 : Below w.heap.size w (w.alloc (.cells #[.slice none 0 0] 27)) := (Below.refl _ w).alloc (Nat.le_refl _) _
  generalize hW : World.alloc w (.cells #[.slice none 0 0] 27) = W0 at hR0 hZ0 hB0 ⊢
  have HR0 := Lib.hid hR0
  have HZ0 := Lib.hid hZ0
  have HB0 := Lib.hid hB0
  clear hW hR0 hZ0 hB0
  go_loopw [4] (fun si wr => ∃ (k : Nat), k ≤ zz.length ∧ si = .int .i64 (k : Int) ∧ Hid (∀ j (h : j < zz.length), j < k → simB zz[j] = true) ∧ Hid (PtC wr w.heap.size (.slice none 0 0)) ∧ Hid (wr.frozen? ⟨w.heap.size, 0, none⟩ = false) ∧ Hid (Below w.heap.size w wr)) (fun i _ => zz.length - (intOf i).toNat)
  case atStart => exact ⟨0, Nat.zero_le _, rfl, fun j _ hj => absurd hj (Nat.not_lt_zero j), HR0, HZ0, HB0⟩
  case round =>
    clear HR0 HZ0 HB0
    obtain ⟨k, hk, rfl, HS, HR, HZ, HB⟩ := hrel
    have hz := HZ.out
    obtain ⟨hrl, hr⟩ := HR.out
    by_cases hlt : k < zz.length
    · obtain ⟨b, o, u, rfl, hb, c1', i1'⟩ := K1.out k hlt
      have c1 : wr.cell? ⟨b, o + k, none⟩ = some u := (HB.out.cell (p := ⟨b, o + k, none⟩) hb).trans c1'
      have I1 := Lib.hid (i1'.on HB.out).1
      clear c1' i1'
      have i0 : 0 ≤ (k : Int) := by omega
      have i1 : (k : Int) < (zz.length : Int) := by omega
      obtain ⟨s, hs⟩ : ∃ s, zz[k] = s := ⟨_, rfl⟩
      rw [hs] at I1
      have HSK := Lib.hid hs
      clear hs
      by_cases hv : simB s = true
      · go_wp2_with (go_at_call 52; refine (l05Sim_is I1.out hv).mono ?_; rintro e w' ⟨rfl, n, rfl⟩)
        go_roundw
        case rel =>
          refine ⟨k + 1, by omega, by go_num, ?_, HR.out.drewN n, HZ.out, below_drewX HB.out n⟩
          intro j hj hjk
          by_cases e : j = k
          · subst e; rw [HSK.out]; exact hv
          · exact HS.out j hj (by omega)
        case measure => simp [intOf]; omega
      · have hv' : simB s = false := by simpa using hv
        go_wp2_with (go_at_call 52; refine (l05Sim_is I1.out hv').mono ?_; rintro e w' ⟨rfl, n, rfl⟩)
        have hc : yy = [] ∧ cc = 1 := by
          have hsv : simsB zz = false := by
            cases g : simsB zz with
            | false => rfl
            | true => exact absurd (sim_iff.2 (simsB_iff.1 g s (by rw [← HSK.out]; exact List.getElem_mem hlt))) hv
          rcases HC.out with ⟨_, r⟩ | ⟨h, _⟩ | ⟨h, _⟩
          · exact r
          · rw [hsv] at h; cases h
          · rw [hsv] at h; cases h
        obtain ⟨rfl, rfl⟩ := hc
        refine bodyPost_ret (v := .tuple #[.agg #[.slice none 0 0], .int .i64 1]) (by simp [results, Tryd.results20, go_sem, hr]) rfl ⟨_, rfl, OwnRI.nul _ _, ?_⟩
        exact (below_drewX HB.out n).setCell (p := ⟨w.heap.size, 0, none⟩) (Nat.le_refl _) _
    · obtain rfl : k = zz.length := by omega
      have hv : simsB zz = true := by unfold simsB; rw [List.all_eq_true]; intro s hs; obtain ⟨j, hj, rfl⟩ := List.getElem_of_mem hs; exact HS.out j hj hj
      have HV := Lib.hid (simsB_iff.1 hv)
      have HVS := Lib.hid hv
      clear hlt hv
      by_cases h48 : 48 < zz.length
      · have h1 : (48 : Int) < (zz.length : Int) := by omega
        have hc : yy = [] ∧ cc = 5 := CloIs.one HC.out (.inr (.inl ⟨HVS.out, .inl h48, rfl, rfl⟩))
        obtain ⟨rfl, rfl⟩ := hc
        go_wp2_with fail
        refine bodyPost_ret (v := .tuple #[.agg #[.slice none 0 0], .int .i64 5]) (by simp [results, Tryd.results20, go_sem, hr]) rfl ⟨_, rfl, OwnRI.nul _ _, ?_⟩
        exact HB.out.setCell (p := ⟨w.heap.size, 0, none⟩) (Nat.le_refl _) _
      · have h1 : ¬ (48 : Int) < (zz.length : Int) := by omega
        have hcl := l05Clo_is (HQ.out.on HB.out) HV.out
        clear hk
        go_wp2_with fail
        refine hcl.mono ?_
        rintro e w4 ⟨u, rfl, ho4, hb4⟩
        obtain ⟨ua, uc, rfl⟩ := ho4.slice
        have HO4 := Lib.hid ho4
        have hb40 : Below w.heap.size w w4 := HB.out.trans (hb4.mono HB.out.size)
        have hA := al1 hb40 (.cells #[.slice ua (cloL zz).length uc] 27)
        have hb5 : Below wr.heap.size wr (w4.alloc (.cells #[.slice ua (cloL zz).length uc] 27)) := hb4.alloc hb4.size _
        have r5 := (HR.out.on hb5).2
        have z5 := (hb5.frozen (p := ⟨w.heap.size, 0, none⟩) HR.out.1).trans HZ.out
        have p5 := (PtC.new w4 (.slice ua (cloL zz).length uc) 27).2
        have HA := Lib.hid hA
        have HB5 := Lib.hid hb5
        clear hcl ho4 hA hb5 hr hz
        by_cases hn : 48 < (cloL zz).length
        · have h2 : (48 : Int) < ((cloL zz).length : Int) := by omega
          have hc : yy = [] ∧ cc = 5 := CloIs.one HC.out (.inr (.inl ⟨HVS.out, .inr hn, rfl, rfl⟩))
          obtain ⟨rfl, rfl⟩ := hc
          go_wp2_with fail
          refine bodyPost_ret (v := .tuple #[.agg #[.slice none 0 0], .int .i64 5]) (by simp [results, Tryd.results20, go_sem, r5]) rfl ⟨_, rfl, OwnRI.nul _ _, ?_⟩
          exact HA.out.setCell (p := ⟨w.heap.size, 0, none⟩) (Nat.le_refl _) _
        · have h2 : ¬ (48 : Int) < ((cloL zz).length : Int) := by omega
          have hc : yy = cloL zz ∧ cc = 0 := CloIs.one HC.out (.inr (.inr ⟨HVS.out, by omega, by omega, rfl, rfl⟩))
          obtain ⟨rfl, rfl⟩ := hc
          go_wp2_with fail
          refine bodyPost_ret (v := .tuple #[.agg #[.slice ua (cloL zz).length uc], .int .i64 0]) (by simp [results, Tryd.results20, go_sem, r5]) rfl ⟨_, rfl, ?_, ?_⟩
          · exact OwnRI.mono (OwnRI.setOut (OwnRI.alloc HO4.out _) (by have := HR.out.1; omega) _) HB.out.size
          · exact HA.out.setCell (p := ⟨w.heap.size, 0, none⟩) (Nat.le_refl _) _
end Go.Proofs.YtljmfpifhbfdcaaDoor
