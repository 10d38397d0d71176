/-
  PosetOf and ValidPoset of the program.
-/
import Derived.Test.YtdihcmohpbgmmaaDoorPsM
import Derived.Test.YtdihcmohpbgmmaaDoorPsB
namespace Go.Proofs.YtdihcmohpbgmmaaDoor
open Go.RowKit
set_option linter.unusedVariables false
set_option linter.unusedSimpArgs false

/-- A variable that holds an order. -/
theorem ord_there (w : World) : (w.alloc (.cells #[.int .i64 0, .int .u16 0, .int .u16 0, .int .u16 0, .int .u16 0, .int .u16 0, .int .u16 0, .int .u16 0, .int .u16 0, .int .u16 0, .int .u16 0, .int .u16 0, .int .u16 0, .int .u16 0, .int .u16 0, .int .u16 0, .int .u16 0, .int .u16 0, .int .u16 0, .int .u16 0, .int .u16 0, .int .u16 0, .int .u16 0, .int .u16 0, .int .u16 0] 64)).there w.heap.size 0 25 := by
  have h := (PtO.new w 0 (fun _ => 0) (fun _ => 0) 64).there (Fz.new w _ 64)
  exact h
theorem ord_var (w : World) (N : Nat) (lo up : Nat → Nat) : PtO ((w.alloc (.cells #[.int .i64 0, .int .u16 0, .int .u16 0, .int .u16 0, .int .u16 0, .int .u16 0, .int .u16 0, .int .u16 0, .int .u16 0, .int .u16 0, .int .u16 0, .int .u16 0, .int .u16 0, .int .u16 0, .int .u16 0, .int .u16 0, .int .u16 0, .int .u16 0, .int .u16 0, .int .u16 0, .int .u16 0, .int .u16 0, .int .u16 0, .int .u16 0, .int .u16 0] 64)).setCells w.heap.size 0 (ordC N lo up)) w.heap.size N lo up ∧ Below w.heap.size w ((w.alloc (.cells #[.int .i64 0, .int .u16 0, .int .u16 0, .int .u16 0, .int .u16 0, .int .u16 0, .int .u16 0, .int .u16 0, .int .u16 0, .int .u16 0, .int .u16 0, .int .u16 0, .int .u16 0, .int .u16 0, .int .u16 0, .int .u16 0, .int .u16 0, .int .u16 0, .int .u16 0, .int .u16 0, .int .u16 0, .int .u16 0, .int .u16 0, .int .u16 0, .int .u16 0] 64)).setCells w.heap.size 0 (ordC N lo up)) := by
  have hb : Below w.heap.size w ((w.alloc (.cells #[.int .i64 0, .int .u16 0, .int .u16 0, .int .u16 0, .int .u16 0, .int .u16 0, .int .u16 0, .int .u16 0, .int .u16 0, .int .u16 0, .int .u16 0, .int .u16 0, .int .u16 0, .int .u16 0, .int .u16 0, .int .u16 0, .int .u16 0, .int .u16 0, .int .u16 0, .int .u16 0, .int .u16 0, .int .u16 0, .int .u16 0, .int .u16 0, .int .u16 0] 64)).setCells w.heap.size 0 (ordC N lo up)) := below_setCells _ _ _ _ (Nat.le_refl _) (al1 (Below.refl _ _) _)
  have h1 : Below (w.heap.size + 1) (w.alloc (.cells #[.int .i64 0, .int .u16 0, .int .u16 0, .int .u16 0, .int .u16 0, .int .u16 0, .int .u16 0, .int .u16 0, .int .u16 0, .int .u16 0, .int .u16 0, .int .u16 0, .int .u16 0, .int .u16 0, .int .u16 0, .int .u16 0, .int .u16 0, .int .u16 0, .int .u16 0, .int .u16 0, .int .u16 0, .int .u16 0, .int .u16 0, .int .u16 0, .int .u16 0] 64)) ((w.alloc (.cells #[.int .i64 0, .int .u16 0, .int .u16 0, .int .u16 0, .int .u16 0, .int .u16 0, .int .u16 0, .int .u16 0, .int .u16 0, .int .u16 0, .int .u16 0, .int .u16 0, .int .u16 0, .int .u16 0, .int .u16 0, .int .u16 0, .int .u16 0, .int .u16 0, .int .u16 0, .int .u16 0, .int .u16 0, .int .u16 0, .int .u16 0, .int .u16 0, .int .u16 0] 64)).setCells w.heap.size 0 (ordC N lo up)) ∨ True := .inr trivial
  refine ⟨PtO.of ?_ (World.rangeAt_setCells_same _ _ _ _ (by rw [ordC_len]; exact ord_there w)), hb⟩
  have h2 := (below_setCells (B := 0) (a := w.alloc (.cells #[.int .i64 0, .int .u16 0, .int .u16 0, .int .u16 0, .int .u16 0, .int .u16 0, .int .u16 0, .int .u16 0, .int .u16 0, .int .u16 0, .int .u16 0, .int .u16 0, .int .u16 0, .int .u16 0, .int .u16 0, .int .u16 0, .int .u16 0, .int .u16 0, .int .u16 0, .int .u16 0, .int .u16 0, .int .u16 0, .int .u16 0, .int .u16 0, .int .u16 0] 64)) w.heap.size (ordC N lo up) 0 (w.alloc (.cells #[.int .i64 0, .int .u16 0, .int .u16 0, .int .u16 0, .int .u16 0, .int .u16 0, .int .u16 0, .int .u16 0, .int .u16 0, .int .u16 0, .int .u16 0, .int .u16 0, .int .u16 0, .int .u16 0, .int .u16 0, .int .u16 0, .int .u16 0, .int .u16 0, .int .u16 0, .int .u16 0, .int .u16 0, .int .u16 0, .int .u16 0, .int .u16 0, .int .u16 0] 64)) (Nat.zero_le _) (Below.refl _ _)).size
  rw [World.size_alloc] at h2
  omega
theorem ord_one (N : Nat) (lo up : Nat → Nat) : (ordC N lo up).toArray.all (·.oneCell') = true := all_oneCell_toArray (ordC_one N lo up)
theorem ord_size (N : Nat) (lo up : Nat → Nat) : (Tryd.prog.info? 64).map (·.size) = some (ordC N lo up).toArray.size := by rw [List.size_toArray, ordC_len]; exact infoO
theorem ord_there2 (w : World) (N : Nat) (lo up : Nat → Nat) : (w.alloc (.cells #[.int .i64 0, .int .u16 0, .int .u16 0, .int .u16 0, .int .u16 0, .int .u16 0, .int .u16 0, .int .u16 0, .int .u16 0, .int .u16 0, .int .u16 0, .int .u16 0, .int .u16 0, .int .u16 0, .int .u16 0, .int .u16 0, .int .u16 0, .int .u16 0, .int .u16 0, .int .u16 0, .int .u16 0, .int .u16 0, .int .u16 0, .int .u16 0, .int .u16 0] 64)).there w.heap.size 0 (ordC N lo up).toArray.size := by
  have : (ordC N lo up).toArray.size = 25 := by rw [List.size_toArray, ordC_len]
  rw [this]; exact ord_there w
theorem ord_size2 (N : Nat) (lo up : Nat → Nat) : (Tryd.prog.info? 64).map (·.size) = some (ordC N lo up).length := by rw [ordC_len]; exact infoO
set_option maxRecDepth 100000 in
set_option maxHeartbeats 3200000 in
theorem implPof_is {n : Int} {v : Value} {zz : List (List Int)} {m : Int} {yy : List (List Int)} {k : Int} {w : World} (hTz : Tz w) (hv : RowsAt w v zz) (h : PofIs n zz m yy k) :
    Calls Tryd.prog 23 #[.int .i64 n, v] w fun e w' => RetPI m yy k w e w' := by
  obtain ⟨a, c, rfl, hl, k1⟩ := hv.anyP
  have HV := Lib.hid hv
  have K1 := Lib.hid k1
  have TZ := Lib.hid hTz
  have HH := Lib.hid h
  have P0 : Hid (PtP (w.alloc (.cells #[.int .i64 0, .slice none 0 0] 27)) w.heap.size 0 (.slice none 0 0)) := PtP.new w 0 (.slice none 0 0) 27
  have F0 : Hid (Fz (w.alloc (.cells #[.int .i64 0, .slice none 0 0] 27)) w.heap.size) := Fz.new w _ _
  have B0 : Hid (Below w.heap.size w (w.alloc (.cells #[.int .i64 0, .slice none 0 0] 27))) := al1 (Below.refl _ _) _
  clear hv k1 h hTz
  by_cases hin : 0 ≤ n ∧ n ≤ 12
  · obtain ⟨N, rfl⟩ : ∃ N : Nat, n = (N : Int) := ⟨_, (Int.toNat_of_nonneg hin.1).symm⟩
    have hN : N ≤ 12 := by omega
    have h9 : inB (N : Int) 0 12 = true := inB_yes (by omega) (by omega)
    have HBD : Hid (¬ PairsIn (N : Int) zz → m = 0 ∧ yy = [] ∧ k = 2) := fun hp => by
      rcases HH.out with ⟨_, h⟩ | ⟨M, e, _, hp', _⟩
      · exact h
      · exact absurd hp' hp
    go_enter Tryd.func23, Tryd.ntmps23
    go_wp2_with (go_at_call 59; refine (within64_is _ h9).mono ?_; rintro e w3 ⟨rfl, rfl⟩)
    generalize (w.alloc (.cells #[.int .i64 0, .slice none 0 0] 27)) = W0 at P0 F0 B0 ⊢
    have hs0 : w.heap.size < W0.heap.size := P0.out.1
    go_loopw [16] (fun si wr => ∃ (j : Nat), j ≤ zz.length ∧ si = .int .i64 (j : Int) ∧ Hid (∀ i (h : i < zz.length), i < j → PairIn (N : Int) zz[i]) ∧ W0 = wr) (fun i _ => zz.length - (intOf i).toNat)
    case atStart => exact ⟨0, Nat.zero_le _, rfl, fun i _ hi => absurd hi (Nat.not_lt_zero i), rfl⟩
    case round =>
      obtain ⟨j, hj, rfl, HA, rfl⟩ := hrel
      have j0 : 0 ≤ (j : Int) := by omega
      by_cases hlt : j < zz.length
      · have j1 : (j : Int) < (zz.length : Int) := by omega
        obtain ⟨b, o, u, rfl, hb, c1', i1'⟩ := K1.out j hlt
        have c1 := (B0.out.cell (p := ⟨b, o + j, none⟩) hb).trans c1'
        have HLk := Lib.hid (List.getElem_mem hlt)
        obtain ⟨p, hp⟩ : ∃ p, zz[j] = p := ⟨_, rfl⟩
        rw [hp] at i1' HLk
        have HX := Lib.hid hp
        have HI := Lib.hid (i1'.on B0.out)
        obtain ⟨ua, uc, rfl⟩ := i1'.slice
        clear hp c1' i1'
        by_cases h2 : p.length = 2
        · have e2 : ((p.length : Int) != 2) = false := by simp [h2]
          by_cases hx : ∀ x ∈ p, 0 ≤ x ∧ x < (N : Int)
          · have HA' : Hid (∀ i (h : i < zz.length), i < j + 1 → PairIn (N : Int) zz[i]) := fun i hi hij => by
              by_cases e : i = j
              · subst e
                rw [HX.out]
                match p, h2, hx with
                | [x, y], _, hx =>
                  have h3 := hx x (by simp)
                  have h4 := hx y (by simp)
                  exact ⟨x, y, rfl, h3.1, h3.2, h4.1, h4.2⟩
              · exact HA.out i hi (by omega)
            have HT : Hid ((∀ x ∈ p, 0 ≤ x ∧ x < (N : Int)) ∧ True) := ⟨hx, trivial⟩
            clear h2 hx
            go_wp2_with (go_at_call 60; refine (areEl_is (T := true) hN HI.out ⟨fun _ => rfl, fun _ => HT.out.1⟩).mono ?_; rintro e w3 ⟨rfl, rfl⟩)
            go_roundw
            case rel => exact ⟨j + 1, by omega, by go_num, HA', by first | rfl | trivial⟩
            case measure => simp [intOf]; omega
          · obtain ⟨rfl, rfl, rfl⟩ := HBD.out fun hpi => hx (by
              obtain ⟨x, y, e, h3, h4, h5, h6⟩ := hpi p HLk.out
              intro z hz
              rw [e] at hz
              simp at hz
              rcases hz with rfl | rfl
              · exact ⟨h3, h4⟩
              · exact ⟨h5, h6⟩)
            have HT : Hid (¬ (∀ x ∈ p, 0 ≤ x ∧ x < (N : Int))) := hx
            obtain ⟨l0, q0, q1⟩ := P0.out
            obtain ⟨f0, f1, _, _⟩ := F0.out.all
            have HQ := Lib.hid (P0.out.set2 0 (.slice none 0 0))
            clear h2 hx
            go_wp2_with (go_at_call 60; refine (areEl_is (T := false) hN HI.out ⟨fun h => absurd h HT.out, fun h => by simp at h⟩).mono ?_; rintro e w3 ⟨rfl, rfl⟩)
            obtain ⟨_, r0, r1⟩ := HQ.out
            refine bodyPost_ret (v := .tuple #[.agg #[.int .i64 0, .slice none 0 0], .int .i64 2]) (by simp [results, Tryd.results23, go_sem, r0, r1]) rfl ⟨_, rfl, OwnRI.nul _ _, ?_⟩
            repeat (refine Below.setC ?_ (by omega) _)
            exact B0.out
        · obtain ⟨rfl, rfl, rfl⟩ := HBD.out fun hpi => h2 (by
            obtain ⟨x, y, e, _⟩ := hpi p HLk.out
            rw [e]; rfl)
          have e2 : ((p.length : Int) != 2) = true := by rw [bne_iff_ne]; omega
          obtain ⟨l0, q0, q1⟩ := P0.out
          obtain ⟨f0, f1, _, _⟩ := F0.out.all
          have HQ := Lib.hid (P0.out.set2 0 (.slice none 0 0))
          clear h2
          go_wp2_with fail
          obtain ⟨_, r0, r1⟩ := HQ.out
          refine bodyPost_ret (v := .tuple #[.agg #[.int .i64 0, .slice none 0 0], .int .i64 2]) (by simp [results, Tryd.results23, go_sem, r0, r1]) rfl ⟨_, rfl, OwnRI.nul _ _, ?_⟩
          repeat (refine Below.setC ?_ (by omega) _)
          exact B0.out
      · have hpi : PairsIn (N : Int) zz := fun p hp => by
          obtain ⟨i, hi, rfl⟩ := List.getElem_of_mem hp
          exact HA.out i hi (by omega)
        have HPI := Lib.hid hpi
        have HOK : Hid ((Circ (esP zz) N ∧ m = 0 ∧ yy = [] ∧ k = 6) ∨ (¬ Circ (esP zz) N ∧ 30 < (covL (esP zz) N).length ∧ m = 0 ∧ yy = [] ∧ k = 5) ∨ (¬ Circ (esP zz) N ∧ (covL (esP zz) N).length ≤ 30 ∧ m = (N : Int) ∧ yy = covL (esP zz) N ∧ k = 0)) := by
          rcases HH.out with ⟨h, _⟩ | ⟨M, e, _, _, h⟩
          · exact absurd ⟨hin, hpi⟩ h
          · obtain rfl : N = M := by omega
            exact h
        obtain ⟨kt, hkt⟩ : ∃ kt : Int, kt = (j : Int) := ⟨_, rfl⟩
        have hk10 : ¬ kt < (zz.length : Int) := by omega
        rw [← hkt]
        clear HA HBD j0 hlt hkt hj j hpi hin
        go_wp2_with fail
        refine (orderBy_any (TZ.out.on B0.out) hN (HV.out.on B0.out) HPI.out).mono ?_
        rintro e w3 ⟨lo, up, rfl, hod, hb3⟩
        have HOD := Lib.hid hod
        have HB3 := Lib.hid hb3
        obtain ⟨hov1, hov2⟩ := ord_var w3 N lo up
        have HO1 := Lib.hid hov1
        have HO2 := Lib.hid (hb3.trans (hov2.mono hb3.size))
        have HO3 := Lib.hid (ord_there2 w3 N lo up)
        have HS1 := Lib.hid (ord_size N lo up)
        have HS2 := Lib.hid (ord_one N lo up)
        clear hod hb3 hov1 hov2
        go_wp2_with (refine wpList_store_mid rfl 64 (.tmp 8) (.tmp 33) rfl w3.heap.size 0 (ordC N lo up).toArray rfl rfl ?_ HS1.out HS2.out ?_; exact HO3.out; refine Hid.out ?_)
        refine Lib.hid ?_
        try rw [show (ordC N lo up).toArray.toList = ordC N lo up from rfl]
        have HS3 := Lib.hid (ord_size2 N lo up)
        generalize ((w3.alloc (.cells #[.int .i64 0, .int .u16 0, .int .u16 0, .int .u16 0, .int .u16 0, .int .u16 0, .int .u16 0, .int .u16 0, .int .u16 0, .int .u16 0, .int .u16 0, .int .u16 0, .int .u16 0, .int .u16 0, .int .u16 0, .int .u16 0, .int .u16 0, .int .u16 0, .int .u16 0, .int .u16 0, .int .u16 0, .int .u16 0, .int .u16 0, .int .u16 0, .int .u16 0] 64)).setCells w3.heap.size 0 (ordC N lo up)) = W4 at HO1 HO2 ⊢
        clear HO3 HS1 HS2
        by_cases hc : Circ (esP zz) N
        · obtain ⟨rfl, rfl, rfl⟩ : m = 0 ∧ yy = [] ∧ k = 6 := by
            rcases HOK.out with ⟨_, h⟩ | ⟨h, _⟩ | ⟨h, _⟩
            · exact h
            · exact absurd hc h
            · exact absurd hc h
          have HTC : Hid (true = true ↔ Circ (esP zz) N) := ⟨fun _ => hc, fun _ => rfl⟩
          have HCC := Lib.hid hc
          clear hc
          go_wp2_with (first | (refine wpList_load_mid rfl 64 (.tmp 8) rfl w3.heap.size 0 rfl (ordC N lo up) _ HO1.out.range Tryd.underlying64 rfl HS3.out ?_) | (go_at_call 62; refine (hasCircle_is (T := true) hN HPI.out.lt HOD.out ⟨fun _ => HCC.out, fun _ => rfl⟩).mono ?_; rintro e w5 ⟨rfl, hb5⟩; have hb6 := HO2.out.trans (hb5.mono HO2.out.size); have HB6 := Lib.hid (B0.out.trans (hb6.mono B0.out.size)); have PX := Lib.hid (P0.out.on hb6); have FX : Hid (Fz w5 w.heap.size) := Fz.on F0.out P0.out.1 hb6; obtain ⟨l0, q0, q1⟩ := PX.out; obtain ⟨f0, f1, _, _⟩ := FX.out.all; clear hb5 hb6))
          have HQ := Lib.hid (PX.out.set2 0 (.slice none 0 0))
          obtain ⟨_, r0, r1⟩ := HQ.out
          refine bodyPost_ret (v := .tuple #[.agg #[.int .i64 0, .slice none 0 0], .int .i64 6]) (by simp [results, Tryd.results23, go_sem, r0, r1]) rfl ⟨_, rfl, OwnRI.nul _ _, ?_⟩
          repeat (refine Below.setC ?_ (by omega) _)
          exact HB6.out
        · have HCN := Lib.hid hc
          clear hc
          go_wp2_with (first | (refine wpList_load_mid rfl 64 (.tmp 8) rfl w3.heap.size 0 rfl (ordC N lo up) _ HO1.out.range Tryd.underlying64 rfl HS3.out ?_) | (go_at_call 62; refine (hasCircle_is (T := false) hN HPI.out.lt HOD.out ⟨fun h => by simp at h, fun h => absurd h HCN.out⟩).mono ?_; rintro e w5 ⟨rfl, hb5⟩; have HO2 := Lib.hid (HO2.out.trans (hb5.mono HO2.out.size)); have HO1 := Lib.hid (HO1.out.on hb5); clear hb5) | (go_at_call 63; refine (covers_is hN HPI.out.lt HOD.out).mono ?_; rintro e w6 ⟨v6, rfl, hoc, hb5⟩; have HOC := Lib.hid hoc; obtain ⟨oa, ocp, rfl⟩ := hoc.slice; have hb6 := HO2.out.trans (hb5.mono HO2.out.size); have hsw := HO2.out.size; have HB6 := Lib.hid (B0.out.trans (hb6.mono B0.out.size)); have PX := Lib.hid (P0.out.on hb6); have FX : Hid (Fz w6 w.heap.size) := Fz.on F0.out P0.out.1 hb6; obtain ⟨l0, q0, q1⟩ := PX.out; obtain ⟨f0, f1, _, _⟩ := FX.out.all; clear hb5 hb6 hoc; refine Hid.out ?_))
          refine Lib.hid ?_
          obtain ⟨z, hz⟩ : ∃ z, (covL (esP zz) N).length = z := ⟨_, rfl⟩
          have HZL := Lib.hid hz
          simp only [hz] at HOC ⊢
          clear hz
          by_cases h30 : 30 < z
          · have h8 : (z : Int) > 30 := by omega
            obtain ⟨rfl, rfl, rfl⟩ : m = 0 ∧ yy = [] ∧ k = 5 := by
              rcases HOK.out with ⟨h, _⟩ | ⟨_, _, h⟩ | ⟨_, h, _⟩
              · exact absurd h HCN.out
              · exact h
              · have := HZL.out; omega
            have HQ := Lib.hid (PX.out.set2 0 (.slice none 0 0))
            go_wp2_with fail
            obtain ⟨_, r0, r1⟩ := HQ.out
            refine bodyPost_ret (v := .tuple #[.agg #[.int .i64 0, .slice none 0 0], .int .i64 5]) (by simp [results, Tryd.results23, go_sem, r0, r1]) rfl ⟨_, rfl, OwnRI.nul _ _, ?_⟩
            repeat (refine Below.setC ?_ (by omega) _)
            exact HB6.out
          · have h8 : ¬ (z : Int) > 30 := by omega
            obtain ⟨rfl, rfl, rfl⟩ : m = (N : Int) ∧ yy = covL (esP zz) N ∧ k = 0 := by
              rcases HOK.out with ⟨h, _⟩ | ⟨_, h, _⟩ | ⟨_, _, h⟩
              · exact absurd h HCN.out
              · have := HZL.out; omega
              · exact h
            have HQ := Lib.hid (PX.out.set2 (N : Int) (.slice oa z ocp))
            go_wp2_with fail
            obtain ⟨_, r0, r1⟩ := HQ.out
            refine bodyPost_ret (v := .tuple #[.agg #[.int .i64 (N : Int), .slice oa z ocp], .int .i64 0]) (by simp [results, Tryd.results23, go_sem, r0, r1]) rfl ⟨_, rfl, ?_, ?_⟩
            · refine OwnRI.mono (B := w5.heap.size) ?_ (by omega)
              repeat (refine OwnRI.setOut ?_ (by omega) _)
              exact HOC.out
            · repeat (refine Below.setC ?_ (by omega) _)
              exact HB6.out
  · have h9 : inB n 0 12 = false := inB_no (by omega)
    obtain ⟨rfl, rfl, rfl⟩ : m = 0 ∧ yy = [] ∧ k = 2 := by
      rcases HH.out with ⟨_, h⟩ | ⟨M, e, h, _⟩
      · exact h
      · exact absurd (by omega) hin
    obtain ⟨l0, q0, q1⟩ := P0.out
    obtain ⟨f0, f1, _, _⟩ := F0.out.all
    have HQ := Lib.hid (P0.out.set2 0 (.slice none 0 0))
    clear hin
    go_enter Tryd.func23, Tryd.ntmps23
    go_wp2_with (go_at_call 59; refine (within64_is _ h9).mono ?_; rintro e w3 ⟨rfl, rfl⟩)
    refine bodyPost_ret (v := .tuple #[.agg #[.int .i64 0, .slice none 0 0], .int .i64 2]) (by simp [results, Tryd.results23, go_sem]) rfl ⟨_, rfl, OwnRI.nul _ _, ?_⟩
    repeat (refine Below.setC ?_ (by omega) _)
    exact al1 (Below.refl _ _) _
end Go.Proofs.YtdihcmohpbgmmaaDoor
