/-
  DualPoset of the model.
-/
import Derived.Test.YtochcpaahibijaaDoorPdD
import Derived.Deep.RegionHeld3
import Derived.Deep.RegionLaw
import Derived.Deep.AppendLies
namespace Go.Proofs.YtochcpaahibijaaDoor
open Go.RowKit
set_option linter.unusedVariables false
set_option linter.unusedSimpArgs false

set_option maxRecDepth 100000 in
set_option maxHeartbeats 3200000 in
theorem specDua_no {n : Int} {v : Value} {zz : List (List Int)} {w : World} (hv : RowsAt w v zz) (h : ¬ OkP n zz) :
    Calls Tryd.prog 50 #[.agg #[.int .i64 n, v]] w fun e w' => RetPI 0 [] 1 w e w' := by
  obtain ⟨va, vc, rfl, hl, -⟩ := hv.anyP
  have HV := Lib.hid hv
  have HOK : Hid (OkPIs n zz false) := .inr ⟨rfl, h⟩
  have P0 : Hid (PtP ((w.alloc (.cells #[.int .i64 n, .slice va zz.length vc] 27)).alloc (.cells #[.int .i64 0, .slice none 0 0] 27)) w.heap.size n (.slice va zz.length vc)) := PtP.new1 _ _ _ _ _
  have PR : Hid (PtP ((w.alloc (.cells #[.int .i64 n, .slice va zz.length vc] 27)).alloc (.cells #[.int .i64 0, .slice none 0 0] 27)) (w.heap.size + 1) 0 (.slice none 0 0)) := by
    have h := PtP.new (w.alloc (.cells #[.int .i64 n, .slice va zz.length vc] 27)) 0 (.slice none 0 0) 27
    rw [World.size_alloc] at h
    exact h
  have FR : Hid (Fz ((w.alloc (.cells #[.int .i64 n, .slice va zz.length vc] 27)).alloc (.cells #[.int .i64 0, .slice none 0 0] 27)) (w.heap.size + 1)) := by
    have h := Fz.new (w.alloc (.cells #[.int .i64 n, .slice va zz.length vc] 27)) #[.int .i64 0, .slice none 0 0] 27
    rw [World.size_alloc] at h
    exact h
  have B0 : Hid (Below w.heap.size w ((w.alloc (.cells #[.int .i64 n, .slice va zz.length vc] 27)).alloc (.cells #[.int .i64 0, .slice none 0 0] 27))) := al1 (al1 (Below.refl _ _) _) _
  clear hv h
  go_enter Tryd.func50, Tryd.ntmps50
  go_wp2_with (go_at_call 52; refine Hid.out ?_)
  refine Lib.hid ?_
  refine (l06Ok_is P0.out (HV.out.on B0.out) HOK.out).mono ?_
  rintro e w1 ⟨rfl, hb1⟩
  have PR1 := Lib.hid (PR.out.on hb1)
  have FR1 : Hid (Fz w1 (w.heap.size + 1)) := Fz.on FR.out PR.out.1 hb1
  have HB1 := Lib.hid (B0.out.trans (hb1.mono B0.out.size))
  have HQ := Lib.hid (PR1.out.set2 0 (.slice none 0 0))
  clear hb1
  obtain ⟨l0, q0, q1⟩ := PR1.out
  obtain ⟨f0, f1, _, _⟩ := FR1.out.all
  go_wp2_with fail
  obtain ⟨_, r0, r1⟩ := HQ.out
  refine bodyPost_ret (v := .tuple #[.agg #[.int .i64 0, .slice none 0 0], .int .i64 1]) (by simp [results, Tryd.results50, go_sem, r0, r1]) rfl ⟨_, rfl, OwnRI.nul _ _, ?_⟩
  repeat (refine Below.setC ?_ (by omega) _)
  exact HB1.out
set_option maxRecDepth 100000 in
set_option maxHeartbeats 6400000 in
theorem specDua_ok {N : Nat} {v : Value} {zz : List (List Int)} {w : World} (hv : RowsAt w v zz) (h : OkP (N : Int) zz) :
    Calls Tryd.prog 50 #[.agg #[.int .i64 (N : Int), v]] w fun e w' => RetPI (N : Int) (covL (esP (zz.map revP)) N) 0 w e w' := by
  obtain ⟨i0, hi0, iz0, iz1, iz2⟩ := info_parts info_r
  obtain ⟨va, vc, rfl, hl, k1⟩ := hv.anyP
  have HV := Lib.hid hv
  have K1 := Lib.hid k1
  have HOK : Hid (OkPIs (N : Int) zz true) := .inl ⟨rfl, h⟩
  obtain ⟨hN, HPI⟩ : N ≤ 12 ∧ Hid (PairsIn (N : Int) zz) := by
    obtain ⟨M, e, h1, h2⟩ := h.nat
    obtain rfl : N = M := by omega
    exact ⟨h1, h2⟩
  have HPF := Lib.hid (dual_pof h)
  have hz30 : zz.length ≤ 30 := by obtain ⟨_, _, _, h, _⟩ := h; exact h
  have P0 : Hid (PtP ((w.alloc (.cells #[.int .i64 (N : Int), .slice va zz.length vc] 27)).alloc (.cells #[.int .i64 0, .slice none 0 0] 27)) w.heap.size (N : Int) (.slice va zz.length vc)) := PtP.new1 _ _ _ _ _
  have PR : Hid (PtP ((w.alloc (.cells #[.int .i64 (N : Int), .slice va zz.length vc] 27)).alloc (.cells #[.int .i64 0, .slice none 0 0] 27)) (w.heap.size + 1) 0 (.slice none 0 0)) := by
    have h := PtP.new (w.alloc (.cells #[.int .i64 (N : Int), .slice va zz.length vc] 27)) 0 (.slice none 0 0) 27
    rw [World.size_alloc] at h
    exact h
  have FR : Hid (Fz ((w.alloc (.cells #[.int .i64 (N : Int), .slice va zz.length vc] 27)).alloc (.cells #[.int .i64 0, .slice none 0 0] 27)) (w.heap.size + 1)) := by
    have h := Fz.new (w.alloc (.cells #[.int .i64 (N : Int), .slice va zz.length vc] 27)) #[.int .i64 0, .slice none 0 0] 27
    rw [World.size_alloc] at h
    exact h
  have B0 : Hid (Below w.heap.size w ((w.alloc (.cells #[.int .i64 (N : Int), .slice va zz.length vc] 27)).alloc (.cells #[.int .i64 0, .slice none 0 0] 27))) := al1 (al1 (Below.refl _ _) _) _
  clear hv h k1
  go_enter Tryd.func50, Tryd.ntmps50
  go_wp2_with (go_at_call 52; refine Hid.out ?_)
  refine Lib.hid ?_
  refine (l06Ok_is P0.out (HV.out.on B0.out) HOK.out).mono ?_
  rintro e w1 ⟨rfl, hb1⟩
  have P1 := Lib.hid (P0.out.on hb1)
  have PR1 := Lib.hid (PR.out.on hb1)
  have FR1 : Hid (Fz w1 (w.heap.size + 1)) := Fz.on FR.out PR.out.1 hb1
  have HB1 := Lib.hid (B0.out.trans (hb1.mono B0.out.size))
  have AL : Hid (Below w1.heap.size w1 (w1.alloc (.cells #[] 40))) := al1 (Below.refl _ _) _
  have O0 : Hid (OwnRI w1.heap.size (w1.alloc (.cells #[] 40)) (.slice (some ⟨w1.heap.size, 0, none⟩) 0 0) ((zz.map revP).take 0)) := ownRI_made w1 _ (Nat.le_refl _)
  clear hb1
  go_wp2_with fail
  go_loopw [4, 5] (fun so si wr => ∃ (i : Nat), i ≤ zz.length ∧ si = .int .i64 (i : Int) ∧ Hid (OwnRI w1.heap.size wr so ((zz.map revP).take i)) ∧ Hid (Below w1.heap.size w1 wr)) (fun _ i _ => zz.length - (intOf i).toNat)
  case atStart => exact ⟨0, Nat.zero_le _, rfl, O0, AL⟩
  case round =>
    clear O0 AL
    obtain ⟨i, hil, rfl, HO, HB⟩ := hrel
    have j0 : 0 ≤ (i : Int) := by omega
    obtain ⟨lp, p0, p1⟩ := P1.out.on HB.out
    by_cases hli : i < zz.length
    · have j1 : (i : Int) < (zz.length : Int) := by omega
      obtain ⟨x, y, hzk, hed, hx, hy⟩ := HPI.out.at hli
      obtain ⟨b, o, u, rfl, hb, c1', i1'⟩ := K1.out i hli
      have hbb := HB1.out.trans (HB.out.mono HB1.out.size)
      rw [hzk] at i1'
      obtain ⟨tb, tq, tc, rfl, htb, kt⟩ := i1'.atP (by simp)
      have t0' := kt 0 (by simp)
      have t1' := kt 1 (by simp)
      simp only [List.getElem_cons_zero, List.getElem_cons_succ, Nat.add_zero, List.length_cons, List.length_nil, Nat.zero_add, Nat.reduceAdd] at t0' t1' c1'
      have CW : Hid (∀ w', Below w.heap.size w w' → w'.cell? ⟨b, o + i, none⟩ = some (.slice (some ⟨tb, tq, none⟩) 2 tc) ∧ w'.cell? ⟨tb, tq, none⟩ = some (.int .i64 (x : Int)) ∧ w'.cell? ⟨tb, tq + 1, none⟩ = some (.int .i64 (y : Int))) := fun w' hb' => ⟨(hb'.cell (p := ⟨b, o + i, none⟩) hb).trans c1', (hb'.cell (p := ⟨tb, tq, none⟩) htb).trans t0', (hb'.cell (p := ⟨tb, tq + 1, none⟩) htb).trans t1'⟩
      obtain ⟨c1, t0, t1⟩ := CW.out wr hbb
      have hwr : w.heap.size + 2 ≤ wr.heap.size := by have := PR1.out.1; have := HB.out.size; omega
      have HNX : Hid ((zz.map revP).take (i + 1) = (zz.map revP).take i ++ [[(y : Int), (x : Int)]]) := by
        show _ = _
        rw [List.take_succ_eq_append_getElem (by simpa using hli), List.getElem_map, hzk]; rfl
      obtain ⟨L, hL⟩ := HO.out
      have hzl : ((zz.map revP).take i).length = i := by rw [List.length_take, List.length_map]; omega
      obtain ⟨oa, oc, rfl⟩ := hL.slice
      rw [hzl] at hL ⊢
      have HL := Lib.hid hL
      have HZL := Lib.hid hzl
      have hbW : b < wr.heap.size := Nat.lt_of_lt_of_le hb hbb.size
      have hs1 := HB.out.size
      have n1 : ¬ wr.heap.size = w.heap.size := by omega
      have n2 : ¬ wr.heap.size = b := by omega
      have n3 : ¬ wr.heap.size = tb := by omega
      have n4 : ¬ wr.heap.size + 1 = w.heap.size := by omega
      have n5 : ¬ wr.heap.size + 1 = b := by omega
      have n6 : ¬ wr.heap.size + 1 = tb := by omega
      clear c1' i1' kt hzk hed hL hzl hbb HO t0' t1'
      go_wp2_with fail
      go_region_held3 (fun w' => w'.cell? ⟨w.heap.size, 1, none⟩ = some (.slice (some ⟨b, o, none⟩) zz.length vc) ∧ w'.cell? ⟨b, o + i, none⟩ = some (.slice (some ⟨tb, tq, none⟩) 2 tc) ∧ w'.cell? ⟨tb, tq, none⟩ = some (.int .i64 (x : Int)) ∧ w'.cell? ⟨tb, tq + 1, none⟩ = some (.int .i64 (y : Int))) (go_keep)
        (first
          | (refine step_append_lies _ (by rfl) _ _ _ (by rfl) w1.heap.size 40 i0 (.slice none 0 0) 1 24 Tryd.underlying22 hi0 iz0 iz1 iz2 (by rfl) (by omega) (.slice oa i oc) i L (by rfl) (by have h := (HL.out.on ((al1 (al1 (Below.refl _ _) (.cells #[.int .i64 (y : Int), .int .i64 (x : Int)] 2)) (.cells #[.slice (some ⟨wr.heap.size, 0, none⟩) 2 2] 40)))).row; rw [HZL.out] at h; exact h) ⟨wr.heap.size + 1, 0, none⟩ 1 1 [.slice (some ⟨wr.heap.size, 0, none⟩) 2 2] (by rfl) (by rfl) (by first | with_reducible exact row_oneP _ _ _ _ (by simp) | exact row_oneP _ _ _ _ (by simp)) (by simp [Value.oneCell']) (by omega) (by unfold maxLen; omega) (by omega) (by simp; omega) (wr.heap.size + 2) (by simp) ?_; intro gg cap w7 hown7 hgrow hat hlt7; have hgr2 : ((wr.alloc (.cells #[.int .i64 (y : Int), .int .i64 (x : Int)] 2)).alloc (.cells #[.slice (some ⟨wr.heap.size, 0, none⟩) 2 2] 40)).grownBy w7 (Value.slice oa i oc).ownBlock := ⟨hgrow.os, hgrow.tape, hgrow.output, hgrow.size, hgrow.block⟩; have hb7 : Below w1.heap.size w1 w7 := ((HB.out.alloc hs1 (.cells #[.int .i64 (y : Int), .int .i64 (x : Int)] 2)).alloc (by rw [World.size_alloc]; omega) (.cells #[.slice (some ⟨wr.heap.size, 0, none⟩) 2 2] 40)).grown hgr2 (by rw [World.size_alloc, World.size_alloc]; omega) (fun k hk => (HL.out.row.lt k hk).1); obtain ⟨_, _, p17⟩ := P1.out.on hb7; obtain ⟨c17, t07, t17⟩ := CW.out w7 (HB1.out.trans (hb7.mono HB1.out.size))))
      all_goals
        have hp3 := OwnRI.push (o := (.cells #[.slice (some ⟨wr.heap.size, 0, none⟩) 2 2] 40)) HL.out (ownI_two wr (y : Int) (x : Int)) (al1 (Below.refl _ _) _) hs1 (by rw [HZL.out]; exact hown7) hgr2 (fun q hq => by
          have e : gg = q := by simpa [Value.ownBlock] using hq
          rcases hat with h | h
          · exact .inl (by rw [h, e])
          · exact .inr (by rw [World.size_alloc]; omega))
        rw [← HNX.out] at hp3
        have HX := Lib.hid hp3
        have HB7 := Lib.hid hb7
        clear hp3 hown7 hgrow hgr2 hat hb7 p17 c17 t07 t17
        go_wp2_with fail
        go_roundw
        case rel => exact ⟨i + 1, by omega, by go_num, HX, HB7⟩
        case measure => simp [intOf]; omega
    · have hX : OwnRI w1.heap.size wr u4 (zz.map revP) := by
        have h := HO.out
        rw [List.take_of_length_le (by rw [List.length_map]; omega)] at h
        exact h
      have hfr : FitR (zz.map revP) := by
        refine ⟨by rw [List.length_map]; omega, ?_⟩
        rw [tot_two _ (fun p hp => by obtain ⟨q, _, rfl⟩ := List.mem_map.1 hp; rfl), List.length_map]; omega
      have HXR := Lib.hid (hX.at hfr)
      obtain ⟨xa, xc, rfl⟩ := hX.slice
      have hml : (zz.map revP).length = zz.length := List.length_map _
      rw [hml] at HXR ⊢
      clear hml
      have PR2 := Lib.hid (PR1.out.on HB.out)
      have FR2 : Hid (Fz wr (w.heap.size + 1)) := Fz.on FR1.out PR1.out.1 HB.out
      have HB2 := Lib.hid (HB1.out.trans (HB.out.mono HB1.out.size))
      have hsw : w.heap.size + 2 ≤ wr.heap.size := by have := PR1.out.1; have := HB.out.size; omega
      obtain ⟨kt, hkt⟩ : ∃ kt : Int, kt = (i : Int) := ⟨_, rfl⟩
      have hk10 : ¬ kt < (zz.length : Int) := by omega
      rw [← hkt]
      clear HO j0 hli hkt hil i hX hfr
      go_wp2_with (go_at_call 21; refine Hid.out ?_)
      refine Lib.hid ?_
      refine (specPof_is HXR.out HPF.out).mono ?_
      rintro e w5 ⟨v5, rfl, ho5, hb5⟩
      have HO5 := Lib.hid ho5
      obtain ⟨ya, yc, rfl⟩ := ho5.slice
      have PR5 := Lib.hid (PR2.out.on hb5)
      have FR5 : Hid (Fz w5 (w.heap.size + 1)) := Fz.on FR2.out PR2.out.1 hb5
      have HB5 := Lib.hid (HB2.out.trans (hb5.mono HB2.out.size))
      clear ho5 hb5
      obtain ⟨z, hz⟩ : ∃ z, (covL (esP (zz.map revP)) N).length = z := ⟨_, rfl⟩
      simp only [hz] at HO5 ⊢
      clear hz
      have HQ := Lib.hid (PR5.out.set2 (N : Int) (.slice ya z yc))
      obtain ⟨l0, q0, q1⟩ := PR5.out
      obtain ⟨f0, f1, _, _⟩ := FR5.out.all
      go_wp2_with fail
      obtain ⟨_, r0, r1⟩ := HQ.out
      refine bodyPost_ret (v := .tuple #[.agg #[.int .i64 (N : Int), .slice ya z yc], .int .i64 0]) (by simp [results, Tryd.results50, go_sem, r0, r1]) rfl ⟨_, rfl, ?_, ?_⟩
      · refine OwnRI.mono (B := wr.heap.size) ?_ (by omega)
        repeat (refine OwnRI.setOut ?_ (by omega) _)
        exact HO5.out
      · repeat (refine Below.setC ?_ (by omega) _)
        exact HB5.out
theorem specDua_is {n : Int} {v : Value} {zz : List (List Int)} {m : Int} {yy : List (List Int)} {k : Int} {w : World} (hv : RowsAt w v zz) (h : DuaIs n zz m yy k) :
    Calls Tryd.prog 50 #[.agg #[.int .i64 n, v]] w fun e w' => RetPI m yy k w e w' := by
  rcases h with ⟨ho, rfl, rfl, rfl⟩ | ⟨N, rfl, ho, rfl, rfl, rfl⟩
  · exact specDua_no hv ho
  · exact specDua_ok hv ho
end Go.Proofs.YtochcpaahibijaaDoor
