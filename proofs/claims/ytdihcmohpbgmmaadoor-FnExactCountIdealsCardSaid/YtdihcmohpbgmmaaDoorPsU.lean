/-
  FirstExtension of the program.
-/
import Derived.Test.YtdihcmohpbgmmaaDoorPsT
namespace Go.Proofs.YtdihcmohpbgmmaaDoor
open Go.RowKit
set_option linter.unusedVariables false
set_option linter.unusedSimpArgs false

theorem setOf_ints {v : Value} {l : List Int} {w : World} (hv : IntsAt w v l) (hb : ∀ x ∈ l, 0 ≤ x ∧ x ≤ 15) :
    Calls Tryd.prog 70 #[v] w fun e w' => e = .returned (.int .u16 (maskOf l : Int)) ∧ w = w' := by
  have hl : l.length ≤ 1048576 := by obtain ⟨_, _, _, h, _⟩ := hv; exact h
  by_cases h0 : l = []
  · subst h0
    obtain ⟨a, c, rfl⟩ := hv.slice
    exact setOf_none w
  · obtain ⟨b, o, c, rfl, _, hk⟩ := hv.atP (List.length_pos_iff.2 h0)
    exact setOf_gen hl hb hk
theorem row_oneF (w : World) (u : Value) (t : TypeId) (n : Nat) (hn : w.heap.size = n) : ∀ (j : Nat) (x : Value), [u][j]? = some x → (w.alloc (.cells #[u] t)).drew.cell? ((⟨n, 0, none⟩ : Addr).add j) = some x := by subst hn; exact row_val w u t
set_option maxRecDepth 100000 in
set_option maxHeartbeats 3200000 in
theorem implFst_no {n : Int} {v : Value} {zz : List (List Int)} {w : World} (hv : RowsAt w v zz) (h : ¬ OkP n zz) (hTz : Tz w) :
    Calls Tryd.prog 47 #[.agg #[.int .i64 n, v]] w fun e w' => RetNK [] 1 w e w' := by
  have HOK := Lib.hid h
  have HV := Lib.hid hv
  have TZ := Lib.hid hTz
  obtain ⟨va, vc, rfl⟩ := hv.slice
  have B0 : Hid (Below w.heap.size w (w.alloc (.cells #[.int .i64 n, .slice va zz.length vc] 27))) := al1 (Below.refl _ _) _
  have P0 : Hid (PtP (w.alloc (.cells #[.int .i64 n, .slice va zz.length vc] 27)) w.heap.size n (.slice va zz.length vc)) := PtP.new _ _ _ _
  clear hv hTz h
  go_enter Tryd.func47, Tryd.ntmps47
  go_wp2_with (go_at_call 67; refine Hid.out ?_)
  refine Lib.hid ?_
  refine (orderOf_no (HV.out.on B0.out) HOK.out (TZ.out.on B0.out)).mono ?_
  rintro e w1 ⟨rfl, hb1⟩
  obtain ⟨hov1, hov2⟩ := ord_var w1 0 (fun _ => 0) (fun _ => 0)
  have HO1 := Lib.hid hov1
  have HB := Lib.hid (B0.out.trans ((hb1.trans (hov2.mono hb1.size)).mono B0.out.size))
  have P1 := Lib.hid (P0.out.on (hb1.trans (hov2.mono hb1.size)))
  have HO3 := Lib.hid (ord_there2 w1 0 (fun _ => 0) (fun _ => 0))
  have HS1 := Lib.hid (ord_size 0 (fun _ => 0) (fun _ => 0))
  have HS2 := Lib.hid (ord_one 0 (fun _ => 0) (fun _ => 0))
  have HS3 := Lib.hid (ord_size2 0 (fun _ => 0) (fun _ => 0))
  clear hb1 hov1 hov2
  go_wp2_with (refine wpList_store_mid rfl 64 (.tmp 4) (.tmp 10) rfl w1.heap.size 0 (ordC 0 (fun _ => 0) (fun _ => 0)).toArray rfl rfl ?_ HS1.out HS2.out ?_; exact HO3.out; refine Hid.out ?_)
  refine Lib.hid ?_
  try rw [show (ordC 0 (fun _ => 0) (fun _ => 0)).toArray.toList = ordC 0 (fun _ => 0) (fun _ => 0) from rfl]
  generalize ((w1.alloc (.cells #[.int .i64 0, .int .u16 0, .int .u16 0, .int .u16 0, .int .u16 0, .int .u16 0, .int .u16 0, .int .u16 0, .int .u16 0, .int .u16 0, .int .u16 0, .int .u16 0, .int .u16 0, .int .u16 0, .int .u16 0, .int .u16 0, .int .u16 0, .int .u16 0, .int .u16 0, .int .u16 0, .int .u16 0, .int .u16 0, .int .u16 0, .int .u16 0, .int .u16 0] 64)).setCells w1.heap.size 0 (ordC 0 (fun _ => 0) (fun _ => 0))) = W at HO1 HB P1 ⊢
  obtain ⟨L, hL⟩ : ∃ L, w1.heap.size = L := ⟨_, rfl⟩
  rw [hL] at HO1 ⊢
  clear HO3 HS1 HS2 hL
  go_wp2_with fail
  go_ret2
  exact ⟨_, rfl, World.ownsRow_nil _ _ _ _, HB.out⟩
set_option maxRecDepth 100000 in
set_option maxHeartbeats 6400000 in
theorem implFst_ok {N : Nat} {v : Value} {zz : List (List Int)} {w : World} (hv : RowsAt w v zz) (h : OkP (N : Int) zz) (hTz : Tz w) :
    Calls Tryd.prog 47 #[.agg #[.int .i64 (N : Int), v]] w fun e w' => RetNK (fstTo (esP zz) N N) 0 w e w' := by
  obtain ⟨i0, hi, iz0, iz1, iz2⟩ := info_parts info2
  have HOK := Lib.hid h
  obtain ⟨hN, hpi, hnc⟩ := h.acyc
  have HPI := Lib.hid hpi
  have HNC : Hid (¬ Circ (esP zz) N) := hnc
  have HV := Lib.hid hv
  have TZ := Lib.hid hTz
  obtain ⟨va, vc, rfl⟩ := hv.slice
  have B0 : Hid (Below w.heap.size w (w.alloc (.cells #[.int .i64 (N : Int), .slice va zz.length vc] 27))) := al1 (Below.refl _ _) _
  have P0 : Hid (PtP (w.alloc (.cells #[.int .i64 (N : Int), .slice va zz.length vc] 27)) w.heap.size (N : Int) (.slice va zz.length vc)) := PtP.new _ _ _ _
  clear hv hTz h hpi hnc
  go_enter Tryd.func47, Tryd.ntmps47
  go_wp2_with (go_at_call 67; refine Hid.out ?_)
  refine Lib.hid ?_
  refine (orderOf_ok (HV.out.on B0.out) HOK.out (TZ.out.on B0.out)).mono ?_
  rintro e w1 ⟨lo, up, rfl, hod, hb1⟩
  have HOD := Lib.hid hod
  clear hod
  obtain ⟨hov1, hov2⟩ := ord_var w1 N lo up
  have HO1 := Lib.hid hov1
  have HB := Lib.hid (B0.out.trans ((hb1.trans (hov2.mono hb1.size)).mono B0.out.size))
  have P1 := Lib.hid (P0.out.on (hb1.trans (hov2.mono hb1.size)))
  have HO3 := Lib.hid (ord_there2 w1 N lo up)
  have HS1 := Lib.hid (ord_size N lo up)
  have HS2 := Lib.hid (ord_one N lo up)
  have HS3 := Lib.hid (ord_size2 N lo up)
  clear hb1 hov1 hov2
  go_wp2_with (refine wpList_store_mid rfl 64 (.tmp 4) (.tmp 10) rfl w1.heap.size 0 (ordC N lo up).toArray rfl rfl ?_ HS1.out HS2.out ?_; exact HO3.out; refine Hid.out ?_)
  refine Lib.hid ?_
  try rw [show (ordC N lo up).toArray.toList = ordC N lo up from rfl]
  generalize ((w1.alloc (.cells #[.int .i64 0, .int .u16 0, .int .u16 0, .int .u16 0, .int .u16 0, .int .u16 0, .int .u16 0, .int .u16 0, .int .u16 0, .int .u16 0, .int .u16 0, .int .u16 0, .int .u16 0, .int .u16 0, .int .u16 0, .int .u16 0, .int .u16 0, .int .u16 0, .int .u16 0, .int .u16 0, .int .u16 0, .int .u16 0, .int .u16 0, .int .u16 0, .int .u16 0] 64)).setCells w1.heap.size 0 (ordC N lo up)) = W at HO1 HB P1 ⊢
  obtain ⟨L, hL⟩ : ∃ L, w1.heap.size = L := ⟨_, rfl⟩
  rw [hL] at HO1 ⊢
  clear HO3 HS1 HS2 hL
  obtain ⟨lO, o0, -⟩ := HO1.out
  have O0 : Hid (OwnI W.heap.size W (.slice none 0 0) (fstTo (esP zz) N 0)) := World.ownsRow_nil _ _ _ _
  have HES : Hid (∀ e ∈ esP zz, e.1 < N ∧ e.2 < N) := HPI.out.lt
  clear HPI HOK
  go_wp2_with fail
  go_loopw [6, 17] (fun so si wr => ∃ (k : Nat), k ≤ N ∧ si = .int .i64 (k : Int) ∧ Hid (OwnI W.heap.size wr so (fstTo (esP zz) N k)) ∧ Hid (Below W.heap.size W wr)) (fun _ i _ => N - (intOf i).toNat)
  case atStart => exact ⟨0, Nat.zero_le _, rfl, O0, Below.refl _ _⟩
  case round =>
    clear O0 o0 lO
    obtain ⟨k, hk, rfl, HX, HW⟩ := hrel
    have k0 : 0 ≤ (k : Int) := by omega
    by_cases hlt : k < N
    · have k1 : (k : Int) < (N : Int) := by omega
      have hin := fst_in HES.out HNC.out k (by omega)
      obtain ⟨a, ha, hp, hm⟩ := fst_some HES.out HNC.out hlt fun v hv => (hin v hv).1
      have HFN := Lib.hid (fst_next ha hm hp)
      obtain ⟨tl, htl⟩ := sel_head hm hp N ha
      have HTL := Lib.hid htl
      have HIN : Hid (∀ x ∈ fstTo (esP zz) N k, 0 ≤ x ∧ x ≤ 15) := fun x hx => ⟨(hin x hx).1, by have := (hin x hx).2; omega⟩
      have hd : maskOf (fstTo (esP zz) N k) < 65536 := maskOf_lt16 _ HIN.out
      have HAT : Hid (IntsAt wr u6 (fstTo (esP zz) N k)) := HX.out.at (by rw [fstTo_len]; omega)
      obtain ⟨xa, xc, rfl⟩ := HX.out.slice
      have hl12 : (fstTo (esP zz) N k).length ≤ 12 := by rw [fstTo_len]; omega
      have hws := HW.out.size
      have HPO := Lib.hid (HO1.out.on HW.out)
      have HRG := Lib.hid HPO.out.range
      clear hin hp hm htl
      obtain ⟨d, hde⟩ : ∃ d, maskOf (fstTo (esP zz) N k) = d := ⟨_, rfl⟩
      have HDE := Lib.hid hde
      rw [hde] at hd HTL
      clear hde
      obtain ⟨z, hz⟩ : ∃ z, (fstTo (esP zz) N k).length = z := ⟨_, rfl⟩
      have HZ := Lib.hid hz
      rw [hz] at HX HAT hl12 ⊢
      clear hz
      go_wp2_with fail
      refine wp_region_held_drew (S := fun w' => w'.rangeAt L 0 (ordC N lo up)) (by kernel_rfl) ?hS (fun hHeld => ?rest)
      case hS => exact (World.rangeAt_drew _ _ _ _).2 HRG.out
      case rest =>
        refine wpAnyH_take (i := 0) (oi := _) (v := .slice xa z xc) rfl (by kernel_rfl) (by kernel_rfl) (by kernel_rfl) (fun _ _ _ h => h) (Or.inl ⟨by rfl, ?_⟩) (by assumption) ?_
        · intro wq hSw
          go_simp
        try simp only [Act.put, List.setIfInBounds_toArray, List.set_cons_zero, List.set_cons_succ]
        refine wpAnyH_take (i := 1) (oi := _) (v := _) rfl (by kernel_rfl) (by kernel_rfl) (by kernel_rfl) (fun _ _ _ h => h) (yieldsIf_load_mid (by rfl) 64 (.tmp 4) rfl L 0 rfl (ordC N lo up) _ (fun w hw => hw) Tryd.underlying64 rfl HS3.out) (by assumption) ?_
        try simp only [Act.put, List.setIfInBounds_toArray, List.set_cons_zero, List.set_cons_succ]
        refine wpAnyH_take (i := 2) (oi := _) (v := .slice xa z xc) rfl (by kernel_rfl) (by kernel_rfl) (by kernel_rfl) (fun _ _ _ h => h) (Or.inl ⟨by rfl, ?_⟩) (by assumption) ?_
        · intro wq hSw
          go_simp
        try simp only [Act.put, List.setIfInBounds_toArray, List.set_cons_zero, List.set_cons_succ]
        refine wpAnyH_ready (rs := [3]) (by kernel_rfl) (by simp) ?_
        refine AllReadyH.cons (o := _) rfl (fun K hK => ?_) AllReadyH.nil
        go_simp
        go_at_call 70
        refine (setOf_ints (l := fstTo (esP zz) N k) (HAT.out.on (Below.refl _ _).drew) HIN.out).mono ?_
        rintro e w5 ⟨rfl, rfl⟩
        try go_wp2_with fail
        refine hK.out _ _ ?_ (fun hHeld2 => ?_)
        · exact (World.rangeAt_drew _ _ _ _).2 HRG.out
        · clear hK K
          try simp only [Act.put, List.setIfInBounds_toArray, List.set_cons_zero, List.set_cons_succ]
          rw [HDE.out]
          refine wpAnyH_ready (rs := [4]) (by kernel_rfl) (by simp) ?_
          refine AllReadyH.cons (o := _) rfl (fun K hK => ?_) AllReadyH.nil
          go_simp
          refine (next_any (d := d) hN HES.out HOD.out hd).mono ?_
          rintro e w6 ⟨v6, rfl, ho6, hb6'⟩
          have hb6 : Below wr.heap.size wr w6 := undrew hb6'
          have hrg6 := (HPO.out.on hb6).range
          rw [HTL.out] at ho6
          have hl6 : ((a : Int) :: tl).length ≤ 12 := by
            have := selN_len (NxtP (esP zz) d) N
            rw [HTL.out] at this
            omega
          obtain ⟨b6, o6, c6, rfl, hbl6, k6⟩ := (ho6.at (by omega)).atP (by simp)
          have c60 := k6 0 (by simp)
          simp only [Nat.add_zero, List.getElem_cons_zero] at c60
          obtain ⟨m6, hm6⟩ : ∃ m, ((a : Int) :: tl).length = m := ⟨_, rfl⟩
          have hm0 : (0 : Int) < (m6 : Int) := by rw [← hm6]; simp
          have hm1 : 0 < m6 := by omega
          rw [hm6]
          clear k6 ho6 hm6 hl6
          try go_wp2_with fail
          refine hK.out _ _ ?_ (fun hHeld3 => ?_)
          · exact hrg6
          · clear hK K
            try simp only [Act.put, List.setIfInBounds_toArray, List.set_cons_zero, List.set_cons_succ]
            refine wpAnyH_ready (rs := [5]) (by kernel_rfl) (by simp) ?_
            refine AllReadyH.cons (o := _) rfl (fun K hK => ?_) AllReadyH.nil
            go_simp
            refine hK.out _ _ ?_ (fun hHeld4 => ?_)
            · exact hrg6
            · clear hK K
              try simp only [Act.put, List.setIfInBounds_toArray, List.set_cons_zero, List.set_cons_succ]
              refine wpAnyH_ready (rs := [6]) (by kernel_rfl) (by simp) ?_
              refine AllReadyH.cons (o := _) rfl (fun K hK => ?_) AllReadyH.nil
              go_simp
              refine hK.out _ _ ?_ (fun hHeld5 => ?_)
              · exact hrg6
              · clear hK K
                try simp only [Act.put, List.setIfInBounds_toArray, List.set_cons_zero, List.set_cons_succ]
                refine wpAnyH_ready (rs := [7]) (by kernel_rfl) (by simp) ?_
                refine AllReadyH.cons (o := _) rfl (fun K hK => ?_) AllReadyH.nil
                go_simp
                refine hK.out _ _ ?_ (fun hHeld6 => ?_)
                · exact World.rangeAt_alloc hrg6 _
                · clear hK K
                  try simp only [Act.put, List.setIfInBounds_toArray, List.set_cons_zero, List.set_cons_succ]
                  refine wpAnyH_ready (rs := [8]) (by kernel_rfl) (by simp) ?_
                  refine AllReadyH.cons (o := _) rfl (fun K hK => ?_) AllReadyH.nil
                  have hx6 := (HX.out.on hb6).out
                  have hxl : (fstTo (esP zz) N k).length = z := HZ.out
                  rw [hxl] at hx6
                  have hws6 := hb6.size
                  refine step_append_lies _ (by rfl) _ _ _ (by rfl) W.heap.size 2 i0 (.int .i64 0) 1 8 Tryd.underlying40 hi iz0 iz1 iz2 (by rfl) (by omega) (.slice xa z xc) z (iv (fstTo (esP zz) N k)) (by rfl) (hx6.alloc _) ⟨w6.heap.size, 0, none⟩ 1 1 [.int .i64 (a : Int)] (by rfl) (by rfl) (row_oneP _ _ _ _ (by simp)) (by simp [Value.oneCell']) (by omega) (by unfold maxLen; omega) (by omega) (by rw [World.size_alloc]; omega) (w6.heap.size + 1) (by simp) ?_
                  intro gg cap w7 hown7 hgrow hat hlt7
                  have hx6o := HX.out.on hb6
                  have hp7 := pushU (zs := fstTo (esP zz) N k) (z := (a : Int)) (by rw [hxl]; exact hown7)
                  have hk7 := below_pushU (HW.out.trans (hb6.mono hws)) (Nat.le_refl _) (by omega) hx6o hgrow
                  rw [← HFN.out] at hp7
                  have HY := Lib.hid hp7
                  have HK7 := Lib.hid hk7
                  have HR7 := Lib.hid (HO1.out.on hk7).range
                  clear hp7 hk7 hx6o hown7 hgrow hat hx6
                  refine hK.out _ _ ?_ (fun hHeld7 => ?_)
                  · exact HR7.out
                  · clear hK K
                    try simp only [Act.put, List.setIfInBounds_toArray, List.set_cons_zero, List.set_cons_succ]
                    refine wpAnyH_ready (rs := [9]) (by kernel_rfl) (by simp) ?_
                    refine AllReadyH.cons (o := _) rfl (fun K hK => ?_) AllReadyH.nil
                    go_simp
                    refine hK.out _ _ ?_ (fun hHeld8 => ?_)
                    · exact HR7.out
                    · clear hK K
                      try simp only [Act.put, List.setIfInBounds_toArray, List.set_cons_zero, List.set_cons_succ]
                      refine wpAnyH_done (by kernel_rfl) ?_ _
                      clear hHeld hHeld2 hHeld3 hHeld4 hHeld5 hHeld6 hHeld7 hHeld8 hrg6 hxl
                      go_wp2_with fail
                      go_roundw
                      case rel => exact ⟨k + 1, by omega, by go_num, HY, HK7⟩
                      case measure => simp [intOf]; omega
    · have hkN : k = N := by omega
      have HY : Hid (OwnI W.heap.size wr u6 (fstTo (esP zz) N N)) := by
        have h := HX.out
        rw [show fstTo (esP zz) N k = fstTo (esP zz) N N by rw [hkN]] at h
        exact h
      have HB9 := Lib.hid (HB.out.trans (HW.out.mono HB.out.size))
      have hs9 := HB.out.size
      obtain ⟨kt, hkt⟩ : ∃ kt : Int, kt = (k : Int) := ⟨_, rfl⟩
      have hk10 : ¬ kt < (N : Int) := by omega
      rw [← hkt]
      clear HX k0 hlt hkt hk hkN k
      go_wp2_with fail
      go_ret2
      exact ⟨_, rfl, HY.out.mono hs9, HB9.out⟩
theorem implFst_is {n : Int} {v : Value} {zz : List (List Int)} {Z : List Int} {k : Int} {w : World} (hv : RowsAt w v zz) (h : FstIs n zz Z k) (hTz : Tz w) :
    Calls Tryd.prog 47 #[.agg #[.int .i64 n, v]] w fun e w' => RetNK Z k w e w' := by
  rcases h with ⟨ho, rfl, rfl⟩ | ⟨N, rfl, ho, rfl, rfl⟩
  · exact implFst_no hv ho hTz
  · exact implFst_ok hv ho hTz
end Go.Proofs.YtdihcmohpbgmmaaDoor
