/-
  A complex without some simplices: of the model.
  Concat of the library at lists of sets, and a list of simplices without a pair: of the program.
  A list of simplices without a pair: of the program.
  Collapses, plainly: without a free pair a complex is one still.
  CollapsePair of the model.
  CollapsePair of the program.
-/
import Derived.Test.YtibdcejglkhcfaaDoorPU
import Derived.Test.YtibdcejglkhcfaaDoorPS
import Derived.Test.YtibdcejglkhcfaaDoorPE
import Derived.Deep.RegionHeld3
namespace Go.Proofs.YtibdcejglkhcfaaDoor
open Go.RowKit
set_option linter.unusedVariables false
set_option linter.unusedSimpArgs false

/-- The simplices below k without those at some places. -/
def wthK (zz : List (List Int)) (pr : List Int) (k : Nat) : List (List Int) := ((List.range k).filter fun (i : Nat) => !decide ((i : Int) ∈ pr)).map fun (i : Nat) => zz.getD i []
theorem wthK_yes {zz : List (List Int)} {pr : List Int} {k : Nat} (hk : k < zz.length) (h : (k : Int) ∉ pr) : wthK zz pr (k + 1) = wthK zz pr k ++ [zz[k]] := by
  simp [wthK, List.range_succ, List.filter_append, List.getD, hk, h]
theorem wthK_no {zz : List (List Int)} {pr : List Int} {k : Nat} (h : (k : Int) ∈ pr) : wthK zz pr (k + 1) = wthK zz pr k := by
  simp [wthK, List.range_succ, List.filter_append, h]
theorem wthK_len (zz : List (List Int)) (pr : List Int) (k : Nat) : (wthK zz pr k).length ≤ k := by
  unfold wthK
  rw [List.length_map]
  exact Nat.le_trans (List.length_filter_le _ _) (by simp)
set_option maxRecDepth 100000 in
set_option maxHeartbeats 12800000 in
theorem l08Without_any {Lc : Nat} {v x : Value} {zz : List (List Int)} {pr : List Int} {w : World} (p : PtC w Lc v) (hq : RowsQ w v zz) (hx : IntsAt w x pr) (ho : OkC zz) :
    Calls Tryd.prog 56 #[.pointer (some ⟨Lc, 0, none⟩), x] w fun e w' => ∃ v, e = .returned (.agg #[v]) ∧ OwnRI w.heap.size w' v (wthK zz pr zz.length) ∧ Below w.heap.size w w' := by
  obtain ⟨i0, hi0, iz0, iz1, iz2⟩ := info_parts info_r
  obtain ⟨a, cp, rfl, hl, k1⟩ := hq
  have K1 := Lib.hid k1
  have P := Lib.hid p
  have HX0 := Lib.hid hx
  obtain ⟨xxa, xxc, rfl⟩ := hx.slice
  have HO := Lib.hid ho
  have h48 := ho.2
  have hR1 := ResC.new w
  have hC3 := (CpS.fresh (w.alloc (.cells #[.slice none 0 0] 28))).sk
  have hA1 : Below w.heap.size w (w.alloc (.cells #[.slice none 0 0] 28)) := (Below.refl _ w).alloc (Nat.le_refl _) _
  have hA2 : Below (w.alloc (.cells #[.slice none 0 0] 28)).heap.size (w.alloc (.cells #[.slice none 0 0] 28)) (((w.alloc (.cells #[.slice none 0 0] 28)).alloc (.cells #[] 25)).alloc (.cells #[.slice (some ⟨w.heap.size + 1, 0, none⟩) 0 0] 28)) := al1 ((Below.refl _ _).alloc (Nat.le_refl _) _) _
  have hR3 := hR1.on hA2
  rw [World.size_alloc] at hC3
  have hA3 := hA1.trans (hA2.mono hA1.size)
  obtain ⟨Lk, hLk⟩ : ∃ Lk, w.heap.size + 1 + 1 = Lk := ⟨_, rfl⟩
  rw [hLk] at hC3
  have HLK := Lib.hid hLk
  clear k1 p hx ho hR1 hA1 hA2 hLk
  go_enter Tryd.func56, Tryd.ntmps56
  go_wp2_with fail
  rw [HLK.out]
  generalize ((w.alloc (.cells #[.slice none 0 0] 28)).alloc (.cells #[] 25)).alloc (.cells #[.slice (some ⟨w.heap.size + 1, 0, none⟩) 0 0] 28) = W3 at hC3 hA3 hR3 ⊢
  have HS3 := Lib.hid hC3
  have HB3 := Lib.hid hA3
  have HR3 := Lib.hid hR3
  clear hC3 hA3 hR3
  go_loopw [6] (fun si wr => ∃ (k : Nat), k ≤ zz.length ∧ si = .int .i64 (k : Int) ∧ Hid (SkS (w.heap.size + 1) Lk wr (wthK zz pr k)) ∧ Hid (ResC wr w.heap.size) ∧ Hid (Below w.heap.size w wr)) (fun i _ => zz.length - (intOf i).toNat)
  case atStart => exact ⟨0, Nat.zero_le _, rfl, by show SkS _ _ _ _; exact HS3.out, HR3, HB3⟩
  case round =>
    clear HS3 HB3 HR3
    obtain ⟨k, hk, rfl, HY, HR, HB⟩ := hrel
    have i0' : 0 ≤ (k : Int) := by omega
    have hsz := HB.out.size
    have p1 := (P.out.on HB.out).2
    by_cases hlt : k < zz.length
    · have i1 : (k : Int) < (zz.length : Int) := by omega
      obtain ⟨b, o, y, rfl, hb, c1', i1'⟩ := K1.out k hlt
      have c1 := (HB.out.cell (p := ⟨b, o + k, none⟩) hb).trans c1'
      have I1 := Lib.hid (i1'.on HB.out)
      obtain ⟨ta, tc, rfl⟩ := I1.out.1.slice
      have hst := HO.out.sim hlt
      have hl4 := hst.le
      have hl1 := hst.pos
      clear c1' i1' hst
      have HXR := Lib.hid (HX0.out.on HB.out)
      by_cases hdim : (k : Int) ∉ pr
      · have HN := Lib.hid (wthK_yes hlt hdim)
        have HHAS : Hid (decide ((k : Int) ∈ pr) = false) := decide_eq_false hdim
        obtain ⟨t, htt⟩ : ∃ t, zz[k] = t := ⟨_, rfl⟩
        rw [htt] at c1 I1 hl4 hl1 HN
        clear htt hdim
        obtain ⟨sv, L, sp, sf, so, sn1, sn2⟩ := HY.out
        have hkl := wthK_len zz pr k
        obtain ⟨z, hz⟩ : ∃ z, (wthK zz pr k).length = z := ⟨_, rfl⟩
        have HZ := Lib.hid hz
        rw [hz] at hkl
        obtain ⟨va, vc, rfl⟩ := so.slice
        rw [hz] at sp so sn1
        have SP := Lib.hid sp
        have SF := Lib.hid sf
        have SO := Lib.hid so
        have SN1 := Lib.hid sn1
        have SN2 := Lib.hid sn2
        have c2 := sp.2
        have hlk := sp.1
        have hwb : w.heap.size + 1 ≤ wr.heap.size := by have := HLK.out; omega
        clear hz sp so sn1 sn2
        go_wp2_with (go_at_call 77; refine (l05Has_is HXR.out HHAS.out).mono ?_; rintro e w' ⟨rfl, rfl⟩)
        go_region_law
          (first
            | (go_simp; go_at_call 78; refine (l00Own_any (I1.out.on (by repeat (first | with_reducible exact Below.refl _ _ | with_reducible refine drew_below ?_ | with_reducible refine al1 ?_ _))) (by omega)).mono ?_; rintro e w6 ⟨v6, rfl, ho6, hb6'⟩; have hb6 : Below wr.heap.size wr w6 := (by first | exact hb6' | exact undrew hb6'); obtain ⟨xa, xc, rfl⟩ := ho6.slice; have k6 := (SP.out.on hb6).2; have k6a := (SP.out.on (al1 hb6 (.cells #[.slice xa t.length xc] 25))).2; have HX6 : Hid (OwnI wr.heap.size w6 (.slice xa t.length xc) t) := ho6; dsimp only)
            | (refine step_append_lies _ (by rfl) _ _ _ (by rfl) (w.heap.size + 1) 25 i0 (.slice none 0 0) 1 24 Tryd.underlying22 hi0 iz0 iz1 iz2 (by rfl) (by omega) (.slice va z vc) z L (by rfl) (OwnR.rowZ SO.out HZ.out (by repeat (first | with_reducible exact hb6 | with_reducible refine drew_below ?_ | with_reducible refine al1 ?_ _))) ⟨w6.heap.size, 0, none⟩ 1 1 [.slice xa t.length xc] (by rfl) (by rfl) (by first | with_reducible exact row_oneJ _ _ _ _ (by simp) | exact row_oneJ _ _ _ _ (by simp)) (by simp [Value.oneCell']) (by omega) (by unfold maxLen; omega) (by omega) (by have := hb6.size; simp; omega) (w6.heap.size + 1) (by simp) ?_; intro gg cap w7 hown7 hgrow hat hlt7; have HGB := Lib.hid (sk_cell hgrow SP.out SF.out SN1.out (by repeat (first | with_reducible exact hb6 | with_reducible refine drew_below ?_ | with_reducible refine al1 ?_ _))); obtain ⟨c7, f7⟩ := HGB.out))
        all_goals
          have HS7 := Lib.hid (SkS.push HZ.out SP.out SF.out SO.out SN1.out SN2.out hwb (by repeat (first | with_reducible exact hb6 | with_reducible refine drew_below ?_ | with_reducible refine al1 ?_ _)) (HX6.out.on (by repeat (first | with_reducible exact Below.refl _ _ | with_reducible refine drew_below ?_ | with_reducible refine al1 ?_ _))) hown7 hgrow (hat.imp_right fun e => by rw [e]; simp))
          have HB7 := Lib.hid (sk_below (Lk := Lk) (x := .slice (some ⟨gg, 0, none⟩) (z + 1) cap) HB.out (by repeat (first | with_reducible exact hb6 | with_reducible refine drew_below ?_ | with_reducible refine al1 ?_ _)) hgrow hsz (by have := HLK.out; omega) SO.out.row (by omega))
          have HR7 : Hid (ResC (w7.setCell ⟨Lk, 0, none⟩ (.slice (some ⟨gg, 0, none⟩) (z + 1) cap)) w.heap.size) := sk_res HR.out (by repeat (first | with_reducible exact hb6 | with_reducible refine drew_below ?_ | with_reducible refine al1 ?_ _)) hgrow SO.out.row (by omega) (by have := HLK.out; omega)
          clear hown7 hgrow hat c7 f7 HGB k6 k6a
          go_wp2_with fail
          go_roundw
          case rel =>
            refine ⟨k + 1, by omega, by go_num, ?_, ?_, ?_⟩
            · show SkS _ _ _ _
              rw [HN.out]
              first | with_reducible exact HS7.out | exact HS7.out
            · first | with_reducible exact HR7 | exact HR7
            · first | with_reducible exact HB7 | (show Below _ _ _; exact drew_below HB7.out)
          case measure => simp [intOf]; omega
      · have hin : (k : Int) ∈ pr := by by_cases h : (k : Int) ∈ pr; exact h; exact absurd h hdim
        have HN := Lib.hid (wthK_no (zz := zz) hin)
        have HHAS : Hid (decide ((k : Int) ∈ pr) = true) := decide_eq_true hin
        clear hdim I1 hl1 c1 hl4 hin
        go_wp2_with (go_at_call 77; refine (l05Has_is HXR.out HHAS.out).mono ?_; rintro e w' ⟨rfl, rfl⟩)
        go_roundw
        case rel => exact ⟨k + 1, by omega, by go_num, by rw [HN.out]; exact HY, HR, by first | exact HB | (show Below _ _ _; exact drew_below HB.out)⟩
        case measure => simp [intOf]; omega
    · obtain rfl : k = zz.length := by omega
      obtain ⟨sv, L, sp, sf, so, sn1, sn2⟩ := HY.out
      obtain ⟨va, vc, rfl⟩ := so.slice
      have SO := Lib.hid so
      have c2 := sp.2
      obtain ⟨⟨_, r2⟩, z2⟩ := HR.out
      clear sp so sn1 sn2 sf
      go_wp2_with fail
      refine bodyPost_ret (v := .agg #[.slice va (wthK zz pr zz.length).length vc]) (by simp [results, Tryd.results56, go_sem, r2]) rfl ⟨_, rfl, OwnRI.mono (OwnRI.setOut (B := w.heap.size + 1) ⟨L, SO.out⟩ (by omega) _) (by omega), HB.out.setCell (p := ⟨w.heap.size, 0, none⟩) (Nat.le_refl _) _⟩
end Go.Proofs.YtibdcejglkhcfaaDoor

namespace Go.Proofs.YtibdcejglkhcfaaDoor
open Go.RowKit
set_option linter.unusedVariables false
set_option linter.unusedSimpArgs false
set_option linter.unusedSectionVars false

set_option maxRecDepth 100000 in
set_option maxHeartbeats 1600000 in
theorem growU_nil (w : World) : Calls Tryd.prog 104 #[.slice none 0 0, .int .i64 0] w fun e w' => ∃ v, e = .returned v ∧ w'.ownsRow w.heap.size 69 1 v 0 [] ∧ Below w.heap.size w w' := by
  go_enter Tryd.func104, Tryd.ntmps104
  go_wp2
  go_ret
  exact ⟨_, rfl, World.ownsRow_nil _ _ _ _, Below.refl _ _⟩
set_option maxRecDepth 100000 in
set_option maxHeartbeats 1600000 in
theorem growU_some (n : Nat) (w : World) (hn : n ≤ 2097152) (h0 : 0 < n) : Calls Tryd.prog 104 #[.slice none 0 0, .int .i64 (n : Int)] w fun e w' => ∃ v, e = .returned v ∧ w'.ownsRow w.heap.size 69 1 v 0 [] ∧ Below w.heap.size w w' := by
  obtain ⟨i0, hi, hz0, hz1, hz2⟩ := info_parts info_u
  have h1 : ¬ ((n : Int) < 0) := by omega
  have h2 : IntKind.i64.wrap (n : Int) = n := IntWalk.i64_in _ (by omega)
  have h3 : (n : Int) > 0 := by omega
  have happ := Lib.run_append_nil_zeros (P := Tryd.prog) w 78 3 78 69 i0 (.int .u16 0) .i64 .i64 Tryd.underlying78 Tryd.underlying3 hi hz0 n h0 (by omega) (by omega) (by rw [hz2]; omega)
  have hge := grownCap_ge w n 0 69
  have hle := grownCap_le_maxLen w n 0 69 (by unfold maxLen; omega)
  obtain ⟨cp, hcp⟩ : ∃ cp, grownCap w n 0 69 = cp := ⟨_, rfl⟩
  rw [hcp] at happ hge hle
  clear hcp
  go_enter Tryd.func104, Tryd.ntmps104
  go_wp2_with (at_builtin; refine Lib.wpList_append_run _ rfl _ _ _ _ rfl _ _ rfl rfl _ _ happ ?_)
  go_ret
  refine ⟨_, rfl, ⟨rfl, .inr ⟨w.heap.size, cp, _, rfl, Nat.le_refl _, heap_alloc_new w.drew _, Nat.zero_le _, hle, ?_, by simp⟩⟩, ⟨rfl, rfl, rfl, by simp, fun k hk => Deep.blk_alloc_lt w.drew _ k hk⟩⟩
  simp only [Array.size_append, size_zeroCells]
  simp; omega
theorem growU_any (n : Nat) (w : World) (hn : n ≤ 2097152) : Calls Tryd.prog 104 #[.slice none 0 0, .int .i64 (n : Int)] w fun e w' => ∃ v, e = .returned v ∧ w'.ownsRow w.heap.size 69 1 v 0 [] ∧ Below w.heap.size w w' := by
  by_cases h0 : n = 0
  · subst h0; exact growU_nil w
  · exact growU_some n w hn (by omega)
theorem flat_take {α : Type} {Ls : List (List α)} {i : Nat} (h : i < Ls.length) : (Ls.take (i + 1)).flatten = (Ls.take i).flatten ++ Ls[i] := by
  rw [List.take_succ_eq_append_getElem h, List.flatten_append]; simp
theorem flat_le {α : Type} {Ls : List (List α)} {i : Nat} : (Ls.take i).flatten.length ≤ Ls.flatten.length := by
  conv => rhs; rw [← List.take_append_drop i Ls, List.flatten_append, List.length_append]
  omega
set_option maxRecDepth 100000 in
set_option maxHeartbeats 3200000 in
theorem concatU_any {us : List Value} {Ls : List (List Value)} {b c : Nat} (w : World) (hb : b < w.heap.size) (hl : us.length = Ls.length) (hn : us.length ≤ 1000) (hc : ∀ i (h : i < us.length), w.cell? ⟨b, i, none⟩ = some us[i]) (hs : ∀ i (h : i < us.length) (h2 : i < Ls.length), SrcAt w us[i] Ls[i]) (ho : ∀ L ∈ Ls, ∀ u ∈ L, u.oneCell' = true) (ht : Ls.flatten.length ≤ 2097152) :
    Calls Tryd.prog 83 #[.slice (some ⟨b, 0, none⟩) us.length c] w fun e w' => ∃ v, e = .returned v ∧ w'.ownsRow w.heap.size 69 1 v Ls.flatten.length Ls.flatten ∧ Below w.heap.size w w' := by
  obtain ⟨i0, hi, hz0, hz1, hz2⟩ := info_parts info_u
  have HC := Lib.hid hc
  have HS := Lib.hid hs
  have HO := Lib.hid ho
  have HT := Lib.hid ht
  have HL := Lib.hid hl
  obtain ⟨n, hnn⟩ : ∃ n, us.length = n := ⟨_, rfl⟩
  have HN := Lib.hid hnn
  rw [hnn] at hn ⊢
  clear hc hs ho ht hl hnn
  go_enter Tryd.func83, Tryd.ntmps83
  go_wp2
  go_loopw [3, 11] (fun s i wr => ∃ k : Nat, k ≤ n ∧ i = .int .i64 (k : Int) ∧ s = .int .i64 ((Ls.take k).flatten.length : Int) ∧ w = wr) (fun _ i _ => n - (intOf i).toNat)
  case atStart => exact ⟨0, Nat.zero_le _, rfl, rfl, rfl⟩
  case round =>
    obtain ⟨k, hk, rfl, rfl, rfl⟩ := hrel
    have k0 : 0 ≤ (k : Int) := by omega
    by_cases hlt : k < n
    · have k1 : (k : Int) < (n : Int) := by omega
      have hu : k < us.length := by have := HN.out; omega
      have hL : k < Ls.length := by have h : us.length = Ls.length := HL.out; omega
      obtain ⟨ax, cx, hx, hlx, -⟩ := HS.out k hu hL
      have c1 := HC.out k hu
      rw [hx] at c1
      have hfl := flat_take hL
      have hle : (Ls.take (k + 1)).flatten.length ≤ 2097152 := Nat.le_trans flat_le HT.out
      have hsum : (Ls.take (k + 1)).flatten.length = (Ls.take k).flatten.length + Ls[k].length := by rw [hfl, List.length_append]
      have HSU := Lib.hid hsum
      generalize Ls[k].length = q at c1 hlx hsum HSU
      obtain ⟨s1, hs1⟩ : ∃ s1, (Ls.take (k + 1)).flatten.length = s1 := ⟨_, rfl⟩
      have HS1 := Lib.hid hs1
      rw [hs1] at hle hsum HSU
      generalize (Ls.take k).flatten.length = s0 at hsum HSU ⊢
      have w1 : IntKind.i64.wrap ((s0 : Int) + (q : Int)) = (s1 : Int) := by rw [show (s0 : Int) + (q : Int) = (s1 : Int) by omega]; exact IntWalk.i64_in _ (by omega)
      have s2 : ¬ ((s1 : Int) < 0) := by omega
      clear hx hfl hsum hs1
      go_wp2
      go_roundw
      case rel => exact ⟨k + 1, by omega, by go_num, by rw [HS1.out], by first | rfl | trivial⟩
      case measure => simp [intOf]; omega
    · obtain rfl : k = n := by omega
      have hall : Ls.take k = Ls := List.take_of_length_le (by have h : us.length = Ls.length := HL.out; have h2 : us.length = k := HN.out; omega)
      rw [hall]
      have hT := HT.out
      obtain ⟨S, hS⟩ : ∃ S, Ls.flatten.length = S := ⟨_, rfl⟩
      have HSS := Lib.hid hS
      rw [hS] at hT ⊢
      clear hall hS
      go_wp2_with fail
      refine (growU_any S _ hT).mono ?_
      rintro e w1 ⟨v0, rfl, hv0, hbw⟩
      have HV0 : Hid (w1.ownsRow w.heap.size 69 1 v0 (Ls.take 0).flatten.length (Ls.take 0).flatten) := hv0
      have HB0 := Lib.hid hbw
      clear hv0 hbw
      go_wp2_with fail
      obtain ⟨kt, hkt⟩ : ∃ kt : Nat, kt = k := ⟨_, rfl⟩
      go_loopw [6, 27] (fun v i wz => ∃ j : Nat, j ≤ k ∧ i = .int .i64 (j : Int) ∧ Hid (Below w.heap.size w wz) ∧ Hid (wz.ownsRow w.heap.size 69 1 v (Ls.take j).flatten.length (Ls.take j).flatten)) (fun _ i _ => k - (intOf i).toNat)
      case atStart => exact ⟨0, Nat.zero_le _, rfl, HB0, HV0⟩
      case round =>
        clear HV0 HB0
        obtain ⟨j, hj, rfl, HB, HV⟩ := hrel
        have j0 : 0 ≤ (j : Int) := by omega
        have hsz := HB.out.size
        by_cases hjl : j < k
        · have j1 : (j : Int) < (k : Int) := by omega
          have hu : j < us.length := by have h : us.length = k := HN.out; omega
          have hL : j < Ls.length := by have h : us.length = Ls.length := HL.out; omega
          have hc1 := HC.out j hu
          have d1 := (HB.out.cell (p := ⟨b, j, none⟩) hb).trans hc1
          have HX := Lib.hid (HS.out j hu hL)
          have HON := Lib.hid (HO.out Ls[j] (List.getElem_mem hL))
          have HFL := Lib.hid (flat_take hL)
          have hle : (Ls.take j).flatten.length ≤ 2097152 := Nat.le_trans flat_le HT.out
          generalize us[j] = uj at d1 HX
          generalize Ls[j] = Lj at HX HON HFL
          clear hc1
          go_wp2_with (at_builtin; go_loud (refine wp_append_src rfl _ _ 78 rfl w.heap.size 69 i0 (.int .u16 0) 2 Tryd.underlying78 hi hz0 hz1 hz2 rfl _ (Ls.take j).flatten.length (Ls.take j).flatten rfl HV.out _ Lj rfl (HX.out.on HB.out) HON.out (by omega) (by omega) hsz ?_; intro v2 w2 hv2 hg2))
          have HV2 : Hid (w2.ownsRow w.heap.size 69 1 v2 (Ls.take (j + 1)).flatten.length (Ls.take (j + 1)).flatten) := by
            show World.ownsRow _ _ _ _ _ _ _
            rw [HFL.out, List.length_append]; exact hv2
          have HB2 := Lib.hid (HB.out.grown hg2 hsz (fun k hk => (HV.out.lt k hk).1))
          clear hv2 hg2 HV HB d1
          go_wp2
          go_roundw
          case rel => exact ⟨j + 1, by omega, by go_num, HB2, HV2⟩
          case measure => simp [intOf]; omega
        · obtain rfl : j = k := by omega
          have hall : Ls.take j = Ls := List.take_of_length_le (by have h : us.length = Ls.length := HL.out; have h2 : us.length = j := HN.out; omega)
          have hvf := HV.out
          rw [hall] at hvf
          have HVF := Lib.hid hvf
          clear hvf
          clear hall
          go_wp2
          go_ret
          exact ⟨_, rfl, by rw [← HSS.out]; exact HVF.out, HB.out⟩
end Go.Proofs.YtibdcejglkhcfaaDoor

namespace Go.Proofs.YtibdcejglkhcfaaDoor
open Go.RowKit
set_option linter.unusedVariables false
set_option linter.unusedSimpArgs false

/-- A list without two places. -/
def cutL {α : Type} (l : List α) (f s : Nat) : List α := l.take f ++ ((l.take s).drop (f + 1) ++ l.drop (s + 1))
theorem uv_one (l : List Nat) : ∀ u ∈ uv l, u.oneCell' = true := fun u hu => by
  obtain ⟨x, _, rfl⟩ := List.mem_map.1 hu; rfl
theorem OwnU.cap {B g n cap : Nat} {w : World} {fs : List Nat} (h : OwnU B w (.slice (some ⟨g, 0, none⟩) n cap) fs) : n = fs.length ∧ n ≤ cap ∧ cap ≤ maxLen := by
  obtain ⟨hx, ⟨h1, hn⟩ | ⟨g', cap', cur, h1, hg, hcur, hn, hm, r⟩⟩ := h
  · cases h1
  · injection h1 with e1 e2 e3
    subst e3
    exact ⟨e2, by omega, hm⟩
theorem src_part {B g n cap o m c : Nat} {w : World} {ms : List Nat} {xs : List Nat} (h : OwnU B w (.slice (some ⟨g, 0, none⟩) n cap) ms) (hm : xs.length = m) (hl : m ≤ 2097152) (hx : ∀ j, j < m → ∃ h : o + j < ms.length, xs[j]? = some ms[o + j]) : SrcAt w (.slice (some ⟨g, o, none⟩) m c) (uv xs) := by
  refine ⟨_, c, by rw [uv, List.length_map, hm], by rw [uv, List.length_map]; omega, .inr ⟨g, o, rfl, .inr (h.out.lt g rfl).2, fun j u hj => ?_⟩⟩
  have hjm : j < m := by
    obtain ⟨hj', _⟩ := List.getElem?_eq_some_iff.1 hj
    rw [uv, List.length_map] at hj'; omega
  obtain ⟨h1, h2⟩ := hx j hjm
  have e : u = .int .u16 (ms[o + j] : Int) := by
    rw [uv, List.getElem?_map, h2] at hj
    simpa using hj.symm
  rw [e]
  exact h.cell h.cap.1 h1
theorem src_none (w : World) (g o c : Nat) : SrcAt w (.slice (some ⟨g, o, none⟩) 0 c) (uv []) :=
  ⟨_, c, rfl, by simp [uv], .inr ⟨g, o, rfl, .inl rfl, fun j u hj => by simp [uv] at hj⟩⟩
theorem row_three (W : World) (a b c : Value) (t : TypeId) (n : Nat) (hn : W.heap.size = n) : ∀ i (h : i < [a, b, c].length), (W.alloc (.cells #[a, b, c] t)).cell? ⟨n, i, none⟩ = some [a, b, c][i] := fun i h => by
  subst hn
  rw [World.cell?_alloc_at _ _ _ _ rfl]
  have h3 : i < 3 := h
  obtain rfl | rfl | rfl : i = 0 ∨ i = 1 ∨ i = 2 := by omega
  all_goals rfl
theorem src_three {w : World} {a b c : Value} {x y z : List Value} (h1 : SrcAt w a x) (h2 : SrcAt w b y) (h3 : SrcAt w c z) : ∀ i (h : i < [a, b, c].length) (h' : i < [x, y, z].length), SrcAt w [a, b, c][i] [x, y, z][i] := fun i h h' => by
  have h3' : i < 3 := h
  obtain rfl | rfl | rfl : i = 0 ∨ i = 1 ∨ i = 2 := by omega
  · exact h1
  · exact h2
  · exact h3
set_option maxRecDepth 100000 in
set_option maxHeartbeats 6400000 in
theorem without_more {B g cap f s : Nat} {ms : List Nat} {w : World} (h : OwnU B w (.slice (some ⟨g, 0, none⟩) ms.length cap) ms) (hfs : f < s) (hs : s < ms.length) (h48 : ms.length ≤ 48) (hc : ¬ cap = s + 1) :
    Calls Tryd.prog 58 #[.slice (some ⟨g, 0, none⟩) ms.length cap, .agg #[.int .i64 (f : Int), .int .i64 (s : Int)]] w fun e w' => RetU (cutL ms f s) w e w' := by
  obtain ⟨_, hlc, hcm⟩ := h.cap
  have HL := Lib.hid h
  have hgb := (h.out.lt g rfl).2
  have q0 : (w.alloc (.cells #[.int .i64 (f : Int), .int .i64 (s : Int)] 82)).cell? ⟨w.heap.size, 0, none⟩ = some (.int .i64 (f : Int)) := by rw [World.cell?_alloc_at _ _ _ _ rfl]; rfl
  have q1 : (w.alloc (.cells #[.int .i64 (f : Int), .int .i64 (s : Int)] 82)).cell? ⟨w.heap.size, 1, none⟩ = some (.int .i64 (s : Int)) := by rw [World.cell?_alloc_at _ _ _ _ rfl]; rfl
  have AL : Hid (Below w.heap.size w (w.alloc (.cells #[.int .i64 (f : Int), .int .i64 (s : Int)] 82))) := al1 (Below.refl _ _) _
  have S1 : Hid (SrcAt w (.slice (some ⟨g, 0, none⟩) f cap) (uv (ms.take f))) := src_part h (by rw [List.length_take]; omega) (by omega) (fun j hj => ⟨by omega, by simp only [Nat.zero_add]; rw [List.getElem?_take_of_lt hj, List.getElem?_eq_getElem (by omega)]⟩)
  have S2 : Hid (SrcAt w (.slice (some ⟨g, f + 1, none⟩) (s - (f + 1)) (cap - (f + 1))) (uv ((ms.take s).drop (f + 1)))) := src_part h (by rw [List.length_drop, List.length_take]; omega) (by omega) (fun j hj => ⟨by omega, by rw [List.getElem?_drop, List.getElem?_take_of_lt (by omega), List.getElem?_eq_getElem (by omega)]⟩)
  have S3 : Hid (SrcAt w (.slice (some ⟨g, s + 1, none⟩) (ms.length - (s + 1)) (cap - (s + 1))) (uv (ms.drop (s + 1)))) := src_part h (by rw [List.length_drop]) (by omega) (fun j hj => ⟨by omega, by rw [List.getElem?_drop, List.getElem?_eq_getElem (by omega)]⟩)
  have f0 : 0 ≤ (f : Int) := by omega
  have s0 : 0 ≤ (s : Int) := by omega
  have fs1 : (f : Int) + 1 ≤ (s : Int) := by omega
  have sl : (s : Int) + 1 ≤ (ms.length : Int) := by omega
  have fl : (f : Int) ≤ (cap : Int) := by omega
  have HON : Hid (∀ L ∈ [uv (ms.take f), uv ((ms.take s).drop (f + 1)), uv (ms.drop (s + 1))], ∀ u ∈ L, u.oneCell' = true) := fun L hL => by
    rcases List.mem_cons.1 hL with rfl | hL
    · exact uv_one _
    rcases List.mem_cons.1 hL with rfl | hL
    · exact uv_one _
    rcases List.mem_cons.1 hL with rfl | hL
    · exact uv_one _
    simp at hL
  have hflat : [uv (ms.take f), uv ((ms.take s).drop (f + 1)), uv (ms.drop (s + 1))].flatten = uv (cutL ms f s) := by simp [uv, cutL]
  have HFT := Lib.hid hflat
  have HFL : Hid ([uv (ms.take f), uv ((ms.take s).drop (f + 1)), uv (ms.drop (s + 1))].flatten.length ≤ 2097152) := by
    show _ ≤ _
    rw [hflat]; simp [uv, cutL]; omega
  have hlen : Hid ((cutL ms f s).length ≤ 2097152) := by show _ ≤ _; simp [cutL]; omega
  have hcl : ms.length ≤ cap := hlc
  have hcx : cap ≤ 9223372036854775807 := hcm
  have hne : ¬ cap = f + 1 := by omega
  have hne2 : ¬ cap - (f + 1) = 0 := by omega
  clear h hcm hlc hflat
  go_enter Tryd.func58, Tryd.ntmps58
  have w1 : IntKind.i64.wrap ((f : Int) + 1) = (f : Int) + 1 := IntWalk.i64_in _ (by omega)
  have w2 : IntKind.i64.wrap ((s : Int) + 1) = (s : Int) + 1 := IntWalk.i64_in _ (by omega)
  have b1 : (0 : Int) ≤ (f : Int) + 1 := by omega
  have b2 : (0 : Int) ≤ (s : Int) + 1 := by omega
  have b3 : (s : Int) ≤ (cap : Int) := by omega
  have b4 : (ms.length : Int) ≤ (cap : Int) := by omega
  go_wp2_with fail
  have hlw : w.heap.size < (w.alloc (.cells #[.int .i64 (f : Int), .int .i64 (s : Int)] 82)).heap.size := by simp
  generalize (w.alloc (.cells #[.int .i64 (f : Int), .int .i64 (s : Int)] 82)) = W1 at q0 q1 AL hlw ⊢
  have hWW : W1.heap.size ≠ w.heap.size := by omega
  go_region_held3 (fun w' => w'.cell? ⟨w.heap.size, 0, none⟩ = some (.int .i64 (f : Int)) ∧ w'.cell? ⟨w.heap.size, 1, none⟩ = some (.int .i64 (s : Int))) (go_keep)
    (first
      | (go_at_call 83; go_loud (refine (concatU_any (us := [.slice (some ⟨g, 0, none⟩) f cap, .slice (some ⟨g, f + 1, none⟩) (s - (f + 1)) (cap - (f + 1)), .slice (some ⟨g, s + 1, none⟩) (ms.length - (s + 1)) (cap - (s + 1))]) (Ls := [uv (ms.take f), uv ((ms.take s).drop (f + 1)), uv (ms.drop (s + 1))]) _ (b := W1.heap.size) (by simp) rfl (by simp) (by first | exact row_three _ _ _ _ _ _ (by simp) | exact fun i h => row_three W1 _ _ _ _ _ rfl i h) (by exact src_three (S1.out.on (by repeat (first | with_reducible exact AL.out | with_reducible refine drew_below ?_ | with_reducible refine al1 ?_ _))) (S2.out.on (by repeat (first | with_reducible exact AL.out | with_reducible refine drew_below ?_ | with_reducible refine al1 ?_ _))) (S3.out.on (by repeat (first | with_reducible exact AL.out | with_reducible refine drew_below ?_ | with_reducible refine al1 ?_ _)))) HON.out HFL.out).mono ?_; rintro e w5 ⟨v5, rfl, ho5, hb5⟩; have hb50 : Below W1.heap.size W1 w5 := (by first | exact up1 hb5 | exact up1 (undrew hb5) | exact undrew (up1 hb5)); have := (hb50.cell (p := ⟨w.heap.size, 0, none⟩) hlw).trans q0; have := (hb50.cell (p := ⟨w.heap.size, 1, none⟩) hlw).trans q1)))
  have hs5 : w.heap.size ≤ W1.heap.size := AL.out.size
  have HO5 : Hid (OwnU w.heap.size w5 v5 (cutL ms f s)) := by
    show World.ownsRow _ _ _ _ _ _ _
    rw [HFT.out] at ho5
    have e : (uv (cutL ms f s)).length = (cutL ms f s).length := List.length_map _
    rw [e] at ho5
    exact OwnU.mono ho5 (by simp; omega)
  have HB5 := Lib.hid (AL.out.trans (hb50.mono AL.out.size))
  clear hb50 hb5 ho5
  go_wp2_with fail
  go_ret
  exact ⟨_, rfl, HO5.out, HB5.out⟩
set_option maxRecDepth 100000 in
set_option maxHeartbeats 6400000 in
theorem without_end {B g cap f s : Nat} {ms : List Nat} {w : World} (h : OwnU B w (.slice (some ⟨g, 0, none⟩) ms.length cap) ms) (hfs : f < s) (hs : s < ms.length) (h48 : ms.length ≤ 48) (hc : cap = s + 1) :
    Calls Tryd.prog 58 #[.slice (some ⟨g, 0, none⟩) ms.length cap, .agg #[.int .i64 (f : Int), .int .i64 (s : Int)]] w fun e w' => RetU (cutL ms f s) w e w' := by
  obtain ⟨_, hlc, hcm⟩ := h.cap
  have HL := Lib.hid h
  have hgb := (h.out.lt g rfl).2
  have q0 : (w.alloc (.cells #[.int .i64 (f : Int), .int .i64 (s : Int)] 82)).cell? ⟨w.heap.size, 0, none⟩ = some (.int .i64 (f : Int)) := by rw [World.cell?_alloc_at _ _ _ _ rfl]; rfl
  have q1 : (w.alloc (.cells #[.int .i64 (f : Int), .int .i64 (s : Int)] 82)).cell? ⟨w.heap.size, 1, none⟩ = some (.int .i64 (s : Int)) := by rw [World.cell?_alloc_at _ _ _ _ rfl]; rfl
  have AL : Hid (Below w.heap.size w (w.alloc (.cells #[.int .i64 (f : Int), .int .i64 (s : Int)] 82))) := al1 (Below.refl _ _) _
  have S1 : Hid (SrcAt w (.slice (some ⟨g, 0, none⟩) f cap) (uv (ms.take f))) := src_part h (by rw [List.length_take]; omega) (by omega) (fun j hj => ⟨by omega, by simp only [Nat.zero_add]; rw [List.getElem?_take_of_lt hj, List.getElem?_eq_getElem (by omega)]⟩)
  have S2 : Hid (SrcAt w (.slice (some ⟨g, f + 1, none⟩) (s - (f + 1)) (cap - (f + 1))) (uv ((ms.take s).drop (f + 1)))) := src_part h (by rw [List.length_drop, List.length_take]; omega) (by omega) (fun j hj => ⟨by omega, by rw [List.getElem?_drop, List.getElem?_take_of_lt (by omega), List.getElem?_eq_getElem (by omega)]⟩)
  have S3 : Hid (SrcAt w (.slice (some ⟨g, 0, none⟩) 0 0) (uv (ms.drop (s + 1)))) := by
    show SrcAt _ _ _
    rw [List.drop_eq_nil_of_le (by omega)]; exact src_none _ _ _ _
  have hz1 : cap - (s + 1) = 0 := by omega
  have hz2 : ms.length - (s + 1) = 0 := by omega
  have hz3 : (cap = s + 1) = True := eq_true hc
  have f0 : 0 ≤ (f : Int) := by omega
  have s0 : 0 ≤ (s : Int) := by omega
  have fs1 : (f : Int) + 1 ≤ (s : Int) := by omega
  have sl : (s : Int) + 1 ≤ (ms.length : Int) := by omega
  have fl : (f : Int) ≤ (cap : Int) := by omega
  have HON : Hid (∀ L ∈ [uv (ms.take f), uv ((ms.take s).drop (f + 1)), uv (ms.drop (s + 1))], ∀ u ∈ L, u.oneCell' = true) := fun L hL => by
    rcases List.mem_cons.1 hL with rfl | hL
    · exact uv_one _
    rcases List.mem_cons.1 hL with rfl | hL
    · exact uv_one _
    rcases List.mem_cons.1 hL with rfl | hL
    · exact uv_one _
    simp at hL
  have hflat : [uv (ms.take f), uv ((ms.take s).drop (f + 1)), uv (ms.drop (s + 1))].flatten = uv (cutL ms f s) := by simp [uv, cutL]
  have HFT := Lib.hid hflat
  have HFL : Hid ([uv (ms.take f), uv ((ms.take s).drop (f + 1)), uv (ms.drop (s + 1))].flatten.length ≤ 2097152) := by
    show _ ≤ _
    rw [hflat]; simp [uv, cutL]; omega
  have hlen : Hid ((cutL ms f s).length ≤ 2097152) := by show _ ≤ _; simp [cutL]; omega
  have hcl : ms.length ≤ cap := hlc
  have hcx : cap ≤ 9223372036854775807 := hcm
  have hne : ¬ cap = f + 1 := by omega
  have hne2 : ¬ cap - (f + 1) = 0 := by omega
  clear h hcm hlc hflat hc
  go_enter Tryd.func58, Tryd.ntmps58
  have w1 : IntKind.i64.wrap ((f : Int) + 1) = (f : Int) + 1 := IntWalk.i64_in _ (by omega)
  have w2 : IntKind.i64.wrap ((s : Int) + 1) = (s : Int) + 1 := IntWalk.i64_in _ (by omega)
  have b1 : (0 : Int) ≤ (f : Int) + 1 := by omega
  have b2 : (0 : Int) ≤ (s : Int) + 1 := by omega
  have b3 : (s : Int) ≤ (cap : Int) := by omega
  have b4 : (ms.length : Int) ≤ (cap : Int) := by omega
  go_wp2_with fail
  have hlw : w.heap.size < (w.alloc (.cells #[.int .i64 (f : Int), .int .i64 (s : Int)] 82)).heap.size := by simp
  generalize (w.alloc (.cells #[.int .i64 (f : Int), .int .i64 (s : Int)] 82)) = W1 at q0 q1 AL hlw ⊢
  have hWW : W1.heap.size ≠ w.heap.size := by omega
  go_region_held3 (fun w' => w'.cell? ⟨w.heap.size, 0, none⟩ = some (.int .i64 (f : Int)) ∧ w'.cell? ⟨w.heap.size, 1, none⟩ = some (.int .i64 (s : Int))) (go_keep)
    (first
      | (go_at_call 83; go_loud (refine (concatU_any (us := [.slice (some ⟨g, 0, none⟩) f cap, .slice (some ⟨g, f + 1, none⟩) (s - (f + 1)) (cap - (f + 1)), .slice (some ⟨g, 0, none⟩) 0 0]) (Ls := [uv (ms.take f), uv ((ms.take s).drop (f + 1)), uv (ms.drop (s + 1))]) _ (b := W1.heap.size) (by simp) rfl (by simp) (by first | exact row_three _ _ _ _ _ _ (by simp) | exact fun i h => row_three W1 _ _ _ _ _ rfl i h) (by exact src_three (S1.out.on (by repeat (first | with_reducible exact AL.out | with_reducible refine drew_below ?_ | with_reducible refine al1 ?_ _))) (S2.out.on (by repeat (first | with_reducible exact AL.out | with_reducible refine drew_below ?_ | with_reducible refine al1 ?_ _))) (S3.out.on (by repeat (first | with_reducible exact AL.out | with_reducible refine drew_below ?_ | with_reducible refine al1 ?_ _)))) HON.out HFL.out).mono ?_; rintro e w5 ⟨v5, rfl, ho5, hb5⟩; have hb50 : Below W1.heap.size W1 w5 := (by first | exact up1 hb5 | exact up1 (undrew hb5) | exact undrew (up1 hb5)); have := (hb50.cell (p := ⟨w.heap.size, 0, none⟩) hlw).trans q0; have := (hb50.cell (p := ⟨w.heap.size, 1, none⟩) hlw).trans q1)))
  have hs5 : w.heap.size ≤ W1.heap.size := AL.out.size
  have HO5 : Hid (OwnU w.heap.size w5 v5 (cutL ms f s)) := by
    show World.ownsRow _ _ _ _ _ _ _
    rw [HFT.out] at ho5
    have e : (uv (cutL ms f s)).length = (cutL ms f s).length := List.length_map _
    rw [e] at ho5
    exact OwnU.mono ho5 (by simp; omega)
  have HB5 := Lib.hid (AL.out.trans (hb50.mono AL.out.size))
  clear hb50 hb5 ho5
  go_wp2_with fail
  go_ret
  exact ⟨_, rfl, HO5.out, HB5.out⟩
theorem without_any {B g cap f s : Nat} {ms : List Nat} {w : World} (h : OwnU B w (.slice (some ⟨g, 0, none⟩) ms.length cap) ms) (hfs : f < s) (hs : s < ms.length) (h48 : ms.length ≤ 48) :
    Calls Tryd.prog 58 #[.slice (some ⟨g, 0, none⟩) ms.length cap, .agg #[.int .i64 (f : Int), .int .i64 (s : Int)]] w fun e w' => RetU (cutL ms f s) w e w' := by
  by_cases hc : cap = s + 1
  · exact without_end h hfs hs h48 hc
  · exact without_more h hfs hs h48 hc
theorem cutL_map {α β : Type} (g : α → β) (l : List α) (f s : Nat) : (cutL l f s).map g = cutL (l.map g) f s := by simp [cutL, List.map_take, List.map_drop]
end Go.Proofs.YtibdcejglkhcfaaDoor

namespace Go.Proofs.YtibdcejglkhcfaaDoor
open Go.RowKit
set_option linter.unusedVariables false
set_option linter.unusedSimpArgs false

theorem wth_cut {zz : List (List Int)} {f s : Nat} (hfs : f < s) (hs : s < zz.length) : ∀ k, k ≤ zz.length → wthK zz [(f : Int), (s : Int)] k = cutL (zz.take k) f s
  | 0, _ => by simp [wthK, cutL]
  | k + 1, hk => by
    have hk' : k < zz.length := hk
    have ih := wth_cut hfs hs k (by omega)
    have hl : (zz.take k).length = k := by rw [List.length_take]; omega
    rw [List.take_succ_eq_append_getElem hk']
    by_cases hm : (k : Int) ∈ [(f : Int), (s : Int)]
    · rw [wthK_no hm, ih]
      have hks : k = f ∨ k = s := by simp at hm; omega
      unfold cutL
      rcases hks with rfl | rfl
      · have g1 : (zz.take k ++ [zz[k]]).take k = zz.take k := List.take_left' hl
        have g2 : (zz.take k ++ [zz[k]]).take s = zz.take k ++ [zz[k]] := List.take_of_length_le (by simp; omega)
        have g3 : (zz.take k ++ [zz[k]]).drop (k + 1) = [] := List.drop_eq_nil_of_le (by simp; omega)
        have g4 : (zz.take k ++ [zz[k]]).drop (s + 1) = [] := List.drop_eq_nil_of_le (by simp; omega)
        have e1 : (zz.take k).take k = zz.take k := List.take_of_length_le (by omega)
        have e2 : (zz.take k).take s = zz.take k := List.take_of_length_le (by omega)
        have e3 : (zz.take k).drop (k + 1) = [] := List.drop_eq_nil_of_le (by omega)
        have e4 : (zz.take k).drop (s + 1) = [] := List.drop_eq_nil_of_le (by omega)
        rw [g1, g2, g3, g4, e1, e2, e3, e4]
      · have g1 : (zz.take k ++ [zz[k]]).take f = (zz.take k).take f := List.take_append_of_le_length (by omega)
        have g2 : (zz.take k ++ [zz[k]]).take k = zz.take k := List.take_left' hl
        have g4 : (zz.take k ++ [zz[k]]).drop (k + 1) = [] := List.drop_eq_nil_of_le (by simp; omega)
        have e2 : (zz.take k).take k = zz.take k := List.take_of_length_le (by omega)
        have e4 : (zz.take k).drop (k + 1) = [] := List.drop_eq_nil_of_le (by omega)
        rw [g1, g2, g4, e2, e4]
    · rw [wthK_yes hk' hm, ih]
      have hkf : k ≠ f := by intro e; apply hm; simp [e]
      have hks : k ≠ s := by intro e; apply hm; simp [e]
      unfold cutL
      rw [List.take_append, List.take_append, List.drop_append, List.drop_append]
      rcases Nat.lt_or_ge k f with h | h
      · have e1 : (zz.take k).take f = zz.take k := List.take_of_length_le (by omega)
        have e2 : (zz.take k).take s = zz.take k := List.take_of_length_le (by omega)
        have e3 : (zz.take k).drop (f + 1) = [] := List.drop_eq_nil_of_le (by omega)
        have e4 : (zz.take k).drop (s + 1) = [] := List.drop_eq_nil_of_le (by omega)
        have a1 : [zz[k]].take (f - (zz.take k).length) = [zz[k]] := List.take_of_length_le (by simp; omega)
        have a2 : [zz[k]].drop (s + 1 - (zz.take k).length) = [] := List.drop_eq_nil_of_le (by simp; omega)
        have a3 : ([zz[k]].take (s - (zz.take k).length)).drop (f + 1 - (zz.take k).length) = [] := List.drop_eq_nil_of_le (by simp; omega)
        rw [e1, e2, e3, e4, a1, a2, a3]; simp
      · rcases Nat.lt_or_ge k s with h2 | h2
        · have e2 : (zz.take k).take s = zz.take k := List.take_of_length_le (by omega)
          have e4 : (zz.take k).drop (s + 1) = [] := List.drop_eq_nil_of_le (by omega)
          have a0 : f - (zz.take k).length = 0 := by omega
          have a1 : [zz[k]].take (s - (zz.take k).length) = [zz[k]] := List.take_of_length_le (by simp; omega)
          have a2 : [zz[k]].drop (s + 1 - (zz.take k).length) = [] := List.drop_eq_nil_of_le (by simp; omega)
          have a3 : f + 1 - (zz.take k).length = 0 := by omega
          rw [e2, e4, a0, a1, a2, a3]; simp
        · have a0 : f - (zz.take k).length = 0 := by omega
          have a1 : s - (zz.take k).length = 0 := by omega
          have a2 : s + 1 - (zz.take k).length = 0 := by omega
          rw [a0, a1, a2]; simp
theorem wth_all {zz : List (List Int)} {f s : Nat} (hfs : f < s) (hs : s < zz.length) : wthK zz [(f : Int), (s : Int)] zz.length = cutL zz f s := by
  rw [wth_cut hfs hs _ (Nat.le_refl _), List.take_length]
theorem wth_sub (zz : List (List Int)) (pr : List Int) : (wthK zz pr zz.length).Sublist zz := by
  have h : (List.range zz.length).map (fun i => zz.getD i []) = zz := by
    apply List.ext_getElem
    · simp
    · intro i h1 h2; simp [List.getD, h2]
  have h2 : (wthK zz pr zz.length).Sublist ((List.range zz.length).map (fun i => zz.getD i [])) := List.Sublist.map _ List.filter_sublist
  rwa [h] at h2
theorem mem_wth {zz : List (List Int)} {pr : List Int} {x : List Int} : x ∈ wthK zz pr zz.length ↔ ∃ i : Nat, ∃ h : i < zz.length, (i : Int) ∉ pr ∧ zz[i] = x := by
  unfold wthK
  simp only [List.mem_map, List.mem_filter, List.mem_range, Bool.not_eq_true', decide_eq_false_iff_not]
  constructor
  · rintro ⟨i, ⟨h1, h2⟩, rfl⟩
    exact ⟨i, h1, h2, by simp [List.getD, h1]⟩
  · rintro ⟨i, h1, h2, rfl⟩
    exact ⟨i, ⟨h1, h2⟩, by simp [List.getD, h1]⟩
theorem gt_mem {zz : List (List Int)} {s : List Int} {k m i : Nat} (h : k < i) (hi : i < m) (hm : m ≤ zz.length) (hp : parB s (zz[i]'(by omega)) = true) : i ∈ gtK zz s k m := by
  unfold gtK
  rw [List.mem_filter, List.mem_range, Bool.and_eq_true, decide_eq_true_eq]
  refine ⟨hi, h, ?_⟩
  rw [List.getD_eq_getElem?_getD, List.getElem?_eq_getElem (by omega), Option.getD_some]; exact hp
theorem mem_gtp {zz : List (List Int)} {s : List Int} {k m i : Nat} (h : i ∈ gtK zz s k m) (hi : i < zz.length) : parB s zz[i] = true := by
  unfold gtK at h
  rw [List.mem_filter, Bool.and_eq_true] at h
  have := h.2.2
  rwa [List.getD_eq_getElem?_getD, List.getElem?_eq_getElem hi, Option.getD_some] at this
/-- A part of a simplex that is not the simplex stands before it. -/
theorem par_lt {zz : List (List Int)} (ho : OkC zz) {i k : Nat} (hi : i < zz.length) (hk : k < zz.length) (h : parB zz[k] zz[i] = true) : k = i ∨ k < i := by
  rcases Nat.lt_trichotomy i k with g | g | g
  · rw [par_before ho g hk] at h; cases h
  · exact .inl g.symm
  · exact .inr g
theorem par_trans {a b c : List Int} (h1 : parB a b = true) (h2 : parB b c = true) : parB a c = true := by
  rw [parB_iff] at *
  exact fun v hv => h2 v (h1 v hv)
theorem wth_ok {zz : List (List Int)} (ho : OkC zz) {f s : Nat} (hf : f < zz.length) (hg : gtK zz zz[f] f zz.length = [s]) : OkC (wthK zz [(f : Int), (s : Int)] zz.length) := by
  have hsub := wth_sub zz [(f : Int), (s : Int)]
  have hsm : s ∈ gtK zz zz[f] f zz.length := by rw [hg]; simp
  obtain ⟨hfs, hsl⟩ := mem_gtK hsm
  have hps := mem_gtp hsm hsl
  refine ⟨⟨List.Pairwise.sublist hsub ho.1.ord, fun z hz => ho.1.sim z (hsub.subset hz), fun z hz x hx => ?_⟩, Nat.le_trans hsub.length_le ho.2⟩
  obtain ⟨i, hi, hni, rfl⟩ := mem_wth.1 hz
  have hxz := ho.1.clo _ (hsub.subset hz) x hx
  obtain ⟨j, hj, rfl⟩ := List.getElem_of_mem hxz
  have hji : parB zz[j] zz[i] = true := parB_iff.2 fun v hv => hx.2.subset hv
  have hnf : i ≠ f := fun e => hni (by simp [e])
  have hns : i ≠ s := fun e => hni (by simp [e])
  have key : parB zz[f] zz[i] = true → False := fun h => by
    rcases par_lt ho hi hf h with e | e
    · exact hnf e.symm
    · have := gt_mem e hi (Nat.le_refl _) h
      rw [hg] at this
      simp at this
      exact hns this
  refine mem_wth.2 ⟨j, hj, fun hm => ?_, rfl⟩
  simp at hm
  rcases hm with e | e
  · have : j = f := by omega
    subst this; exact key hji
  · have : j = s := by omega
    subst this; exact key (par_trans hps hji)
theorem wth_len {zz : List (List Int)} {f s : Nat} (hfs : f < s) (hs : s < zz.length) : (wthK zz [(f : Int), (s : Int)] zz.length).length + 2 = zz.length := by
  rw [wth_all hfs hs]; simp [cutL]; omega
/-- Of the sets of a complex complexOf makes the complex. -/
theorem cx_same {zz yy : List (List Int)} (ho : OkC zz) (hp : yy.Perm ((zz.map maskOf).map vertsOf)) (hs : ∀ i j (hi : i < yy.length) (hj : j < yy.length), i < j → befB yy[j] yy[i] = false) : yy = zz := by
  have e : (zz.map maskOf).map vertsOf = zz := by
    rw [List.map_map]
    conv => rhs; rw [← List.map_id zz]
    exact List.map_congr_left fun z hz => (ho.1.sim z hz).verts
  rw [e] at hp
  have hn : zz.Nodup := ho.1.ord.imp fun {a b} h e => by subst e; rw [befB_irr] at h; cases h
  exact (sorted_ord (hp.nodup_iff.2 hn) hs).ext ho.1.ord fun x => hp.mem_iff
theorem okC_masks {zz : List (List Int)} (ho : OkC zz) : ∀ m ∈ zz.map maskOf, m < 1024 ∧ m ≠ 0 := fun m hm => by
  obtain ⟨z, hz, rfl⟩ := List.mem_map.1 hm
  have hs := ho.1.sim z hz
  refine ⟨maskOf_lt z (fun v hv => hs.bd v hv), fun e => ?_⟩
  have h1 := hs.verts
  rw [e] at h1
  have h2 : vertsOf 0 = [] := by decide
  rw [h2] at h1
  have := hs.pos
  rw [← h1] at this
  simp at this
end Go.Proofs.YtibdcejglkhcfaaDoor

namespace Go.Proofs.YtibdcejglkhcfaaDoor
open Go.RowKit
set_option linter.unusedVariables false
set_option linter.unusedSimpArgs false

def CpIs (zz : List (List Int)) (k : Int) (yy : List (List Int)) (c : Int) : Prop :=
  (∃ c1, c1 ≠ 0 ∧ AskIs zz k c1 ∧ yy = [] ∧ c = c1) ∨ (AskIs zz k 0 ∧ ∃ f : Nat, ∃ h : f < zz.length, k = (f : Int) ∧ (((gtK zz zz[f] f zz.length).length ≠ 1 ∧ yy = [] ∧ c = 6) ∨ ∃ s, gtK zz zz[f] f zz.length = [s] ∧ yy = wthK zz [(f : Int), (s : Int)] zz.length ∧ c = 0))
theorem ask_has (zz : List (List Int)) (k : Int) : ∃ c, AskIs zz k c := by
  by_cases h : OkC zz
  · by_cases h1 : 0 ≤ k ∧ k ≤ (zz.length : Int) - 1
    · exact ⟨_, .inr (.inr ⟨h, h1, rfl⟩)⟩
    · exact ⟨_, .inr (.inl ⟨h, h1, rfl⟩)⟩
  · exact ⟨_, .inl ⟨h, rfl⟩⟩
theorem ask_zero {zz : List (List Int)} {k : Int} (h : AskIs zz k 0) : OkC zz ∧ 0 ≤ k ∧ k ≤ (zz.length : Int) - 1 := by
  rcases h with ⟨_, h⟩ | ⟨_, _, h⟩ | ⟨h1, h2, _⟩
  · cases h
  · cases h
  · exact ⟨h1, h2⟩
theorem cp_has (zz : List (List Int)) (k : Int) : ∃ yy c, CpIs zz k yy c := by
  obtain ⟨c1, h1⟩ := ask_has zz k
  by_cases h0 : c1 = 0
  · subst h0
    obtain ⟨_, hr⟩ := ask_zero h1
    have hf : k.toNat < zz.length := by omega
    have hk : k = (k.toNat : Int) := by omega
    by_cases h : (gtK zz zz[k.toNat] k.toNat zz.length).length = 1
    · obtain ⟨s, hs⟩ : ∃ s, gtK zz zz[k.toNat] k.toNat zz.length = [s] := by
        match gtK zz zz[k.toNat] k.toNat zz.length, h with
        | [s], _ => exact ⟨s, rfl⟩
      exact ⟨_, _, .inr ⟨h1, _, hf, hk, .inr ⟨s, hs, rfl, rfl⟩⟩⟩
    · exact ⟨_, _, .inr ⟨h1, _, hf, hk, .inl ⟨h, rfl, rfl⟩⟩⟩
  · exact ⟨_, _, .inl ⟨c1, h0, h1, rfl, rfl⟩⟩
theorem okC_fit {zz : List (List Int)} (h : OkC zz) : FitR zz := h.fit
theorem CpIs.fit {zz : List (List Int)} {k : Int} {yy : List (List Int)} {c : Int} (h : CpIs zz k yy c) : FitR yy := by
  rcases h with ⟨_, _, _, rfl, _⟩ | ⟨ha, f, hf, _, ⟨_, rfl, _⟩ | ⟨s, hs, rfl, _⟩⟩
  · exact ⟨by simp, by simp [tot]⟩
  · exact ⟨by simp, by simp [tot]⟩
  · exact okC_fit (wth_ok (ask_zero ha).1 hf hs)
set_option maxRecDepth 100000 in
set_option maxHeartbeats 12800000 in
theorem specCP_is {u : Value} {zz : List (List Int)} {k : Int} {yy : List (List Int)} {c : Int} {w : World} (hu : RowsQ w u zz) (h : CpIs zz k yy c) :
    Calls Tryd.prog 29 #[.agg #[u], .int .i64 k] w fun e w' => RetClo yy c w e w' := by
  have HU := Lib.hid hu
  obtain ⟨a, cp, rfl, hl, k1⟩ := hu
  have hW1 : Below w.heap.size w ((w.alloc (.cells #[.slice a zz.length cp] 28)).alloc (.cells #[.slice none 0 0] 28)) := al1 ((Below.refl _ w).alloc (Nat.le_refl _) _) _
  have hP1 : PtC ((w.alloc (.cells #[.slice a zz.length cp] 28)).alloc (.cells #[.slice none 0 0] 28)) w.heap.size (.slice a zz.length cp) := PtC.new1 w _ _ _
  have hR1 := ResC.new (w.alloc (.cells #[.slice a zz.length cp] 28))
  rw [World.size_alloc] at hR1
  have hU1 := HU.out.on hW1
  obtain ⟨LR, hLR⟩ : ∃ LR, w.heap.size + 1 = LR := ⟨_, rfl⟩
  rw [hLR] at hR1
  have hlr : w.heap.size < LR := by omega
  have HLR := Lib.hid hLR
  clear k1 hLR
  rcases h with ⟨c1, h0, ha, rfl, rfl⟩ | ⟨ha, f, hf, rfl, h⟩
  · have HA := Lib.hid ha
    have en : (c != 0) = true := by simpa using h0
    clear h0 ha
    go_enter Tryd.func29, Tryd.ntmps29
    go_wp2_with fail
    rw [HLR.out]
    generalize (w.alloc (.cells #[.slice a zz.length cp] 28)).alloc (.cells #[.slice none 0 0] 28) = W1 at hW1 hP1 hR1 hU1 ⊢
    have AL := Lib.hid hW1
    have P1 := Lib.hid hP1
    have R1 := Lib.hid hR1
    have U1 := Lib.hid hU1
    clear hW1 hP1 hR1 hU1
    refine (l05Ask_is P1.out U1.out HA.out).mono ?_
    rintro e w2 ⟨rfl, hb2⟩
    obtain ⟨⟨_, r2⟩, z2⟩ := R1.out.on hb2
    have R2 := Lib.hid (R1.out.on hb2)
    have P2 := Lib.hid (P1.out.on hb2)
    have U2 := Lib.hid (U1.out.on hb2)
    have HB2 := Lib.hid (AL.out.trans (hb2.mono AL.out.size))
    clear hb2
    go_wp2_with fail
    refine bodyPost_ret (v := .tuple #[.agg #[.slice none 0 0], .int .i64 c]) (by simp [results, Tryd.results29, go_sem, r2]) rfl ⟨_, rfl, OwnRI.nul _ _, HB2.out.setCell (p := ⟨LR, 0, none⟩) (Nat.le_of_lt hlr) _⟩
  · have HA := Lib.hid ha
    obtain ⟨ho, hr⟩ := ask_zero ha
    have HO := Lib.hid ho
    have h48 := ho.2
    have HST := Lib.hid (sta_gt ho hf)
    have f0 : 0 ≤ (f : Int) := by omega
    have f1 : (f : Int) < (zz.length : Int) := by omega
    clear ha ho hr
    go_enter Tryd.func29, Tryd.ntmps29
    go_wp2_with fail
    rw [HLR.out]
    generalize (w.alloc (.cells #[.slice a zz.length cp] 28)).alloc (.cells #[.slice none 0 0] 28) = W1 at hW1 hP1 hR1 hU1 ⊢
    have AL := Lib.hid hW1
    have P1 := Lib.hid hP1
    have R1 := Lib.hid hR1
    have U1 := Lib.hid hU1
    clear hW1 hP1 hR1 hU1
    refine (l05Ask_is P1.out U1.out HA.out).mono ?_
    rintro e w2 ⟨rfl, hb2⟩
    obtain ⟨⟨_, r2⟩, z2⟩ := R1.out.on hb2
    have R2 := Lib.hid (R1.out.on hb2)
    have P2 := Lib.hid (P1.out.on hb2)
    have U2 := Lib.hid (U1.out.on hb2)
    have HB2 := Lib.hid (AL.out.trans (hb2.mono AL.out.size))
    clear hb2
    have HU2 := Lib.hid U2.out
    obtain ⟨ra, rca, e, hlz, k2⟩ := U2.out
    injection e with e1 _ e3
    subst e1 e3
    obtain ⟨rb, ro, y, rfl, hrb, c1, i1⟩ := k2 f hf
    obtain ⟨ya, yc, rfl⟩ := i1.1.slice
    have p2 := P2.out.2
    obtain ⟨t, ht⟩ : ∃ t, zz[f] = t := ⟨_, rfl⟩
    have c1w : w2.cell? ⟨rb, ro + f, none⟩ = some (.slice ya t.length yc) := by rw [← ht]; exact c1
    have I1 : Hid (IntsC w2 (.slice ya t.length yc) t) := by rw [← ht]; exact i1
    have HT := Lib.hid ht
    clear k2 i1 ht c1
    go_wp2_with fail
    refine (l05Star_any P2.out HU2.out.rows I1.out.1 HO.out).mono ?_
    rintro e w4 ⟨v4, rfl, ho4, hb4⟩
    obtain ⟨⟨_, r4⟩, z4⟩ := R2.out.on hb4
    have R4 := Lib.hid (R2.out.on hb4)
    have P4 := Lib.hid (P2.out.on hb4)
    have U4 := Lib.hid (HU2.out.on hb4)
    have HB4 := Lib.hid (HB2.out.trans (hb4.mono HB2.out.size))
    rw [← HT.out] at ho4
    have ho4w : OwnI w2.heap.size w4 v4 ((f : Int) :: (gtK zz zz[f] f zz.length).map fun (i : Nat) => (i : Int)) := by rw [← HST.out]; exact ho4
    clear ho4
    rcases h with ⟨hg, rfl, rfl⟩ | ⟨s, hg, rfl, rfl⟩
    · have he2 : ((((f : Int) :: (gtK zz zz[f] f zz.length).map fun (i : Nat) => (i : Int)).length : Int) != 2) = true := by
        rw [bne_iff_ne]; simp; omega
      obtain ⟨va, vc, rfl⟩ := ho4w.slice
      generalize ((f : Int) :: (gtK zz zz[f] f zz.length).map fun (i : Nat) => (i : Int)).length = n5 at he2
      clear ho4w hb4 c1w hg r2 z2
      go_wp2_with fail
      refine bodyPost_ret (v := .tuple #[.agg #[.slice none 0 0], .int .i64 6]) (by simp [results, Tryd.results29, go_sem, r4]) rfl ⟨_, rfl, OwnRI.nul _ _, HB4.out.setCell (p := ⟨LR, 0, none⟩) (Nat.le_of_lt hlr) _⟩
    · have ho4x : OwnI w2.heap.size w4 v4 [(f : Int), (s : Int)] := by
        have h := ho4w
        rw [hg] at h; exact h
      have HX4 : Hid (IntsAt w4 v4 [(f : Int), (s : Int)]) := ho4x.at (by simp)
      obtain ⟨va, vc, rfl⟩ := ho4x.slice
      simp only [List.map_cons, List.map_nil, List.length_cons, List.length_nil, Nat.zero_add, Nat.reduceAdd] at HX4 ⊢
      clear ho4w ho4x hb4 c1w hg r2 z2
      go_wp2_with fail
      refine (l08Without_any P4.out U4.out HX4.out HO.out).mono ?_
      rintro e w5 ⟨v5, rfl, ho5, hb5⟩
      obtain ⟨wa, wc, rfl⟩ := ho5.slice
      have HO5 := Lib.hid ho5
      have HB5 := Lib.hid (HB4.out.trans (hb5.mono HB4.out.size))
      obtain ⟨⟨_, r5⟩, z5⟩ := R4.out.on hb5
      have hlw : LR < w4.heap.size := R4.out.1.1
      clear ho5 hb5 r4 z4
      go_wp2_with fail
      refine bodyPost_ret (v := .tuple #[.agg #[.slice wa (wthK zz [(f : Int), (s : Int)] zz.length).length wc], .int .i64 0]) (by simp [results, Tryd.results29, go_sem, r5]) rfl ⟨_, rfl, OwnRI.mono (OwnRI.setOut HO5.out hlw _) HB4.out.size, HB5.out.setCell (p := ⟨LR, 0, none⟩) (Nat.le_of_lt hlr) _⟩
end Go.Proofs.YtibdcejglkhcfaaDoor

namespace Go.Proofs.YtibdcejglkhcfaaDoor
open Go.RowKit
set_option linter.unusedVariables false
set_option linter.unusedSimpArgs false

theorem mem_frP {zz : List (List Int)} {k : Nat} {p : Nat × Nat} (h : p ∈ frP zz k) : p.1 = k ∧ gtK zz (zz.getD k []) k zz.length = [p.2] := by
  unfold frP at h
  split at h
  · rename_i j e
    rw [List.mem_singleton] at h
    subst h
    exact ⟨rfl, e⟩
  · simp at h
theorem mem_frK {zz : List (List Int)} {m : Nat} {p : Nat × Nat} (h : p ∈ frK zz m) : p.1 < m ∧ gtK zz (zz.getD p.1 []) p.1 zz.length = [p.2] := by
  unfold frK at h
  rw [List.mem_flatMap] at h
  obtain ⟨k, hk, hp⟩ := h
  obtain ⟨e1, e2⟩ := mem_frP hp
  rw [List.mem_range] at hk
  rw [e1]; exact ⟨hk, e2⟩
theorem frK_has {zz : List (List Int)} {f s : Nat} (hf : f < zz.length) (h : gtK zz zz[f] f zz.length = [s]) : (f, s) ∈ frK zz zz.length := by
  unfold frK
  rw [List.mem_flatMap]
  exact ⟨f, List.mem_range.2 hf, by rw [frP_yes hf h]; simp⟩
theorem frK_at {zz : List (List Int)} {i : Nat} (hi : i < (frK zz zz.length).length) : ∃ h : (frK zz zz.length)[i].1 < zz.length, gtK zz (zz[(frK zz zz.length)[i].1]'h) (frK zz zz.length)[i].1 zz.length = [(frK zz zz.length)[i].2] := by
  obtain ⟨h1, h2⟩ := mem_frK (List.getElem_mem hi)
  refine ⟨h1, ?_⟩
  rwa [List.getD_eq_getElem?_getD, List.getElem?_eq_getElem h1, Option.getD_some] at h2
def RetCxO (yy : List (List Int)) (w : World) (e : Ending) (w' : World) : Prop := ∃ v, e = .returned (.tuple #[.agg #[v], .int .i64 0]) ∧ OwnRI w.heap.size w' v yy ∧ Below w.heap.size w w'
theorem cxO_any {B : Nat} {v : Value} {yy : List (List Int)} {w : World} (ho : OkC yy) (h : OwnU B w v (yy.map maskOf)) (hTz : Tz w) :
    Calls Tryd.prog 57 #[v] w fun e w' => RetCxO yy w e w' := by
  have hl : (yy.map maskOf).length ≤ 48 := by rw [List.length_map]; exact ho.2
  refine (complexOf_any h (okC_masks ho) (by omega) hTz).mono ?_
  rintro e w' ⟨v', z, c, rfl, h1, h2, ⟨h3, _⟩ | ⟨_, rfl, hp, hs⟩⟩
  · omega
  · exact ⟨v', rfl, by rw [← cx_same ho hp hs]; exact h1, h2⟩
theorem wthO_any {B f s : Nat} {v : Value} {zz : List (List Int)} {w : World} (ho : OkC zz) (hf : f < zz.length) (hg : gtK zz zz[f] f zz.length = [s]) (h : OwnU B w v (zz.map maskOf)) :
    Calls Tryd.prog 58 #[v, .agg #[.int .i64 (f : Int), .int .i64 (s : Int)]] w fun e w' => RetU ((wthK zz [(f : Int), (s : Int)] zz.length).map maskOf) w e w' := by
  obtain ⟨hfs, hs⟩ := mem_gtK (i := s) (by rw [hg]; simp)
  have hl : (zz.map maskOf).length = zz.length := List.length_map _
  obtain ⟨g, cap, rfl, _⟩ := h.at1 (by omega)
  rw [wth_all hfs hs, cutL_map]
  exact without_any h hfs (by omega) (by have := ho.2; omega)
set_option maxRecDepth 100000 in
set_option maxHeartbeats 12800000 in
theorem implCP_is {u : Value} {zz : List (List Int)} {k : Int} {yy : List (List Int)} {c : Int} {w : World} (hu : RowsAt w u zz) (h : CpIs zz k yy c) (hTz : Tz w) :
    Calls Tryd.prog 30 #[.agg #[u], .int .i64 k] w fun e w' => RetClo yy c w e w' := by
  have HU := Lib.hid hu
  obtain ⟨a, cp, rfl⟩ := hu.slice
  have hW1 : Below w.heap.size w ((w.alloc (.cells #[.slice a zz.length cp] 28)).alloc (.cells #[.slice none 0 0] 28)) := al1 ((Below.refl _ w).alloc (Nat.le_refl _) _) _
  have hP1 : PtC ((w.alloc (.cells #[.slice a zz.length cp] 28)).alloc (.cells #[.slice none 0 0] 28)) w.heap.size (.slice a zz.length cp) := PtC.new1 w _ _ _
  have hR1 := ResC.new (w.alloc (.cells #[.slice a zz.length cp] 28))
  rw [World.size_alloc] at hR1
  have hU1 := HU.out.on hW1
  have hT1 := hTz.on hW1
  obtain ⟨LR, hLR⟩ : ∃ LR, w.heap.size + 1 = LR := ⟨_, rfl⟩
  rw [hLR] at hR1
  have hlr : w.heap.size < LR := by omega
  have HLR := Lib.hid hLR
  have p1 := hP1.2
  clear hLR hu hTz
  rcases h with ⟨c1, h0, ha, rfl, rfl⟩ | ⟨ha, f, hf, rfl, h⟩
  · have HA := Lib.hid ha
    have en : (c != 0) = true := by simpa using h0
    clear h0 ha
    go_enter Tryd.func30, Tryd.ntmps30
    go_wp2_with fail
    rw [HLR.out]
    generalize (w.alloc (.cells #[.slice a zz.length cp] 28)).alloc (.cells #[.slice none 0 0] 28) = W1 at hW1 hP1 hR1 hU1 hT1 p1 ⊢
    have AL := Lib.hid hW1
    have P1 := Lib.hid hP1
    have R1 := Lib.hid hR1
    have U1 := Lib.hid hU1
    have T1 := Lib.hid hT1
    clear hW1 hP1 hR1 hU1 hT1 p1
    refine (indexCode_is U1.out HA.out T1.out).mono ?_
    rintro e w2 ⟨rfl, hb2⟩
    obtain ⟨⟨_, r2⟩, z2⟩ := R1.out.on hb2
    have R2 := Lib.hid (R1.out.on hb2)
    have P2 := Lib.hid (P1.out.on hb2)
    have U2 := Lib.hid (U1.out.on hb2)
    have T2 := Lib.hid (T1.out.on hb2)
    have HB2 := Lib.hid (AL.out.trans (hb2.mono AL.out.size))
    clear hb2
    go_wp2_with fail
    refine bodyPost_ret (v := .tuple #[.agg #[.slice none 0 0], .int .i64 c]) (by simp [results, Tryd.results30, go_sem, r2]) rfl ⟨_, rfl, OwnRI.nul _ _, HB2.out.setCell (p := ⟨LR, 0, none⟩) (Nat.le_of_lt hlr) _⟩
  · have HA := Lib.hid ha
    obtain ⟨ho, hr⟩ := ask_zero ha
    have HO := Lib.hid ho
    have h48 := ho.2
    clear ha ho hr
    go_enter Tryd.func30, Tryd.ntmps30
    go_wp2_with fail
    rw [HLR.out]
    generalize (w.alloc (.cells #[.slice a zz.length cp] 28)).alloc (.cells #[.slice none 0 0] 28) = W1 at hW1 hP1 hR1 hU1 hT1 p1 ⊢
    have AL := Lib.hid hW1
    have P1 := Lib.hid hP1
    have R1 := Lib.hid hR1
    have U1 := Lib.hid hU1
    have T1 := Lib.hid hT1
    clear hW1 hP1 hR1 hU1 hT1 p1
    refine (indexCode_is U1.out HA.out T1.out).mono ?_
    rintro e w2 ⟨rfl, hb2⟩
    obtain ⟨⟨_, r2⟩, z2⟩ := R1.out.on hb2
    have R2 := Lib.hid (R1.out.on hb2)
    have P2 := Lib.hid (P1.out.on hb2)
    have U2 := Lib.hid (U1.out.on hb2)
    have T2 := Lib.hid (T1.out.on hb2)
    have HB2 := Lib.hid (AL.out.trans (hb2.mono AL.out.size))
    clear hb2
    have p2 := P2.out.2
    clear r2 z2
    go_wp2_with fail
    refine (list_any U2.out HO.out).mono ?_
    rintro e w3 ⟨v3, rfl, ho3, hb3⟩
    obtain ⟨la, lc, rfl, hk3⟩ := ho3.sims
    have HK3 := Lib.hid hk3
    have HB3 := Lib.hid (HB2.out.trans (hb3.mono HB2.out.size))
    have R3 := Lib.hid (R2.out.on hb3)
    have P3 := Lib.hid (P2.out.on hb3)
    have U3 := Lib.hid (U2.out.on hb3)
    have T3 := Lib.hid (T2.out.on hb3)
    clear ho3 hb3 hk3 p2
    go_wp2_with fail
    refine (freePairs_any HO.out HK3.out).mono ?_
    rintro e w4 ⟨v4, rfl, ho4, hb4⟩
    have HB4 := Lib.hid (HB3.out.trans (hb4.mono HB3.out.size))
    have R4 := Lib.hid (R3.out.on hb4)
    have P4 := Lib.hid (P3.out.on hb4)
    have U4 := Lib.hid (U3.out.on hb4)
    have T4 := Lib.hid (T3.out.on hb4)
    have HFA : Hid (∀ i (hi : i < (frK zz zz.length).length), (frK zz zz.length)[i].1 = f → gtK zz zz[f] f zz.length = [(frK zz zz.length)[i].2]) := fun i hi e => by
      obtain ⟨h1, h2⟩ := frK_at hi
      subst e; exact h2
    have HFH : Hid (∀ s, gtK zz zz[f] f zz.length = [s] → ∃ i, ∃ hi : i < (frK zz zz.length).length, (frK zz zz.length)[i].1 = f) := fun s hs => by
      obtain ⟨i, hi, e⟩ := List.getElem_of_mem (frK_has hf hs)
      exact ⟨i, hi, by rw [e]⟩
    have hfl := frK_len zz zz.length
    generalize frK zz zz.length = fk at ho4 HFA HFH hfl
    have HO4 := Lib.hid ho4
    obtain ⟨pa, pc, rfl⟩ := ho4.slice
    clear ho4 hb4
    go_wp2_with fail
    go_loopw [20] (fun si wr => ∃ (i : Nat), i ≤ fk.length ∧ si = .int .i64 (i : Int) ∧ Hid (∀ j (hj : j < fk.length), j < i → fk[j].1 ≠ f) ∧ Hid (Below w4.heap.size w4 wr)) (fun si _ => fk.length - (intOf si).toNat)
    case atStart => exact ⟨0, Nat.zero_le _, rfl, fun j _ h => absurd h (Nat.not_lt_zero j), Below.refl _ _⟩
    case round =>
      obtain ⟨i, hi, rfl, HNO, HB⟩ := hrel
      have i0' : 0 ≤ (i : Int) := by omega
      have hs := HB.out.size
      by_cases hlt : i < fk.length
      · have i1' : (i : Int) < (fk.length : Int) := by omega
        obtain ⟨g, cap, e, hg, ks⟩ := HO4.out.at1 (by omega)
        injection e with e1 _ e3
        subst e1 e3
        obtain ⟨ka, kb⟩ := ks i hlt
        rw [Nat.mul_comm 2 i] at ka kb
        have ca := (HB.out.cell (p := ⟨g, i * 2, none⟩) hg).trans ka
        have cb := (HB.out.cell (p := ⟨g, i * 2 + 1, none⟩) hg).trans kb
        by_cases hm : fk[i].1 = f
        · have hgi := HFA.out i hlt hm
          obtain ⟨s, hgs, rfl, rfl⟩ : ∃ s, gtK zz zz[f] f zz.length = [s] ∧ yy = wthK zz [(f : Int), (s : Int)] zz.length ∧ c = 0 := by
            rcases h with ⟨h1, _, _⟩ | h
            · rw [hgi] at h1; exact absurd rfl h1
            · exact h
          have hsi : fk[i].2 = s := by rw [hgs] at hgi; injection hgi with e _; exact e.symm
          rw [hm] at ca
          rw [hsi] at cb
          have HYO := Lib.hid (wth_ok HO.out hf hgs)
          have HWT : Hid (∀ (B : Nat) (v : Value) (w1 : World), OwnU B w1 v (zz.map maskOf) → Calls Tryd.prog 58 #[v, .agg #[.int .i64 (f : Int), .int .i64 (s : Int)]] w1 fun e w' => RetU ((wthK zz [(f : Int), (s : Int)] zz.length).map maskOf) w1 e w') := fun B v w1 h => wthO_any HO.out hf hgs h
          have F3 : Hid (Below wr.heap.size wr (wr.alloc (.cells #[.int .i64 (f : Int), .int .i64 (s : Int)] 82))) := al1 (Below.refl _ _) _
          have q0 : (wr.alloc (.cells #[.int .i64 (f : Int), .int .i64 (s : Int)] 82)).cell? ⟨wr.heap.size, 0, none⟩ = some (.int .i64 (f : Int)) := by rw [World.cell?_alloc_at _ _ _ _ rfl]; rfl
          have q1 : (wr.alloc (.cells #[.int .i64 (f : Int), .int .i64 (s : Int)] 82)).cell? ⟨wr.heap.size, 1, none⟩ = some (.int .i64 (s : Int)) := by rw [World.cell?_alloc_at _ _ _ _ rfl]; rfl
          have hlw : wr.heap.size < (wr.alloc (.cells #[.int .i64 (f : Int), .int .i64 (s : Int)] 82)).heap.size := by simp
          clear h ka kb ks hgi hgs hsi hm HFA HFH
          go_wp2_with fail
          obtain ⟨PB, hPB⟩ : ∃ PB, wr.heap.size = PB := ⟨_, rfl⟩
          have HPB := Lib.hid hPB
          rw [hPB] at q0 q1 hlw ⊢
          generalize (wr.alloc (.cells #[.int .i64 (f : Int), .int .i64 (s : Int)] 82)) = wp at F3 q0 q1 hlw ⊢
          have HBp := Lib.hid ((HB4.out.trans (HB.out.mono HB4.out.size)).trans (F3.out.mono (Nat.le_trans HB4.out.size hs)))
          have Rp := Lib.hid ((R4.out.on HB.out).on F3.out)
          have Pp := Lib.hid ((P4.out.on HB.out).on F3.out)
          have Up := Lib.hid ((U4.out.on HB.out).on F3.out)
          have Tp := Lib.hid ((T4.out.on HB.out).on F3.out)
          have pp := Pp.out.2
          obtain ⟨⟨_, rp⟩, zp⟩ := Rp.out
          clear hPB ca cb
          have n1 : LR ≠ PB := by have h1 : wr.heap.size = PB := HPB.out; have h2 := R4.out.1.1; omega
          have n2 : PB ≠ LR := n1.symm
          have n3 : LR ≠ w.heap.size := by omega
          have n4 : w.heap.size ≠ LR := n3.symm
          go_region_held3 (fun w' => w'.cell? ⟨PB, 0, none⟩ = some (.int .i64 (f : Int)) ∧ w'.cell? ⟨PB, 1, none⟩ = some (.int .i64 (s : Int)) ∧ w'.cell? ⟨w.heap.size, 0, none⟩ = some (.slice a zz.length cp)) (go_keep)
            (first
              | (go_at_call 52; refine (list_any (by first | exact Up.out | exact Up.out.drew) HO.out).mono ?_; rintro e wx ⟨vx, rfl, hox, hbx'⟩; have hbx : Below wp.heap.size wp wx := (by first | exact hbx' | exact undrew hbx'); obtain ⟨_, _, rfl, _⟩ := hox.sims; have HOX := Lib.hid hox; have := (hbx.cell (p := ⟨PB, 0, none⟩) hlw).trans q0; have := (hbx.cell (p := ⟨PB, 1, none⟩) hlw).trans q1; have := (Pp.out.on hbx).2; obtain ⟨⟨_, _⟩, _⟩ := Rp.out.on hbx)
              | (go_at_call 58; refine (HWT.out _ _ _ HOX.out).mono ?_; rintro e wy ⟨vy, rfl, hoy, hby'⟩; have hby : Below wp.heap.size wp wy := hbx.trans (hby'.mono hbx.size); obtain ⟨_, _, rfl, _⟩ := hoy.sims; have HOY := Lib.hid hoy; have := (hby.cell (p := ⟨PB, 0, none⟩) hlw).trans q0; have := (hby.cell (p := ⟨PB, 1, none⟩) hlw).trans q1; have := (Pp.out.on hby).2; obtain ⟨⟨_, _⟩, _⟩ := Rp.out.on hby)
              | (go_at_call 57; refine (cxO_any HYO.out HOY.out (Tp.out.on hby)).mono ?_; rintro e wz ⟨vz, rfl, hoz, hbz'⟩; have hbz : Below wp.heap.size wp wz := hby.trans (hbz'.mono hby.size); obtain ⟨za, zc, rfl⟩ := hoz.slice; have HOZ := Lib.hid hoz; have := (hbz.cell (p := ⟨PB, 0, none⟩) hlw).trans q0; have := (hbz.cell (p := ⟨PB, 1, none⟩) hlw).trans q1; have := (Pp.out.on hbz).2; obtain ⟨⟨_, rz⟩, fz⟩ := Rp.out.on hbz))
          have HBz := Lib.hid (HBp.out.trans (hbz.mono HBp.out.size))
          have hly : LR < wy.heap.size := Nat.lt_of_lt_of_le Rp.out.1.1 hby.size
          have hwy : w.heap.size ≤ wy.heap.size := Nat.le_trans HBp.out.size hby.size
          clear hbx hbx' hby hby' hbz hbz' hox hoy hoz HOX HOY
          go_wp2_with fail
          refine bodyPost_ret (v := .tuple #[.agg #[.slice za (wthK zz [(f : Int), (s : Int)] zz.length).length zc], .int .i64 0]) (by simp [results, Tryd.results30, go_sem, rz]) rfl ⟨_, rfl, OwnRI.mono (OwnRI.setOut HOZ.out hly _) hwy, HBz.out.setCell (p := ⟨LR, 0, none⟩) (Nat.le_of_lt hlr) _⟩
        · have e0 : ((fk[i].1 : Int) == (f : Int)) = false := by rw [beq_eq_false_iff_ne]; omega
          have HNO2 : Hid (∀ j (hj : j < fk.length), j < i + 1 → fk[j].1 ≠ f) := fun j hj hji => by
            by_cases e : j = i
            · subst e; exact hm
            · exact HNO.out j hj (by omega)
          have HB' : Hid (Below w4.heap.size w4 (wr.alloc (.cells #[.int .i64 (fk[i].1 : Int), .int .i64 (fk[i].2 : Int)] 82))) := HB.out.alloc hs _
          generalize (fk[i].1 : Int) = x at ca e0 HB'
          generalize (fk[i].2 : Int) = y at cb HB'
          clear ka kb ks hm HNO
          go_wp2_with fail
          go_roundw
          case rel => exact ⟨i + 1, by omega, by go_num, HNO2, HB'⟩
          case measure => simp [intOf]; omega
      · obtain ⟨hg, rfl, rfl⟩ : (gtK zz zz[f] f zz.length).length ≠ 1 ∧ yy = [] ∧ c = 6 := by
          rcases h with h | ⟨s, hs1, _, _⟩
          · exact h
          · obtain ⟨j, hj, e⟩ := HFH.out s hs1
            exact absurd e (HNO.out j hj (by omega))
        have HBe := Lib.hid (HB4.out.trans (HB.out.mono HB4.out.size))
        obtain ⟨⟨_, re⟩, fe⟩ := R4.out.on HB.out
        obtain rfl : i = fk.length := by omega
        clear h hg
        go_wp2_with fail
        refine bodyPost_ret (v := .tuple #[.agg #[.slice none 0 0], .int .i64 6]) (by simp [results, Tryd.results30, go_sem, re]) rfl ⟨_, rfl, OwnRI.nul _ _, HBe.out.setCell (p := ⟨LR, 0, none⟩) (Nat.le_of_lt hlr) _⟩
end Go.Proofs.YtibdcejglkhcfaaDoor
