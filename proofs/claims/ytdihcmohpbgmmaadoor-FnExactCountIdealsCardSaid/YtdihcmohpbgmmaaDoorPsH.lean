/-
  The model's table of an order: l06Table.
-/
import Derived.Test.YtdihcmohpbgmmaaDoorPsG
import Derived.Deep.AppendLies
import Derived.Deep.RegionHeld3
import Derived.Deep.RegionLaw
import Derived.StillTactics
namespace Go.Proofs.YtdihcmohpbgmmaaDoor
open Go.RowKit
set_option linter.unusedVariables false
set_option linter.unusedSimpArgs false

theorem infoB : (Tryd.prog.info? 4).map (fun i => (i.zero, i.size, i.bytes)) = some (some (.bool false), 1, 1) := by kernel_rfl
theorem infoR : (Tryd.prog.info? 69).map (fun i => (i.zero, i.size, i.bytes)) = some (some (.slice none 0 0), 1, 24) := by kernel_rfl
theorem TabB.slice {B k n : Nat} {w : World} {v : Value} {f : Nat → Nat → Bool} {rs : Nat → Nat} (h : TabB B w v k n f rs) : ∃ a c, v = .slice a k c := by
  rcases h.row.2 with ⟨rfl, rfl⟩ | ⟨g, cap, cur, rfl, _⟩
  · exact ⟨_, _, rfl⟩
  · exact ⟨_, _, rfl⟩
theorem row_oneP (w : World) (u : Value) (t : TypeId) (n : Nat) (hn : w.heap.size = n) : ∀ (j : Nat) (x : Value), [u][j]? = some x → (w.alloc (.cells #[u] t)).cell? ((⟨n, 0, none⟩ : Addr).add j) = some x := by subst hn; exact row_val w u t
theorem ownsRow_monoP {B C : Nat} {w : World} {t : TypeId} {s : Nat} {v : Value} {n : Nat} {xs : List Value} (h : w.ownsRow B t s v n xs) (hC : C ≤ B) : w.ownsRow C t s v n xs :=
  ⟨h.1, h.2.imp id fun ⟨g, cap, cur, e, hb, r⟩ => ⟨g, cap, cur, e, Nat.le_trans hC hb, r⟩⟩
def RetTab (N : Nat) (f : Nat → Nat → Bool) (w : World) (e : Ending) (w' : World) : Prop := ∃ v rs, e = .returned v ∧ TabB w.heap.size w' v N N f rs ∧ Below w.heap.size w w'
set_option maxRecDepth 100000 in
set_option maxHeartbeats 6400000 in
theorem l06Table_any {N : Nat} {v : Value} {zz : List (List Int)} {w : World} (hN : N ≤ 12) (hv : RowsAt w v zz) (hp : PairsIn (N : Int) zz) :
    Calls Tryd.prog 58 #[.int .i64 (N : Int), v] w fun e w' => RetTab N (wT (esP zz) N) w e w' := by
  obtain ⟨ib, hb0, hb1, hb2, hb3⟩ := info_parts infoB
  obtain ⟨ir, hr0, hr1, hr2, hr3⟩ := info_parts infoR
  obtain ⟨a, c, rfl, hl, k1⟩ := hv.anyP
  have K1 := Lib.hid k1
  have HP := Lib.hid hp
  clear k1 hv hp
  have AL : Hid (Below w.heap.size w (w.alloc (.cells #[] 69))) := (Below.refl _ w).alloc (Nat.le_refl _) _
  have T0 : Hid (TabB w.heap.size (w.alloc (.cells #[] 69)) (.slice (some ⟨w.heap.size, 0, none⟩) 0 0) 0 N (fun i j => decide (i = j)) (fun _ => 0)) := ⟨World.ownsRow_made w #[] 0 (Nat.le_refl _) (Nat.zero_le _) rfl, fun i hi => absurd hi (Nat.not_lt_zero i), fun i hi => absurd hi (Nat.not_lt_zero i), fun i j hi => absurd hi (Nat.not_lt_zero i)⟩
  go_enter Tryd.func58, Tryd.ntmps58
  go_wp2_with fail
  go_loopw [5, 6] (fun sv si wr => ∃ (n : Nat) (rs : Nat → Nat), n ≤ N ∧ si = .int .i64 (n : Int) ∧ Hid (TabB w.heap.size wr sv n N (fun i j => decide (i = j)) rs) ∧ Hid (Below w.heap.size w wr)) (fun _ i _ => N - (intOf i).toNat)
  case atStart => exact ⟨0, _, Nat.zero_le _, rfl, T0, AL⟩
  case round =>
    clear T0 AL
    obtain ⟨n, rs, hn, rfl, HT, HB⟩ := hrel
    obtain ⟨va, vc, rfl⟩ := HT.out.slice
    have n0 : 0 ≤ (n : Int) := by omega
    by_cases hlt : n < N
    · have n1 : (n : Int) < (N : Int) := by omega
      have h63 : N ≤ maxLen := by unfold maxLen; omega
      obtain ⟨wm, hmk, hmo, hmg⟩ := run_makeSlice_full (P := Tryd.prog) (w := wr) wr.heap.size 69 4 ib (.bool false) 1 Tryd.underlying69 hb0 hb1 hb2 .i64 .i64 N (by omega) (by rw [hb3]; omega) h63 (Nat.le_refl _)
      have hmo2 : wm.ownsRow wr.heap.size 4 1 (.slice (some ⟨wr.heap.size, 0, none⟩) N N) N (bvs N fun _ => false) := by
        have e : bvs N (fun _ => false) = List.replicate N (.bool false) := by unfold bvs; rw [List.map_const', List.length_range]
        rw [e]
        simpa [Value.cells, toList_madeCells_one] using hmo
      have hsm : wr.heap.size < wm.heap.size := (hmo2.lt _ rfl).2
      have c0 := hmo2.cells (g := wr.heap.size) rfl n _ (bvs_at hlt)
      have hadd : (⟨wr.heap.size, 0, none⟩ : Addr).add n = ⟨wr.heap.size, n, none⟩ := by unfold Addr.add; split <;> simp_all
      rw [hadd] at c0
      have f0 : wm.frozen? ⟨wr.heap.size, n, none⟩ = false := hmo2.frozenAt n
      obtain ⟨hst, hsg⟩ := World.ownsRow.stored hmo2 n (.bool true)
      rw [bvs_set] at hst
      have e2 : bvs N (fun b => if b = n then true else false) = bvs N (fun j => decide (n = j)) := bvs_congr fun j _ => by
        by_cases e : j = n
        · subst e; simp
        · rw [if_neg e, decide_eq_false (fun h => e h.symm)]
      rw [e2] at hst
      have HST := Lib.hid hst
      have HBm : Hid (Below wr.heap.size wr (wm.setCell ⟨wr.heap.size, n, none⟩ (.bool true))) := ((Below.refl _ wr).grown hmg (Nat.le_refl _) (fun q hq => by simp at hq)).setCell (p := ⟨wr.heap.size, n, none⟩) (Nat.le_refl _) _
      have HTm := Lib.hid (HT.out.on HBm.out)
      clear hmo hmo2 hmg hst hsg e2 hadd
      have hsz : (wm.setCell ⟨wr.heap.size, n, none⟩ (.bool true)).heap.size = wm.heap.size := by simp
      have hrow := row_oneP (wm.setCell ⟨wr.heap.size, n, none⟩ (.bool true)) (.slice (some ⟨wr.heap.size, 0, none⟩) N N) 69 wm.heap.size hsz
      have HRW := Lib.hid hrow
      have hbs : w.heap.size ≤ wm.heap.size + 1 := by have := HB.out.size; omega
      clear hrow
      go_wp2_with (at_builtin; refine wpList_append_lies _ rfl _ _ 57 rfl w.heap.size 69 ir (.slice none 0 0) 1 24 Tryd.underlying57 hr0 hr1 hr2 hr3 rfl (by decide) (.slice va n vc) n (rvs n N rs) rfl (World.ownsRow.alloc HTm.out.row _) ⟨wm.heap.size, 0, none⟩ 1 1 [.slice (some ⟨wr.heap.size, 0, none⟩) N N] rfl rfl HRW.out (by intro u hu; simp at hu; subst hu; rfl) (by decide) (by unfold maxLen; omega) (by omega) (by rw [World.size_alloc, hsz]; exact hbs) (wm.heap.size + 1) (by rw [World.size_alloc, hsz]) ?_; intro gg cap w7 hown7 hgrow hat hlt7)
      have hs0 := HB.out.size
      have HT7 : Hid (TabB w.heap.size w7 (.slice (some ⟨gg, 0, none⟩) (n + 1) cap) (n + 1) N (fun i j => decide (i = j)) (fun i => if i = n then wr.heap.size else rs i)) := by
        refine TabB.push (HTm.out.on ((Below.refl _ _).alloc (Nat.le_refl _) _)) (ownsRow_monoP (World.ownsRow.alloc HST.out _) hs0) hown7 hgrow (fun q hq => ?_) (fun e => ?_) (fun i hi e => ?_)
        · rcases hat with h | h
          · exact .inl (by rw [h]; exact hq)
          · refine .inr ?_
            have : gg = q := by simpa [Value.ownBlock] using hq
            rw [World.size_alloc, hsz]; omega
        · have := (HT.out.row.lt _ e).2; omega
        · have := ((HT.out.own i hi).lt (rs i) rfl).2; omega
      have HB7 : Hid (Below w.heap.size w w7) := (((HB.out.trans (HBm.out.mono hs0)).alloc (Nat.le_trans hs0 HBm.out.size) _)).grown hgrow (by rw [World.size_alloc, hsz]; omega) (fun q hq => (HT.out.row.lt q hq).1)
      clear hown7 hgrow hat
      go_roundw
      case rel => exact ⟨n + 1, _, by omega, by go_num, HT7, HB7⟩
      case measure => simp [intOf]; omega
    · have HNN := Lib.hid (show n = N by omega)
      have HT1 : Hid (TabB w.heap.size wr (.slice va n vc) N N (fun i j => decide (i = j ∨ (i, j) ∈ esP (zz.take 0))) rs) := by
        have h := HT.out
        have e := HNN.out
        have h2 : TabB w.heap.size wr (.slice va n vc) N N (fun i j => decide (i = j)) rs := by
          subst e; exact h
        exact h2.congr fun i j _ _ => by simp [esP]
      obtain ⟨nt, hnt⟩ : ∃ nt : Int, nt = (n : Int) := ⟨_, rfl⟩
      have hn10 : ¬ nt < (N : Int) := by omega
      rw [← hnt]
      clear HT n0 hlt hnt hn
      go_wp2_with fail
      go_loopw [8] (fun si wr => ∃ (k : Nat), k ≤ zz.length ∧ si = .int .i64 (k : Int) ∧ Hid (TabB w.heap.size wr (.slice va n vc) N N (fun i j => decide (i = j ∨ (i, j) ∈ esP (zz.take k))) rs) ∧ Hid (Below w.heap.size w wr)) (fun i _ => zz.length - (intOf i).toNat)
      case atStart => exact ⟨0, Nat.zero_le _, rfl, HT1, HB⟩
      case round =>
        clear HT1 HB
        obtain ⟨k, hk, rfl, HT, HB⟩ := hrel
        have k0 : 0 ≤ (k : Int) := by omega
        by_cases hlt : k < zz.length
        · have k1 : (k : Int) < (zz.length : Int) := by omega
          obtain ⟨x, y, hzk, hed, hx, hy⟩ := HP.out.at hlt
          obtain ⟨b, o, u, rfl, hb, c1', i1'⟩ := K1.out k hlt
          have c1 := (HB.out.cell (p := ⟨b, o + k, none⟩) hb).trans c1'
          rw [hzk] at i1'
          obtain ⟨tb, tq, tc, rfl, htb, kt⟩ := (i1'.on HB.out).atP (by simp)
          have t0 := kt 0 (by simp)
          have t1 := kt 1 (by simp)
          simp only [List.getElem_cons_zero, List.getElem_cons_succ, Nat.add_zero, List.length_cons, List.length_nil, Nat.zero_add, Nat.reduceAdd] at t0 t1 c1
          have hxN : x < N := by omega
          have hyN : y < N := by omega
          obtain ⟨g, cap, e, hgB, hgl, ko⟩ := HT.out.outer (by omega)
          injection e with e1 e2 e3
          subst e1 e3
          obtain ⟨o1, _⟩ := ko x hxN
          obtain ⟨y1, yf⟩ := HT.out.cell hxN hyN
          obtain ⟨hs1, hs2⟩ := HT.out.set hxN y true
          have HT' : Hid (TabB w.heap.size (wr.setCell ⟨rs x, y, none⟩ (.bool true)) (.slice (some ⟨g, 0, none⟩) n vc) N N (fun i j => decide (i = j ∨ (i, j) ∈ esP (zz.take (k + 1)))) rs) := by
            refine hs1.congr fun i j _ _ => ?_
            rw [esP_take hlt, hed]
            by_cases e : i = x ∧ j = y
            · rw [if_pos e, eq_comm, decide_eq_true_eq]
              exact .inr (by rw [e.1, e.2]; simp)
            · rw [if_neg e]
              have : (i, j) ∈ esP (zz.take k) ++ [(x, y)] ↔ (i, j) ∈ esP (zz.take k) := by
                simp [e]
              rw [decide_eq_decide, this]
          have HB' : Hid (Below w.heap.size w (wr.setCell ⟨rs x, y, none⟩ (.bool true))) := HB.out.setCell (p := ⟨rs x, y, none⟩) ((HT.out.own x hxN).lt (rs x) rfl).1 _
          have x0 : 0 ≤ (x : Int) := by omega
          have y0 : 0 ≤ (y : Int) := by omega
          have x1 : (x : Int) < (n : Int) := by have := HNN.out; omega
          clear e2 kt c1' i1' hzk hed hs1 hs2 ko
          generalize decide (x = y ∨ (x, y) ∈ esP (zz.take k)) = q0 at y1
          go_wp2_with fail
          go_region
          go_wp2_with fail
          go_roundw
          case rel => exact ⟨k + 1, by omega, by go_num, HT'.out.on (Below.refl _ _).drew, HB'.out.drew⟩
          case measure => simp [intOf]; omega
        · have hke : k = zz.length := by omega
          have HT2 : Hid (TabB w.heap.size wr (.slice va n vc) N N (wT (esP zz) 0) rs) := by
            have h := HT.out
            rw [hke, List.take_length] at h
            exact h
          obtain ⟨kt, hkt⟩ : ∃ kt : Int, kt = (k : Int) := ⟨_, rfl⟩
          have hk10 : ¬ kt < (zz.length : Int) := by omega
          rw [← hkt]
          obtain ⟨es, hes⟩ : ∃ es, esP zz = es := ⟨_, rfl⟩
          have HES := Lib.hid hes
          rw [hes] at HT2
          obtain ⟨wo, rfl⟩ : ∃ wo, wo = wr := ⟨_, rfl⟩
          clear HT k0 hlt hkt hk hke hes k
          go_wp2_with fail
          go_loopw [9] (fun si wr => ∃ (k : Nat), k ≤ N ∧ si = .int .i64 (k : Int) ∧ Hid (TabB w.heap.size wr (.slice va n vc) N N (wT es k) rs) ∧ Hid (Below w.heap.size w wr)) (fun i _ => N - (intOf i).toNat)
          case atStart => exact ⟨0, Nat.zero_le _, rfl, HT2, HB⟩
          case round =>
            clear HT2 HB
            obtain ⟨k, hk, rfl, HT, HB⟩ := hrel
            have k0 : 0 ≤ (k : Int) := by omega
            by_cases hlt : k < N
            · have k1 : (k : Int) < (N : Int) := by omega
              have HTa : Hid (TabB w.heap.size wr (.slice va n vc) N N (fun i j => if i < 0 then wT es (k + 1) i j else wT es k i j) rs) := HT.out.congr fun i j _ _ => by rw [if_neg (by omega)]
              obtain ⟨wi, rfl⟩ : ∃ wi, wi = wr := ⟨_, rfl⟩
              clear HT
              go_wp2_with fail
              go_loopw [10] (fun si wr => ∃ (a : Nat), a ≤ N ∧ si = .int .i64 (a : Int) ∧ Hid (TabB w.heap.size wr (.slice va n vc) N N (fun i j => if i < a then wT es (k + 1) i j else wT es k i j) rs) ∧ Hid (Below w.heap.size w wr)) (fun i _ => N - (intOf i).toNat)
              case atStart => exact ⟨0, Nat.zero_le _, rfl, HTa, HB⟩
              case round =>
                clear HTa HB
                obtain ⟨a, ha, rfl, HT, HB⟩ := hrel
                have a0 : 0 ≤ (a : Int) := by omega
                by_cases hla : a < N
                · have a1 : (a : Int) < (N : Int) := by omega
                  have HTb : Hid (TabB w.heap.size wr (.slice va n vc) N N (fun i j => if i < a ∨ (i = a ∧ j < 0) then wT es (k + 1) i j else wT es k i j) rs) := HT.out.congr fun i j _ _ => by
                    by_cases e : i < a
                    · rw [if_pos e, if_pos (.inl e)]
                    · rw [if_neg e, if_neg (by omega)]
                  obtain ⟨wj, rfl⟩ : ∃ wj, wj = wr := ⟨_, rfl⟩
                  clear HT
                  go_wp2_with fail
                  go_loopw [11] (fun si wr => ∃ (b : Nat), b ≤ N ∧ si = .int .i64 (b : Int) ∧ Hid (TabB w.heap.size wr (.slice va n vc) N N (fun i j => if i < a ∨ (i = a ∧ j < b) then wT es (k + 1) i j else wT es k i j) rs) ∧ Hid (Below w.heap.size w wr)) (fun i _ => N - (intOf i).toNat)
                  case atStart => exact ⟨0, Nat.zero_le _, rfl, HTb, HB⟩
                  case round =>
                    clear HTb HB
                    obtain ⟨b, hb, rfl, HT, HB⟩ := hrel
                    have b0 : 0 ≤ (b : Int) := by omega
                    by_cases hlb : b < N
                    · have b1 : (b : Int) < (N : Int) := by omega
                      obtain ⟨g, cap, e, hgB, hgl, ko⟩ := HT.out.outer (by omega)
                      injection e with e1 e2 e3
                      subst e1
                      clear e2 e3
                      obtain ⟨oa, _⟩ := ko a hla
                      obtain ⟨ok, _⟩ := ko k hlt
                      have ca := (HT.out.cell hla hlt).1
                      have ck := (HT.out.cell hlt hlb).1
                      obtain ⟨cab, fab⟩ := HT.out.cell hla hlb
                      have ea : (if a < a ∨ (a = a ∧ k < b) then wT es (k + 1) a k else wT es k a k) = wT es k a k := by
                        split
                        · exact wT_col es k a
                        · rfl
                      have ek : (if k < a ∨ (k = a ∧ b < b) then wT es (k + 1) k b else wT es k k b) = wT es k k b := by
                        split
                        · exact wT_row es k b
                        · rfl
                      rw [ea] at ca
                      rw [ek] at ck
                      have HW : Hid (wT es (k + 1) a b = (wT es k a b || (wT es k a k && wT es k k b))) := rfl
                      have HKP : Hid (wT es (k + 1) a b = wT es k a b → TabB w.heap.size wr (.slice (some ⟨g, 0, none⟩) n vc) N N (fun i j => if i < a ∨ (i = a ∧ j < b + 1) then wT es (k + 1) i j else wT es k i j) rs) := fun e => HT.out.congr fun i j _ _ => by
                        by_cases h1 : i = a ∧ j = b
                        · rw [h1.1, h1.2, if_neg (by omega), if_pos (by omega), e]
                        · by_cases h2 : i < a ∨ (i = a ∧ j < b)
                          · rw [if_pos h2, if_pos (by omega)]
                          · rw [if_neg h2, if_neg (by omega)]
                      have HST : Hid (wT es (k + 1) a b = true → TabB w.heap.size (wr.setCell ⟨rs a, b, none⟩ (.bool true)) (.slice (some ⟨g, 0, none⟩) n vc) N N (fun i j => if i < a ∨ (i = a ∧ j < b + 1) then wT es (k + 1) i j else wT es k i j) rs) := fun e => (HT.out.set hla b true).1.congr fun i j _ _ => by
                        by_cases h1 : i = a ∧ j = b
                        · rw [if_pos h1, if_pos (by omega), h1.1, h1.2, e]
                        · rw [if_neg h1]
                          by_cases h2 : i < a ∨ (i = a ∧ j < b)
                          · rw [if_pos h2, if_pos (by omega)]
                          · rw [if_neg h2, if_neg (by omega)]
                      have HBS : Hid (Below w.heap.size w (wr.setCell ⟨rs a, b, none⟩ (.bool true))) := HB.out.setCell (p := ⟨rs a, b, none⟩) ((HT.out.own a hla).lt (rs a) rfl).1 _
                      have a2 : (a : Int) < (n : Int) := by have := HNN.out; omega
                      have k2 : (k : Int) < (n : Int) := by have := HNN.out; omega
                      clear ea ek ko
                      generalize (if a < a ∨ (a = a ∧ b < b) then wT es (k + 1) a b else wT es k a b) = q0 at cab
                      obtain ⟨p, hp⟩ : ∃ p, wT es k a k = p := ⟨_, rfl⟩
                      obtain ⟨q, hq⟩ : ∃ q, wT es k k b = q := ⟨_, rfl⟩
                      rw [hp] at ca HW
                      rw [hq] at ck HW
                      clear hp hq
                      cases p with
                      | true =>
                        cases q with
                        | true =>
                          have HX := Lib.hid (HST.out (by rw [HW.out]; simp))
                          clear HW HKP HST
                          go_wp2_with fail
                          go_roundw
                          case rel => exact ⟨b + 1, by omega, by go_num, HX, HBS⟩
                          case measure => simp [intOf]; omega
                        | false =>
                          have HX := Lib.hid (HKP.out (by rw [HW.out]; simp))
                          clear HW HKP HST
                          go_wp2_with fail
                          go_roundw
                          case rel => exact ⟨b + 1, by omega, by go_num, HX, HB⟩
                          case measure => simp [intOf]; omega
                      | false =>
                        have HX := Lib.hid (HKP.out (by rw [HW.out]; simp))
                        clear HW HKP HST
                        go_wp2_with fail
                        go_roundw
                        case rel => exact ⟨b + 1, by omega, by go_num, HX, HB⟩
                        case measure => simp [intOf]; omega
                    · have HTn : Hid (TabB w.heap.size wr (.slice va n vc) N N (fun i j => if i < a + 1 then wT es (k + 1) i j else wT es k i j) rs) := HT.out.congr fun i j _ hj => by
                        by_cases h2 : i < a + 1
                        · rw [if_pos h2, if_pos (by omega)]
                        · rw [if_neg h2, if_neg (by omega)]
                      obtain ⟨bt, hbt⟩ : ∃ bt : Int, bt = (b : Int) := ⟨_, rfl⟩
                      have hb10 : ¬ bt < (N : Int) := by omega
                      rw [← hbt]
                      clear HT b0 hlb hbt hb b
                      go_wp2_with fail
                      go_roundw
                      case rel => exact ⟨a + 1, by omega, by go_num, HTn, HB⟩
                      case measure => simp [intOf]; omega
                · have HTn : Hid (TabB w.heap.size wr (.slice va n vc) N N (wT es (k + 1)) rs) := HT.out.congr fun i j hi _ => by rw [if_pos (by omega)]
                  obtain ⟨at', hat⟩ : ∃ at' : Int, at' = (a : Int) := ⟨_, rfl⟩
                  have ha10 : ¬ at' < (N : Int) := by omega
                  rw [← hat]
                  clear HT a0 hla hat ha a
                  go_wp2_with fail
                  go_roundw
                  case rel => exact ⟨k + 1, by omega, by go_num, HTn, HB⟩
                  case measure => simp [intOf]; omega
            · have hkN : k = N := by omega
              have HTn : Hid (TabB w.heap.size wr (.slice va n vc) N N (wT (esP zz) N) rs) := by
                have h := HT.out
                rw [hkN, ← HES.out] at h
                exact h
              obtain ⟨kt2, hkt⟩ : ∃ kt2 : Int, kt2 = (k : Int) := ⟨_, rfl⟩
              have hk11 : ¬ kt2 < (N : Int) := by omega
              rw [← hkt]
              clear HT k0 hlt hkt hk hkN k
              go_wp2_with fail
              go_ret
              exact ⟨_, rs, rfl, HTn.out, HB.out⟩
end Go.Proofs.YtdihcmohpbgmmaaDoor
