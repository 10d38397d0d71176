/-
  The library's sort of a slice of any length, with a comparison that may make memory: pdqsort.
-/
import Derived.Test.YtibdcejglkhcfaaGreatDoorSrtC
import Derived.Test.YtibdcejglkhcfaaGreatDoorSrtD
import Derived.Test.YtibdcejglkhcfaaGreatDoorSrtE
import Derived.Test.YtibdcejglkhcfaaGreatDoorSrtG
import Derived.Test.YtibdcejglkhcfaaGreatDoorShSort
import Derived.Sort.Walk13
import Derived.Sort.AssemblyPlain
import Derived.Deep.DeepCutAuto
namespace Go.Proofs.YtibdcejglkhcfaaGreatDoor
open Go.RowKit Go.Sort Go.Shelf Go.Lib
set_option linter.unusedVariables false
section
variable {α : Type} [Inhabited α] {enc : α → Value} {lt : α → α → Bool} {g : Nat} {lb : Array Value} {sf : Nat} {sb : Array Value} {blk off size : Nat} {w0 : World}
theorem kb_world (enc : α → Value) (w : World) (blk off n : Nat) (d : Array α) (os : Array Obj) : KB blk w (sortWorld enc w blk off n d os) := by
  unfold sortWorld
  refine ⟨by rw [size_grow, size_putRow]; exact Nat.le_add_right _ _, fun b o hb hl => ?_, fun b o hb hl => ?_⟩
  · rw [cell?_grow _ _ _ (by rw [size_putRow]; exact hl), cell?_putRow_other enc _ blk off d _ (Or.inl hb)]; rfl
  · rw [frozen?_grow _ _ _ (by rw [size_putRow]; exact hl), frozen?_putRow]; rfl
theorem bp_any (X : Cx enc lt g lb sf sb blk off size w0) {d : Array α} {w : World} (S : SW enc w0 blk off d w) (hs : d.size = size) (a b : Nat) (hab : a ≤ b) (hb : b ≤ size) :
    Calls Tryz.prog 179 #[.agg #[.func (.func g) #[] lb, .func (.func sf) #[] sb], .int .i64 (a : Int), .int .i64 (b : Int)] w fun e w' => RetS enc w0 blk off (Sort.breakPatterns d a b) w e w' := by
  have h := Any.breakPatterns_func_w (P := Tryz.prog) (ρ := Tryz.laysGg6_ren) { Tryz.laysGg6 with } enc (.func g) #[] lb sf sb blk off a b d w (by rw [hs]; exact X.swap) (X.holds S hs) (X.blt S) hab (by omega) (by have := X.sz; omega)
  change Calls Tryz.prog 179 _ _ _ at h
  refine h.mono ?_
  rintro e w' ⟨rfl, n, os, rfl⟩
  exact ⟨rfl, S.on X.hb n _ os (breakPatterns_holds d a b hab (by omega)).1, kb_world _ _ _ _ _ _ _⟩
theorem rr_any (X : Cx enc lt g lb sf sb blk off size w0) {d : Array α} {w : World} (S : SW enc w0 blk off d w) (hs : d.size = size) (a b : Nat) (hab : a ≤ b) (hb : b ≤ size) :
    Calls Tryz.prog 181 #[.agg #[.func (.func g) #[] lb, .func (.func sf) #[] sb], .int .i64 (a : Int), .int .i64 (b : Int)] w fun e w' => RetS enc w0 blk off (Sort.reverseRange d a b) w e w' := by
  have h := Any.reverseRange_func_w (P := Tryz.prog) (ρ := Tryz.laysGg6_ren) { Tryz.laysGg6 with } enc (.func g) #[] lb sf sb blk off a b d w (by rw [hs]; exact X.swap) (X.holds S hs) (X.blt S) hab (by omega) (by have := X.sz; omega)
  change Calls Tryz.prog 181 _ _ _ at h
  refine h.mono ?_
  rintro e w' ⟨rfl, n, os, rfl⟩
  exact ⟨rfl, S.on X.hb n _ os (reverseRange_holds d a b hab (by omega)).1, kb_world _ _ _ _ _ _ _⟩
set_option maxRecDepth 1000000 in
set_option maxHeartbeats 64000000 in
theorem pdq_any (X : Cx enc lt g lb sf sb blk off size w0) (hO : SWO lt) : ∀ (N a b limit : Nat) (d : Array α) (w : World), b - a < N → SW enc w0 blk off d w → d.size = size → a ≤ b → b ≤ size → limit < 4611686018427387904 → Sort.Below lt a b d →
    Calls Tryz.prog 135 #[.agg #[.func (.func g) #[] lb, .func (.func sf) #[] sb], .int .i64 (a : Int), .int .i64 (b : Int), .int .i64 (limit : Int)] w fun e w' => RetS enc w0 blk off (pdq lt d a b limit true true) w e w' := by
  intro N
  induction N with
  | zero => intro _ _ _ _ _ h; exact absurd h (Nat.not_lt_zero _)
  | succ N ih0 =>
    intro a b limit d w hN S hs hab hb hlimit hBel0
    have IH := Lib.hid ih0
    clear ih0
    have HO := Lib.hid hO
    have HBel := Lib.hid hBel0
    clear hBel0
    have ne : w.heap.size ≠ blk := by have := X.blt S; omega
    have eg := X.eg
    have sz := X.sz
    have HX := Lib.hid X
    have S1 : SW enc w0 blk off d (w.alloc (.cells #[.func (.func g) #[] lb, .func (.func sf) #[] sb] 181)) := S.alloc _
    have B1 := Bx2.new w (.func (.func g) #[] lb) (.func (.func sf) #[] sb) 181
    have K1 : KB blk w (w.alloc (.cells #[.func (.func g) #[] lb, .func (.func sf) #[] sb] 181)) := (KB.refl _ _).alloc _
    have HS := Lib.hid S1
    have HB := Lib.hid B1
    have HK := Lib.hid K1
    have HD := Lib.hid hs
    clear X S S1 B1 K1 hs
    go_enter Tryz.func135, Tryz.ntmps135

    go_wp2_with fail
    generalize hW : World.alloc w (.cells #[.func (.func g) #[] lb, .func (.func sf) #[] sb] 181) = W1 at HS HB HK ⊢
    clear hW
    go_loopg [1, 2, 3, 8, 9] (b - a) (fun k s1 s2 s3 s8 s9 wr => ∃ (a' b' lim : Nat) (wb wp : Bool) (dk : Array α), s1 = .int .i64 (a' : Int) ∧ s2 = .int .i64 (b' : Int) ∧ s3 = .int .i64 (lim : Int) ∧ s8 = .bool wb ∧ s9 = .bool wp ∧
      a' ≤ b' ∧ b' ≤ size ∧ b' - a' ≤ k ∧ k ≤ b - a ∧ lim ≤ limit ∧ Hid (dk.size = size) ∧ Hid (Sort.Below lt a' b' dk) ∧ Hid (SW enc w0 blk off dk wr) ∧ Hid (KB blk W1 wr) ∧ Hid (pdq lt dk a' b' lim wb wp = pdq lt d a b limit true true))
    case atStart => exact ⟨a, b, limit, true, true, d, rfl, rfl, rfl, rfl, rfl, hab, hb, Nat.le_refl _, Nat.le_refl _, Nat.le_refl _, HD, HBel, HS, KB.refl _ _, rfl⟩
    case round =>
      obtain ⟨a', b', lim, wb, wp, dk, rfl, rfl, rfl, rfl, rfl, hab', hb', hk, hkN, hlim, HDk, HBk, HSk, HKk, HE⟩ := hrel
      obtain ⟨_, c0, c1⟩ := HB.out.on ne HKk.out
      by_cases h12 : b' - a' ≤ 12
      · have h12z : (b' : Int) - (a' : Int) ≤ 12 := by omega
        go_wp2_with fail
        refine (insSort_any HX.out HSk.out HDk.out a' b' hab' hb').mono ?_
        rintro e w2 ⟨rfl, S2, K2⟩
        have HS2 := Lib.hid S2
        have HK2 := Lib.hid (HKk.out.trans K2)
        clear S2 K2 c0 c1

        go_wp2_with fail
        (try simp only [Exit.inBlock, Exit.then]); refine bodyPost_ret (results_none rfl _ _ _) rfl ?_
        exact ⟨rfl, by rw [← HE.out, pdq_small h12]; exact HS2.out, HK.out.trans HK2.out⟩

      · have h12z : ¬ ((b' : Int) - (a' : Int) ≤ 12) := by omega
        by_cases hl0 : lim = 0
        · subst hl0
          go_wp2_with fail
          refine (heapSort_any HX.out HSk.out HDk.out a' b' hab' hb').mono ?_
          rintro e w2 ⟨rfl, S2, K2⟩
          have HS2 := Lib.hid S2
          have HK2 := Lib.hid (HKk.out.trans K2)
          clear S2 K2 c0 c1

          go_wp2_with fail
          (try simp only [Exit.inBlock, Exit.then]); refine bodyPost_ret (results_none rfl _ _ _) rfl ?_
          exact ⟨rfl, by rw [← HE.out, pdq_heap h12 rfl]; exact HS2.out, HK.out.trans HK2.out⟩

        · have hl0z : ¬ ((lim : Int) = 0) := by omega
          have hl0b : ((lim : Int) == 0) = false := by simp; omega
          obtain ⟨s1, B1, hc1, s2, B2, hpv, s3, B3⟩ := rd_facts (lt := lt) (limit := lim) (wb := wb) (wp := wp) HO.out partialInsertionSort_holds reverseRange_holds (show a' < b' by omega) (show b' ≤ dk.size by rw [HDk.out]; exact hb') HBk.out
          have HD1 : Hid ((rd lt dk a' b' lim wb wp).d1.size = size) := s1.trans HDk.out
          have HD2 : Hid ((rd lt dk a' b' lim wb wp).d2.size = size) := s2.trans HDk.out
          have HD3 : Hid ((rd lt dk a' b' lim wb wp).pi.1.size = size) := s3.trans HDk.out
          have HB3 := Lib.hid B3
          obtain ⟨pv1, pv2⟩ := hpv
          obtain ⟨cc1, cc2⟩ := hc1
          clear s1 s2 s3 B1 B2 B3
          go_upto_if 35 with fail
          go_cut [3] from 19 (fun s3 wc => s3 = .int .i64 ((rd lt dk a' b' lim wb wp).lim : Int) ∧ Hid (SW enc w0 blk off (rd lt dk a' b' lim wb wp).d1 wc) ∧ Hid (KB blk W1 wc))
          case first =>
            cases wb
            · go_wp2_with fail
              refine (bp_any HX.out HSk.out HDk.out a' b' hab' hb').mono ?_
              rintro e w2 ⟨rfl, S2, K2⟩
              have HS2 := Lib.hid S2
              have HK2 := Lib.hid (HKk.out.trans K2)
              clear S2 K2 c0 c1

              go_wp2_with fail
              go_meet
              case rel =>
                refine ⟨?_, HS2, HK2⟩
                show Value.int .i64 ((lim : Int) - 1) = Value.int .i64 ((lim - 1 : Nat) : Int)
                congr 1
                omega
            · go_wp2_with fail
              go_meet
              case rel => exact ⟨rfl, HSk, HKk⟩
          case rest =>
            obtain ⟨rfl, HSa, HKa⟩ := hcut
            clear c0 c1 HSk HKk
            obtain ⟨_, c0, c1⟩ := HB.out.on ne HKa.out
            have hc17 : Calls Tryz.prog 180 #[.agg #[.func (.func g) #[] lb, .func (.func sf) #[] sb], .int .i64 (a' : Int), .int .i64 (b' : Int)] wc fun e w' => RetSV (.tuple #[.int .i64 ((rd lt dk a' b' lim wb wp).c.1 : Int), .int .i64 (hintCode (rd lt dk a' b' lim wb wp).c.2)]) enc w0 blk off (rd lt dk a' b' lim wb wp).d1 wc e w' := pivot_any HX.out HSa.out HD1.out a' b' (by omega) hb'
            go_upto_if 50 with (go_at_call 180; refine hc17.mono ?_; rintro e w2 ⟨rfl, S2, K2⟩; have HSb := Lib.hid S2; have HKb := Lib.hid (HKa.out.trans K2); clear S2 K2)
            clear c0 c1 hc17 HSa HKa
            obtain ⟨_, c0, c1⟩ := HB.out.on ne HKb.out
            go_cut [11, 12] from 19 (fun s11 s12 wc => s11 = .int .i64 ((rd lt dk a' b' lim wb wp).pivot : Int) ∧ s12 = .int .i64 (hintCode (rd lt dk a' b' lim wb wp).hint) ∧ Hid (SW enc w0 blk off (rd lt dk a' b' lim wb wp).d2 wc) ∧ Hid (KB blk W1 wc))
            case first =>
              by_cases hh : (rd lt dk a' b' lim wb wp).c.2 = .decreasing
              · have hcode : hintCode (rd lt dk a' b' lim wb wp).c.2 = 2 := by rw [hh]; rfl
                obtain ⟨e2, epv, eht⟩ := rd_dec hh
                have HE2 := Lib.hid e2
                have HEP := Lib.hid epv
                have HEH := Lib.hid eht
                have HHH := Lib.hid hh
                clear e2 epv eht hh
                go_wp2_with fail
                refine (rr_any HX.out HSb.out HD1.out a' b' hab' hb').mono ?_
                rintro e w3 ⟨rfl, S2, K2⟩
                have HS3 := Lib.hid S2
                have HK3 := Lib.hid (HKb.out.trans K2)
                clear S2 K2 c0 c1

                go_wp2_with fail
                go_meet
                case rel =>
                  refine ⟨?_, by rw [HEH.out]; rfl, by rw [HE2.out]; exact HS3, HK3⟩
                  rw [HEP.out]
                  congr 1
                  omega
              · have hcode : ¬ (hintCode (rd lt dk a' b' lim wb wp).c.2 = 2) := fun h => hh (hintCode_two h)
                have hcodeb : (hintCode (rd lt dk a' b' lim wb wp).c.2 == 2) = false := by simpa using hcode
                obtain ⟨e2, epv, eht⟩ := rd_not hh
                have HE2 := Lib.hid e2
                have HEP := Lib.hid epv
                have HEH := Lib.hid eht
                clear e2 epv eht hh
                go_wp2_with fail
                go_meet
                case rel => exact ⟨by rw [HEP.out], by rw [HEH.out], by rw [HE2.out]; exact HSb, HKb⟩
            case rest =>
              obtain ⟨rfl, rfl, HSc, HKc⟩ := hcut
              clear c0 c1 HSb HKb
              obtain ⟨_, c0, c1⟩ := HB.out.on ne HKc.out
              go_upto_region 16 with fail
              go_cut [12, 68] from 19 (fun s12 s68 wx => s12 = .int .i64 (hintCode (rd lt dk a' b' lim wb wp).hint) ∧ s68 = .bool (wb && wp && decide ((rd lt dk a' b' lim wb wp).hint = .increasing)) ∧ wx = wc)
              case first =>
                cases wb <;> cases wp <;> cases hh3 : (rd lt dk a' b' lim _ _).hint <;>
                  (have hcode3 := congrArg hintCode hh3
                   simp only [hintCode] at hcode3
                   go_wp2_with fail
                   go_meet
                   exact ⟨by simp [hh3, hintCode], by simp [hh3, hintCode], rfl⟩)
              case rest =>
                obtain ⟨rfl, rfl, rfl⟩ := hcut
                go_upto_if 68 with fail
                go_cut [] from 19 (fun wx => Hid ((rd lt dk a' b' lim wb wp).pi.2 = false) ∧ Hid (SW enc w0 blk off (rd lt dk a' b' lim wb wp).pi.1 wx) ∧ Hid (KB blk W1 wx))
                case first =>
                  cases h68 : (wb && wp && decide ((rd lt dk a' b' lim wb wp).hint = .increasing))
                  · have epi := rd_pi_no h68
                    have HEI := Lib.hid epi
                    clear epi
                    go_wp2_with fail
                    go_meet
                    case rel => exact ⟨by show _ = _; rw [HEI.out], by show SW _ _ _ _ _ _; rw [HEI.out]; exact HSc.out, HKc⟩
                  · have hpi := partIns_any HX.out HSc.out HD2.out a' b' (by omega) hb'
                    rw [← rd_pi_yes h68] at hpi
                    cases hp2 : (rd lt dk a' b' lim wb wp).pi.2 with
                    | false =>
                      rw [hp2] at hpi
                      have HP2 := Lib.hid hp2
                      clear hp2
                      go_wp2_with fail
                      refine hpi.mono ?_
                      rintro e w4 ⟨rfl, S2, K2⟩
                      have HS4 := Lib.hid S2
                      have HK4 := Lib.hid (HKc.out.trans K2)
                      clear S2 K2 c0 c1

                      clear hpi
                      go_wp2_with fail
                      go_meet
                      case rel => exact ⟨HP2, HS4, HK4⟩
                    | true =>
                      rw [hp2] at hpi
                      have HP2 := Lib.hid hp2
                      clear hp2
                      go_wp2_with fail
                      refine hpi.mono ?_
                      rintro e w4 ⟨rfl, S2, K2⟩
                      have HS4 := Lib.hid S2
                      have HK4 := Lib.hid (HKc.out.trans K2)
                      clear S2 K2 c0 c1

                      clear hpi
                      go_wp2_with fail
                      (try simp only [Exit.inBlock, Exit.then]); refine bodyPost_ret (results_none rfl _ _ _) rfl ?_
                      exact ⟨rfl, by rw [← HE.out, pdq_done h12 hl0 HP2.out]; exact HS4.out, HK.out.trans HK4.out⟩

                case rest =>
                  obtain ⟨HP2, HSd, HKd⟩ := hcut
                  clear c0 c1 HSc HKc
                  obtain ⟨_, c0, c1⟩ := HB.out.on ne HKd.out
                  go_upto_region 18 with fail
                  go_cut [83] from 19 (fun s83 wx => s83 = .bool (decide (a' > 0) && !lt (rd lt dk a' b' lim wb wp).pi.1[a' - 1]! (rd lt dk a' b' lim wb wp).pi.1[(rd lt dk a' b' lim wb wp).pivot]!) ∧ Hid (SW enc w0 blk off (rd lt dk a' b' lim wb wp).pi.1 wx) ∧ Hid (KB blk W1 wx))
                  case first =>
                    rcases Nat.eq_zero_or_pos a' with ha0 | ha0
                    · have ha0z : decide ((a' : Int) > 0) = false := decide_eq_false (by omega)
                      have ha0y : decide (0 < a') = false := decide_eq_false (by omega)
                      have ha0x : ¬ 0 < a' := by omega
                      have HA0 := Lib.hid ha0
                      clear ha0
                      go_wp2_with fail
                      go_meet
                      case rel => exact ⟨by simp [HA0.out], HSd, HKd⟩
                    · have ha0z : (a' : Int) > 0 := by omega
                      obtain ⟨T, hT⟩ : ∃ T, lt (rd lt dk a' b' lim wb wp).pi.1[a' - 1]! (rd lt dk a' b' lim wb wp).pi.1[(rd lt dk a' b' lim wb wp).pivot]! = T := ⟨_, rfl⟩
                      have hl := HX.out.ls HSd.out HD3.out (i := a' - 1) (j := (rd lt dk a' b' lim wb wp).pivot) (x := (a' : Int) - 1) (y := ((rd lt dk a' b' lim wb wp).pivot : Int)) (by omega) rfl (by omega) (by omega) hT
                      have HT := Lib.hid hT
                      clear hT
                      cases T <;>
                        (go_wp2_with fail
                         refine hl.mono ?_
                         rintro e w5 ⟨rfl, S2, K2⟩
                         have HS5 := Lib.hid S2
                         have HK5 := Lib.hid (HKd.out.trans K2)
                         clear S2 K2 c0 c1 hl
                         go_wp2_with fail
                         go_meet
                         exact ⟨by rw [HT.out]; simp [ha0], HS5, HK5⟩)
                  case rest =>
                    obtain ⟨rfl, HSe, HKe⟩ := hcut
                    clear c0 c1 HSd HKd
                    obtain ⟨_, c0, c1⟩ := HB.out.on ne HKe.out
                    cases h87 : (decide (a' > 0) && !lt (rd lt dk a' b' lim wb wp).pi.1[a' - 1]! (rd lt dk a' b' lim wb wp).pi.1[(rd lt dk a' b' lim wb wp).pivot]!)
                    · obtain ⟨mid, ap, d4, hx⟩ : ∃ mid ap d4, Sort.partition lt (rd lt dk a' b' lim wb wp).pi.1 a' b' (rd lt dk a' b' lim wb wp).pivot = (mid, ap, d4) := ⟨_, _, _, rfl⟩
                      obtain ⟨r1, r2, r3, r4, r5, r6, r7⟩ := round_part HO.out (partition_holds lt) pv1 pv2 (show b' ≤ (rd lt dk a' b' lim wb wp).pi.1.size by rw [HD3.out]; exact hb') HB3.out hx
                      have hpt := part_any HX.out HSe.out HD3.out a' b' (rd lt dk a' b' lim wb wp).pivot pv1 pv2 hb'
                      rw [hx] at hpt
                      have HXX := Lib.hid hx
                      have HD4 : Hid (d4.size = size) := r3.trans HD3.out
                      have R4 := Lib.hid r4
                      have R5 := Lib.hid r5
                      have R6 := Lib.hid r6
                      have R7 := Lib.hid r7
                      clear hx r3 r4 r5 r6 r7
                      have H87 := Lib.hid h87
                      clear h87
                      go_upto_if 109 with (go_at_call 184; refine hpt.mono ?_; rintro e w7 ⟨rfl, S2, K2⟩; have HS7 := Lib.hid S2; have HK7 := Lib.hid (HKe.out.trans K2); clear S2 K2)
                      clear c0 c1 hpt
                      obtain ⟨_, c0, c1⟩ := HB.out.on ne HK7.out
                      by_cases h4 : mid - a' < b' - mid
                      · have h4z : (mid : Int) - (a' : Int) < (b' : Int) - (mid : Int) := by omega
                        have hih := IH.out a' mid (rd lt dk a' b' lim wb wp).lim d4 w7 (by omega) HS7.out HD4.out (by omega) (by omega) (Nat.lt_of_le_of_lt (Nat.le_trans rd_lim_le hlim) hlimit) R4.out
                        obtain ⟨pL, sL⟩ := pdq_sorts lt HO.out d4 a' mid (rd lt dk a' b' lim wb wp).lim true true (by omega) (by rw [HD4.out]; omega) R4.out
                        have PL := Lib.hid pL
                        have SL := Lib.hid sL
                        clear pL sL
                        go_wp2_with fail
                        refine hih.mono ?_
                        rintro e w8 ⟨rfl, S2, K2⟩
                        have HS8 := Lib.hid S2
                        have HK8 := Lib.hid (HK7.out.trans K2)
                        clear S2 K2 c0 c1

                        clear hih
                        go_wp2_with fail
                        go_roundg (b' - (mid + 1))
                        case measure => omega
                        case rel =>
                          refine ⟨mid + 1, b', (rd lt dk a' b' lim wb wp).lim, decide (mid - a' ≥ (b' - a') / 8), ap, pdq lt d4 a' mid (rd lt dk a' b' lim wb wp).lim true true, by simp, rfl, rfl, ?_, rfl, by omega, by omega, Nat.le_refl _, by omega, Nat.le_trans rd_lim_le hlim, PL.out.1.trans HD4.out, (R6.out _ PL.out SL.out).1, HS8, HK8, ?_⟩
                          · exact congrArg Value.bool (eighth (by omega) (by omega))
                          · show _ = _
                            rw [← HE.out, pdq_left h12 hl0 HP2.out H87.out (by rw [HXX.out]; exact ⟨r1, r2⟩) (by rw [HXX.out]; exact h4), HXX.out]
                      · have h4z : ¬ ((mid : Int) - (a' : Int) < (b' : Int) - (mid : Int)) := by omega
                        have hih := IH.out (mid + 1) b' (rd lt dk a' b' lim wb wp).lim d4 w7 (by omega) HS7.out HD4.out (by omega) (by omega) (Nat.lt_of_le_of_lt (Nat.le_trans rd_lim_le hlim) hlimit) R5.out
                        rw [show ((mid + 1 : Nat) : Int) = (mid : Int) + 1 by omega] at hih
                        obtain ⟨pL, sL⟩ := pdq_sorts lt HO.out d4 (mid + 1) b' (rd lt dk a' b' lim wb wp).lim true true (by omega) (by rw [HD4.out]; omega) R5.out
                        have PL := Lib.hid pL
                        have SL := Lib.hid sL
                        clear pL sL
                        go_wp2_with fail
                        refine hih.mono ?_
                        rintro e w8 ⟨rfl, S2, K2⟩
                        have HS8 := Lib.hid S2
                        have HK8 := Lib.hid (HK7.out.trans K2)
                        clear S2 K2 c0 c1

                        clear hih
                        go_wp2_with fail
                        go_roundg (mid - a')
                        case measure => omega
                        case rel =>
                          refine ⟨a', mid, (rd lt dk a' b' lim wb wp).lim, decide (b' - mid ≥ (b' - a') / 8), ap, pdq lt d4 (mid + 1) b' (rd lt dk a' b' lim wb wp).lim true true, rfl, rfl, rfl, ?_, rfl, by omega, by omega, Nat.le_refl _, by omega, Nat.le_trans rd_lim_le hlim, PL.out.1.trans HD4.out, (R7.out _ PL.out SL.out).1, HS8, HK8, ?_⟩
                          · exact congrArg Value.bool (eighth (by omega) (by omega))
                          · show _ = _
                            rw [← HE.out, pdq_right h12 hl0 HP2.out H87.out (by rw [HXX.out]; exact ⟨r1, r2⟩) (by rw [HXX.out]; exact h4), HXX.out]
                    · have h87' := h87
                      simp only [Bool.and_eq_true, decide_eq_true_eq, Bool.not_eq_true'] at h87'
                      obtain ⟨mid, d4, hx⟩ : ∃ mid d4, Sort.partitionEqual lt (rd lt dk a' b' lim wb wp).pi.1 a' b' (rd lt dk a' b' lim wb wp).pivot = (mid, d4) := ⟨_, _, rfl⟩
                      obtain ⟨r1, r2, r3, r4, _⟩ := round_eq HO.out (partitionEqual_holds lt) h87'.1 pv1 pv2 (show b' ≤ (rd lt dk a' b' lim wb wp).pi.1.size by rw [HD3.out]; exact hb') HB3.out h87'.2 hx
                      have hpt := partEq_any HX.out HSe.out HD3.out a' b' (rd lt dk a' b' lim wb wp).pivot pv1 pv2 hb'
                      rw [hx] at hpt
                      have HXX := Lib.hid hx
                      have HD4 : Hid (d4.size = size) := r3.trans HD3.out
                      have R4 := Lib.hid r4
                      have H87 := Lib.hid h87
                      clear hx r3 r4 h87' h87
                      go_wp2_with fail
                      refine hpt.mono ?_
                      rintro e w7 ⟨rfl, S2, K2⟩
                      have HS7 := Lib.hid S2
                      have HK7 := Lib.hid (HKe.out.trans K2)
                      clear S2 K2 c0 c1

                      clear hpt
                      go_wp2_with fail
                      go_roundg (b' - mid)
                      case measure => omega
                      case rel =>
                        exact ⟨mid, b', (rd lt dk a' b' lim wb wp).lim, wb, wp, d4, rfl, rfl, rfl, rfl, rfl, r2, hb', Nat.le_refl _, by omega, Nat.le_trans rd_lim_le hlim, HD4, R4, HS7, HK7, by show _ = _; rw [← HE.out, pdq_eq h12 hl0 HP2.out H87.out (by rw [HXX.out]; exact ⟨r1, r2⟩), HXX.out]⟩
end
end Go.Proofs.YtibdcejglkhcfaaGreatDoor
