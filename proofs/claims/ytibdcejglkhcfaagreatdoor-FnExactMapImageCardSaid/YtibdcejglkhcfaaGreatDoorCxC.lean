/-
  ValidSimplex of the model: l00Rises, l05Simplex.
-/
import Derived.Test.YtibdcejglkhcfaaGreatDoorCxB
namespace Go.Proofs.YtibdcejglkhcfaaGreatDoor
open Go.RowKit
set_option linter.unusedVariables false

theorem l00In_q {n lo hi : Int} {b : Bool} (w : World) (h : inB n lo hi = b) :
    Calls Tryz.prog 45 #[.int .i64 n, .int .i64 lo, .int .i64 hi] w fun e w' => e = .returned (.bool b) ∧ w' = w := (l00In_is w h).mono fun _ _ ⟨a, b⟩ => ⟨a, b.symm⟩
theorem rises_nil {a : Option Addr} {c : Nat} (lo hi : Int) (w : World) :
    Calls Tryz.prog 159 #[.slice a 0 c, .int .i64 lo, .int .i64 hi] w fun e w' => e = .returned (.bool true) ∧ ∃ n, w' = w.drewN n := by
  go_enter Tryz.func159, Tryz.ntmps159
  go_wp2
  refine wp_loop_rounds 1 ?_
  rw [rounds_succ]
  go_wp2
  go_ret
  exact ⟨rfl, 0, rfl⟩
set_option maxHeartbeats 1600000 in
theorem rises_some {b o c : Nat} {l : List Int} {lo hi : Int} {T : Bool} {w : World} (h1 : l.length ≤ 1048576) (hlo : -1000000 ≤ lo) (hhi : hi ≤ 1000000)
    (k1 : ∀ j (h : j < l.length), w.cell? ⟨b, o + j, none⟩ = some (.int .i64 l[j])) (hT : risB hi lo l = T) :
    Calls Tryz.prog 159 #[.slice (some ⟨b, o, none⟩) l.length c, .int .i64 lo, .int .i64 hi] w fun e w' => e = .returned (.bool T) ∧ ∃ n, w' = w.drewN n := by
  have K1 := Lib.hid k1
  have HT := Lib.hid hT
  clear k1 hT
  go_enter Tryz.func159, Tryz.ntmps159
  go_wp2
  go_loopw [7] (fun i wr => ∃ (k n : Nat) (m : Int), k ≤ l.length ∧ i = .int .i64 (k : Int) ∧ Hid (m = nxt lo l k) ∧ lo ≤ m ∧ Hid (risB hi m (l.drop k) = T) ∧ Hid (wr = w.drewN n)) (fun i _ => l.length - (intOf i).toNat)
  case atStart => exact ⟨0, 0, lo, Nat.zero_le _, rfl, rfl, by omega, HT, rfl⟩
  case round =>
    obtain ⟨k, n, m, hk, rfl, HM, hm0, HK, HW⟩ := hrel
    have KW : Hid (∀ j (h : j < l.length), wr.cell? ⟨b, o + j, none⟩ = some (.int .i64 l[j])) := by
      intro j h; rw [HW.out]; exact K1.out j h
    by_cases hlt : k < l.length
    · have g1 := KW.out k hlt
      have hr := HK.out
      rw [risB_drop hlt] at hr
      have hnx : nxt lo l (k + 1) = l[k] + 1 := by show l.getD k 0 + 1 = _; rw [getD_in hlt]
      obtain ⟨x, hx⟩ : ∃ x, l[k] = x := ⟨_, rfl⟩
      rw [hx] at g1 hr hnx
      have HNX := Lib.hid hnx
      clear hx HK hnx
      have i0 : 0 ≤ (k : Int) := by omega
      have i1 : (k : Int) < l.length := by omega
      by_cases hin : lo ≤ x ∧ x ≤ hi
      · have h9 : inB x lo hi = true := inB_yes hin.1 hin.2
        rcases Nat.eq_zero_or_pos k with h0 | h0
        · have hm : m = lo := by rw [HM.out, h0]; rfl
          rw [hm, decide_eq_true hin, Bool.true_and] at hr
          have HR := Lib.hid hr
          obtain ⟨g3, g4⟩ := hin
          have g3n : decide ((k : Int) > 0) = false := by simp; omega
          have g3m : decide (0 < k) = false := by simp; omega
          clear hr hm h0
          go_wp2_with fail
          refine wp_region_quiet_lit (by kernel_rfl) (by kernel_rfl) ?_
          iterate 24 (first | go_big_quiet_step ((go_at_call 45; exact Calls.quiet_of_same (l00In_q _ h9))) | quiet_step ((go_at_call 45; exact Calls.quiet_of_same (l00In_q _ h9))))
          refine wpQuiet_nil ?_
          intro _ hw'
          obtain ⟨nq, hw''⟩ := hw'
          subst hw''
          clear h9 g3n g3m
          go_wp2_with fail
          go_roundw
          case rel => exact ⟨k + 1, _, x + 1, by omega, by go_num, HNX.out.symm, by omega, HR, by show _ = _; rw [HW.out]; exact World.drewN_drewN _ _ _⟩
          case measure => simp [intOf]; omega
        · obtain ⟨q, rfl⟩ : ∃ q, k = q + 1 := ⟨k - 1, by omega⟩
          have hq : q < l.length := by omega
          have g2 := KW.out q hq
          have hm : m = l[q] + 1 := by rw [HM.out]; show l.getD q 0 + 1 = _; rw [getD_in hq]
          obtain ⟨y, hy⟩ : ∃ y, l[q] = y := ⟨_, rfl⟩
          rw [hy] at g2 hm
          have hyx : (decide (m ≤ x ∧ x ≤ hi)) = !decide (y ≥ x) := by rw [Bool.eq_iff_iff]; simp; omega
          clear hy
          rw [hyx] at hr
          have g3 : decide (((q + 1 : Nat) : Int) > 0) = true := decide_eq_true (by omega)
          have g3' : decide (0 < q + 1) = true := decide_eq_true (by omega)
          have e1 : ((q + 1 : Nat) : Int) - 1 = (q : Int) := by omega
          have e2 : IntKind.i64.wrap (((q + 1 : Nat) : Int) - 1) = (q : Int) := by rw [e1]; exact IntWalk.i64_in _ (by omega)
          have i2 : 0 ≤ (q : Int) := by omega
          have i3 : (q : Int) < l.length := by omega
          clear hyx hm
          by_cases hge : y ≥ x
          · have g5 : decide (y ≥ x) = true := decide_eq_true hge
            rw [g5] at hr
            have ht : T = false := by rw [← hr]; rfl
            subst ht
            clear hr
            go_wp2_with fail
            go_quiet ((go_at_call 45; exact Calls.quiet_of_same (l00In_q _ h9)))
            clear h9
            go_wp2_with fail
            go_ret
            exact ⟨rfl, _, by rw [HW.out]; exact World.drewN_drewN _ _ _⟩
          · have g5 : decide (y ≥ x) = false := decide_eq_false hge
            rw [g5, Bool.not_false, Bool.true_and] at hr
            have HR := Lib.hid hr
            have g6 : ¬ x ≤ y := by omega
            clear hr
            go_wp2_with fail
            go_quiet ((go_at_call 45; exact Calls.quiet_of_same (l00In_q _ h9)))
            clear h9 e1 e2
            go_wp2_with fail
            go_roundw
            case rel => exact ⟨q + 1 + 1, _, x + 1, by omega, by go_num, HNX.out.symm, by omega, HR, by show _ = _; rw [HW.out]; exact World.drewN_drewN _ _ _⟩
            case measure => simp [intOf]; omega
      · have h9 : inB x lo hi = false := inB_no (by omega)
        have hd : decide (m ≤ x ∧ x ≤ hi) = false := decide_eq_false (by omega)
        rw [hd, Bool.false_and] at hr
        subst hr
        clear hin hd
        go_wp2_with fail
        go_quiet ((go_at_call 45; exact Calls.quiet_of_same (l00In_q _ h9)))
        clear h9
        go_wp2_with fail
        go_ret
        exact ⟨rfl, _, by rw [HW.out]; exact World.drewN_drewN _ _ _⟩
    · have ht : T = true := by rw [← HK.out]; exact risB_end (by omega)
      subst ht
      go_wp2
      go_ret
      exact ⟨rfl, _, HW.out⟩
theorem rises_is {v : Value} {l : List Int} {lo hi : Int} {T : Bool} {w : World} (hv : IntsAt w v l) (hlo : -1000000 ≤ lo) (hhi : hi ≤ 1000000) (hT : risB hi lo l = T) :
    Calls Tryz.prog 159 #[v, .int .i64 lo, .int .i64 hi] w fun e w' => e = .returned (.bool T) ∧ ∃ n, w' = w.drewN n := by
  obtain ⟨a, c, rfl, hl, ha⟩ := hv
  rcases ha with h' | ⟨b, o, rfl, hb, k1⟩
  · subst h'
    obtain rfl : true = T := hT
    exact rises_nil lo hi w
  · exact rises_some hl hlo hhi k1 hT
theorem l05Sim_is {v : Value} {l : List Int} {T : Bool} {w : World} (hv : IntsAt w v l) (hT : simB l = T) :
    Calls Tryz.prog 116 #[v] w fun e w' => e = .returned (.bool T) ∧ ∃ n, w' = w.drewN n := by
  have HV := Lib.hid hv
  obtain ⟨a, c, rfl, hl, _⟩ := hv
  by_cases h : 1 ≤ l.length ∧ l.length ≤ 4
  · rw [simB_in h.1 h.2] at hT
    have HT := Lib.hid hT
    have hb : inB (l.length : Int) 1 4 = true := inB_yes (by omega) (by omega)
    clear h hT
    go_enter Tryz.func116, Tryz.ntmps116
    go_wp2_with fail
    refine (l00In_is _ hb).mono ?_
    rintro e w' ⟨rfl, rfl⟩
    clear hb
    go_wp2_with fail
    refine (rises_is HV.out (by omega) (by omega) HT.out).mono ?_
    rintro e w' ⟨rfl, n, rfl⟩
    go_wp2_with fail
    go_ret
    exact ⟨rfl, n, rfl⟩
  · have hb : inB (l.length : Int) 1 4 = false := inB_no (by omega)
    rw [simB_no (by omega)] at hT
    subst hT
    clear h
    go_enter Tryz.func116, Tryz.ntmps116
    go_wp2_with fail
    refine (l00In_is _ hb).mono ?_
    rintro e w' ⟨rfl, rfl⟩
    clear hb
    go_wp2_with fail
    go_ret
    exact ⟨rfl, 0, rfl⟩
theorem implSimL {v : Value} {l : List Int} {T : Bool} {w : World} (hv : IntsAt w v l) (hT : T = simB l) :
    Calls Tryz.prog 161 #[v] w fun e w' => e = .returned (.bool T) ∧ Below w.heap.size w w' :=
  (implSim_is hv hT.symm).mono fun _ _ ⟨a, n, b⟩ => ⟨a, by rw [b]; exact below_drewX (Below.refl _ _) n⟩
end Go.Proofs.YtibdcejglkhcfaaGreatDoor
