/-
  The library's partial insertion sort, with a comparison that may make memory.
-/
import Derived.Test.YtibdcejglkhcfaaGreatDoorSrtB
import Derived.Sort.WalkA6
namespace Go.Proofs.YtibdcejglkhcfaaGreatDoor
open Go.RowKit Go.Sort Go.Shelf Go.Lib
set_option linter.unusedVariables false
section
variable {α : Type} [Inhabited α] {enc : α → Value} {lt : α → α → Bool} {g : Nat} {lb : Array Value} {sf : Nat} {sb : Array Value} {blk off size : Nat} {w0 : World}
/-- How a function of the sort ends that hands back a value. -/
def RetSV (v : Value) (enc : α → Value) (w0 : World) (blk off : Nat) (d : Array α) (w : World) (e : Ending) (w' : World) : Prop := e = .returned v ∧ SW enc w0 blk off d w' ∧ KB blk w w'
set_option maxRecDepth 1000000 in
set_option maxHeartbeats 8000000 in
theorem partIns_any (X : Cx enc lt g lb sf sb blk off size w0) {d : Array α} {w : World} (S : SW enc w0 blk off d w) (hs : d.size = size) (a b : Nat) (hab : a < b) (hb : b ≤ size) :
    Calls Tryz.prog 182 #[.agg #[.func (.func g) #[] lb, .func (.func sf) #[] sb], .int .i64 (a : Int), .int .i64 (b : Int)] w fun e w' => RetSV (.bool (Sort.partialInsertionSort lt d a b).2) enc w0 blk off (Sort.partialInsertionSort lt d a b).1 w e w' := by
  have ne : w.heap.size ≠ blk := by have := X.blt S; omega
  have eg := X.eg
  have sz := X.sz
  have HX := Lib.hid X
  have S1 : SW enc w0 blk off d (w.alloc (.cells #[.func (.func g) #[] lb, .func (.func sf) #[] sb] 181)) := S.alloc _
  have B1 := Bx2.new w (.func (.func g) #[] lb) (.func (.func sf) #[] sb) 181
  have K1 : KB blk w (w.alloc (.cells #[.func (.func g) #[] lb, .func (.func sf) #[] sb] 181)) := (KB.refl _ _).alloc _
  have HS := Lib.hid S1
  have HB := Lib.hid B1
  have HK := Lib.hid K1
  have HD := Lib.hid hs
  clear X S S1 B1 K1 hs
  go_enter Tryz.func182, Tryz.ntmps182
  go_wp2_with fail
  generalize hW : World.alloc w (.cells #[.func (.func g) #[] lb, .func (.func sf) #[] sb] 181) = W1 at HS HB HK ⊢
  clear hW
  go_loopg [7, 8] 5 (fun g1 vi vs wr => ∃ (i s : Nat) (dk : Array α), vi = .int .i64 (i : Int) ∧ vs = .int .i64 (s : Int) ∧ s ≤ 5 ∧ 5 - s ≤ g1 ∧ a < i ∧ i ≤ b ∧ Hid (dk.size = size) ∧ Hid (SW enc w0 blk off dk wr) ∧ Hid (KB blk W1 wr) ∧ Hid (partialIns lt a b (5 - s) i dk = Sort.partialInsertionSort lt d a b))
  case atStart => exact ⟨a + 1, 0, d, by go_num, rfl, by omega, by omega, by omega, by omega, HD, HS, KB.refl _ _, rfl⟩
  case round =>
    obtain ⟨i, s, dk, rfl, rfl, hs5, hg1, hai, hib, HDk, HSk, HKk, HO⟩ := hrel
    by_cases hs : s < 5
    · have hsz5 : (s : Int) < 5 := by omega
      go_wp2_with fail
      go_loopg [7] (b - i) (fun g2 vi wr2 => ∃ k : Nat, vi = .int .i64 (k : Int) ∧ i ≤ k ∧ k ≤ b ∧ b - k ≤ g2 ∧ Hid (SW enc w0 blk off dk wr2) ∧ Hid (KB blk W1 wr2) ∧ Hid (scanSorted lt dk b k = scanSorted lt dk b i))
      case atStart => exact ⟨i, rfl, Nat.le_refl _, hib, Nat.le_refl _, HSk, HKk, rfl⟩
      case round =>
        clear HSk HKk
        obtain ⟨k, rfl, hik, hkb, hg2, HSk, HKk, HSc⟩ := hrel
        obtain ⟨_, c0, c1⟩ := HB.out.on ne HKk.out
        by_cases hkb' : k < b
        · have hkz : (k : Int) < (b : Int) := by omega
          obtain ⟨T, hT⟩ : ∃ T, lt dk[k]! dk[k - 1]! = T := ⟨_, rfl⟩
          have HT := Lib.hid hT
          cases T with
          | false =>
            have hl2 := HX.out.ls HSk.out HDk.out (i := k) (j := k - 1) (x := (k : Int)) (y := (k : Int) - 1) (by omega) (by omega) (by omega) (by omega) hT
            go_wp2_with fail
            refine hl2.mono ?_
            rintro e w2 ⟨rfl, S2, K2⟩
            clear hl2
            have HS2 := Lib.hid S2
            have HK2 := Lib.hid (HKk.out.trans K2)
            clear S2 K2
            obtain ⟨_, c0, c1⟩ := HB.out.on ne HK2.out

            clear hT
            go_wp2_with fail
            go_roundg (b - (k + 1))
            case measure => omega
            case rel => exact ⟨k + 1, by go_num, by omega, by omega, Nat.le_refl _, HS2, HK2, (show _ = _ by rw [← HSc.out, scanSorted_go lt dk b k hkb' HT.out])⟩
          | true =>
            have HKq : Hid (scanSorted lt dk b i = k) := by show _ = _; rw [← HSc.out, scanSorted_stop lt dk b k (Or.inr HT.out)]
            have hkne : ((k : Int) == (b : Int)) = false := beq_eq_false_iff_ne.2 (by omega)
            by_cases h50 : b - a < 50
            · have h50z : (b : Int) - (a : Int) < 50 := by omega
              have hl2 := HX.out.ls HSk.out HDk.out (i := k) (j := k - 1) (x := (k : Int)) (y := (k : Int) - 1) (by omega) (by omega) (by omega) (by omega) hT
              go_wp2_with fail
              refine hl2.mono ?_
              rintro e w2 ⟨rfl, S2, K2⟩
              clear hl2
              have HS2 := Lib.hid S2
              have HK2 := Lib.hid (HKk.out.trans K2)
              clear S2 K2
              obtain ⟨_, c0, c1⟩ := HB.out.on ne HK2.out

              clear hT
              go_wp2_with fail
              have hv : Sort.partialInsertionSort lt d a b = (dk, false) := by
                rw [← HO.out, pi_short lt a b s i dk hs (by rw [HKq.out]; omega) h50]
              rw [hv]
              go_ret
              exact ⟨rfl, HS2.out, HK.out.trans HK2.out⟩
            · have h50z : ¬ ((b : Int) - (a : Int) < 50) := by omega
              have hl2 := HX.out.ls HSk.out HDk.out (i := k) (j := k - 1) (x := (k : Int)) (y := (k : Int) - 1) (by omega) (by omega) (by omega) (by omega) hT
              go_wp2_with fail
              refine hl2.mono ?_
              rintro e w2 ⟨rfl, S2, K2⟩
              clear hl2
              have HS2 := Lib.hid S2
              have HK2 := Lib.hid (HKk.out.trans K2)
              clear S2 K2
              obtain ⟨_, c0, c1⟩ := HB.out.on ne HK2.out

              clear hT
              go_wp2_with fail
              obtain ⟨w3, hr, S3, K3⟩ := HX.out.sw HS2.out HDk.out (i := k) (j := k - 1) (x := (k : Int)) (y := (k : Int) - 1) (by omega) (by omega) (by omega) (by omega)
              rw [hr, Oper.upon_value]
              have HS3 := Lib.hid S3
              have HK3 := Lib.hid (HK2.out.trans K3)
              clear hr S3 K3
              obtain ⟨_, c0, c1⟩ := HB.out.on ne HK3.out

              have HD3 : Hid ((Sort.swp dk k (k - 1)).size = size) := (Sort.size_swp _ _ _).trans HDk.out
              by_cases hka : k - a ≥ 2
              · have hkaz : (2 : Int) ≤ (k : Int) - (a : Int) := by omega
                go_wp2_with fail
                go_loopg [9] (k - 1) (fun g3 vj wr3 => ∃ (j : Nat) (dj : Array α), vj = .int .i64 (j : Int) ∧ j ≤ k - 1 ∧ j ≤ g3 ∧ Hid (dj.size = size) ∧ Hid (SW enc w0 blk off dj wr3) ∧ Hid (KB blk W1 wr3) ∧ Hid (shiftDown lt j dj = shiftDown lt (k - 1) (Sort.swp dk k (k - 1))))
                case atStart => exact ⟨k - 1, (Sort.swp dk k (k - 1)), by congr 1; omega, Nat.le_refl _, Nat.le_refl _, HD3, HS3, HK3, rfl⟩
                case round =>
                  obtain ⟨j, dj, rfl, hjk, hg3, HDj, HSj, HKj, HDd⟩ := hrel
                  obtain ⟨_, c0, c1⟩ := HB.out.on ne HKj.out
                  by_cases hj1 : 1 ≤ j
                  · have hj1z : (1 : Int) ≤ (j : Int) := by omega
                    obtain ⟨T2, hT2⟩ : ∃ T, lt dj[j]! dj[j - 1]! = T := ⟨_, rfl⟩
                    have HT2 := Lib.hid hT2
                    cases T2 with
                    | true =>
                      have hl4 := HX.out.ls HSj.out HDj.out (i := j) (j := j - 1) (x := (j : Int)) (y := (j : Int) - 1) (by omega) (by omega) (by omega) (by omega) hT2
                      go_wp2_with fail
                      refine hl4.mono ?_
                      rintro e w4 ⟨rfl, S2, K2⟩
                      clear hl4
                      have HS4 := Lib.hid S2
                      have HK4 := Lib.hid (HKj.out.trans K2)
                      clear S2 K2
                      obtain ⟨_, c0, c1⟩ := HB.out.on ne HK4.out

                      clear hT2
                      go_wp2_with fail
                      obtain ⟨w5, hr, S3, K3⟩ := HX.out.sw HS4.out HDj.out (i := j) (j := j - 1) (x := (j : Int)) (y := (j : Int) - 1) (by omega) (by omega) (by omega) (by omega)
                      rw [hr, Oper.upon_value]
                      have HS5 := Lib.hid S3
                      have HK5 := Lib.hid (HK4.out.trans K3)
                      clear hr S3 K3
                      obtain ⟨_, c0, c1⟩ := HB.out.on ne HK5.out

                      go_wp2_with fail
                      go_roundg (j - 1)
                      case measure => omega
                      case rel => exact ⟨j - 1, Sort.swp dj j (j - 1), by congr 1; omega, by omega, Nat.le_refl _, (Sort.size_swp _ _ _).trans HDj.out, HS5, HK5, (show _ = _ by rw [← HDd.out, shiftDown_go lt j dj hj1 HT2.out])⟩
                    | false =>
                      have HDn : Hid (fixDown lt a k (Sort.swp dk k (k - 1)) = dj) := by show _ = _; unfold fixDown; rw [if_pos hka, ← HDd.out, shiftDown_stop lt j dj (Or.inr HT2.out)]
                      have hl4 := HX.out.ls HSj.out HDj.out (i := j) (j := j - 1) (x := (j : Int)) (y := (j : Int) - 1) (by omega) (by omega) (by omega) (by omega) hT2
                      go_wp2_with fail
                      refine hl4.mono ?_
                      rintro e w4 ⟨rfl, S2, K2⟩
                      clear hl4
                      have HS4 := Lib.hid S2
                      have HK4 := Lib.hid (HKj.out.trans K2)
                      clear S2 K2
                      obtain ⟨_, c0, c1⟩ := HB.out.on ne HK4.out

                      clear hT2
                      by_cases hbk : b - k ≥ 2
                      · have hbkz : (2 : Int) ≤ (b : Int) - (k : Int) := by omega
                        go_wp2_with fail
                        go_loopg [10] (b - (k + 1)) (fun g4 vj wr4 => ∃ (ju : Nat) (du : Array α), vj = .int .i64 (ju : Int) ∧ k + 1 ≤ ju ∧ ju ≤ b ∧ b - ju ≤ g4 ∧ Hid (du.size = size) ∧ Hid (SW enc w0 blk off du wr4) ∧ Hid (KB blk W1 wr4) ∧ Hid (shiftUp lt b ju du = shiftUp lt b (k + 1) dj))
                        case atStart => exact ⟨k + 1, dj, by go_num, Nat.le_refl _, by omega, Nat.le_refl _, HDj, HS4, HK4, rfl⟩
                        case round =>
                          obtain ⟨ju, du, rfl, hkj, hjb, hg4, HDu, HSu, HKu, HU⟩ := hrel
                          obtain ⟨_, c0, c1⟩ := HB.out.on ne HKu.out
                          by_cases hjb' : ju < b
                          · have hjz : (ju : Int) < (b : Int) := by omega
                            obtain ⟨T, hT⟩ : ∃ T, lt du[ju]! du[ju - 1]! = T := ⟨_, rfl⟩
                            have hl5 := HX.out.ls HSu.out HDu.out (i := ju) (j := ju - 1) (x := (ju : Int)) (y := (ju : Int) - 1) (by omega) (by omega) (by omega) (by omega) hT
                            go_wp2_with fail
                            refine hl5.mono ?_
                            rintro e w5 ⟨rfl, S2, K2⟩
                            clear hl5
                            have HS5 := Lib.hid S2
                            have HK5 := Lib.hid (HKu.out.trans K2)
                            clear S2 K2
                            obtain ⟨_, c0, c1⟩ := HB.out.on ne HK5.out

                            have HT := Lib.hid hT
                            clear hT
                            cases T with
                            | true =>
                              go_wp2_with fail
                              obtain ⟨w6, hr, S3, K3⟩ := HX.out.sw HS5.out HDu.out (i := ju) (j := ju - 1) (x := (ju : Int)) (y := (ju : Int) - 1) (by omega) (by omega) (by omega) (by omega)
                              rw [hr, Oper.upon_value]
                              have HS6 := Lib.hid S3
                              have HK6 := Lib.hid (HK5.out.trans K3)
                              clear hr S3 K3
                              obtain ⟨_, c0, c1⟩ := HB.out.on ne HK6.out

                              go_wp2_with fail
                              go_roundg (b - (ju + 1))
                              case measure => omega
                              case rel => exact ⟨ju + 1, Sort.swp du ju (ju - 1), by go_num, by omega, by omega, Nat.le_refl _, (Sort.size_swp _ _ _).trans HDu.out, HS6, HK6, (show _ = _ by rw [← HU.out, shiftUp_go lt b ju du hjb' HT.out])⟩
                            | false =>
                              go_wp2_with fail
                              go_roundg (5 - (s + 1))
                              case measure => omega
                              case rel => exact ⟨k, s + 1, du, rfl, by go_num, by omega, Nat.le_refl _, by omega, by omega, HDu, HS5, HK5, (show _ = _ by rw [← HO.out, pi_go lt a b s i k dk hs HKq.out (by omega) h50, HDn.out, show fixUp lt b k dj = du from by unfold fixUp; rw [if_pos hbk, ← HU.out, shiftUp_stop lt b ju du (Or.inr HT.out)]])⟩

                          · have hjz : ¬ (ju : Int) < (b : Int) := by omega
                            go_wp2_with fail
                            go_roundg (5 - (s + 1))
                            case measure => omega
                            case rel => exact ⟨k, s + 1, du, rfl, by go_num, by omega, Nat.le_refl _, by omega, by omega, HDu, HSu, HKu, (show _ = _ by rw [← HO.out, pi_go lt a b s i k dk hs HKq.out (by omega) h50, HDn.out, show fixUp lt b k dj = du from by unfold fixUp; rw [if_pos hbk, ← HU.out, shiftUp_stop lt b ju du (Or.inl hjb')]])⟩

                      · have hbkz : ¬ (2 : Int) ≤ (b : Int) - (k : Int) := by omega
                        go_wp2_with fail
                        go_roundg (5 - (s + 1))
                        case measure => omega
                        case rel => exact ⟨k, s + 1, dj, rfl, by go_num, by omega, Nat.le_refl _, by omega, by omega, HDj, HS4, HK4, (show _ = _ by rw [← HO.out, pi_go lt a b s i k dk hs HKq.out (by omega) h50, HDn.out, show fixUp lt b k dj = dj from by unfold fixUp; rw [if_neg hbk]])⟩


                  · have hj1z : ¬ (1 : Int) ≤ (j : Int) := by omega
                    have HDn : Hid (fixDown lt a k (Sort.swp dk k (k - 1)) = dj) := by show _ = _; unfold fixDown; rw [if_pos hka, ← HDd.out, shiftDown_stop lt j dj (Or.inl (by omega))]
                    by_cases hbk : b - k ≥ 2
                    · have hbkz : (2 : Int) ≤ (b : Int) - (k : Int) := by omega
                      go_wp2_with fail
                      go_loopg [10] (b - (k + 1)) (fun g4 vj wr4 => ∃ (ju : Nat) (du : Array α), vj = .int .i64 (ju : Int) ∧ k + 1 ≤ ju ∧ ju ≤ b ∧ b - ju ≤ g4 ∧ Hid (du.size = size) ∧ Hid (SW enc w0 blk off du wr4) ∧ Hid (KB blk W1 wr4) ∧ Hid (shiftUp lt b ju du = shiftUp lt b (k + 1) dj))
                      case atStart => exact ⟨k + 1, dj, by go_num, Nat.le_refl _, by omega, Nat.le_refl _, HDj, HSj, HKj, rfl⟩
                      case round =>
                        obtain ⟨ju, du, rfl, hkj, hjb, hg4, HDu, HSu, HKu, HU⟩ := hrel
                        obtain ⟨_, c0, c1⟩ := HB.out.on ne HKu.out
                        by_cases hjb' : ju < b
                        · have hjz : (ju : Int) < (b : Int) := by omega
                          obtain ⟨T, hT⟩ : ∃ T, lt du[ju]! du[ju - 1]! = T := ⟨_, rfl⟩
                          have hl5 := HX.out.ls HSu.out HDu.out (i := ju) (j := ju - 1) (x := (ju : Int)) (y := (ju : Int) - 1) (by omega) (by omega) (by omega) (by omega) hT
                          go_wp2_with fail
                          refine hl5.mono ?_
                          rintro e w5 ⟨rfl, S2, K2⟩
                          clear hl5
                          have HS5 := Lib.hid S2
                          have HK5 := Lib.hid (HKu.out.trans K2)
                          clear S2 K2
                          obtain ⟨_, c0, c1⟩ := HB.out.on ne HK5.out

                          have HT := Lib.hid hT
                          clear hT
                          cases T with
                          | true =>
                            go_wp2_with fail
                            obtain ⟨w6, hr, S3, K3⟩ := HX.out.sw HS5.out HDu.out (i := ju) (j := ju - 1) (x := (ju : Int)) (y := (ju : Int) - 1) (by omega) (by omega) (by omega) (by omega)
                            rw [hr, Oper.upon_value]
                            have HS6 := Lib.hid S3
                            have HK6 := Lib.hid (HK5.out.trans K3)
                            clear hr S3 K3
                            obtain ⟨_, c0, c1⟩ := HB.out.on ne HK6.out

                            go_wp2_with fail
                            go_roundg (b - (ju + 1))
                            case measure => omega
                            case rel => exact ⟨ju + 1, Sort.swp du ju (ju - 1), by go_num, by omega, by omega, Nat.le_refl _, (Sort.size_swp _ _ _).trans HDu.out, HS6, HK6, (show _ = _ by rw [← HU.out, shiftUp_go lt b ju du hjb' HT.out])⟩
                          | false =>
                            go_wp2_with fail
                            go_roundg (5 - (s + 1))
                            case measure => omega
                            case rel => exact ⟨k, s + 1, du, rfl, by go_num, by omega, Nat.le_refl _, by omega, by omega, HDu, HS5, HK5, (show _ = _ by rw [← HO.out, pi_go lt a b s i k dk hs HKq.out (by omega) h50, HDn.out, show fixUp lt b k dj = du from by unfold fixUp; rw [if_pos hbk, ← HU.out, shiftUp_stop lt b ju du (Or.inr HT.out)]])⟩

                        · have hjz : ¬ (ju : Int) < (b : Int) := by omega
                          go_wp2_with fail
                          go_roundg (5 - (s + 1))
                          case measure => omega
                          case rel => exact ⟨k, s + 1, du, rfl, by go_num, by omega, Nat.le_refl _, by omega, by omega, HDu, HSu, HKu, (show _ = _ by rw [← HO.out, pi_go lt a b s i k dk hs HKq.out (by omega) h50, HDn.out, show fixUp lt b k dj = du from by unfold fixUp; rw [if_pos hbk, ← HU.out, shiftUp_stop lt b ju du (Or.inl hjb')]])⟩

                    · have hbkz : ¬ (2 : Int) ≤ (b : Int) - (k : Int) := by omega
                      go_wp2_with fail
                      go_roundg (5 - (s + 1))
                      case measure => omega
                      case rel => exact ⟨k, s + 1, dj, rfl, by go_num, by omega, Nat.le_refl _, by omega, by omega, HDj, HSj, HKj, (show _ = _ by rw [← HO.out, pi_go lt a b s i k dk hs HKq.out (by omega) h50, HDn.out, show fixUp lt b k dj = dj from by unfold fixUp; rw [if_neg hbk]])⟩


              · have hkaz : ¬ (2 : Int) ≤ (k : Int) - (a : Int) := by omega
                have HDn : Hid (fixDown lt a k (Sort.swp dk k (k - 1)) = (Sort.swp dk k (k - 1))) := by show _ = _; unfold fixDown; rw [if_neg hka]
                by_cases hbk : b - k ≥ 2
                · have hbkz : (2 : Int) ≤ (b : Int) - (k : Int) := by omega
                  go_wp2_with fail
                  go_loopg [10] (b - (k + 1)) (fun g4 vj wr4 => ∃ (ju : Nat) (du : Array α), vj = .int .i64 (ju : Int) ∧ k + 1 ≤ ju ∧ ju ≤ b ∧ b - ju ≤ g4 ∧ Hid (du.size = size) ∧ Hid (SW enc w0 blk off du wr4) ∧ Hid (KB blk W1 wr4) ∧ Hid (shiftUp lt b ju du = shiftUp lt b (k + 1) (Sort.swp dk k (k - 1))))
                  case atStart => exact ⟨k + 1, (Sort.swp dk k (k - 1)), by go_num, Nat.le_refl _, by omega, Nat.le_refl _, HD3, HS3, HK3, rfl⟩
                  case round =>
                    obtain ⟨ju, du, rfl, hkj, hjb, hg4, HDu, HSu, HKu, HU⟩ := hrel
                    obtain ⟨_, c0, c1⟩ := HB.out.on ne HKu.out
                    by_cases hjb' : ju < b
                    · have hjz : (ju : Int) < (b : Int) := by omega
                      obtain ⟨T, hT⟩ : ∃ T, lt du[ju]! du[ju - 1]! = T := ⟨_, rfl⟩
                      have hl5 := HX.out.ls HSu.out HDu.out (i := ju) (j := ju - 1) (x := (ju : Int)) (y := (ju : Int) - 1) (by omega) (by omega) (by omega) (by omega) hT
                      go_wp2_with fail
                      refine hl5.mono ?_
                      rintro e w5 ⟨rfl, S2, K2⟩
                      clear hl5
                      have HS5 := Lib.hid S2
                      have HK5 := Lib.hid (HKu.out.trans K2)
                      clear S2 K2
                      obtain ⟨_, c0, c1⟩ := HB.out.on ne HK5.out

                      have HT := Lib.hid hT
                      clear hT
                      cases T with
                      | true =>
                        go_wp2_with fail
                        obtain ⟨w6, hr, S3, K3⟩ := HX.out.sw HS5.out HDu.out (i := ju) (j := ju - 1) (x := (ju : Int)) (y := (ju : Int) - 1) (by omega) (by omega) (by omega) (by omega)
                        rw [hr, Oper.upon_value]
                        have HS6 := Lib.hid S3
                        have HK6 := Lib.hid (HK5.out.trans K3)
                        clear hr S3 K3
                        obtain ⟨_, c0, c1⟩ := HB.out.on ne HK6.out

                        go_wp2_with fail
                        go_roundg (b - (ju + 1))
                        case measure => omega
                        case rel => exact ⟨ju + 1, Sort.swp du ju (ju - 1), by go_num, by omega, by omega, Nat.le_refl _, (Sort.size_swp _ _ _).trans HDu.out, HS6, HK6, (show _ = _ by rw [← HU.out, shiftUp_go lt b ju du hjb' HT.out])⟩
                      | false =>
                        go_wp2_with fail
                        go_roundg (5 - (s + 1))
                        case measure => omega
                        case rel => exact ⟨k, s + 1, du, rfl, by go_num, by omega, Nat.le_refl _, by omega, by omega, HDu, HS5, HK5, (show _ = _ by rw [← HO.out, pi_go lt a b s i k dk hs HKq.out (by omega) h50, HDn.out, show fixUp lt b k (Sort.swp dk k (k - 1)) = du from by unfold fixUp; rw [if_pos hbk, ← HU.out, shiftUp_stop lt b ju du (Or.inr HT.out)]])⟩

                    · have hjz : ¬ (ju : Int) < (b : Int) := by omega
                      go_wp2_with fail
                      go_roundg (5 - (s + 1))
                      case measure => omega
                      case rel => exact ⟨k, s + 1, du, rfl, by go_num, by omega, Nat.le_refl _, by omega, by omega, HDu, HSu, HKu, (show _ = _ by rw [← HO.out, pi_go lt a b s i k dk hs HKq.out (by omega) h50, HDn.out, show fixUp lt b k (Sort.swp dk k (k - 1)) = du from by unfold fixUp; rw [if_pos hbk, ← HU.out, shiftUp_stop lt b ju du (Or.inl hjb')]])⟩

                · have hbkz : ¬ (2 : Int) ≤ (b : Int) - (k : Int) := by omega
                  go_wp2_with fail
                  go_roundg (5 - (s + 1))
                  case measure => omega
                  case rel => exact ⟨k, s + 1, (Sort.swp dk k (k - 1)), rfl, by go_num, by omega, Nat.le_refl _, by omega, by omega, HD3, HS3, HK3, (show _ = _ by rw [← HO.out, pi_go lt a b s i k dk hs HKq.out (by omega) h50, HDn.out, show fixUp lt b k (Sort.swp dk k (k - 1)) = (Sort.swp dk k (k - 1)) from by unfold fixUp; rw [if_neg hbk]])⟩


        · obtain rfl : k = b := by omega
          have hkz : ¬ (k : Int) < (k : Int) := by omega
          go_wp2_with fail
          have hv : Sort.partialInsertionSort lt d a k = (dk, true) := by
            rw [← HO.out, pi_true lt a k s i dk hs (by rw [← HSc.out, scanSorted_stop lt dk k k (Or.inl (by omega))])]
          rw [hv]
          go_ret
          exact ⟨rfl, HSk.out, HK.out.trans HKk.out⟩
    · obtain rfl : s = 5 := by omega
      go_wp2_with fail
      have hv : Sort.partialInsertionSort lt d a b = (dk, false) := by
        rw [← HO.out, pi_end]
      rw [hv]
      go_ret
      exact ⟨rfl, HSk.out, HK.out.trans HKk.out⟩
end
end Go.Proofs.YtibdcejglkhcfaaGreatDoor
