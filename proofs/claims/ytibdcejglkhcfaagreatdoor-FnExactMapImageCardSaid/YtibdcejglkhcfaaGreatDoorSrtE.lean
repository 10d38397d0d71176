/-
  The library's partitions, with a comparison that may make memory.
-/
import Derived.Test.YtibdcejglkhcfaaGreatDoorSrtD
import Derived.Sort.WalkC4
import Derived.Sort.WalkC
namespace Go.Proofs.YtibdcejglkhcfaaGreatDoor
open Go.RowKit Go.Sort Go.Shelf Go.Lib
set_option linter.unusedVariables false
section
variable {α : Type} [Inhabited α] {enc : α → Value} {lt : α → α → Bool} {g : Nat} {lb : Array Value} {sf : Nat} {sb : Array Value} {blk off size : Nat} {w0 : World}
set_option maxRecDepth 1000000 in
set_option maxHeartbeats 16000000 in
theorem partEq_any (X : Cx enc lt g lb sf sb blk off size w0) {d : Array α} {w : World} (S : SW enc w0 blk off d w) (hs : d.size = size) (a b pivot : Nat) (hap : a ≤ pivot) (hpb : pivot < b) (hb : b ≤ size) :
    Calls Tryz.prog 183 #[.agg #[.func (.func g) #[] lb, .func (.func sf) #[] sb], .int .i64 (a : Int), .int .i64 (b : Int), .int .i64 (pivot : Int)] w fun e w' => RetSV (.int .i64 ((Sort.partitionEqual lt d a b pivot).1 : Int)) enc w0 blk off (Sort.partitionEqual lt d a b pivot).2 w e w' := by
  have ne : w.heap.size ≠ blk := by have := X.blt S; omega
  have eg := X.eg
  have sz := X.sz
  have HX := Lib.hid X
  have S1 : SW enc w0 blk off d (w.alloc (.cells #[.func (.func g) #[] lb, .func (.func sf) #[] sb] 181)) := S.alloc _
  have B1 := Bx2.new w (.func (.func g) #[] lb) (.func (.func sf) #[] sb) 181
  have K1 : KB blk w (w.alloc (.cells #[.func (.func g) #[] lb, .func (.func sf) #[] sb] 181)) := (KB.refl _ _).alloc _
  have HS := Lib.hid S1
  have HB := Lib.hid B1
  have HK := Lib.hid K1
  have HD := Lib.hid hs
  clear X S S1 B1 K1 hs
  go_enter Tryz.func183, Tryz.ntmps183
  obtain ⟨_, c0, c1⟩ := HB.out
  have HK0 : Hid (KB blk (w.alloc (.cells #[.func (.func g) #[] lb, .func (.func sf) #[] sb] 181)) (w.alloc (.cells #[.func (.func g) #[] lb, .func (.func sf) #[] sb] 181))) := KB.refl _ _
  go_wp2_with fail
  obtain ⟨w2, hr, S3, K3⟩ := HX.out.sw HS.out HD.out (i := a) (j := pivot) (x := (a : Int)) (y := (pivot : Int)) (by omega) (by omega) (by omega) (by omega)
  rw [hr, Oper.upon_value]
  have HS2 := Lib.hid S3
  have HK2 := Lib.hid (HK0.out.trans K3)
  clear hr S3 K3
  obtain ⟨_, c0, c1⟩ := HB.out.on ne HK2.out

  go_wp2_with fail
  clear c0 c1 HS HK0
  generalize hW : World.alloc w (.cells #[.func (.func g) #[] lb, .func (.func sf) #[] sb] 181) = W1 at HK2 HB HK ⊢
  clear hW
  have hp0 : 0 < b := by omega
  go_loopw [9, 10] (fun vi vj wr => ∃ (i j : Nat) (dk : Array α), vi = .int .i64 (i : Int) ∧ vj = .int .i64 (j : Int) ∧ a < i ∧ i ≤ j + 1 ∧ j < b ∧ Hid (dk.size = size) ∧ Hid (SW enc w0 blk off dk wr) ∧ Hid (KB blk W1 wr) ∧ Hid (Sort.partEqLoop lt a i j dk = Sort.partEqLoop lt a (a + 1) (b - 1) (Sort.swp d a pivot))) (fun vi vj _ => (intOf vj).toNat + 1 - (intOf vi).toNat)
  case atStart => exact ⟨a + 1, b - 1, Sort.swp d a pivot, by go_num, by congr 1; omega, by omega, by omega, by omega, (Sort.size_swp _ _ _).trans HD.out, HS2, HK2, rfl⟩
  case round =>
    clear HS2 HK2
    obtain ⟨i, j, dk, rfl, rfl, hai, hij, hjb, HDk, HSk, HKk, HE⟩ := hrel
    go_wp2_with fail
    go_loopw [9] (fun vi w1 => ∃ i' : Nat, vi = .int .i64 (i' : Int) ∧ i ≤ i' ∧ i' ≤ j + 1 ∧ Hid (SW enc w0 blk off dk w1) ∧ Hid (KB blk W1 w1) ∧ Hid (Sort.scanUp (fun x => !lt dk[a]! x) dk j i' = Sort.scanUp (fun x => !lt dk[a]! x) dk j i)) (fun vi _ => j + 1 - (intOf vi).toNat)
    case atStart => exact ⟨i, rfl, Nat.le_refl _, hij, HSk, HKk, rfl⟩
    case round =>
      obtain ⟨i', rfl, hii, hij', HSu, HKu, HSc⟩ := hrel
      obtain ⟨_, c0, c1⟩ := HB.out.on ne HKu.out
      by_cases hle : i' ≤ j
      · have hlez : (i' : Int) ≤ (j : Int) := by omega
        obtain ⟨T, hT⟩ : ∃ T, lt dk[a]! dk[i']! = T := ⟨_, rfl⟩
        have HT := Lib.hid hT
        cases T with
        | false =>
          have hl3 := HX.out.ls HSu.out HDk.out (i := a) (j := i') (x := (a : Int)) (y := (i' : Int)) (by omega) (by omega) (by omega) (by omega) hT
          go_wp2_with fail
          refine hl3.mono ?_
          rintro e w3 ⟨rfl, S2, K2⟩
          clear hl3
          have HS3 := Lib.hid S2
          have HK3 := Lib.hid (HKu.out.trans K2)
          clear S2 K2
          obtain ⟨_, c0, c1⟩ := HB.out.on ne HK3.out

          clear hT
          go_wp2_with fail
          go_roundw
          case rel => exact ⟨i' + 1, by go_num, by omega, by omega, HS3, HK3, (scanUp_go (fun x => !lt dk[a]! x) dk j i' hle (by first | exact HT.out | (show (!_) = _; rw [HT.out]; rfl))).symm.trans HSc.out⟩
          case measure => simp [intOf]; omega
        | true =>
          have hi2 : Hid (i' = Sort.scanUp (fun x => !lt dk[a]! x) dk j i) := (scanUp_end (fun x => !lt dk[a]! x) dk j i' (Or.inr (by first | exact HT.out | (show (!_) = _; rw [HT.out]; rfl)))).symm.trans HSc.out
          have hl3 := HX.out.ls HSu.out HDk.out (i := a) (j := i') (x := (a : Int)) (y := (i' : Int)) (by omega) (by omega) (by omega) (by omega) hT
          go_wp2_with fail
          refine hl3.mono ?_
          rintro e w3 ⟨rfl, S2, K2⟩
          clear hl3
          have HS3 := Lib.hid S2
          have HK3 := Lib.hid (HKu.out.trans K2)
          clear S2 K2
          obtain ⟨_, c0, c1⟩ := HB.out.on ne HK3.out

          clear hT
          go_wp2_with fail
          go_loopw [10] (fun vj w2 => ∃ j' : Nat, vj = .int .i64 (j' : Int) ∧ j' ≤ j ∧ i' ≤ j' + 1 ∧ Hid (SW enc w0 blk off dk w2) ∧ Hid (KB blk W1 w2) ∧ Hid (Sort.scanDown (fun x => lt dk[a]! x) dk i' j' = Sort.scanDown (fun x => lt dk[a]! x) dk i' j)) (fun vj _ => (intOf vj).toNat)
          case atStart => exact ⟨j, rfl, Nat.le_refl _, by omega, HS3, HK3, rfl⟩
          case round =>
            obtain ⟨j', rfl, hjj, hij2, HSd, HKd, HSc2⟩ := hrel
            obtain ⟨_, c0, c1⟩ := HB.out.on ne HKd.out
            by_cases hle2 : i' ≤ j'
            · have hlez2 : (i' : Int) ≤ (j' : Int) := by omega
              obtain ⟨T2, hT2⟩ : ∃ T, lt dk[a]! dk[j']! = T := ⟨_, rfl⟩
              have HT2 := Lib.hid hT2
              cases T2 with
              | true =>
                have hl4 := HX.out.ls HSd.out HDk.out (i := a) (j := j') (x := (a : Int)) (y := (j' : Int)) (by omega) (by omega) (by omega) (by omega) hT2
                go_wp2_with fail
                refine hl4.mono ?_
                rintro e w4 ⟨rfl, S2, K2⟩
                clear hl4
                have HS4 := Lib.hid S2
                have HK4 := Lib.hid (HKd.out.trans K2)
                clear S2 K2
                obtain ⟨_, c0, c1⟩ := HB.out.on ne HK4.out

                clear hT2
                go_wp2_with fail
                go_roundw
                case rel => exact ⟨j' - 1, by first | go_num | (congr 1; omega), by omega, by omega, HS4, HK4, (scanDown_go (fun x => lt dk[a]! x) dk i' j' hle2 (by omega) (by first | exact HT2.out | (show (!_) = _; rw [HT2.out]; rfl))).symm.trans HSc2.out⟩
                case measure => first | (simp [intOf]; omega) | (simp [intOf]; done)
              | false =>
                have hj2 : Hid (j' = Sort.scanDown (fun x => lt dk[a]! x) dk i' j) := (scanDown_end (fun x => lt dk[a]! x) dk i' j' (Or.inr (by first | exact HT2.out | (show (!_) = _; rw [HT2.out]; rfl)))).symm.trans HSc2.out
                have hl4 := HX.out.ls HSd.out HDk.out (i := a) (j := j') (x := (a : Int)) (y := (j' : Int)) (by omega) (by omega) (by omega) (by omega) hT2
                go_wp2_with fail
                refine hl4.mono ?_
                rintro e w4 ⟨rfl, S2, K2⟩
                clear hl4
                have HS4 := Lib.hid S2
                have HK4 := Lib.hid (HKd.out.trans K2)
                clear S2 K2
                obtain ⟨_, c0, c1⟩ := HB.out.on ne HK4.out

                clear hT2
                have hlt3 := scans_lt lt a i j dk (by omega) hi2.out hj2.out hle2
                go_wp2_with fail
                obtain ⟨w5, hr, S3, K3⟩ := HX.out.sw HS4.out HDk.out (i := i') (j := j') (x := (i' : Int)) (y := (j' : Int)) (by omega) (by omega) (by omega) (by omega)
                rw [hr, Oper.upon_value]
                have HS5 := Lib.hid S3
                have HK5 := Lib.hid (HK4.out.trans K3)
                clear hr S3 K3
                obtain ⟨_, c0, c1⟩ := HB.out.on ne HK5.out

                go_wp2_with fail
                go_roundw
                case rel => exact ⟨i' + 1, j' - 1, Sort.swp dk i' j', by go_num, by first | go_num | (congr 1; omega), by omega, by omega, by omega, (Sort.size_swp _ _ _).trans HDk.out, HS5, HK5, by show _ = _; rw [← HE.out]; exact (partEq_go lt a i j dk hi2.out hj2.out (by omega)).symm⟩
                case measure => simp [intOf]; omega

            · have hlez2 : ¬ (i' : Int) ≤ (j' : Int) := by omega
              have hj2 : Hid (j' = Sort.scanDown (fun x => lt dk[a]! x) dk i' j) := (scanDown_end (fun x => lt dk[a]! x) dk i' j' (Or.inl hle2)).symm.trans HSc2.out
              go_wp2_with fail
              go_ret
              have e := partEq_break lt a i j dk hi2.out hj2.out (by omega)
              have ev : Sort.partitionEqual lt d a b pivot = (i', dk) := by unfold Sort.partitionEqual; rw [← HE.out, e]
              rw [ev]
              exact ⟨rfl, HSd.out, HK.out.trans HKd.out⟩


      · have hlez : ¬ (i' : Int) ≤ (j : Int) := by omega
        have hi2 : Hid (i' = Sort.scanUp (fun x => !lt dk[a]! x) dk j i) := (scanUp_end (fun x => !lt dk[a]! x) dk j i' (Or.inl hle)).symm.trans HSc.out
        go_wp2_with fail
        go_loopw [10] (fun vj w2 => ∃ j' : Nat, vj = .int .i64 (j' : Int) ∧ j' ≤ j ∧ i' ≤ j' + 1 ∧ Hid (SW enc w0 blk off dk w2) ∧ Hid (KB blk W1 w2) ∧ Hid (Sort.scanDown (fun x => lt dk[a]! x) dk i' j' = Sort.scanDown (fun x => lt dk[a]! x) dk i' j)) (fun vj _ => (intOf vj).toNat)
        case atStart => exact ⟨j, rfl, Nat.le_refl _, by omega, HSu, HKu, rfl⟩
        case round =>
          obtain ⟨j', rfl, hjj, hij2, HSd, HKd, HSc2⟩ := hrel
          obtain ⟨_, c0, c1⟩ := HB.out.on ne HKd.out
          by_cases hle2 : i' ≤ j'
          · exact absurd hle2 (by omega)
          · have hlez2 : ¬ (i' : Int) ≤ (j' : Int) := by omega
            have hj2 : Hid (j' = Sort.scanDown (fun x => lt dk[a]! x) dk i' j) := (scanDown_end (fun x => lt dk[a]! x) dk i' j' (Or.inl hle2)).symm.trans HSc2.out
            go_wp2_with fail
            go_ret
            have e := partEq_break lt a i j dk hi2.out hj2.out (by omega)
            have ev : Sort.partitionEqual lt d a b pivot = (i', dk) := by unfold Sort.partitionEqual; rw [← HE.out, e]
            rw [ev]
            exact ⟨rfl, HSd.out, HK.out.trans HKd.out⟩



set_option maxRecDepth 1000000 in
set_option maxHeartbeats 32000000 in
theorem part_any (X : Cx enc lt g lb sf sb blk off size w0) {d : Array α} {w : World} (S : SW enc w0 blk off d w) (hs : d.size = size) (a b pivot : Nat) (hap : a ≤ pivot) (hpb : pivot < b) (hb : b ≤ size) :
    Calls Tryz.prog 184 #[.agg #[.func (.func g) #[] lb, .func (.func sf) #[] sb], .int .i64 (a : Int), .int .i64 (b : Int), .int .i64 (pivot : Int)] w fun e w' => RetSV (.tuple #[.int .i64 ((Sort.partition lt d a b pivot).1 : Int), .bool (Sort.partition lt d a b pivot).2.1]) enc w0 blk off (Sort.partition lt d a b pivot).2.2 w e w' := by
  have ne : w.heap.size ≠ blk := by have := X.blt S; omega
  have eg := X.eg
  have sz := X.sz
  have HX := Lib.hid X
  have S1 : SW enc w0 blk off d (w.alloc (.cells #[.func (.func g) #[] lb, .func (.func sf) #[] sb] 181)) := S.alloc _
  have B1 := Bx2.new w (.func (.func g) #[] lb) (.func (.func sf) #[] sb) 181
  have K1 : KB blk w (w.alloc (.cells #[.func (.func g) #[] lb, .func (.func sf) #[] sb] 181)) := (KB.refl _ _).alloc _
  have HS := Lib.hid S1
  have HB := Lib.hid B1
  have HK := Lib.hid K1
  have HD := Lib.hid hs
  clear X S S1 B1 K1 hs
  go_enter Tryz.func184, Tryz.ntmps184
  obtain ⟨_, c0, c1⟩ := HB.out
  have HK0 : Hid (KB blk (w.alloc (.cells #[.func (.func g) #[] lb, .func (.func sf) #[] sb] 181)) (w.alloc (.cells #[.func (.func g) #[] lb, .func (.func sf) #[] sb] 181))) := KB.refl _ _
  go_wp2_with fail
  obtain ⟨w2, hr, S3, K3⟩ := HX.out.sw HS.out HD.out (i := a) (j := pivot) (x := (a : Int)) (y := (pivot : Int)) (by omega) (by omega) (by omega) (by omega)
  rw [hr, Oper.upon_value]
  have HS2 := Lib.hid S3
  have HK2 := Lib.hid (HK0.out.trans K3)
  clear hr S3 K3
  obtain ⟨_, c0, c1⟩ := HB.out.on ne HK2.out

  go_wp2_with fail
  clear c0 c1 HS HK0
  generalize hW : World.alloc w (.cells #[.func (.func g) #[] lb, .func (.func sf) #[] sb] 181) = W1 at HK2 HB HK ⊢
  clear hW
  obtain ⟨i, hi⟩ : ∃ i : Nat, i = a + 1 := ⟨_, rfl⟩
  obtain ⟨j, hj⟩ : ∃ j : Nat, j = b - 1 := ⟨_, rfl⟩
  obtain ⟨dk, hdk⟩ : ∃ dk : Array α, dk = Sort.swp d a pivot := ⟨_, rfl⟩
  have HDk : Hid (dk.size = size) := by show _ = _; rw [hdk]; exact (Sort.size_swp _ _ _).trans HD.out
  rw [← hdk] at HS2
  have hai : a < i := by omega
  have hij : i ≤ j + 1 := by omega
  have hjb : j < b := by omega
  rw [show ((a : Int) + 1) = (i : Int) by omega, show ((b : Int) - 1) = (j : Int) by omega]
  have Hi := Lib.hid hi
  have Hj := Lib.hid hj
  have HDd := Lib.hid hdk
  clear hi hj hdk
  go_loopw [10] (fun vi w1 => ∃ i' : Nat, vi = .int .i64 (i' : Int) ∧ i ≤ i' ∧ i' ≤ j + 1 ∧ Hid (SW enc w0 blk off dk w1) ∧ Hid (KB blk W1 w1) ∧ Hid (Sort.scanUp (fun x => lt x dk[a]!) dk j i' = Sort.scanUp (fun x => lt x dk[a]!) dk j i)) (fun vi _ => j + 1 - (intOf vi).toNat)
  case atStart => exact ⟨i, rfl, Nat.le_refl _, hij, HS2, HK2, rfl⟩
  case round =>
    obtain ⟨i', rfl, hii, hij', HSu, HKu, HSc⟩ := hrel
    obtain ⟨_, c0, c1⟩ := HB.out.on ne HKu.out
    by_cases hle : i' ≤ j
    · have hlez : (i' : Int) ≤ (j : Int) := by omega
      obtain ⟨T, hT⟩ : ∃ T, lt dk[i']! dk[a]! = T := ⟨_, rfl⟩
      have HT := Lib.hid hT
      cases T with
      | true =>
        have hl3 := HX.out.ls HSu.out HDk.out (i := i') (j := a) (x := (i' : Int)) (y := (a : Int)) (by omega) (by omega) (by omega) (by omega) hT
        go_wp2_with fail
        refine hl3.mono ?_
        rintro e w3 ⟨rfl, S2, K2⟩
        clear hl3
        have HS3 := Lib.hid S2
        have HK3 := Lib.hid (HKu.out.trans K2)
        clear S2 K2
        obtain ⟨_, c0, c1⟩ := HB.out.on ne HK3.out

        clear hT
        go_wp2_with fail
        go_roundw
        case rel => exact ⟨i' + 1, by go_num, by omega, by omega, HS3, HK3, (scanUp_go (fun x => lt x dk[a]!) dk j i' hle (by first | exact HT.out | (show (!_) = _; rw [HT.out]; rfl))).symm.trans HSc.out⟩
        case measure => simp [intOf]; omega
      | false =>
        have hi2 : Hid (i' = Sort.scanUp (fun x => lt x dk[a]!) dk j i) := (scanUp_end (fun x => lt x dk[a]!) dk j i' (Or.inr (by first | exact HT.out | (show (!_) = _; rw [HT.out]; rfl)))).symm.trans HSc.out
        have hl3 := HX.out.ls HSu.out HDk.out (i := i') (j := a) (x := (i' : Int)) (y := (a : Int)) (by omega) (by omega) (by omega) (by omega) hT
        go_wp2_with fail
        refine hl3.mono ?_
        rintro e w3 ⟨rfl, S2, K2⟩
        clear hl3
        have HS3 := Lib.hid S2
        have HK3 := Lib.hid (HKu.out.trans K2)
        clear S2 K2
        obtain ⟨_, c0, c1⟩ := HB.out.on ne HK3.out

        clear hT
        go_wp2_with fail
        go_loopw [11] (fun vj w2 => ∃ j' : Nat, vj = .int .i64 (j' : Int) ∧ j' ≤ j ∧ i' ≤ j' + 1 ∧ Hid (SW enc w0 blk off dk w2) ∧ Hid (KB blk W1 w2) ∧ Hid (Sort.scanDown (fun x => !lt x dk[a]!) dk i' j' = Sort.scanDown (fun x => !lt x dk[a]!) dk i' j)) (fun vj _ => (intOf vj).toNat)
        case atStart => exact ⟨j, rfl, Nat.le_refl _, by omega, HS3, HK3, rfl⟩
        case round =>
          obtain ⟨j', rfl, hjj, hij2, HSd, HKd, HSc2⟩ := hrel
          obtain ⟨_, c0, c1⟩ := HB.out.on ne HKd.out
          by_cases hle2 : i' ≤ j'
          · have hlez2 : (i' : Int) ≤ (j' : Int) := by omega
            obtain ⟨T2, hT2⟩ : ∃ T, lt dk[j']! dk[a]! = T := ⟨_, rfl⟩
            have HT2 := Lib.hid hT2
            cases T2 with
            | false =>
              have hl4 := HX.out.ls HSd.out HDk.out (i := j') (j := a) (x := (j' : Int)) (y := (a : Int)) (by omega) (by omega) (by omega) (by omega) hT2
              go_wp2_with fail
              refine hl4.mono ?_
              rintro e w4 ⟨rfl, S2, K2⟩
              clear hl4
              have HS4 := Lib.hid S2
              have HK4 := Lib.hid (HKd.out.trans K2)
              clear S2 K2
              obtain ⟨_, c0, c1⟩ := HB.out.on ne HK4.out

              clear hT2
              go_wp2_with fail
              go_roundw
              case rel => exact ⟨j' - 1, by first | go_num | (congr 1; omega), by omega, by omega, HS4, HK4, (scanDown_go (fun x => !lt x dk[a]!) dk i' j' hle2 (by omega) (by first | exact HT2.out | (show (!_) = _; rw [HT2.out]; rfl))).symm.trans HSc2.out⟩
              case measure => first | (simp [intOf]; omega) | (simp [intOf]; done)
            | true =>
              have hj2 : Hid (j' = Sort.scanDown (fun x => !lt x dk[a]!) dk i' j) := (scanDown_end (fun x => !lt x dk[a]!) dk i' j' (Or.inr (by first | exact HT2.out | (show (!_) = _; rw [HT2.out]; rfl)))).symm.trans HSc2.out
              have hl4 := HX.out.ls HSd.out HDk.out (i := j') (j := a) (x := (j' : Int)) (y := (a : Int)) (by omega) (by omega) (by omega) (by omega) hT2
              go_wp2_with fail
              refine hl4.mono ?_
              rintro e w4 ⟨rfl, S2, K2⟩
              clear hl4
              have HS4 := Lib.hid S2
              have HK4 := Lib.hid (HKd.out.trans K2)
              clear S2 K2
              obtain ⟨_, c0, c1⟩ := HB.out.on ne HK4.out

              clear hT2
              have hlt3 := part_scans_lt lt a i j dk (by omega) hi2.out hj2.out hle2
              go_wp2_with fail
              obtain ⟨w5, hr, S3, K3⟩ := HX.out.sw HS4.out HDk.out (i := i') (j := j') (x := (i' : Int)) (y := (j' : Int)) (by omega) (by omega) (by omega) (by omega)
              rw [hr, Oper.upon_value]
              have HS5 := Lib.hid S3
              have HK5 := Lib.hid (HK4.out.trans K3)
              clear hr S3 K3
              obtain ⟨_, c0, c1⟩ := HB.out.on ne HK5.out

              go_wp2_with fail
              try rw [decide_eq_false (show ¬ j' < i' by omega)]
              obtain ⟨I0, hI0⟩ : ∃ I0 : Nat, I0 = i' + 1 := ⟨_, rfl⟩
              obtain ⟨J0, hJ0⟩ : ∃ J0 : Nat, J0 = j' - 1 := ⟨_, rfl⟩
              obtain ⟨D0, hD0⟩ : ∃ D0 : Array α, D0 = Sort.swp dk i' j' := ⟨_, rfl⟩
              have PF : Hid (Sort.partition lt d a b pivot = ((Sort.partLoop lt a I0 J0 D0).1, false, Sort.swp (Sort.partLoop lt a I0 J0 D0).2 (Sort.partLoop lt a I0 J0 D0).1 a)) := by
                show _ = _
                rw [hI0, hJ0, hD0]; exact part_first_go lt d a b pivot Hi.out Hj.out HDd.out hi2.out hj2.out (by omega)
              have HDn : Hid (D0.size = size) := by show _ = _; rw [hD0]; exact (Sort.size_swp _ _ _).trans HDk.out
              rw [← hD0] at HS5
              have e1 : Value.int .i64 ((i' : Int) + 1) = .int .i64 (I0 : Int) := by rw [hI0]; go_num
              have e2 : Value.int .i64 ((j' : Int) - 1) = .int .i64 (J0 : Int) := by congr 1; omega
              have a1 : a < I0 := by omega
              have a2 : I0 ≤ J0 + 1 := by omega
              have a3 : J0 < b := by omega
              have E1 := Lib.hid e1
              have E2 := Lib.hid e2
              clear e1 e2 hI0 hJ0 hD0 hi2 hj2 hlt3 HSc HSc2 Hi Hj HDd HDk c0 c1 hij hij' hai hjb
              go_loopw [10, 11] (fun vi vj wr => ∃ (i j : Nat) (dk : Array α), vi = .int .i64 (i : Int) ∧ vj = .int .i64 (j : Int) ∧ a < i ∧ i ≤ j + 1 ∧ j < b ∧ Hid (dk.size = size) ∧ Hid (SW enc w0 blk off dk wr) ∧ Hid (KB blk W1 wr) ∧ Hid (Sort.partLoop lt a i j dk = Sort.partLoop lt a I0 J0 D0)) (fun vi vj _ => (intOf vj).toNat + 1 - (intOf vi).toNat)
              case atStart => exact ⟨I0, J0, D0, E1.out, E2.out, a1, a2, a3, HDn, HS5, HK5, rfl⟩
              case round =>
                obtain ⟨i, j, dk, rfl, rfl, hai, hij, hjb, HDk, HSk, HKk, HE⟩ := hrel
                go_wp2_with fail
                go_loopw [10] (fun vi w1 => ∃ i' : Nat, vi = .int .i64 (i' : Int) ∧ i ≤ i' ∧ i' ≤ j + 1 ∧ Hid (SW enc w0 blk off dk w1) ∧ Hid (KB blk W1 w1) ∧ Hid (Sort.scanUp (fun x => lt x dk[a]!) dk j i' = Sort.scanUp (fun x => lt x dk[a]!) dk j i)) (fun vi _ => j + 1 - (intOf vi).toNat)
                case atStart => exact ⟨i, rfl, Nat.le_refl _, hij, HSk, HKk, rfl⟩
                case round =>
                  obtain ⟨i', rfl, hii, hij', HSu, HKu, HSc⟩ := hrel
                  obtain ⟨_, c0, c1⟩ := HB.out.on ne HKu.out
                  by_cases hle : i' ≤ j
                  · have hlez : (i' : Int) ≤ (j : Int) := by omega
                    obtain ⟨T, hT⟩ : ∃ T, lt dk[i']! dk[a]! = T := ⟨_, rfl⟩
                    have HT := Lib.hid hT
                    cases T with
                    | true =>
                      have hl6 := HX.out.ls HSu.out HDk.out (i := i') (j := a) (x := (i' : Int)) (y := (a : Int)) (by omega) (by omega) (by omega) (by omega) hT
                      go_wp2_with fail
                      refine hl6.mono ?_
                      rintro e w6 ⟨rfl, S2, K2⟩
                      clear hl6
                      have HS6 := Lib.hid S2
                      have HK6 := Lib.hid (HKu.out.trans K2)
                      clear S2 K2
                      obtain ⟨_, c0, c1⟩ := HB.out.on ne HK6.out

                      clear hT
                      go_wp2_with fail
                      go_roundw
                      case rel => exact ⟨i' + 1, by go_num, by omega, by omega, HS6, HK6, (scanUp_go (fun x => lt x dk[a]!) dk j i' hle (by first | exact HT.out | (show (!_) = _; rw [HT.out]; rfl))).symm.trans HSc.out⟩
                      case measure => simp [intOf]; omega
                    | false =>
                      have hi2 : Hid (i' = Sort.scanUp (fun x => lt x dk[a]!) dk j i) := (scanUp_end (fun x => lt x dk[a]!) dk j i' (Or.inr (by first | exact HT.out | (show (!_) = _; rw [HT.out]; rfl)))).symm.trans HSc.out
                      have hl6 := HX.out.ls HSu.out HDk.out (i := i') (j := a) (x := (i' : Int)) (y := (a : Int)) (by omega) (by omega) (by omega) (by omega) hT
                      go_wp2_with fail
                      refine hl6.mono ?_
                      rintro e w6 ⟨rfl, S2, K2⟩
                      clear hl6
                      have HS6 := Lib.hid S2
                      have HK6 := Lib.hid (HKu.out.trans K2)
                      clear S2 K2
                      obtain ⟨_, c0, c1⟩ := HB.out.on ne HK6.out

                      clear hT
                      go_wp2_with fail
                      go_loopw [11] (fun vj w2 => ∃ j' : Nat, vj = .int .i64 (j' : Int) ∧ j' ≤ j ∧ i' ≤ j' + 1 ∧ Hid (SW enc w0 blk off dk w2) ∧ Hid (KB blk W1 w2) ∧ Hid (Sort.scanDown (fun x => !lt x dk[a]!) dk i' j' = Sort.scanDown (fun x => !lt x dk[a]!) dk i' j)) (fun vj _ => (intOf vj).toNat)
                      case atStart => exact ⟨j, rfl, Nat.le_refl _, by omega, HS6, HK6, rfl⟩
                      case round =>
                        obtain ⟨j', rfl, hjj, hij2, HSd, HKd, HSc2⟩ := hrel
                        obtain ⟨_, c0, c1⟩ := HB.out.on ne HKd.out
                        by_cases hle2 : i' ≤ j'
                        · have hlez2 : (i' : Int) ≤ (j' : Int) := by omega
                          obtain ⟨T2, hT2⟩ : ∃ T, lt dk[j']! dk[a]! = T := ⟨_, rfl⟩
                          have HT2 := Lib.hid hT2
                          cases T2 with
                          | false =>
                            have hl7 := HX.out.ls HSd.out HDk.out (i := j') (j := a) (x := (j' : Int)) (y := (a : Int)) (by omega) (by omega) (by omega) (by omega) hT2
                            go_wp2_with fail
                            refine hl7.mono ?_
                            rintro e w7 ⟨rfl, S2, K2⟩
                            clear hl7
                            have HS7 := Lib.hid S2
                            have HK7 := Lib.hid (HKd.out.trans K2)
                            clear S2 K2
                            obtain ⟨_, c0, c1⟩ := HB.out.on ne HK7.out

                            clear hT2
                            go_wp2_with fail
                            go_roundw
                            case rel => exact ⟨j' - 1, by first | go_num | (congr 1; omega), by omega, by omega, HS7, HK7, (scanDown_go (fun x => !lt x dk[a]!) dk i' j' hle2 (by omega) (by first | exact HT2.out | (show (!_) = _; rw [HT2.out]; rfl))).symm.trans HSc2.out⟩
                            case measure => first | (simp [intOf]; omega) | (simp [intOf]; done)
                          | true =>
                            have hj2 : Hid (j' = Sort.scanDown (fun x => !lt x dk[a]!) dk i' j) := (scanDown_end (fun x => !lt x dk[a]!) dk i' j' (Or.inr (by first | exact HT2.out | (show (!_) = _; rw [HT2.out]; rfl)))).symm.trans HSc2.out
                            have hl7 := HX.out.ls HSd.out HDk.out (i := j') (j := a) (x := (j' : Int)) (y := (a : Int)) (by omega) (by omega) (by omega) (by omega) hT2
                            go_wp2_with fail
                            refine hl7.mono ?_
                            rintro e w7 ⟨rfl, S2, K2⟩
                            clear hl7
                            have HS7 := Lib.hid S2
                            have HK7 := Lib.hid (HKd.out.trans K2)
                            clear S2 K2
                            obtain ⟨_, c0, c1⟩ := HB.out.on ne HK7.out

                            clear hT2
                            have hlt3 := part_scans_lt lt a i j dk (by omega) hi2.out hj2.out hle2
                            go_wp2_with fail
                            obtain ⟨w8, hr, S3, K3⟩ := HX.out.sw HS7.out HDk.out (i := i') (j := j') (x := (i' : Int)) (y := (j' : Int)) (by omega) (by omega) (by omega) (by omega)
                            rw [hr, Oper.upon_value]
                            have HS8 := Lib.hid S3
                            have HK8 := Lib.hid (HK7.out.trans K3)
                            clear hr S3 K3
                            obtain ⟨_, c0, c1⟩ := HB.out.on ne HK8.out

                            go_wp2_with fail
                            go_roundw
                            case rel => exact ⟨i' + 1, j' - 1, Sort.swp dk i' j', by go_num, by first | go_num | (congr 1; omega), by omega, by omega, by omega, (Sort.size_swp _ _ _).trans HDk.out, HS8, HK8, by show _ = _; rw [← HE.out]; exact (part_go lt a i j dk hi2.out hj2.out (by omega)).symm⟩
                            case measure => simp [intOf]; omega

                        · have hlez2 : ¬ (i' : Int) ≤ (j' : Int) := by omega
                          have hj2 : Hid (j' = Sort.scanDown (fun x => !lt x dk[a]!) dk i' j) := (scanDown_end (fun x => !lt x dk[a]!) dk i' j' (Or.inl hle2)).symm.trans HSc2.out
                          go_wp2_with fail
                          obtain ⟨w8, hr, S3, K3⟩ := HX.out.sw HSd.out HDk.out (i := j') (j := a) (x := (j' : Int)) (y := (a : Int)) (by omega) (by omega) (by omega) (by omega)
                          rw [hr, Oper.upon_value]
                          have HS8 := Lib.hid S3
                          have HK8 := Lib.hid (HKd.out.trans K3)
                          clear hr S3 K3
                          obtain ⟨_, c0, c1⟩ := HB.out.on ne HK8.out

                          go_wp2_with fail
                          have ev : Sort.partition lt d a b pivot = (j', false, Sort.swp dk j' a) := by rw [PF.out, ← HE.out, part_break lt a i j dk hi2.out hj2.out (by omega)]
                          rw [ev]
                          go_ret2
                          exact ⟨rfl, HS8.out, HK.out.trans HK8.out⟩


                  · have hlez : ¬ (i' : Int) ≤ (j : Int) := by omega
                    have hi2 : Hid (i' = Sort.scanUp (fun x => lt x dk[a]!) dk j i) := (scanUp_end (fun x => lt x dk[a]!) dk j i' (Or.inl hle)).symm.trans HSc.out
                    go_wp2_with fail
                    go_loopw [11] (fun vj w2 => ∃ j' : Nat, vj = .int .i64 (j' : Int) ∧ j' ≤ j ∧ i' ≤ j' + 1 ∧ Hid (SW enc w0 blk off dk w2) ∧ Hid (KB blk W1 w2) ∧ Hid (Sort.scanDown (fun x => !lt x dk[a]!) dk i' j' = Sort.scanDown (fun x => !lt x dk[a]!) dk i' j)) (fun vj _ => (intOf vj).toNat)
                    case atStart => exact ⟨j, rfl, Nat.le_refl _, by omega, HSu, HKu, rfl⟩
                    case round =>
                      obtain ⟨j', rfl, hjj, hij2, HSd, HKd, HSc2⟩ := hrel
                      obtain ⟨_, c0, c1⟩ := HB.out.on ne HKd.out
                      by_cases hle2 : i' ≤ j'
                      · exact absurd hle2 (by omega)
                      · have hlez2 : ¬ (i' : Int) ≤ (j' : Int) := by omega
                        have hj2 : Hid (j' = Sort.scanDown (fun x => !lt x dk[a]!) dk i' j) := (scanDown_end (fun x => !lt x dk[a]!) dk i' j' (Or.inl hle2)).symm.trans HSc2.out
                        go_wp2_with fail
                        obtain ⟨w8, hr, S3, K3⟩ := HX.out.sw HSd.out HDk.out (i := j') (j := a) (x := (j' : Int)) (y := (a : Int)) (by omega) (by omega) (by omega) (by omega)
                        rw [hr, Oper.upon_value]
                        have HS8 := Lib.hid S3
                        have HK8 := Lib.hid (HKd.out.trans K3)
                        clear hr S3 K3
                        obtain ⟨_, c0, c1⟩ := HB.out.on ne HK8.out

                        go_wp2_with fail
                        have ev : Sort.partition lt d a b pivot = (j', false, Sort.swp dk j' a) := by rw [PF.out, ← HE.out, part_break lt a i j dk hi2.out hj2.out (by omega)]
                        rw [ev]
                        go_ret2
                        exact ⟨rfl, HS8.out, HK.out.trans HK8.out⟩




          · have hlez2 : ¬ (i' : Int) ≤ (j' : Int) := by omega
            have hj2 : Hid (j' = Sort.scanDown (fun x => !lt x dk[a]!) dk i' j) := (scanDown_end (fun x => !lt x dk[a]!) dk i' j' (Or.inl hle2)).symm.trans HSc2.out
            go_wp2_with fail
            obtain ⟨w5, hr, S3, K3⟩ := HX.out.sw HSd.out HDk.out (i := j') (j := a) (x := (j' : Int)) (y := (a : Int)) (by omega) (by omega) (by omega) (by omega)
            rw [hr, Oper.upon_value]
            have HS5 := Lib.hid S3
            have HK5 := Lib.hid (HKd.out.trans K3)
            clear hr S3 K3
            obtain ⟨_, c0, c1⟩ := HB.out.on ne HK5.out

            go_wp2_with fail
            have ev := part_first_break lt d a b pivot Hi.out Hj.out HDd.out hi2.out hj2.out (by omega)
            rw [ev]
            go_ret2
            exact ⟨rfl, HS5.out, HK.out.trans HK5.out⟩


    · have hlez : ¬ (i' : Int) ≤ (j : Int) := by omega
      have hi2 : Hid (i' = Sort.scanUp (fun x => lt x dk[a]!) dk j i) := (scanUp_end (fun x => lt x dk[a]!) dk j i' (Or.inl hle)).symm.trans HSc.out
      go_wp2_with fail
      go_loopw [11] (fun vj w2 => ∃ j' : Nat, vj = .int .i64 (j' : Int) ∧ j' ≤ j ∧ i' ≤ j' + 1 ∧ Hid (SW enc w0 blk off dk w2) ∧ Hid (KB blk W1 w2) ∧ Hid (Sort.scanDown (fun x => !lt x dk[a]!) dk i' j' = Sort.scanDown (fun x => !lt x dk[a]!) dk i' j)) (fun vj _ => (intOf vj).toNat)
      case atStart => exact ⟨j, rfl, Nat.le_refl _, by omega, HSu, HKu, rfl⟩
      case round =>
        obtain ⟨j', rfl, hjj, hij2, HSd, HKd, HSc2⟩ := hrel
        obtain ⟨_, c0, c1⟩ := HB.out.on ne HKd.out
        by_cases hle2 : i' ≤ j'
        · exact absurd hle2 (by omega)
        · have hlez2 : ¬ (i' : Int) ≤ (j' : Int) := by omega
          have hj2 : Hid (j' = Sort.scanDown (fun x => !lt x dk[a]!) dk i' j) := (scanDown_end (fun x => !lt x dk[a]!) dk i' j' (Or.inl hle2)).symm.trans HSc2.out
          go_wp2_with fail
          obtain ⟨w5, hr, S3, K3⟩ := HX.out.sw HSd.out HDk.out (i := j') (j := a) (x := (j' : Int)) (y := (a : Int)) (by omega) (by omega) (by omega) (by omega)
          rw [hr, Oper.upon_value]
          have HS5 := Lib.hid S3
          have HK5 := Lib.hid (HKd.out.trans K3)
          clear hr S3 K3
          obtain ⟨_, c0, c1⟩ := HB.out.on ne HK5.out

          go_wp2_with fail
          have ev := part_first_break lt d a b pivot Hi.out Hj.out HDd.out hi2.out hj2.out (by omega)
          rw [ev]
          go_ret2
          exact ⟨rfl, HS5.out, HK.out.trans HK5.out⟩



end
end Go.Proofs.YtibdcejglkhcfaaGreatDoor
