/-
  The library's heap sort, with a comparison that may make memory.
-/
import Derived.Test.YtibdcejglkhcfaaGreatDoorSrtB
import Derived.Sort.WalkB3
namespace Go.Proofs.YtibdcejglkhcfaaGreatDoor
open Go.RowKit Go.Sort Go.Shelf Go.Lib
set_option linter.unusedVariables false
section
variable {α : Type} [Inhabited α] {enc : α → Value} {lt : α → α → Bool} {g : Nat} {lb : Array Value} {sf : Nat} {sb : Array Value} {blk off size : Nat} {w0 : World}
set_option maxRecDepth 1000000 in
set_option maxHeartbeats 8000000 in
theorem sift_any (X : Cx enc lt g lb sf sb blk off size w0) {d : Array α} {w : World} (S : SW enc w0 blk off d w) (hs : d.size = size) (lo hi first : Nat) (hlo : lo ≤ hi) (hb : first + hi ≤ size) :
    Calls Tryz.prog 199 #[.agg #[.func (.func g) #[] lb, .func (.func sf) #[] sb], .int .i64 (lo : Int), .int .i64 (hi : Int), .int .i64 (first : Int)] w fun e w' => RetS enc w0 blk off (siftDown lt hi first lo d) w e w' := by
  have ne : w.heap.size ≠ blk := by have := X.blt S; omega
  have eg := X.eg
  have sz := X.sz
  have HX := Lib.hid X
  have S1 : SW enc w0 blk off d (w.alloc (.cells #[.func (.func g) #[] lb, .func (.func sf) #[] sb] 181)) := S.alloc _
  have B1 := Bx2.new w (.func (.func g) #[] lb) (.func (.func sf) #[] sb) 181
  have K1 : KB blk w (w.alloc (.cells #[.func (.func g) #[] lb, .func (.func sf) #[] sb] 181)) := (KB.refl _ _).alloc _
  have HS := Lib.hid S1
  have HB := Lib.hid B1
  have HK := Lib.hid K1
  have HD := Lib.hid hs
  clear X S S1 B1 K1 hs
  go_enter Tryz.func199, Tryz.ntmps199
  go_wp2_with fail
  generalize hW : World.alloc w (.cells #[.func (.func g) #[] lb, .func (.func sf) #[] sb] 181) = W1 at HS HB HK ⊢
  clear hW
  go_loopg [8] (hi - lo) (fun k s8 wr => ∃ (root : Nat) (dk : Array α), s8 = .int .i64 (root : Int) ∧ root ≤ hi ∧ hi - root ≤ k ∧ Hid (dk.size = size) ∧ Hid (SW enc w0 blk off dk wr) ∧ Hid (KB blk W1 wr) ∧ Hid (siftDown lt hi first root dk = siftDown lt hi first lo d))
  case atStart => exact ⟨lo, d, rfl, hlo, Nat.le_refl _, HD, HS, KB.refl _ _, rfl⟩
  case round =>
    obtain ⟨root, dk, rfl, hr, hk, HDk, HSk, HKk, HE⟩ := hrel
    obtain ⟨_, c0, c1⟩ := HB.out.on ne HKk.out
    by_cases h0 : hi ≤ 2 * root + 1
    · have h0z : (hi : Int) ≤ 2 * (root : Int) + 1 := by omega
      go_wp2_with fail
      go_end0
      exact ⟨rfl, by rw [← HE.out, sd_end lt dk h0]; exact HSk.out, HK.out.trans HKk.out⟩
    · have h0z : ¬ (hi : Int) ≤ 2 * (root : Int) + 1 := by omega
      by_cases h1 : 2 * root + 2 < hi
      · have h1z : 2 * (root : Int) + 1 + 1 < (hi : Int) := by omega
        obtain ⟨T1, hT1⟩ : ∃ T, lt dk[first + (2 * root + 1)]! dk[first + (2 * root + 2)]! = T := ⟨_, rfl⟩
        have hl2 := HX.out.ls HSk.out HDk.out (i := first + (2 * root + 1)) (j := first + (2 * root + 2)) (x := (first : Int) + (2 * (root : Int) + 1)) (y := (first : Int) + (2 * (root : Int) + 1) + 1) (by omega) (by omega) (by omega) (by omega) hT1
        go_wp2_with fail
        refine hl2.mono ?_
        rintro e w2 ⟨rfl, S2, K2⟩
        clear hl2
        have HS2 := Lib.hid S2
        have HK2 := Lib.hid (HKk.out.trans K2)
        clear S2 K2
        obtain ⟨_, c0, c1⟩ := HB.out.on ne HK2.out

        have HT1 := Lib.hid hT1
        clear hT1
        cases T1 with
        | true =>
          obtain ⟨T2, hT2⟩ : ∃ T, lt dk[first + root]! dk[first + (2 * root + 2)]! = T := ⟨_, rfl⟩
          have hl3 := HX.out.ls HS2.out HDk.out (i := first + root) (j := first + (2 * root + 2)) (x := (first : Int) + (root : Int)) (y := (first : Int) + (2 * (root : Int) + 1 + 1)) (by omega) (by omega) (by omega) (by omega) hT2
          go_wp2_with fail
          refine hl3.mono ?_
          rintro e w3 ⟨rfl, S2, K2⟩
          clear hl3
          have HS3 := Lib.hid S2
          have HK3 := Lib.hid (HK2.out.trans K2)
          clear S2 K2
          obtain ⟨_, c0, c1⟩ := HB.out.on ne HK3.out
          have HT2 := Lib.hid hT2
          clear hT2
          cases T2 with
          | true =>
            go_wp2_with fail
            obtain ⟨w4, hr, S3, K3⟩ := HX.out.sw HS3.out HDk.out (i := first + root) (j := first + (2 * root + 2)) (x := (first : Int) + (root : Int)) (y := (first : Int) + (2 * (root : Int) + 1 + 1)) (by omega) (by omega) (by omega) (by omega)
            rw [hr, Oper.upon_value]
            have HS4 := Lib.hid S3
            have HK4 := Lib.hid (HK3.out.trans K3)
            clear hr S3 K3
            obtain ⟨_, c0, c1⟩ := HB.out.on ne HK4.out
            go_wp2_with fail
            go_roundg (hi - (2 * root + 2))
            case measure => omega
            case rel => exact ⟨2 * root + 2, Sort.swp dk (first + root) (first + (2 * root + 2)), by first | (congr 1; omega) | congr 1, by omega, by omega, (Sort.size_swp _ _ _).trans HDk.out, HS4, HK4, by show _ = _; rw [← HE.out, sd_right_go lt dk h1 HT1.out HT2.out]⟩
          | false =>
            go_wp2_with fail
            go_end0
            exact ⟨rfl, by rw [← HE.out, sd_right_stop lt dk h1 HT1.out HT2.out]; exact HS3.out, HK.out.trans HK3.out⟩

        | false =>
          obtain ⟨T2, hT2⟩ : ∃ T, lt dk[first + root]! dk[first + (2 * root + 1)]! = T := ⟨_, rfl⟩
          have hl3 := HX.out.ls HS2.out HDk.out (i := first + root) (j := first + (2 * root + 1)) (x := (first : Int) + (root : Int)) (y := (first : Int) + (2 * (root : Int) + 1)) (by omega) (by omega) (by omega) (by omega) hT2
          go_wp2_with fail
          refine hl3.mono ?_
          rintro e w3 ⟨rfl, S2, K2⟩
          clear hl3
          have HS3 := Lib.hid S2
          have HK3 := Lib.hid (HK2.out.trans K2)
          clear S2 K2
          obtain ⟨_, c0, c1⟩ := HB.out.on ne HK3.out
          have HT2 := Lib.hid hT2
          clear hT2
          cases T2 with
          | true =>
            go_wp2_with fail
            obtain ⟨w4, hr, S3, K3⟩ := HX.out.sw HS3.out HDk.out (i := first + root) (j := first + (2 * root + 1)) (x := (first : Int) + (root : Int)) (y := (first : Int) + (2 * (root : Int) + 1)) (by omega) (by omega) (by omega) (by omega)
            rw [hr, Oper.upon_value]
            have HS4 := Lib.hid S3
            have HK4 := Lib.hid (HK3.out.trans K3)
            clear hr S3 K3
            obtain ⟨_, c0, c1⟩ := HB.out.on ne HK4.out
            go_wp2_with fail
            go_roundg (hi - (2 * root + 1))
            case measure => omega
            case rel => exact ⟨2 * root + 1, Sort.swp dk (first + root) (first + (2 * root + 1)), by first | (congr 1; omega) | congr 1, by omega, by omega, (Sort.size_swp _ _ _).trans HDk.out, HS4, HK4, by show _ = _; rw [← HE.out, sd_left_go lt dk (by omega) (fun _ => HT1.out) HT2.out]⟩
          | false =>
            go_wp2_with fail
            go_end0
            exact ⟨rfl, by rw [← HE.out, sd_left_stop lt dk (by omega) (fun _ => HT1.out) HT2.out]; exact HS3.out, HK.out.trans HK3.out⟩

      · have h1z : ¬ 2 * (root : Int) + 1 + 1 < (hi : Int) := by omega
        obtain ⟨T2, hT2⟩ : ∃ T, lt dk[first + root]! dk[first + (2 * root + 1)]! = T := ⟨_, rfl⟩
        have hl3 := HX.out.ls HSk.out HDk.out (i := first + root) (j := first + (2 * root + 1)) (x := (first : Int) + (root : Int)) (y := (first : Int) + (2 * (root : Int) + 1)) (by omega) (by omega) (by omega) (by omega) hT2
        go_wp2_with fail
        refine hl3.mono ?_
        rintro e w3 ⟨rfl, S2, K2⟩
        clear hl3
        have HS3 := Lib.hid S2
        have HK3 := Lib.hid (HKk.out.trans K2)
        clear S2 K2
        obtain ⟨_, c0, c1⟩ := HB.out.on ne HK3.out
        have HT2 := Lib.hid hT2
        clear hT2
        cases T2 with
        | true =>
          go_wp2_with fail
          obtain ⟨w4, hr, S3, K3⟩ := HX.out.sw HS3.out HDk.out (i := first + root) (j := first + (2 * root + 1)) (x := (first : Int) + (root : Int)) (y := (first : Int) + (2 * (root : Int) + 1)) (by omega) (by omega) (by omega) (by omega)
          rw [hr, Oper.upon_value]
          have HS4 := Lib.hid S3
          have HK4 := Lib.hid (HK3.out.trans K3)
          clear hr S3 K3
          obtain ⟨_, c0, c1⟩ := HB.out.on ne HK4.out
          go_wp2_with fail
          go_roundg (hi - (2 * root + 1))
          case measure => omega
          case rel => exact ⟨2 * root + 1, Sort.swp dk (first + root) (first + (2 * root + 1)), by first | (congr 1; omega) | congr 1, by omega, by omega, (Sort.size_swp _ _ _).trans HDk.out, HS4, HK4, by show _ = _; rw [← HE.out, sd_left_go lt dk (by omega) (fun h => absurd h h1) HT2.out]⟩
        | false =>
          go_wp2_with fail
          go_end0
          exact ⟨rfl, by rw [← HE.out, sd_left_stop lt dk (by omega) (fun h => absurd h h1) HT2.out]; exact HS3.out, HK.out.trans HK3.out⟩
set_option maxRecDepth 1000000 in
set_option maxHeartbeats 8000000 in
theorem heapSort_any (X : Cx enc lt g lb sf sb blk off size w0) {d : Array α} {w : World} (S : SW enc w0 blk off d w) (hs : d.size = size) (a b : Nat) (hab : a ≤ b) (hb : b ≤ size) :
    Calls Tryz.prog 178 #[.agg #[.func (.func g) #[] lb, .func (.func sf) #[] sb], .int .i64 (a : Int), .int .i64 (b : Int)] w fun e w' => RetS enc w0 blk off (Sort.heapSort lt d a b) w e w' := by
  have eq : ((b : Int) - (a : Int) - 1).tdiv 2 = (((b - a - 1) / 2 : Nat) : Int) := by
    rcases Nat.lt_or_ge a b with h | h
    · rw [show (b : Int) - (a : Int) - 1 = ((b - a - 1 : Nat) : Int) by omega]; rfl
    · rw [show (b : Int) - (a : Int) - 1 = -1 by omega, show (b - a - 1) / 2 = 0 by omega]; rfl
  obtain ⟨K, hK⟩ : ∃ K, (b - a - 1) / 2 = K := ⟨_, rfl⟩
  rw [hK] at eq
  have EQ : Hid (Sort.heapSort lt d a b = heapPop lt a (b - a) (heapBuild lt (b - a) a (K + 1) d)) := by show _ = _; unfold Sort.heapSort; rw [hK]
  have hK2 : K ≤ b - a := by omega
  clear hK
  have ne : w.heap.size ≠ blk := by have := X.blt S; omega
  have eg := X.eg
  have sz := X.sz
  have HX := Lib.hid X
  have S1 : SW enc w0 blk off d (w.alloc (.cells #[.func (.func g) #[] lb, .func (.func sf) #[] sb] 181)) := S.alloc _
  have B1 := Bx2.new w (.func (.func g) #[] lb) (.func (.func sf) #[] sb) 181
  have K1 : KB blk w (w.alloc (.cells #[.func (.func g) #[] lb, .func (.func sf) #[] sb] 181)) := (KB.refl _ _).alloc _
  have HS := Lib.hid S1
  have HB := Lib.hid B1
  have HK := Lib.hid K1
  have HD := Lib.hid hs
  clear X S S1 B1 K1 hs
  go_enter Tryz.func178, Tryz.ntmps178
  obtain ⟨_, c0, c1⟩ := HB.out
  go_wp2_with fail
  clear eq c0 c1
  generalize hW : World.alloc w (.cells #[.func (.func g) #[] lb, .func (.func sf) #[] sb] 181) = W1 at HS HB HK ⊢
  clear hW
  go_loopw [9] (fun s wr => ∃ (k : Nat) (z : Int) (dk : Array α), s = .int .i64 z ∧ Hid (z = (k : Int) - 1) ∧ k ≤ K + 1 ∧ Hid (dk.size = size) ∧ Hid (SW enc w0 blk off dk wr) ∧ Hid (KB blk W1 wr) ∧ Hid (heapPop lt a (b - a) (heapBuild lt (b - a) a k dk) = Sort.heapSort lt d a b)) (fun s _ => (intOf s + 1).toNat)
  case atStart => exact ⟨K + 1, K, d, rfl, by show _ = _; omega, Nat.le_refl _, HD, HS, KB.refl _ _, EQ.out.symm⟩
  case round =>
    obtain ⟨k, z, dk, rfl, HZ, hk, HDk, HSk, HKk, HE⟩ := hrel
    obtain ⟨_, c0, c1⟩ := HB.out.on ne HKk.out
    rcases Nat.eq_zero_or_pos k with h0 | h0
    · subst h0
      obtain rfl : z = -1 := by have := HZ.out; omega
      have HE2 : Hid (heapPop lt a (b - a) dk = Sort.heapSort lt d a b) := HE
      clear HE HZ
      go_wp2_with fail
      go_loopw [10] (fun s wr => ∃ (k : Nat) (z : Int) (dk : Array α), s = .int .i64 z ∧ Hid (z = (k : Int) - 1) ∧ k ≤ b - a ∧ Hid (dk.size = size) ∧ Hid (SW enc w0 blk off dk wr) ∧ Hid (KB blk W1 wr) ∧ Hid (heapPop lt a k dk = Sort.heapSort lt d a b)) (fun s _ => (intOf s + 1).toNat)
      case atStart => exact ⟨b - a, (b : Int) - (a : Int) - 1, dk, rfl, by show _ = _; omega, Nat.le_refl _, HDk, HSk, HKk, HE2⟩
      case round =>
        clear HDk HSk HKk c0 c1 HE2
        obtain ⟨k, z, dk, rfl, HZ, hk, HDk, HSk, HKk, HE⟩ := hrel
        obtain ⟨_, c0, c1⟩ := HB.out.on ne HKk.out
        rcases Nat.eq_zero_or_pos k with h0 | h0
        · subst h0
          obtain rfl : z = -1 := by have := HZ.out; omega
          go_wp2_with fail
          go_end0
          exact ⟨rfl, by rw [← HE.out]; exact HSk.out, HK.out.trans HKk.out⟩
        · obtain ⟨q, rfl⟩ : ∃ q, k = q + 1 := ⟨k - 1, by omega⟩
          obtain rfl : z = (q : Int) := by have := HZ.out; omega
          clear HZ
          go_wp2_with fail
          obtain ⟨w2, hr, S3, K3⟩ := HX.out.sw HSk.out HDk.out (i := a) (j := a + q) (x := (a : Int)) (y := (a : Int) + (q : Int)) (by omega) (by omega) (by omega) (by omega)
          rw [hr, Oper.upon_value]
          have HS2 := Lib.hid S3
          have HK2 := Lib.hid (HKk.out.trans K3)
          clear hr S3 K3
          obtain ⟨_, c0, c1⟩ := HB.out.on ne HK2.out

          go_wp2_with fail
          refine (sift_any HX.out HS2.out ((Sort.size_swp _ _ _).trans HDk.out) 0 q a (by omega) (by omega)).mono ?_
          rintro e w3 ⟨rfl, S3, K3⟩
          have HS3 := Lib.hid S3
          have HK3 := Lib.hid (HK2.out.trans K3)
          clear S3 K3 c0 c1
          go_wp2_with fail
          go_roundw
          case rel => exact ⟨q, (q : Int) - 1, _, rfl, rfl, by omega, (size_siftDown lt _ _ _ _ _ (Nat.le_refl _)).trans ((Sort.size_swp _ _ _).trans HDk.out), HS3, HK3, HE⟩
          case measure => first | (simp [intOf]; omega) | (simp [intOf]; done)
    · obtain ⟨q, rfl⟩ : ∃ q, k = q + 1 := ⟨k - 1, by omega⟩
      obtain rfl : z = (q : Int) := by have := HZ.out; omega
      clear HZ
      have e1 : ((b - a : Nat) : Int) = (b : Int) - (a : Int) := by omega
      have hc := sift_any HX.out HSk.out HDk.out q (b - a) a (by omega) (by omega)
      rw [e1] at hc
      clear e1
      go_wp2_with fail
      refine hc.mono ?_
      rintro e w3 ⟨rfl, S3, K3⟩
      have HS3 := Lib.hid S3
      have HK3 := Lib.hid (HKk.out.trans K3)
      clear S3 K3 c0 c1 hc
      go_wp2_with fail
      go_roundw
      case rel => exact ⟨q, (q : Int) - 1, _, rfl, rfl, by omega, (size_siftDown lt _ _ _ _ _ (Nat.le_refl _)).trans HDk.out, HS3, HK3, HE⟩
      case measure => first | (simp [intOf]; omega) | (simp [intOf]; done)
end
end Go.Proofs.YtibdcejglkhcfaaGreatDoor
