/-
  The library's insertion sort, with a comparison that may make memory.
-/
import Derived.Test.YtibdcejglkhcfaaGreatDoorSrtA
namespace Go.Proofs.YtibdcejglkhcfaaGreatDoor
open Go.RowKit Go.Sort Go.Shelf Go.Lib
set_option linter.unusedVariables false
section
variable {α : Type} [Inhabited α] {enc : α → Value} {lt : α → α → Bool} {g : Nat} {lb : Array Value} {sf : Nat} {sb : Array Value} {blk off size : Nat} {w0 : World}
/-- How a function of the sort ends that hands back nothing. -/
def RetS (enc : α → Value) (w0 : World) (blk off : Nat) (d : Array α) (w : World) (e : Ending) (w' : World) : Prop := e = .returned (.tuple #[]) ∧ SW enc w0 blk off d w' ∧ KB blk w w'
set_option maxRecDepth 1000000 in
set_option maxHeartbeats 4000000 in
theorem insSort_any (X : Cx enc lt g lb sf sb blk off size w0) {d : Array α} {w : World} (S : SW enc w0 blk off d w) (hs : d.size = size) (a b : Nat) (hab : a ≤ b) (hb : b ≤ size) :
    Calls Tryz.prog 177 #[.agg #[.func (.func g) #[] lb, .func (.func sf) #[] sb], .int .i64 (a : Int), .int .i64 (b : Int)] w fun e w' => RetS enc w0 blk off (Sort.insertionSort lt d a b) w e w' := by
  have ne : w.heap.size ≠ blk := by have := X.blt S; omega
  have eg := X.eg
  have sz := X.sz
  have HX := Lib.hid X
  have S1 : SW enc w0 blk off d (w.alloc (.cells #[.func (.func g) #[] lb, .func (.func sf) #[] sb] 181)) := S.alloc _
  have B1 := Bx2.new w (.func (.func g) #[] lb) (.func (.func sf) #[] sb) 181
  have K1 : KB blk w (w.alloc (.cells #[.func (.func g) #[] lb, .func (.func sf) #[] sb] 181)) := (KB.refl _ _).alloc _
  have HS := Lib.hid S1
  have HB := Lib.hid B1
  have HK := Lib.hid K1
  have HD := Lib.hid hs
  clear X S S1 B1 K1 hs
  go_enter Tryz.func177, Tryz.ntmps177
  go_wp2_with fail
  generalize hW : World.alloc w (.cells #[.func (.func g) #[] lb, .func (.func sf) #[] sb] 181) = W1 at HS HB HK ⊢
  clear hW
  go_loopw [6] (fun vi wr => ∃ (i : Nat) (dk : Array α), vi = .int .i64 (i : Int) ∧ a < i ∧ i ≤ b + 1 ∧ Hid (dk.size = size) ∧ Hid (SW enc w0 blk off dk wr) ∧ Hid (KB blk W1 wr) ∧ Hid (insOuter lt a b i dk = insOuter lt a b (a + 1) d)) (fun vi _ => b + 1 - (intOf vi).toNat)
  case atStart => exact ⟨a + 1, d, by go_num, by omega, by omega, HD, HS, KB.refl _ _, rfl⟩
  case round =>
    obtain ⟨i, dk, rfl, hai, hib, HDk, HSk, HKk, HO⟩ := hrel
    by_cases hlt : i < b
    · have hltz : (i : Int) < (b : Int) := by omega
      go_wp2_with fail
      go_loopw [7] (fun vj wr2 => ∃ (j : Nat) (dj : Array α), vj = .int .i64 (j : Int) ∧ a ≤ j ∧ j ≤ i ∧ Hid (dj.size = size) ∧ Hid (SW enc w0 blk off dj wr2) ∧ Hid (KB blk W1 wr2) ∧ Hid (insInner lt a j dj = insInner lt a i dk)) (fun vj _ => (intOf vj).toNat)
      case atStart => exact ⟨i, dk, rfl, by omega, Nat.le_refl _, HDk, HSk, HKk, rfl⟩
      case round =>
        clear HDk HSk HKk
        obtain ⟨j, dj, rfl, haj, hji, HDj, HSj, HKj, HI⟩ := hrel
        have OUT : (j ≤ a ∨ lt dj[j]! dj[j - 1]! = false) → Hid (insOuter lt a b (i + 1) dj = insOuter lt a b (a + 1) d) := fun h => by
          show _ = _
          rw [← HO.out, insOuter_go _ _ _ _ _ hlt, ← HI.out, insInner_stop _ _ _ _ h]
        have OUT' := Lib.hid OUT
        clear OUT
        have bx := HB.out.on ne HKj.out
        obtain ⟨_, c0, c1⟩ := bx
        by_cases hja : a < j
        · have hjz : (a : Int) < (j : Int) := by omega
          obtain ⟨T, hT⟩ : ∃ T, lt dj[j]! dj[j - 1]! = T := ⟨_, rfl⟩
          have hl := HX.out.ls HSj.out HDj.out (i := j) (j := j - 1) (x := (j : Int)) (y := (j : Int) - 1) rfl (by omega) (by omega) (by omega) hT
          have HT := Lib.hid hT
          clear hT
          cases T with
          | true =>
            go_wp2_with (go_at_fn g; refine hl.mono ?_; rintro e w2 ⟨rfl, S2, K2⟩; have HS2 := Lib.hid S2; have HK2 := Lib.hid K2; clear S2 K2; have bx2 := (HB.out.on ne HKj.out).on ne HK2.out; obtain ⟨_, d0, d1⟩ := bx2)
            obtain ⟨w3, hr, S3, K3⟩ := HX.out.sw HS2.out HDj.out (i := j) (j := j - 1) (x := (j : Int)) (y := (j : Int) - 1) rfl (by omega) (by omega) (by omega)
            rw [hr, Oper.upon_value]
            have HS3 := Lib.hid S3
            have HK3 := Lib.hid (HKj.out.trans (HK2.out.trans K3))
            clear hr S3 K3 d0 d1
            go_wp2_with fail
            go_roundw
            case rel =>
              exact ⟨j - 1, Sort.swp dj j (j - 1), by congr 1; omega, by omega, by omega, (Sort.size_swp _ _ _).trans HDj.out, HS3, HK3, by show _ = _; rw [← HI.out, insInner_go lt a j dj hja HT.out]⟩
            case measure => simp [intOf]; omega
          | false =>
            go_wp2_with (go_at_fn g; refine hl.mono ?_; rintro e w2 ⟨rfl, S2, K2⟩; have HS2 := Lib.hid S2; have HK2 := Lib.hid K2; clear S2 K2)
            go_roundw
            case rel => exact ⟨i + 1, dj, by go_num, by omega, by omega, HDj, HS2, HKj.out.trans HK2.out, OUT'.out (Or.inr HT.out)⟩
            case measure => simp [intOf]; omega
        · have hjz : ¬ (a : Int) < (j : Int) := by omega
          go_wp2_with fail
          go_roundw
          case rel => exact ⟨i + 1, dj, by go_num, by omega, by omega, HDj, HSj, HKj, OUT'.out (Or.inl (by omega))⟩
          case measure => simp [intOf]; omega
    · have hltz : ¬ (i : Int) < (b : Int) := by omega
      go_wp2_with fail
      go_end0
      exact ⟨rfl, by unfold Sort.insertionSort; rw [← HO.out, insOuter_stop _ _ _ _ _ hlt]; exact HSk.out, HK.out.trans HKk.out⟩
end
end Go.Proofs.YtibdcejglkhcfaaGreatDoor
