/-
  ValidSimplex of the model and of the program.
-/
import Derived.Test.YtibdcejglkhcfaaGreatDoorPJ
import Derived.Test.YtibdcejglkhcfaaGreatDoorPB
import Derived.Deep.QuietTactic
import Derived.BigQuiet
import Derived.StillTactics
namespace Go.Proofs.YtibdcejglkhcfaaGreatDoor
open Go.RowKit
set_option linter.unusedVariables false

theorem within64_is {n lo hi : Int} {b : Bool} (w : World) (h : inB n lo hi = b) :
    Calls Tryz.prog 86 #[.int .i64 n, .int .i64 lo, .int .i64 hi] w fun e w' => e = .returned (.bool b) ∧ w = w' := by
  subst h
  by_cases h : lo ≤ n ∧ n ≤ hi
  · rw [inB_yes h.1 h.2]; exact within64_yes _ _ _ _ h.1 h.2
  · rw [inB_no (by omega)]; exact within64_no _ _ _ _ (by omega)
theorem dimOf_any (a : Option Addr) (n c : Nat) (w : World) (hn : n ≤ 9223372036854775807) :
    Calls Tryz.prog 99 #[.slice a n c] w fun e w' => e = .returned (.int .i64 ((n : Int) - 1)) ∧ w = w' := by
  go_enter Tryz.func99, Tryz.ntmps99
  go_wp2
  go_ret
  exact ⟨rfl, rfl⟩
theorem implSim_no (a : Option Addr) (n c : Nat) (w : World) (hn : n ≤ 9223372036854775807) (h : n < 1 ∨ 4 < n) :
    Calls Tryz.prog 161 #[.slice a n c] w fun e w' => e = .returned (.bool false) ∧ ∃ n, w' = w.drewN n := by
  have hb : inB ((n : Int) - 1) 0 3 = false := inB_no (by omega)
  clear h
  go_enter Tryz.func161, Tryz.ntmps161
  go_wp2_with fail
  refine (dimOf_any a n c _ hn).mono ?_
  rintro e w' ⟨rfl, rfl⟩
  go_wp2_with fail
  refine (within64_is _ hb).mono ?_
  rintro e w' ⟨rfl, rfl⟩
  clear hb
  go_wp2_with fail
  go_ret
  exact ⟨rfl, 0, rfl⟩
theorem implSim_some {b o c : Nat} {l : List Int} {T : Bool} {w : World} (h1 : 1 ≤ l.length) (h4 : l.length ≤ 4) (hb : b < w.heap.size)
    (k1 : ∀ j (h : j < l.length), w.cell? ⟨b, o + j, none⟩ = some (.int .i64 l[j])) (hT : simB l = T) :
    Calls Tryz.prog 161 #[.slice (some ⟨b, o, none⟩) l.length c] w fun e w' => e = .returned (.bool T) ∧ ∃ n, w' = w.drewN n := by
  have K1 := Lib.hid k1
  rw [simB_in h1 h4] at hT
  have HT := Lib.hid hT
  have hb0 : inB ((l.length : Int) - 1) 0 3 = true := inB_yes (by omega) (by omega)
  clear k1 hT
  go_enter Tryz.func161, Tryz.ntmps161
  go_wp2_with fail
  refine (dimOf_any _ l.length c _ (by omega)).mono ?_
  rintro e w' ⟨rfl, rfl⟩
  go_wp2_with fail
  refine (within64_is _ hb0).mono ?_
  rintro e w' ⟨rfl, rfl⟩
  clear hb0
  go_wp2_with fail
  go_loopw [3, 12] (fun nx i wr => ∃ (k n : Nat) (m : Int), k ≤ l.length ∧ i = .int .i64 (k : Int) ∧ nx = .int .i64 m ∧ 0 ≤ m ∧ m ≤ 10 ∧ Hid (risB 9 m (l.drop k) = T) ∧ wr = w.drewN n) (fun _ i _ => l.length - (intOf i).toNat)
  case atStart => exact ⟨0, 0, 0, Nat.zero_le _, rfl, rfl, by omega, by omega, HT, rfl⟩
  case round =>
    obtain ⟨k, n, m, hk, rfl, rfl, hm0, hm1, HK, rfl⟩ := hrel
    by_cases hlt : k < l.length
    · have g1 := K1.out k hlt
      have hr := HK.out
      rw [risB_drop hlt] at hr
      obtain ⟨x, hx⟩ : ∃ x, l[k] = x := ⟨_, rfl⟩
      rw [hx] at g1 hr
      clear hx HK
      have i0 : 0 ≤ (k : Int) := by omega
      have i1 : (k : Int) < l.length := by omega
      by_cases hin : m ≤ x ∧ x ≤ 9
      · have h9 : inB x m 9 = true := inB_yes hin.1 hin.2
        rw [decide_eq_true hin, Bool.true_and] at hr
        have HR := Lib.hid hr
        obtain ⟨g3, g4⟩ := hin
        have g5 : 0 ≤ x := by omega
        clear hr
        go_wp2_with fail
        refine (within64_is _ h9).mono ?_
        rintro e w' ⟨rfl, rfl⟩
        clear h9
        go_wp2_with fail
        go_roundw
        case rel => exact ⟨k + 1, _, x + 1, by omega, by go_num, rfl, by omega, by omega, HR, rfl⟩
        case measure => simp [intOf]; omega
      · have h9 : inB x m 9 = false := inB_no (by omega)
        rw [decide_eq_false hin, Bool.false_and] at hr
        subst hr
        clear hin
        go_wp2_with fail
        refine (within64_is _ h9).mono ?_
        rintro e w' ⟨rfl, rfl⟩
        clear h9
        go_wp2_with fail
        go_ret
        exact ⟨rfl, _, rfl⟩
    · have ht : T = true := by rw [← HK.out]; exact risB_end (by omega)
      subst ht
      go_wp2
      go_ret
      exact ⟨rfl, _, rfl⟩
theorem implSim_is {v : Value} {l : List Int} {T : Bool} {w : World} (hv : IntsAt w v l) (hT : simB l = T) :
    Calls Tryz.prog 161 #[v] w fun e w' => e = .returned (.bool T) ∧ ∃ n, w' = w.drewN n := by
  obtain ⟨a, c, rfl, hl, ha⟩ := hv
  by_cases h : 1 ≤ l.length ∧ l.length ≤ 4
  · rcases ha with h' | ⟨b, o, rfl, hb, k1⟩
    · subst h'; simp at h
    · exact implSim_some h.1 h.2 hb k1 hT
  · rw [simB_no (by omega)] at hT
    subst hT
    exact implSim_no a _ c w (by omega) (by omega)
end Go.Proofs.YtibdcejglkhcfaaGreatDoor
