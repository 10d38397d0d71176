/-
  Laws of complexes: whatever the arguments, the program's answer is the model's, the arguments are as before, and the answer lies in new memory.
-/
import Derived.Test.YtcfmoafjkgmjdaaCxA
import Derived.Test.YtcfmoafjkgmjdaaCxC
import Derived.Deep.RegionHeld3
import Derived.StillTactics
import Derived.Deep.DeepCutAuto
namespace Go.Proofs.Ytcfmoafjkgmjdaa
open Go.RowKit
set_option linter.unusedVariables false

set_option maxRecDepth 100000 in
set_option maxHeartbeats 20000000 in
theorem validSimplex_at {u0 : Value} {z0 : List Int} (w : World) (hu0 : IntsAt w u0 z0) :
    Calls Try.prog 3 #[u0] w fun e w' => e = .returned (.bool true) ∧ Below w.heap.size w w' := by
  have Hu0 := Lib.hid hu0
  obtain ⟨a0, cap0, rfl, hl0, _⟩ := hu0
  have hl0' : ¬ 1048576 < (z0.length : Int) := by omega
  obtain ⟨T0, hr⟩ := (⟨_, rfl⟩ : ∃ T, T = simB z0)
  have HR : Hid (T0 = simB z0) := hr
  clear hr
  have ec0 : (T0 != T0) = false := by simp
  have K0 : Hid (∀ w', Below w.heap.size w w' → IntsAt w' (.slice a0 z0.length cap0) z0) := fun w' hb => Hu0.out.on hb
  clear Hu0
  have B0 : Hid (Below w.heap.size w w) := Below.refl _ _
  go_enter Try.func3, Try.ntmps3
  go_wp2_with fail
  refine (toI_any (K0.out _ B0.out)).mono ?_
  rintro e w1 ⟨v1, rfl, ho1, hb1⟩
  have bb1 : Below w.heap.size w w1 := hb1
  have B1 := Lib.hid (B0.out.trans (bb1.mono B0.out.size))
  have le1 : w.heap.size + 0 ≤ w1.heap.size := by have := hb1.size; (try simp at this); omega
  obtain ⟨v1a, v1c, rfl⟩ := ho1.slice
  have Oi0 : Hid (OwnX (w.heap.size + 0) w1.heap.size w1 (.slice v1a z0.length v1c) z0) := OwnX.of ho1 (by simp)
  clear ho1 hb1 bb1
  go_wp2_with fail
  refine (specSimL (Oi0.out.at hl0) HR.out).mono ?_
  rintro e w2 ⟨rfl, hb2⟩
  have bb2 : Below w1.heap.size w1 w2 := hb2
  have Oi0 := Lib.hid (Oi0.out.on bb2)
  have B2 := Lib.hid (B1.out.trans (bb2.mono B1.out.size))
  have le2 : w1.heap.size + 0 ≤ w2.heap.size := by have := hb2.size; (try simp at this); omega
  clear hb2 bb2
  clear Oi0
  go_wp2_with fail
  refine (toI_any (K0.out _ B2.out)).mono ?_
  rintro e w3 ⟨v3, rfl, ho3, hb3⟩
  have bb3 : Below w2.heap.size w2 w3 := hb3
  have B3 := Lib.hid (B2.out.trans (bb3.mono B2.out.size))
  have le3 : w2.heap.size + 0 ≤ w3.heap.size := by have := hb3.size; (try simp at this); omega
  obtain ⟨v3a, v3c, rfl⟩ := ho3.slice
  have Ox0 : Hid (OwnX (w2.heap.size + 0) w3.heap.size w3 (.slice v3a z0.length v3c) z0) := OwnX.of ho3 (by simp)
  clear ho3 hb3 bb3
  go_wp2_with fail
  refine (implSimL (Ox0.out.at hl0) HR.out).mono ?_
  rintro e w4 ⟨rfl, hb4⟩
  have bb4 : Below w3.heap.size w3 w4 := hb4
  have Ox0 := Lib.hid (Ox0.out.on bb4)
  have B4 := Lib.hid (B3.out.trans (bb4.mono B3.out.size))
  have le4 : w3.heap.size + 0 ≤ w4.heap.size := by have := hb4.size; (try simp at this); omega
  clear hb4 bb4
  go_wp2_with fail
  refine (toI_any (K0.out _ B4.out)).mono ?_
  rintro e w5 ⟨v5, rfl, ho5, hb5⟩
  have bb5 : Below w4.heap.size w4 w5 := hb5
  have Ox0 := Lib.hid (Ox0.out.on bb5)
  have B5 := Lib.hid (B4.out.trans (bb5.mono B4.out.size))
  have le5 : w4.heap.size + 0 ≤ w5.heap.size := by have := hb5.size; (try simp at this); omega
  obtain ⟨v5a, v5c, rfl⟩ := ho5.slice
  have Oy0 : Hid (OwnX (w4.heap.size + 0) w5.heap.size w5 (.slice v5a z0.length v5c) z0) := OwnX.of ho5 (by simp)
  clear ho5 hb5 bb5
  go_wp2_with fail
  refine (eqL_any (Ox0.out.at hl0) (Oy0.out.at hl0)).mono ?_
  rintro e w6 ⟨rfl, hb6⟩
  have bb6 : Below w5.heap.size w5 w6 := hb6
  have Ox0 := Lib.hid (Ox0.out.on bb6)
  have Oy0 := Lib.hid (Oy0.out.on bb6)
  have B6 := Lib.hid (B5.out.trans (bb6.mono B5.out.size))
  have le6 : w5.heap.size + 0 ≤ w6.heap.size := by have := hb6.size; (try simp at this); omega
  clear hb6 bb6
  clear Oy0
  go_wp2_with fail
  go_ret
  exact ⟨rfl, B6.out⟩
set_option maxRecDepth 100000 in
set_option maxHeartbeats 400000 in
theorem validSimplex_long0 (a0 : Option Addr) (len0 cap0 : Nat) (w : World) (hm0 : len0 ≤ 9223372036854775807) (hx : 1048576 < (len0 : Int)) :
    Calls Try.prog 3 #[.slice a0 len0 cap0] w fun e w' => e = .returned (.bool true) ∧ Below w.heap.size w w' := by
  go_enter Try.func3, Try.ntmps3
  go_wp2_with fail
  go_ret
  exact ⟨rfl, Below.refl _ _⟩
theorem validSimplex_of (a0 : Option Addr) (len0 cap0 : Nat) (z0 : List Int) (w : World)
    (hw0 : (a0 = none ∧ len0 = 0 ∧ cap0 = 0 ∧ z0 = []) ∨ ∃ x, a0 = some x ∧ len0 ≤ cap0 ∧ cap0 ≤ maxLen ∧ z0.length = cap0 ∧ (∀ i, i < z0.length → w.cell? (x.add i) = some (.int .i64 (z0.getD i 0))) ∧ ∀ n ∈ z0, (Lit.int .i64 n).wf = true) :
    Calls Try.prog 3 #[.slice a0 len0 cap0] w fun e w' => e = .returned (.bool true) ∧ Below w.heap.size w w' := by
  by_cases h0 : 1048576 < (len0 : Int)
  · exact validSimplex_long0 a0 len0 cap0  w (len_max hw0)  h0
  have hx : (z0.take len0).length = len0 := row_len hw0
  have := validSimplex_at  w (intsAt_in (by omega) hw0)
  exact this
end Go.Proofs.Ytcfmoafjkgmjdaa
