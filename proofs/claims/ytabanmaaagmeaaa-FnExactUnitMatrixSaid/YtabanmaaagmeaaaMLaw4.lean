/-
  Laws of matrices: whatever the arguments, the program's answer is the model's, the arguments are as before, and the answer lies in new memory.
-/
import Derived.Test.YtabanmaaagmeaaaMxQ
import Derived.Deep.RegionHeld3
import Derived.StillTactics
namespace Go.Proofs.Ytabanmaaagmeaaa
open Go.RowKit
set_option linter.unusedVariables false

set_option maxRecDepth 100000 in
set_option maxHeartbeats 3200000 in
theorem unitMatrix_at (n0 n1 : Int) (w : World)  :
    Calls Try.prog 8 #[.int .i64 n0, .int .i64 n1] w fun e w' => e = .returned (.bool true) ∧ Below w.heap.size w w' := by
  obtain ⟨P0, R0, C0, Z0, N1, hr⟩ := uRes_has n0 n1
  have hz0 : Z0.length ≤ 1048576 := hr.len
  have HR : Hid (URes n0 n1 P0 R0 C0 Z0 N1) := hr
  clear hr
  have ec1 : (N1 != N1) = false := by simp
  have B0 : Hid (Below w.heap.size w w) := Below.refl _ _
  go_enter Try.func8, Try.ntmps8
  go_wp2_with fail
  refine (specUnit_any _ HR.out).mono ?_
  rintro e w1 ⟨v1x0, rfl, ho1x0, hb1⟩
  have bb1 : Below w.heap.size w w1 := hb1
  have B1 := Lib.hid (B0.out.trans (bb1.mono B0.out.size))
  have le1 : w.heap.size + 0 ≤ w1.heap.size := by have := hb1.size; (try simp at this); omega
  obtain ⟨v1x0a, v1x0c, rfl⟩ := ho1x0.slice
  have Os0 : Hid (OwnX (w.heap.size + 0) w1.heap.size w1 (.slice v1x0a Z0.length v1x0c) Z0) := OwnX.of ho1x0 (by simp)
  clear ho1x0 hb1 bb1
  go_wp2_with fail
  refine (implUnit_any _ HR.out).mono ?_
  rintro e w2 ⟨v2x0, rfl, ho2x0, hb2⟩
  have bb2 : Below w1.heap.size w1 w2 := up1 hb2
  have Ps0 : Hid (PtM w2 w1.heap.size P0 R0 C0 (.slice v1x0a Z0.length v1x0c)) := (PtM.new _ _ _ _ _ _).on hb2
  have Os0 := Lib.hid (Os0.out.on bb2)
  have B2 := Lib.hid (B1.out.trans (bb2.mono B1.out.size))
  have le2 : w1.heap.size + 1 ≤ w2.heap.size := by have := hb2.size; (try simp at this); omega
  obtain ⟨v2x0a, v2x0c, rfl⟩ := ho2x0.slice
  have Og0 : Hid (OwnX (w1.heap.size + 1) w2.heap.size w2 (.slice v2x0a Z0.length v2x0c) Z0) := OwnX.of ho2x0 (by simp)
  clear ho2x0 hb2 bb2
  obtain ⟨ls0, s00, s01, s02, s03⟩ := Ps0.out
  go_wp2_with fail
  refine (eqM_any P0 R0 C0 ((Og0.out.alloc _).at hz0) ((Os0.out.alloc _).at hz0)).mono ?_
  rintro e w3 ⟨rfl, hb3⟩
  clear ls0 s00 s01 s02 s03
  have bb3 : Below w2.heap.size w2 w3 := up1 hb3
  have Ps0 := Lib.hid (Ps0.out.on bb3)
  have Pg0 : Hid (PtM w3 w2.heap.size P0 R0 C0 (.slice v2x0a Z0.length v2x0c)) := (PtM.new _ _ _ _ _ _).on hb3
  have Os0 := Lib.hid (Os0.out.on bb3)
  have Og0 := Lib.hid (Og0.out.on bb3)
  have B3 := Lib.hid (B2.out.trans (bb3.mono B2.out.size))
  have le3 : w2.heap.size + 1 ≤ w3.heap.size := by have := hb3.size; (try simp at this); omega
  clear hb3 bb3
  obtain ⟨ls0, s00, s01, s02, s03⟩ := Ps0.out
  obtain ⟨lg0, g00, g01, g02, g03⟩ := Pg0.out
  go_wp2_with fail
  refine (markM_any P0 R0 C0 1 Og0.out hz0 (by omega) (by omega)).mono ?_
  rintro e w4 ⟨rfl, ho4, hf4⟩
  clear ls0 s00 s01 s02 s03 lg0 g00 g01 g02 g03
  have Ps0 := Lib.hid (Ps0.out.fr hf4 (by omega))
  have Pg0 := Lib.hid (Pg0.out.fr hf4 (by omega))
  have Os0 := Lib.hid (Os0.out.fr hf4 (by omega))
  have Og0 := Lib.hid ho4
  have B4 := Lib.hid (B3.out.trans ((hf4.below (by omega)).mono (by omega)))
  have le4 : w3.heap.size ≤ w4.heap.size := hf4.2.2.2.1
  clear ho4 hf4
  have eq1 : ((1 + (Z0.length : Int)) != (1 + (Z0.length : Int))) = false := by simp
  obtain ⟨ls0, s00, s01, s02, s03⟩ := Ps0.out
  obtain ⟨lg0, g00, g01, g02, g03⟩ := Pg0.out
  go_wp2_with fail
  refine (heldM_any P0 R0 C0 1 (Og0.out.at (by rw [marks_len]; exact hz0)) (by omega) (by omega)).mono ?_
  rintro e w5 ⟨rfl, hb5⟩
  clear ls0 s00 s01 s02 s03 lg0 g00 g01 g02 g03
  have bb5 : Below w4.heap.size w4 w5 := hb5
  have Ps0 := Lib.hid (Ps0.out.on bb5)
  have Pg0 := Lib.hid (Pg0.out.on bb5)
  have Os0 := Lib.hid (Os0.out.on bb5)
  have Og0 := Lib.hid (Og0.out.on bb5)
  have B5 := Lib.hid (B4.out.trans (bb5.mono B4.out.size))
  have le5 : w4.heap.size + 0 ≤ w5.heap.size := by have := hb5.size; (try simp at this); omega
  clear hb5 bb5
  obtain ⟨ls0, s00, s01, s02, s03⟩ := Ps0.out
  obtain ⟨lg0, g00, g01, g02, g03⟩ := Pg0.out
  go_wp2_with fail
  refine (implUnit_any _ HR.out).mono ?_
  rintro e w6 ⟨v6x0, rfl, ho6x0, hb6⟩
  clear ls0 s00 s01 s02 s03 lg0 g00 g01 g02 g03
  have bb6 : Below w5.heap.size w5 w6 := hb6
  have Ps0 := Lib.hid (Ps0.out.on bb6)
  have Pg0 := Lib.hid (Pg0.out.on bb6)
  have Os0 := Lib.hid (Os0.out.on bb6)
  have Og0 := Lib.hid (Og0.out.on bb6)
  have B6 := Lib.hid (B5.out.trans (bb6.mono B5.out.size))
  have le6 : w5.heap.size + 0 ≤ w6.heap.size := by have := hb6.size; (try simp at this); omega
  obtain ⟨v6x0a, v6x0c, rfl⟩ := ho6x0.slice
  have Oh0 : Hid (OwnX (w5.heap.size + 0) w6.heap.size w6 (.slice v6x0a Z0.length v6x0c) Z0) := OwnX.of ho6x0 (by simp)
  clear ho6x0 hb6 bb6
  obtain ⟨ls0, s00, s01, s02, s03⟩ := Ps0.out
  obtain ⟨lg0, g00, g01, g02, g03⟩ := Pg0.out
  go_wp2_with fail
  refine (eqM_any P0 R0 C0 ((Oh0.out.alloc _).at hz0) ((Os0.out.alloc _).at hz0)).mono ?_
  rintro e w7 ⟨rfl, hb7⟩
  clear ls0 s00 s01 s02 s03 lg0 g00 g01 g02 g03
  have bb7 : Below w6.heap.size w6 w7 := up1 hb7
  have Ps0 := Lib.hid (Ps0.out.on bb7)
  have Pg0 := Lib.hid (Pg0.out.on bb7)
  have Ph0 : Hid (PtM w7 w6.heap.size P0 R0 C0 (.slice v6x0a Z0.length v6x0c)) := (PtM.new _ _ _ _ _ _).on hb7
  have Os0 := Lib.hid (Os0.out.on bb7)
  have Og0 := Lib.hid (Og0.out.on bb7)
  have Oh0 := Lib.hid (Oh0.out.on bb7)
  have B7 := Lib.hid (B6.out.trans (bb7.mono B6.out.size))
  have le7 : w6.heap.size + 1 ≤ w7.heap.size := by have := hb7.size; (try simp at this); omega
  clear hb7 bb7
  obtain ⟨ls0, s00, s01, s02, s03⟩ := Ps0.out
  obtain ⟨lg0, g00, g01, g02, g03⟩ := Pg0.out
  obtain ⟨lh0, h00, h01, h02, h03⟩ := Ph0.out
  go_wp2_with fail
  refine (heldM_any P0 R0 C0 1 (Og0.out.at (by rw [marks_len]; exact hz0)) (by omega) (by omega)).mono ?_
  rintro e w8 ⟨rfl, hb8⟩
  clear ls0 s00 s01 s02 s03 lg0 g00 g01 g02 g03 lh0 h00 h01 h02 h03
  have bb8 : Below w7.heap.size w7 w8 := hb8
  have Ps0 := Lib.hid (Ps0.out.on bb8)
  have Pg0 := Lib.hid (Pg0.out.on bb8)
  have Ph0 := Lib.hid (Ph0.out.on bb8)
  have Os0 := Lib.hid (Os0.out.on bb8)
  have Og0 := Lib.hid (Og0.out.on bb8)
  have Oh0 := Lib.hid (Oh0.out.on bb8)
  have B8 := Lib.hid (B7.out.trans (bb8.mono B7.out.size))
  have le8 : w7.heap.size + 0 ≤ w8.heap.size := by have := hb8.size; (try simp at this); omega
  clear hb8 bb8
  go_wp2_with fail
  go_ret
  exact ⟨rfl, B8.out⟩
end Go.Proofs.Ytabanmaaagmeaaa
