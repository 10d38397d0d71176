/-
  Laws of spaces: whatever the arguments, the program's answer is the model's, the arguments are as before, and the answer lies in new memory.
-/
import Derived.Test.YtpimnngomodnhaaSpZ
import Derived.Deep.RegionHeld3
import Derived.StillTactics
import Derived.Deep.DeepCutAuto
namespace Go.Proofs.Ytpimnngomodnhaa
open Go.RowKit
set_option linter.unusedVariables false

set_option maxRecDepth 100000 in
set_option maxHeartbeats 20000000 in
theorem containsVector_at {u0 u1 : Value} {z0 : List (List Int)} {z1 : List Int} (p0 r0 : Int) (w : World) (hu0 : RowsAt w u0 z0) (hu1 : IntsAt w u1 z1) (hsum : (z0.length + tot z0) ≤ 1048576) :
    Calls Try.prog 5 #[.agg #[.int .i64 p0, .int .i64 r0, u0], u1] w fun e w' => e = .returned (.bool true) ∧ Below w.heap.size w w' := by
  have Hu0 := Lib.hid hu0
  have hl0 : FitR z0 := ⟨by omega, by omega⟩
  have hc0 : z0.length ≤ 1048576 := hl0.1
  have ht0 : tot z0 ≤ 1048576 := hl0.2
  obtain ⟨a0, cap0, rfl⟩ := hu0.slice
  clear hu0
  have Hu1 := Lib.hid hu1
  obtain ⟨a1, cap1, rfl, hl1, _⟩ := hu1
  have hl1' : ¬ 1048576 < (z1.length : Int) := by omega
  obtain ⟨T0, hr⟩ := conRes_has p0 r0 z0 z1
  have HR : Hid (ConRes p0 r0 z0 z1 T0) := hr
  clear hr
  have ec0 : (T0 != T0) = false := by simp
  have K0 : Hid (∀ w', Below w.heap.size w w' → RowsAt w' (.slice a0 z0.length cap0) z0) := fun w' hb => Hu0.out.on hb
  have K1 : Hid (∀ w', Below w.heap.size w w' → IntsAt w' (.slice a1 z1.length cap1) z1) := fun w' hb => Hu1.out.on hb
  clear Hu0 Hu1
  have B0 : Hid (Below w.heap.size w w) := Below.refl _ _
  go_enter Try.func5, Try.ntmps5
  go_wp2_with fail
  refine (szV_yes p0 r0 (K0.out _ (al1 B0.out _)).raw (by omega) (by omega)).mono ?_
  rintro e w1 ⟨rfl, hb1⟩
  have bb1 : Below w.heap.size w w1 := up1 hb1
  have Pb0 : Hid (PtV w1 w.heap.size p0 r0 (.slice a0 z0.length cap0)) := (PtV.new _ _ _ _ _).on hb1
  have B1 := Lib.hid (B0.out.trans (bb1.mono B0.out.size))
  have le1 : w.heap.size + 1 ≤ w1.heap.size := by have := hb1.size; (try simp at this); omega
  clear hb1 bb1
  obtain ⟨lb0, b00, b01, b02⟩ := Pb0.out
  go_wp2_with fail
  refine (toV_any p0 r0 (K0.out _ B1.out)).mono ?_
  rintro e w2 ⟨v2, rfl, ho2, hb2⟩
  clear lb0 b00 b01 b02
  have bb2 : Below w1.heap.size w1 w2 := hb2
  have Pb0 := Lib.hid (Pb0.out.on bb2)
  have B2 := Lib.hid (B1.out.trans (bb2.mono B1.out.size))
  have le2 : w1.heap.size + 0 ≤ w2.heap.size := by have := hb2.size; (try simp at this); omega
  obtain ⟨v2a, v2c, rfl⟩ := ho2.slice
  have Oi0 : Hid (OwnRX (w1.heap.size + 0) w2.heap.size w2 (.slice v2a z0.length v2c) z0) := OwnRX.of ho2 (by simp)
  clear ho2 hb2 bb2
  obtain ⟨lb0, b00, b01, b02⟩ := Pb0.out
  go_wp2_with fail
  refine (toI_any (K1.out _ B2.out)).mono ?_
  rintro e w3 ⟨v3, rfl, ho3, hb3⟩
  clear lb0 b00 b01 b02
  have bb3 : Below w2.heap.size w2 w3 := hb3
  have Pb0 := Lib.hid (Pb0.out.on bb3)
  have Oi0 := Lib.hid (Oi0.out.on bb3)
  have B3 := Lib.hid (B2.out.trans (bb3.mono B2.out.size))
  have le3 : w2.heap.size + 0 ≤ w3.heap.size := by have := hb3.size; (try simp at this); omega
  obtain ⟨v3a, v3c, rfl⟩ := ho3.slice
  have Oi1 : Hid (OwnX (w2.heap.size + 0) w3.heap.size w3 (.slice v3a z1.length v3c) z1) := OwnX.of ho3 (by simp)
  clear ho3 hb3 bb3
  obtain ⟨lb0, b00, b01, b02⟩ := Pb0.out
  go_wp2_with fail
  refine (specCon_any (Oi0.out.atD hl0) (Oi1.out.atC hl1) HR.out).mono ?_
  rintro e w4 ⟨rfl, hb4⟩
  clear lb0 b00 b01 b02
  have bb4 : Below w3.heap.size w3 w4 := hb4
  have Pb0 := Lib.hid (Pb0.out.on bb4)
  have Oi0 := Lib.hid (Oi0.out.on bb4)
  have Oi1 := Lib.hid (Oi1.out.on bb4)
  have B4 := Lib.hid (B3.out.trans (bb4.mono B3.out.size))
  have le4 : w3.heap.size + 0 ≤ w4.heap.size := by have := hb4.size; (try simp at this); omega
  clear hb4 bb4
  clear Oi0 Oi1
  obtain ⟨lb0, b00, b01, b02⟩ := Pb0.out
  go_wp2_with fail
  refine (toV_any p0 r0 (K0.out _ B4.out)).mono ?_
  rintro e w5 ⟨v5, rfl, ho5, hb5⟩
  clear lb0 b00 b01 b02
  have bb5 : Below w4.heap.size w4 w5 := hb5
  have Pb0 := Lib.hid (Pb0.out.on bb5)
  have B5 := Lib.hid (B4.out.trans (bb5.mono B4.out.size))
  have le5 : w4.heap.size + 0 ≤ w5.heap.size := by have := hb5.size; (try simp at this); omega
  obtain ⟨v5a, v5c, rfl⟩ := ho5.slice
  have Ox0 : Hid (OwnRX (w4.heap.size + 0) w5.heap.size w5 (.slice v5a z0.length v5c) z0) := OwnRX.of ho5 (by simp)
  clear ho5 hb5 bb5
  obtain ⟨lb0, b00, b01, b02⟩ := Pb0.out
  go_wp2_with fail
  refine (toI_any (K1.out _ (al1 B5.out _))).mono ?_
  rintro e w6 ⟨v6, rfl, ho6, hb6⟩
  clear lb0 b00 b01 b02
  have bb6 : Below w5.heap.size w5 w6 := up1 hb6
  have Pb0 := Lib.hid (Pb0.out.on bb6)
  have Px0 : Hid (PtV w6 w5.heap.size p0 r0 (.slice v5a z0.length v5c)) := (PtV.new _ _ _ _ _).on hb6
  have Ox0 := Lib.hid (Ox0.out.on bb6)
  have B6 := Lib.hid (B5.out.trans (bb6.mono B5.out.size))
  have le6 : w5.heap.size + 1 ≤ w6.heap.size := by have := hb6.size; (try simp at this); omega
  obtain ⟨v6a, v6c, rfl⟩ := ho6.slice
  have Ox1 : Hid (OwnX (w5.heap.size + 1) w6.heap.size w6 (.slice v6a z1.length v6c) z1) := OwnX.of ho6 (by simp)
  clear ho6 hb6 bb6
  obtain ⟨lb0, b00, b01, b02⟩ := Pb0.out
  obtain ⟨lx0, x00, x01, x02⟩ := Px0.out
  go_wp2_with fail
  refine (implCon_any (Ox0.out.atD hl0) (Ox1.out.atC hl1) HR.out).mono ?_
  rintro e w7 ⟨rfl, hb7⟩
  clear lb0 b00 b01 b02 lx0 x00 x01 x02
  have bb7 : Below w6.heap.size w6 w7 := hb7
  have Pb0 := Lib.hid (Pb0.out.on bb7)
  have Px0 := Lib.hid (Px0.out.on bb7)
  have Ox0 := Lib.hid (Ox0.out.on bb7)
  have Ox1 := Lib.hid (Ox1.out.on bb7)
  have B7 := Lib.hid (B6.out.trans (bb7.mono B6.out.size))
  have le7 : w6.heap.size + 0 ≤ w7.heap.size := by have := hb7.size; (try simp at this); omega
  clear hb7 bb7
  obtain ⟨lb0, b00, b01, b02⟩ := Pb0.out
  obtain ⟨lx0, x00, x01, x02⟩ := Px0.out
  go_wp2_with fail
  go_region_held3 (fun w' => w'.cell? ⟨w5.heap.size, 0, none⟩ = some (.int .i64 p0) ∧ w'.cell? ⟨w5.heap.size, 1, none⟩ = some (.int .i64 r0) ∧ w'.cell? ⟨w5.heap.size, 2, none⟩ = some ((.slice v5a z0.length v5c)) ∧ w'.cell? ⟨w.heap.size, 0, none⟩ = some (.int .i64 p0) ∧ w'.cell? ⟨w.heap.size, 1, none⟩ = some (.int .i64 r0) ∧ w'.cell? ⟨w.heap.size, 2, none⟩ = some ((.slice a0 z0.length cap0))) (go_keep)
    (first
      | (go_at_call 27; refine (toV_any p0 r0 (K0.out _ B7.out).drew).mono ?_; rintro e wa8 ⟨va8, rfl, hoa8, hba8'⟩; have hba8 := undrew hba8'; obtain ⟨va8a, va8c, rfl⟩ := hoa8.slice; obtain ⟨_, _, _, _⟩ := Px0.out.on hba8; obtain ⟨_, _, _, _⟩ := Pb0.out.on hba8)
      | (go_at_call 29; refine (eqV_any p0 r0 ((Ox0.out.on hba8).at hl0) (hoa8.at hl0)).mono ?_; rintro e w8 ⟨rfl, hbb8⟩; obtain ⟨_, _, _, _⟩ := Px0.out.on (hba8.trans (hbb8.mono hba8.size)); obtain ⟨_, _, _, _⟩ := Pb0.out.on (hba8.trans (hbb8.mono hba8.size))))
  have hb8 : Below w7.heap.size w7 w8 := hba8.trans (hbb8.mono hba8.size)
  have bb8 := hb8
  clear lb0 b00 b01 b02 lx0 x00 x01 x02
  clear hoa8 hba8 hbb8
  have Pb0 := Lib.hid (Pb0.out.on bb8)
  have Px0 := Lib.hid (Px0.out.on bb8)
  have Ox0 := Lib.hid (Ox0.out.on bb8)
  have Ox1 := Lib.hid (Ox1.out.on bb8)
  have B8 := Lib.hid (B7.out.trans (bb8.mono B7.out.size))
  have le8 : w7.heap.size + 0 ≤ w8.heap.size := by have := hb8.size; (try simp at this); omega
  clear hb8 bb8
  obtain ⟨lb0, b00, b01, b02⟩ := Pb0.out
  obtain ⟨lx0, x00, x01, x02⟩ := Px0.out
  go_wp2_with fail
  refine (toI_any (K1.out _ B8.out)).mono ?_
  rintro e w9 ⟨v9, rfl, ho9, hb9⟩
  clear lb0 b00 b01 b02 lx0 x00 x01 x02
  have bb9 : Below w8.heap.size w8 w9 := hb9
  have Pb0 := Lib.hid (Pb0.out.on bb9)
  have Px0 := Lib.hid (Px0.out.on bb9)
  have Ox0 := Lib.hid (Ox0.out.on bb9)
  have Ox1 := Lib.hid (Ox1.out.on bb9)
  have B9 := Lib.hid (B8.out.trans (bb9.mono B8.out.size))
  have le9 : w8.heap.size + 0 ≤ w9.heap.size := by have := hb9.size; (try simp at this); omega
  obtain ⟨v9a, v9c, rfl⟩ := ho9.slice
  have Oy1 : Hid (OwnX (w8.heap.size + 0) w9.heap.size w9 (.slice v9a z1.length v9c) z1) := OwnX.of ho9 (by simp)
  clear ho9 hb9 bb9
  obtain ⟨lb0, b00, b01, b02⟩ := Pb0.out
  obtain ⟨lx0, x00, x01, x02⟩ := Px0.out
  go_wp2_with fail
  refine (eqL_any (Ox1.out.at hl1) (Oy1.out.at hl1)).mono ?_
  rintro e w10 ⟨rfl, hb10⟩
  clear lb0 b00 b01 b02 lx0 x00 x01 x02
  have bb10 : Below w9.heap.size w9 w10 := hb10
  have Pb0 := Lib.hid (Pb0.out.on bb10)
  have Px0 := Lib.hid (Px0.out.on bb10)
  have Ox0 := Lib.hid (Ox0.out.on bb10)
  have Ox1 := Lib.hid (Ox1.out.on bb10)
  have Oy1 := Lib.hid (Oy1.out.on bb10)
  have B10 := Lib.hid (B9.out.trans (bb10.mono B9.out.size))
  have le10 : w9.heap.size + 0 ≤ w10.heap.size := by have := hb10.size; (try simp at this); omega
  clear hb10 bb10
  clear Oy1
  go_wp2_with fail
  go_ret
  exact ⟨rfl, B10.out⟩
set_option maxRecDepth 100000 in
set_option maxHeartbeats 400000 in
theorem containsVector_long0 (a1 : Option Addr) (len1 cap1 : Nat) (u0 : Value) (z0 : List (List Int)) (p0 r0 : Int) (w : World) (hm1 : len1 ≤ 9223372036854775807) (hm0 : RowsRaw w u0 z0) (hx : 1048576 < (len1 : Int)) :
    Calls Try.prog 5 #[.agg #[.int .i64 p0, .int .i64 r0, u0], .slice a1 len1 cap1] w fun e w' => e = .returned (.bool true) ∧ Below w.heap.size w w' := by
  have HM0 := Lib.hid hm0
  obtain ⟨a0, cap0, rfl⟩ := hm0.slice
  have hq0 := hm0.len
  clear hm0
  go_enter Try.func5, Try.ntmps5
  go_wp2_with fail
  go_ret
  exact ⟨rfl, al1 (Below.refl _ _) _⟩
set_option maxRecDepth 100000 in
set_option maxHeartbeats 400000 in
theorem containsVector_long1 (a1 : Option Addr) (len1 cap1 : Nat) (u0 : Value) (z0 : List (List Int)) (p0 r0 : Int) (w : World) (hm1 : len1 ≤ 9223372036854775807) (hm0 : RowsRaw w u0 z0) (h1 : ¬ 1048576 < (len1 : Int)) (hx : (1048576 : Int) < (z0.length : Int) + (tot z0 : Int)) :
    Calls Try.prog 5 #[.agg #[.int .i64 p0, .int .i64 r0, u0], .slice a1 len1 cap1] w fun e w' => e = .returned (.bool true) ∧ Below w.heap.size w w' := by
  have HM0 := Lib.hid hm0
  obtain ⟨a0, cap0, rfl⟩ := hm0.slice
  have hq0 := hm0.len
  clear hm0
  go_enter Try.func5, Try.ntmps5
  go_wp2_with fail
  refine (szV_no p0 r0 (HM0.out.on (al1 (Below.refl _ _) _)) (by omega) (by omega) (by omega)).mono ?_
  rintro e wl0 ⟨rfl, hbl0⟩
  go_wp2_with fail
  go_ret
  exact ⟨rfl, ((al1 (Below.refl _ _) _).trans (hbl0.mono (by (try simp) <;> omega)))⟩
theorem containsVector_of (a1 : Option Addr) (len1 cap1 : Nat) (z1 : List Int) (u0 : Value) (z0 : List (List Int)) (p0 r0 : Int) (w : World)
    (hw0 : RowsRaw w u0 z0)
    (hw1 : (a1 = none ∧ len1 = 0 ∧ cap1 = 0 ∧ z1 = []) ∨ ∃ x, a1 = some x ∧ len1 ≤ cap1 ∧ cap1 ≤ maxLen ∧ z1.length = cap1 ∧ (∀ i, i < z1.length → w.cell? (x.add i) = some (.int .i64 (z1.getD i 0))) ∧ ∀ n ∈ z1, (Lit.int .i64 n).wf = true) :
    Calls Try.prog 5 #[.agg #[.int .i64 p0, .int .i64 r0, u0], .slice a1 len1 cap1] w fun e w' => e = .returned (.bool true) ∧ Below w.heap.size w w' := by
  by_cases h1 : 1048576 < (len1 : Int)
  · exact containsVector_long0 a1 len1 cap1 u0 z0 p0 r0 w (len_max hw1) hw0  h1
  by_cases g0 : 1048576 < (z0.length + tot z0)
  · exact containsVector_long1 a1 len1 cap1 u0 z0 p0 r0 w (len_max hw1) hw0 h1 (by omega)
  have hx : (z1.take len1).length = len1 := row_len hw1
  have := containsVector_at p0 r0 w (hw0.at (by omega) (by omega)) (intsAt_in (by omega) hw1) (by omega)
  exact this
end Go.Proofs.Ytpimnngomodnhaa
