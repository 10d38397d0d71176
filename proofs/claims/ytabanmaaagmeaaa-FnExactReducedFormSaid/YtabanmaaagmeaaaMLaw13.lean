/-
  Laws of matrices: whatever the arguments, the program's answer is the model's, the arguments are as before, and the answer lies in new memory.
-/
import Derived.Test.YtabanmaaagmeaaaPH
import Derived.Deep.RegionHeld3
import Derived.StillTactics
import Derived.Deep.DeepCutAuto
namespace Go.Proofs.Ytabanmaaagmeaaa
open Go.RowKit
set_option linter.unusedVariables false

theorem RfRes.len0 {p r c : Int} {xs : List Int} {P R C : Int} {zs ps : List Int} {k : Int} (h : RfRes p r c xs P R C zs ps k) : zs.length ≤ 1048576 := by
  rcases h with ⟨_, _, _, _, rfl, _, _⟩ | ⟨_, u, _, m, n, A, hA, _, _, _, rfl, _⟩
  · simp
  · rw [flat_len]
    have := Nat.mul_le_mul hA.m32 hA.n32
    omega
theorem RfRes.len1 {p r c : Int} {xs : List Int} {P R C : Int} {zs ps : List Int} {k : Int} (h : RfRes p r c xs P R C zs ps k) : ps.length ≤ 1048576 := by
  rcases h with ⟨_, _, _, _, _, rfl, _⟩ | ⟨_, u, _, m, n, A, hA, _, _, _, _, rfl⟩
  · simp
  · rw [pivI_len]
    have h3 := Lin.piv_le_rows (fd_of hA.pr) m n A
    have h4 := hA.m32
    omega
theorem RfRes.len0s {p r c : Int} {xs : List Int} {P R C : Int} {zs ps : List Int} {k : Int} (h : RfRes p r c xs P R C zs ps k) : zs.length ≤ 1024 := by
  rcases h with ⟨_, _, _, _, rfl, _, _⟩ | ⟨_, u, _, m, n, A, hA, _, _, _, rfl, _⟩
  · simp
  · rw [flat_len]
    have := Nat.mul_le_mul hA.m32 hA.n32
    omega
theorem sep_half2 {B K : Nat} {w : World} {v pv : Value} {zs ps : List Int} (h1 : OwnI B w v zs) (h2 : OwnI B w pv ps) (hB : B ≤ w.heap.size) (a : ∀ g, v.ownBlock = some g → g < K) (b : ∀ g, pv.ownBlock = some g → K ≤ g) :
    ∃ B1 E1 B2 E2, OwnX B1 E1 w v zs ∧ OwnX B2 E2 w pv ps ∧ E1 ≤ B2 ∧ B ≤ B1 ∧ B ≤ B2 ∧ E1 ≤ w.heap.size ∧ E2 ≤ w.heap.size ∧ B1 ≤ w.heap.size ∧ B2 ≤ w.heap.size := by
  refine ⟨B, max B (min K w.heap.size), max B (min K w.heap.size), w.heap.size, ⟨h1, by omega, fun g hg => ?_⟩, ⟨h2.up fun g hg => ?_, Nat.le_refl _, fun g hg => (h2.out.lt g hg).2⟩, Nat.le_refl _, Nat.le_refl _, by omega, by omega, Nat.le_refl _, hB, by omega⟩
  · have := (h1.out.lt g hg).2
    have := a g hg
    omega
  · have := (h2.out.lt g hg).1
    have := b g hg
    omega
theorem sep_own2 {B : Nat} {w : World} {v pv : Value} {zs ps : List Int} (h1 : OwnI B w v zs) (h2 : OwnI B w pv ps) (hs : Sep v pv) (hB : B ≤ w.heap.size) :
    ∃ B1 E1 B2 E2, OwnX B1 E1 w v zs ∧ OwnX B2 E2 w pv ps ∧ Hid (E1 ≤ B2 ∨ E2 ≤ B1) ∧ B ≤ B1 ∧ B ≤ B2 ∧ E1 ≤ w.heap.size ∧ E2 ≤ w.heap.size ∧ B1 ≤ w.heap.size ∧ B2 ≤ w.heap.size := by
  obtain ⟨K, ⟨a, b⟩ | ⟨a, b⟩⟩ := hs
  · obtain ⟨B1, E1, B2, E2, x1, x2, x3, x4, x5, x6, x7, x8, x9⟩ := sep_half2 h1 h2 hB a b
    exact ⟨B1, E1, B2, E2, x1, x2, .inl x3, x4, x5, x6, x7, x8, x9⟩
  · obtain ⟨B1, E1, B2, E2, x1, x2, x3, x4, x5, x6, x7, x8, x9⟩ := sep_half2 h2 h1 hB a b
    exact ⟨B2, E2, B1, E1, x2, x1, .inr x3, x5, x4, x7, x6, x9, x8⟩
set_option maxRecDepth 100000 in
set_option maxHeartbeats 20000000 in
theorem reducedForm_at {u0 : Value} {z0 : List Int} (p0 r0 c0 : Int) (w : World) (hu0 : IntsAt w u0 z0) (hsum : z0.length ≤ 1048576) :
    Calls Try.prog 16 #[.agg #[.int .i64 p0, .int .i64 r0, .int .i64 c0, u0]] w fun e w' => e = .returned (.bool true) ∧ Below w.heap.size w w' := by
  have Hu0 := Lib.hid hu0
  obtain ⟨a0, cap0, rfl, hl0, _⟩ := hu0
  obtain ⟨P0, R0, C0, Z0, Z1, N2, hr⟩ := rfRes_has p0 r0 c0 z0
  have hz0 : Z0.length ≤ 1048576 := hr.len0
  have hz1 : Z1.length ≤ 1048576 := hr.len1
  have hz0s : Z0.length ≤ 1024 := hr.len0s
  have HR : Hid (RfRes p0 r0 c0 z0 P0 R0 C0 Z0 Z1 N2) := hr
  clear hr
  have ec2 : (N2 != N2) = false := by simp
  have K0 : Hid (∀ w', Below w.heap.size w w' → IntsAt w' (.slice a0 z0.length cap0) z0) := fun w' hb => Hu0.out.on hb
  clear Hu0
  have B0 : Hid (Below w.heap.size w w) := Below.refl _ _
  go_enter Try.func16, Try.ntmps16
  go_wp2_with fail
  refine (szM_yes p0 r0 c0 a0 cap0 _ (by omega) (by omega)).mono ?_
  rintro e w1 ⟨rfl, hb1⟩
  have bb1 : Below w.heap.size w w1 := up1 hb1
  have Pb0 : Hid (PtM w1 w.heap.size p0 r0 c0 (.slice a0 z0.length cap0)) := (PtM.new _ _ _ _ _ _).on hb1
  have B1 := Lib.hid (B0.out.trans (bb1.mono B0.out.size))
  have le1 : w.heap.size + 1 ≤ w1.heap.size := by have := hb1.size; (try simp at this); omega
  clear hb1 bb1
  obtain ⟨lb0, b00, b01, b02, b03⟩ := Pb0.out
  go_wp2_with fail
  refine (toM_any p0 r0 c0 (K0.out _ B1.out)).mono ?_
  rintro e w2 ⟨v2, rfl, ho2, hb2⟩
  clear lb0 b00 b01 b02 b03
  have bb2 : Below w1.heap.size w1 w2 := hb2
  have Pb0 := Lib.hid (Pb0.out.on bb2)
  have B2 := Lib.hid (B1.out.trans (bb2.mono B1.out.size))
  have le2 : w1.heap.size + 0 ≤ w2.heap.size := by have := hb2.size; (try simp at this); omega
  obtain ⟨v2a, v2c, rfl⟩ := ho2.slice
  have Oi0 : Hid (OwnX (w1.heap.size + 0) w2.heap.size w2 (.slice v2a z0.length v2c) z0) := OwnX.of ho2 (by simp)
  clear ho2 hb2 bb2
  obtain ⟨lb0, b00, b01, b02, b03⟩ := Pb0.out
  go_wp2_with fail
  refine (specRf_any (Oi0.out.atC hl0) HR.out).mono ?_
  rintro e w3 ⟨v3x0, v3x1, rfl, ho3x0, ho3x1, hb3, hs3⟩
  clear lb0 b00 b01 b02 b03
  have bb3 : Below w2.heap.size w2 w3 := hb3
  have Pb0 := Lib.hid (Pb0.out.on bb3)
  have Oi0 := Lib.hid (Oi0.out.on bb3)
  have B3 := Lib.hid (B2.out.trans (bb3.mono B2.out.size))
  have le3 : w2.heap.size + 0 ≤ w3.heap.size := by have := hb3.size; (try simp at this); omega
  obtain ⟨v3x0a, v3x0c, rfl⟩ := ho3x0.slice
  obtain ⟨v3x1a, v3x1c, rfl⟩ := ho3x1.slice
  obtain ⟨B3y0, E3y0, B3y1, E3y1, hX30, hX31, HD3, hB30, hB31, hE30, hE31, hS30, hS31⟩ := sep_own2 ho3x0 ho3x1 hs3 hb3.size
  have Os0 : Hid (OwnX B3y0 E3y0 w3 (.slice v3x0a Z0.length v3x0c) Z0) := hX30
  have Os1 : Hid (OwnX B3y1 E3y1 w3 (.slice v3x1a Z1.length v3x1c) Z1) := hX31
  clear ho3x0 ho3x1 hs3 hX30 hX31 hb3 bb3
  clear Oi0
  obtain ⟨lb0, b00, b01, b02, b03⟩ := Pb0.out
  go_wp2_with fail
  refine (toM_any p0 r0 c0 (K0.out _ (al1 B3.out _))).mono ?_
  rintro e w4 ⟨v4, rfl, ho4, hb4⟩
  clear lb0 b00 b01 b02 b03
  have bb4 : Below w3.heap.size w3 w4 := up1 hb4
  have Pb0 := Lib.hid (Pb0.out.on bb4)
  have Ps0 : Hid (PtM w4 w3.heap.size P0 R0 C0 (.slice v3x0a Z0.length v3x0c)) := (PtM.new _ _ _ _ _ _).on hb4
  have Os0 := Lib.hid (Os0.out.on bb4)
  have Os1 := Lib.hid (Os1.out.on bb4)
  have B4 := Lib.hid (B3.out.trans (bb4.mono B3.out.size))
  have le4 : w3.heap.size + 1 ≤ w4.heap.size := by have := hb4.size; (try simp at this); omega
  obtain ⟨v4a, v4c, rfl⟩ := ho4.slice
  have Ox0 : Hid (OwnX (w3.heap.size + 1) w4.heap.size w4 (.slice v4a z0.length v4c) z0) := OwnX.of ho4 (by simp)
  clear ho4 hb4 bb4
  obtain ⟨lb0, b00, b01, b02, b03⟩ := Pb0.out
  obtain ⟨ls0, s00, s01, s02, s03⟩ := Ps0.out
  go_wp2_with fail
  refine (implRf_any ((Ox0.out.alloc _).atC hl0) HR.out).mono ?_
  rintro e w5 ⟨v5x0, v5x1, rfl, ho5x0, ho5x1, hb5, hs5⟩
  clear lb0 b00 b01 b02 b03 ls0 s00 s01 s02 s03
  have bb5 : Below w4.heap.size w4 w5 := up1 hb5
  have Pb0 := Lib.hid (Pb0.out.on bb5)
  have Ps0 := Lib.hid (Ps0.out.on bb5)
  have Px0 : Hid (PtM w5 w4.heap.size p0 r0 c0 (.slice v4a z0.length v4c)) := (PtM.new _ _ _ _ _ _).on hb5
  have Os0 := Lib.hid (Os0.out.on bb5)
  have Os1 := Lib.hid (Os1.out.on bb5)
  have Ox0 := Lib.hid (Ox0.out.on bb5)
  have B5 := Lib.hid (B4.out.trans (bb5.mono B4.out.size))
  have le5 : w4.heap.size + 1 ≤ w5.heap.size := by have := hb5.size; (try simp at this); omega
  obtain ⟨v5x0a, v5x0c, rfl⟩ := ho5x0.slice
  obtain ⟨v5x1a, v5x1c, rfl⟩ := ho5x1.slice
  obtain ⟨B5y0, E5y0, B5y1, E5y1, hX50, hX51, HD5, hB50, hB51, hE50, hE51, hS50, hS51⟩ := sep_own2 ho5x0 ho5x1 hs5 hb5.size
  simp at hB50 hB51
  have Og0 : Hid (OwnX B5y0 E5y0 w5 (.slice v5x0a Z0.length v5x0c) Z0) := hX50
  have Og1 : Hid (OwnX B5y1 E5y1 w5 (.slice v5x1a Z1.length v5x1c) Z1) := hX51
  clear ho5x0 ho5x1 hs5 hX50 hX51 hb5 bb5
  obtain ⟨lb0, b00, b01, b02, b03⟩ := Pb0.out
  obtain ⟨ls0, s00, s01, s02, s03⟩ := Ps0.out
  obtain ⟨lx0, x00, x01, x02, x03⟩ := Px0.out
  go_wp2_with fail
  refine (eqM_any P0 R0 C0 ((Og0.out.alloc _).at hz0) ((Os0.out.alloc _).at hz0)).mono ?_
  rintro e w6 ⟨rfl, hb6⟩
  clear lb0 b00 b01 b02 b03 ls0 s00 s01 s02 s03 lx0 x00 x01 x02 x03
  have bb6 : Below w5.heap.size w5 w6 := up1 hb6
  have Pb0 := Lib.hid (Pb0.out.on bb6)
  have Ps0 := Lib.hid (Ps0.out.on bb6)
  have Px0 := Lib.hid (Px0.out.on bb6)
  have Pg0 : Hid (PtM w6 w5.heap.size P0 R0 C0 (.slice v5x0a Z0.length v5x0c)) := (PtM.new _ _ _ _ _ _).on hb6
  have Os0 := Lib.hid (Os0.out.on bb6)
  have Os1 := Lib.hid (Os1.out.on bb6)
  have Ox0 := Lib.hid (Ox0.out.on bb6)
  have Og0 := Lib.hid (Og0.out.on bb6)
  have Og1 := Lib.hid (Og1.out.on bb6)
  have B6 := Lib.hid (B5.out.trans (bb6.mono B5.out.size))
  have le6 : w5.heap.size + 1 ≤ w6.heap.size := by have := hb6.size; (try simp at this); omega
  clear hb6 bb6
  obtain ⟨lb0, b00, b01, b02, b03⟩ := Pb0.out
  obtain ⟨ls0, s00, s01, s02, s03⟩ := Ps0.out
  obtain ⟨lx0, x00, x01, x02, x03⟩ := Px0.out
  obtain ⟨lg0, g00, g01, g02, g03⟩ := Pg0.out
  go_wp2_with fail
  refine (eqL_any (Og1.out.at hz1) (Os1.out.at hz1)).mono ?_
  rintro e w7 ⟨rfl, hb7⟩
  clear lb0 b00 b01 b02 b03 ls0 s00 s01 s02 s03 lx0 x00 x01 x02 x03 lg0 g00 g01 g02 g03
  have bb7 : Below w6.heap.size w6 w7 := hb7
  have Pb0 := Lib.hid (Pb0.out.on bb7)
  have Ps0 := Lib.hid (Ps0.out.on bb7)
  have Px0 := Lib.hid (Px0.out.on bb7)
  have Pg0 := Lib.hid (Pg0.out.on bb7)
  have Os0 := Lib.hid (Os0.out.on bb7)
  have Os1 := Lib.hid (Os1.out.on bb7)
  have Ox0 := Lib.hid (Ox0.out.on bb7)
  have Og0 := Lib.hid (Og0.out.on bb7)
  have Og1 := Lib.hid (Og1.out.on bb7)
  have B7 := Lib.hid (B6.out.trans (bb7.mono B6.out.size))
  have le7 : w6.heap.size + 0 ≤ w7.heap.size := by have := hb7.size; (try simp at this); omega
  clear hb7 bb7
  obtain ⟨lb0, b00, b01, b02, b03⟩ := Pb0.out
  obtain ⟨ls0, s00, s01, s02, s03⟩ := Ps0.out
  obtain ⟨lx0, x00, x01, x02, x03⟩ := Px0.out
  obtain ⟨lg0, g00, g01, g02, g03⟩ := Pg0.out
  go_wp2_with fail
  go_region_held3 (fun w' => w'.cell? ⟨w4.heap.size, 0, none⟩ = some (.int .i64 p0) ∧ w'.cell? ⟨w4.heap.size, 1, none⟩ = some (.int .i64 r0) ∧ w'.cell? ⟨w4.heap.size, 2, none⟩ = some (.int .i64 c0) ∧ w'.cell? ⟨w4.heap.size, 3, none⟩ = some ((.slice v4a z0.length v4c)) ∧ w'.cell? ⟨w.heap.size, 0, none⟩ = some (.int .i64 p0) ∧ w'.cell? ⟨w.heap.size, 1, none⟩ = some (.int .i64 r0) ∧ w'.cell? ⟨w.heap.size, 2, none⟩ = some (.int .i64 c0) ∧ w'.cell? ⟨w.heap.size, 3, none⟩ = some ((.slice a0 z0.length cap0))) (go_keep)
    (first
      | (go_at_call 37; refine (toM_any p0 r0 c0 (K0.out _ B7.out).drew).mono ?_; rintro e wa8 ⟨va8, rfl, hoa8, hba8'⟩; have hba8 := undrew hba8'; obtain ⟨va8a, va8c, rfl⟩ := hoa8.slice; obtain ⟨_, _, _, _, _⟩ := Px0.out.on hba8; obtain ⟨_, _, _, _, _⟩ := Pb0.out.on hba8)
      | (go_at_call 39; refine (eqM_any p0 r0 c0 ((Ox0.out.on hba8).at hl0) (hoa8.at hl0)).mono ?_; rintro e w8 ⟨rfl, hbb8⟩; obtain ⟨_, _, _, _, _⟩ := Px0.out.on (hba8.trans (hbb8.mono hba8.size)); obtain ⟨_, _, _, _, _⟩ := Pb0.out.on (hba8.trans (hbb8.mono hba8.size))))
  have hb8 : Below w7.heap.size w7 w8 := hba8.trans (hbb8.mono hba8.size)
  have bb8 := hb8
  clear lb0 b00 b01 b02 b03 ls0 s00 s01 s02 s03 lx0 x00 x01 x02 x03 lg0 g00 g01 g02 g03
  clear hoa8 hba8 hbb8
  have Pb0 := Lib.hid (Pb0.out.on bb8)
  have Ps0 := Lib.hid (Ps0.out.on bb8)
  have Px0 := Lib.hid (Px0.out.on bb8)
  have Pg0 := Lib.hid (Pg0.out.on bb8)
  have Os0 := Lib.hid (Os0.out.on bb8)
  have Os1 := Lib.hid (Os1.out.on bb8)
  have Ox0 := Lib.hid (Ox0.out.on bb8)
  have Og0 := Lib.hid (Og0.out.on bb8)
  have Og1 := Lib.hid (Og1.out.on bb8)
  have B8 := Lib.hid (B7.out.trans (bb8.mono B7.out.size))
  have le8 : w7.heap.size + 0 ≤ w8.heap.size := by have := hb8.size; (try simp at this); omega
  clear hb8 bb8
  obtain ⟨lb0, b00, b01, b02, b03⟩ := Pb0.out
  obtain ⟨ls0, s00, s01, s02, s03⟩ := Ps0.out
  obtain ⟨lx0, x00, x01, x02, x03⟩ := Px0.out
  obtain ⟨lg0, g00, g01, g02, g03⟩ := Pg0.out
  go_wp2_with fail
  refine (markM_any p0 r0 c0 1 Ox0.out hl0 (by omega) (by omega)).mono ?_
  rintro e w9 ⟨rfl, ho9, hf9⟩
  clear lb0 b00 b01 b02 b03 ls0 s00 s01 s02 s03 lx0 x00 x01 x02 x03 lg0 g00 g01 g02 g03
  have Pb0 := Lib.hid (Pb0.out.fr hf9 (by omega))
  have Ps0 := Lib.hid (Ps0.out.fr hf9 (by omega))
  have Px0 := Lib.hid (Px0.out.fr hf9 (by omega))
  have Pg0 := Lib.hid (Pg0.out.fr hf9 (by omega))
  have Os0 := Lib.hid (Os0.out.fr hf9 (by first | omega | (have := HD3.out; omega) | (have := HD5.out; omega)))
  have Os1 := Lib.hid (Os1.out.fr hf9 (by first | omega | (have := HD3.out; omega) | (have := HD5.out; omega)))
  have Og0 := Lib.hid (Og0.out.fr hf9 (by first | omega | (have := HD3.out; omega) | (have := HD5.out; omega)))
  have Og1 := Lib.hid (Og1.out.fr hf9 (by first | omega | (have := HD3.out; omega) | (have := HD5.out; omega)))
  have Ox0 := Lib.hid ho9
  have B9 := Lib.hid (B8.out.trans ((hf9.below (by omega)).mono (by omega)))
  have le9 : w8.heap.size ≤ w9.heap.size := hf9.2.2.2.1
  clear ho9 hf9
  clear Ox0
  clear Px0
  obtain ⟨lb0, b00, b01, b02, b03⟩ := Pb0.out
  obtain ⟨ls0, s00, s01, s02, s03⟩ := Ps0.out
  obtain ⟨lg0, g00, g01, g02, g03⟩ := Pg0.out
  go_wp2_with fail
  refine (eqM_any P0 R0 C0 (Og0.out.at hz0) (Os0.out.at hz0)).mono ?_
  rintro e w10 ⟨rfl, hb10⟩
  clear lb0 b00 b01 b02 b03 ls0 s00 s01 s02 s03 lg0 g00 g01 g02 g03
  have bb10 : Below w9.heap.size w9 w10 := hb10
  have Pb0 := Lib.hid (Pb0.out.on bb10)
  have Ps0 := Lib.hid (Ps0.out.on bb10)
  have Pg0 := Lib.hid (Pg0.out.on bb10)
  have Os0 := Lib.hid (Os0.out.on bb10)
  have Os1 := Lib.hid (Os1.out.on bb10)
  have Og0 := Lib.hid (Og0.out.on bb10)
  have Og1 := Lib.hid (Og1.out.on bb10)
  have B10 := Lib.hid (B9.out.trans (bb10.mono B9.out.size))
  have le10 : w9.heap.size + 0 ≤ w10.heap.size := by have := hb10.size; (try simp at this); omega
  clear hb10 bb10
  obtain ⟨lb0, b00, b01, b02, b03⟩ := Pb0.out
  obtain ⟨ls0, s00, s01, s02, s03⟩ := Ps0.out
  obtain ⟨lg0, g00, g01, g02, g03⟩ := Pg0.out
  go_wp2_with fail
  refine (eqL_any (Og1.out.at hz1) (Os1.out.at hz1)).mono ?_
  rintro e w11 ⟨rfl, hb11⟩
  clear lb0 b00 b01 b02 b03 ls0 s00 s01 s02 s03 lg0 g00 g01 g02 g03
  have bb11 : Below w10.heap.size w10 w11 := hb11
  have Pb0 := Lib.hid (Pb0.out.on bb11)
  have Ps0 := Lib.hid (Ps0.out.on bb11)
  have Pg0 := Lib.hid (Pg0.out.on bb11)
  have Os0 := Lib.hid (Os0.out.on bb11)
  have Os1 := Lib.hid (Os1.out.on bb11)
  have Og0 := Lib.hid (Og0.out.on bb11)
  have Og1 := Lib.hid (Og1.out.on bb11)
  have B11 := Lib.hid (B10.out.trans (bb11.mono B10.out.size))
  have le11 : w10.heap.size + 0 ≤ w11.heap.size := by have := hb11.size; (try simp at this); omega
  clear hb11 bb11
  obtain ⟨lb0, b00, b01, b02, b03⟩ := Pb0.out
  obtain ⟨ls0, s00, s01, s02, s03⟩ := Ps0.out
  obtain ⟨lg0, g00, g01, g02, g03⟩ := Pg0.out
  go_wp2_with fail
  refine (markM_any P0 R0 C0 1 Og0.out hz0 (by omega) (by omega)).mono ?_
  rintro e w12 ⟨rfl, ho12, hf12⟩
  clear lb0 b00 b01 b02 b03 ls0 s00 s01 s02 s03 lg0 g00 g01 g02 g03
  have Pb0 := Lib.hid (Pb0.out.fr hf12 (by omega))
  have Ps0 := Lib.hid (Ps0.out.fr hf12 (by omega))
  have Pg0 := Lib.hid (Pg0.out.fr hf12 (by omega))
  have Os0 := Lib.hid (Os0.out.fr hf12 (by first | omega | (have := HD3.out; omega) | (have := HD5.out; omega)))
  have Os1 := Lib.hid (Os1.out.fr hf12 (by first | omega | (have := HD3.out; omega) | (have := HD5.out; omega)))
  have Og1 := Lib.hid (Og1.out.fr hf12 (by first | omega | (have := HD3.out; omega) | (have := HD5.out; omega)))
  have Og0 := Lib.hid ho12
  have B12 := Lib.hid (B11.out.trans ((hf12.below (by omega)).mono (by omega)))
  have le12 : w11.heap.size ≤ w12.heap.size := hf12.2.2.2.1
  clear ho12 hf12
  obtain ⟨lb0, b00, b01, b02, b03⟩ := Pb0.out
  obtain ⟨ls0, s00, s01, s02, s03⟩ := Ps0.out
  obtain ⟨lg0, g00, g01, g02, g03⟩ := Pg0.out
  go_wp2_with fail
  refine (markX_any (1 + (Z0.length : Int)) Og1.out hz1 (by omega) (by omega)).mono ?_
  rintro e w13 ⟨rfl, ho13, hf13⟩
  clear lb0 b00 b01 b02 b03 ls0 s00 s01 s02 s03 lg0 g00 g01 g02 g03
  have Pb0 := Lib.hid (Pb0.out.fr hf13 (by omega))
  have Ps0 := Lib.hid (Ps0.out.fr hf13 (by omega))
  have Pg0 := Lib.hid (Pg0.out.fr hf13 (by omega))
  have Os0 := Lib.hid (Os0.out.fr hf13 (by first | omega | (have := HD3.out; omega) | (have := HD5.out; omega)))
  have Os1 := Lib.hid (Os1.out.fr hf13 (by first | omega | (have := HD3.out; omega) | (have := HD5.out; omega)))
  have Og0 := Lib.hid (Og0.out.fr hf13 (by first | omega | (have := HD3.out; omega) | (have := HD5.out; omega)))
  have Og1 := Lib.hid ho13
  have B13 := Lib.hid (B12.out.trans ((hf13.below (by omega)).mono (by omega)))
  have le13 : w12.heap.size ≤ w13.heap.size := hf13.2.2.2.1
  clear ho13 hf13
  have eq1 : (((1 + (Z0.length : Int)) + (Z1.length : Int)) != ((1 + (Z0.length : Int)) + (Z1.length : Int))) = false := by simp
  obtain ⟨lb0, b00, b01, b02, b03⟩ := Pb0.out
  obtain ⟨ls0, s00, s01, s02, s03⟩ := Ps0.out
  obtain ⟨lg0, g00, g01, g02, g03⟩ := Pg0.out
  go_wp2_with fail
  refine (heldM_any P0 R0 C0 1 (Og0.out.at (by rw [marks_len]; exact hz0)) (by omega) (by omega)).mono ?_
  rintro e w14 ⟨rfl, hb14⟩
  clear lb0 b00 b01 b02 b03 ls0 s00 s01 s02 s03 lg0 g00 g01 g02 g03
  have bb14 : Below w13.heap.size w13 w14 := hb14
  have Pb0 := Lib.hid (Pb0.out.on bb14)
  have Ps0 := Lib.hid (Ps0.out.on bb14)
  have Pg0 := Lib.hid (Pg0.out.on bb14)
  have Os0 := Lib.hid (Os0.out.on bb14)
  have Os1 := Lib.hid (Os1.out.on bb14)
  have Og0 := Lib.hid (Og0.out.on bb14)
  have Og1 := Lib.hid (Og1.out.on bb14)
  have B14 := Lib.hid (B13.out.trans (bb14.mono B13.out.size))
  have le14 : w13.heap.size + 0 ≤ w14.heap.size := by have := hb14.size; (try simp at this); omega
  clear hb14 bb14
  obtain ⟨lb0, b00, b01, b02, b03⟩ := Pb0.out
  obtain ⟨ls0, s00, s01, s02, s03⟩ := Ps0.out
  obtain ⟨lg0, g00, g01, g02, g03⟩ := Pg0.out
  go_wp2_with fail
  refine (heldL_any (k := (1 + (Z0.length : Int))) (Og1.out.at (by rw [marks_len]; exact hz1)) (by omega) (by omega)).mono ?_
  rintro e w15 ⟨rfl, hb15⟩
  clear lb0 b00 b01 b02 b03 ls0 s00 s01 s02 s03 lg0 g00 g01 g02 g03
  have bb15 : Below w14.heap.size w14 w15 := hb15
  have Pb0 := Lib.hid (Pb0.out.on bb15)
  have Ps0 := Lib.hid (Ps0.out.on bb15)
  have Pg0 := Lib.hid (Pg0.out.on bb15)
  have Os0 := Lib.hid (Os0.out.on bb15)
  have Os1 := Lib.hid (Os1.out.on bb15)
  have Og0 := Lib.hid (Og0.out.on bb15)
  have Og1 := Lib.hid (Og1.out.on bb15)
  have B15 := Lib.hid (B14.out.trans (bb15.mono B14.out.size))
  have le15 : w14.heap.size + 0 ≤ w15.heap.size := by have := hb15.size; (try simp at this); omega
  clear hb15 bb15
  obtain ⟨lb0, b00, b01, b02, b03⟩ := Pb0.out
  obtain ⟨ls0, s00, s01, s02, s03⟩ := Ps0.out
  obtain ⟨lg0, g00, g01, g02, g03⟩ := Pg0.out
  go_wp2_with fail
  refine (toM_any p0 r0 c0 (K0.out _ B15.out)).mono ?_
  rintro e w16 ⟨v16, rfl, ho16, hb16⟩
  clear lb0 b00 b01 b02 b03 ls0 s00 s01 s02 s03 lg0 g00 g01 g02 g03
  have bb16 : Below w15.heap.size w15 w16 := hb16
  have Pb0 := Lib.hid (Pb0.out.on bb16)
  have Ps0 := Lib.hid (Ps0.out.on bb16)
  have Pg0 := Lib.hid (Pg0.out.on bb16)
  have Os0 := Lib.hid (Os0.out.on bb16)
  have Os1 := Lib.hid (Os1.out.on bb16)
  have Og0 := Lib.hid (Og0.out.on bb16)
  have Og1 := Lib.hid (Og1.out.on bb16)
  have B16 := Lib.hid (B15.out.trans (bb16.mono B15.out.size))
  have le16 : w15.heap.size + 0 ≤ w16.heap.size := by have := hb16.size; (try simp at this); omega
  obtain ⟨v16a, v16c, rfl⟩ := ho16.slice
  have Oj0 : Hid (OwnX (w15.heap.size + 0) w16.heap.size w16 (.slice v16a z0.length v16c) z0) := OwnX.of ho16 (by simp)
  clear ho16 hb16 bb16
  obtain ⟨lb0, b00, b01, b02, b03⟩ := Pb0.out
  obtain ⟨ls0, s00, s01, s02, s03⟩ := Ps0.out
  obtain ⟨lg0, g00, g01, g02, g03⟩ := Pg0.out
  go_wp2_with fail
  refine (implRf_any (Oj0.out.atC hl0) HR.out).mono ?_
  rintro e w17 ⟨v17x0, v17x1, rfl, ho17x0, ho17x1, hb17, hs17⟩
  clear lb0 b00 b01 b02 b03 ls0 s00 s01 s02 s03 lg0 g00 g01 g02 g03
  have bb17 : Below w16.heap.size w16 w17 := hb17
  have Pb0 := Lib.hid (Pb0.out.on bb17)
  have Ps0 := Lib.hid (Ps0.out.on bb17)
  have Pg0 := Lib.hid (Pg0.out.on bb17)
  have Os0 := Lib.hid (Os0.out.on bb17)
  have Os1 := Lib.hid (Os1.out.on bb17)
  have Og0 := Lib.hid (Og0.out.on bb17)
  have Og1 := Lib.hid (Og1.out.on bb17)
  have Oj0 := Lib.hid (Oj0.out.on bb17)
  have B17 := Lib.hid (B16.out.trans (bb17.mono B16.out.size))
  have le17 : w16.heap.size + 0 ≤ w17.heap.size := by have := hb17.size; (try simp at this); omega
  obtain ⟨v17x0a, v17x0c, rfl⟩ := ho17x0.slice
  obtain ⟨v17x1a, v17x1c, rfl⟩ := ho17x1.slice
  obtain ⟨B17y0, E17y0, B17y1, E17y1, hX170, hX171, HD17, hB170, hB171, hE170, hE171, hS170, hS171⟩ := sep_own2 ho17x0 ho17x1 hs17 hb17.size
  have Oh0 : Hid (OwnX B17y0 E17y0 w17 (.slice v17x0a Z0.length v17x0c) Z0) := hX170
  have Oh1 : Hid (OwnX B17y1 E17y1 w17 (.slice v17x1a Z1.length v17x1c) Z1) := hX171
  clear ho17x0 ho17x1 hs17 hX170 hX171 hb17 bb17
  clear Oj0
  obtain ⟨lb0, b00, b01, b02, b03⟩ := Pb0.out
  obtain ⟨ls0, s00, s01, s02, s03⟩ := Ps0.out
  obtain ⟨lg0, g00, g01, g02, g03⟩ := Pg0.out
  go_wp2_with fail
  refine (eqM_any P0 R0 C0 ((Oh0.out.alloc _).at hz0) ((Os0.out.alloc _).at hz0)).mono ?_
  rintro e w18 ⟨rfl, hb18⟩
  clear lb0 b00 b01 b02 b03 ls0 s00 s01 s02 s03 lg0 g00 g01 g02 g03
  have bb18 : Below w17.heap.size w17 w18 := up1 hb18
  have Pb0 := Lib.hid (Pb0.out.on bb18)
  have Ps0 := Lib.hid (Ps0.out.on bb18)
  have Pg0 := Lib.hid (Pg0.out.on bb18)
  have Ph0 : Hid (PtM w18 w17.heap.size P0 R0 C0 (.slice v17x0a Z0.length v17x0c)) := (PtM.new _ _ _ _ _ _).on hb18
  have Os0 := Lib.hid (Os0.out.on bb18)
  have Os1 := Lib.hid (Os1.out.on bb18)
  have Og0 := Lib.hid (Og0.out.on bb18)
  have Og1 := Lib.hid (Og1.out.on bb18)
  have Oh0 := Lib.hid (Oh0.out.on bb18)
  have Oh1 := Lib.hid (Oh1.out.on bb18)
  have B18 := Lib.hid (B17.out.trans (bb18.mono B17.out.size))
  have le18 : w17.heap.size + 1 ≤ w18.heap.size := by have := hb18.size; (try simp at this); omega
  clear hb18 bb18
  obtain ⟨lb0, b00, b01, b02, b03⟩ := Pb0.out
  obtain ⟨ls0, s00, s01, s02, s03⟩ := Ps0.out
  obtain ⟨lg0, g00, g01, g02, g03⟩ := Pg0.out
  obtain ⟨lh0, h00, h01, h02, h03⟩ := Ph0.out
  go_wp2_with fail
  refine (eqL_any (Oh1.out.at hz1) (Os1.out.at hz1)).mono ?_
  rintro e w19 ⟨rfl, hb19⟩
  clear lb0 b00 b01 b02 b03 ls0 s00 s01 s02 s03 lg0 g00 g01 g02 g03 lh0 h00 h01 h02 h03
  have bb19 : Below w18.heap.size w18 w19 := hb19
  have Pb0 := Lib.hid (Pb0.out.on bb19)
  have Ps0 := Lib.hid (Ps0.out.on bb19)
  have Pg0 := Lib.hid (Pg0.out.on bb19)
  have Ph0 := Lib.hid (Ph0.out.on bb19)
  have Os0 := Lib.hid (Os0.out.on bb19)
  have Os1 := Lib.hid (Os1.out.on bb19)
  have Og0 := Lib.hid (Og0.out.on bb19)
  have Og1 := Lib.hid (Og1.out.on bb19)
  have Oh0 := Lib.hid (Oh0.out.on bb19)
  have Oh1 := Lib.hid (Oh1.out.on bb19)
  have B19 := Lib.hid (B18.out.trans (bb19.mono B18.out.size))
  have le19 : w18.heap.size + 0 ≤ w19.heap.size := by have := hb19.size; (try simp at this); omega
  clear hb19 bb19
  obtain ⟨lb0, b00, b01, b02, b03⟩ := Pb0.out
  obtain ⟨ls0, s00, s01, s02, s03⟩ := Ps0.out
  obtain ⟨lg0, g00, g01, g02, g03⟩ := Pg0.out
  obtain ⟨lh0, h00, h01, h02, h03⟩ := Ph0.out
  go_wp2_with fail
  refine (heldM_any P0 R0 C0 1 (Og0.out.at (by rw [marks_len]; exact hz0)) (by omega) (by omega)).mono ?_
  rintro e w20 ⟨rfl, hb20⟩
  clear lb0 b00 b01 b02 b03 ls0 s00 s01 s02 s03 lg0 g00 g01 g02 g03 lh0 h00 h01 h02 h03
  have bb20 : Below w19.heap.size w19 w20 := hb20
  have Pb0 := Lib.hid (Pb0.out.on bb20)
  have Ps0 := Lib.hid (Ps0.out.on bb20)
  have Pg0 := Lib.hid (Pg0.out.on bb20)
  have Ph0 := Lib.hid (Ph0.out.on bb20)
  have Os0 := Lib.hid (Os0.out.on bb20)
  have Os1 := Lib.hid (Os1.out.on bb20)
  have Og0 := Lib.hid (Og0.out.on bb20)
  have Og1 := Lib.hid (Og1.out.on bb20)
  have Oh0 := Lib.hid (Oh0.out.on bb20)
  have Oh1 := Lib.hid (Oh1.out.on bb20)
  have B20 := Lib.hid (B19.out.trans (bb20.mono B19.out.size))
  have le20 : w19.heap.size + 0 ≤ w20.heap.size := by have := hb20.size; (try simp at this); omega
  clear hb20 bb20
  obtain ⟨lb0, b00, b01, b02, b03⟩ := Pb0.out
  obtain ⟨ls0, s00, s01, s02, s03⟩ := Ps0.out
  obtain ⟨lg0, g00, g01, g02, g03⟩ := Pg0.out
  obtain ⟨lh0, h00, h01, h02, h03⟩ := Ph0.out
  go_wp2_with fail
  refine (heldL_any (k := (1 + (Z0.length : Int))) (Og1.out.at (by rw [marks_len]; exact hz1)) (by omega) (by omega)).mono ?_
  rintro e w21 ⟨rfl, hb21⟩
  clear lb0 b00 b01 b02 b03 ls0 s00 s01 s02 s03 lg0 g00 g01 g02 g03 lh0 h00 h01 h02 h03
  have bb21 : Below w20.heap.size w20 w21 := hb21
  have Pb0 := Lib.hid (Pb0.out.on bb21)
  have Ps0 := Lib.hid (Ps0.out.on bb21)
  have Pg0 := Lib.hid (Pg0.out.on bb21)
  have Ph0 := Lib.hid (Ph0.out.on bb21)
  have Os0 := Lib.hid (Os0.out.on bb21)
  have Os1 := Lib.hid (Os1.out.on bb21)
  have Og0 := Lib.hid (Og0.out.on bb21)
  have Og1 := Lib.hid (Og1.out.on bb21)
  have Oh0 := Lib.hid (Oh0.out.on bb21)
  have Oh1 := Lib.hid (Oh1.out.on bb21)
  have B21 := Lib.hid (B20.out.trans (bb21.mono B20.out.size))
  have le21 : w20.heap.size + 0 ≤ w21.heap.size := by have := hb21.size; (try simp at this); omega
  clear hb21 bb21
  go_wp2_with fail
  go_ret
  exact ⟨rfl, B21.out⟩
set_option maxRecDepth 100000 in
set_option maxHeartbeats 400000 in
theorem reducedForm_long0 (a0 : Option Addr) (len0 cap0 : Nat) (p0 r0 c0 : Int) (w : World) (hm0 : len0 ≤ 9223372036854775807) (hx : (1048576 : Int) < (len0 : Int)) :
    Calls Try.prog 16 #[.agg #[.int .i64 p0, .int .i64 r0, .int .i64 c0, .slice a0 len0 cap0]] w fun e w' => e = .returned (.bool true) ∧ Below w.heap.size w w' := by
  go_enter Try.func16, Try.ntmps16
  go_wp2_with fail
  refine (szM_no p0 r0 c0 a0 cap0 _ (by omega) (by omega) hm0 (by omega)).mono ?_
  rintro e wl0 ⟨rfl, hbl0⟩
  go_wp2_with fail
  go_ret
  exact ⟨rfl, ((al1 (Below.refl _ _) _).trans (hbl0.mono (by (try simp) <;> omega)))⟩
theorem reducedForm_of (a0 : Option Addr) (len0 cap0 : Nat) (z0 : List Int) (p0 r0 c0 : Int) (w : World)
    (hw0 : (a0 = none ∧ len0 = 0 ∧ cap0 = 0 ∧ z0 = []) ∨ ∃ x, a0 = some x ∧ len0 ≤ cap0 ∧ cap0 ≤ maxLen ∧ z0.length = cap0 ∧ (∀ i, i < z0.length → w.cell? (x.add i) = some (.int .i64 (z0.getD i 0))) ∧ ∀ n ∈ z0, (Lit.int .i64 n).wf = true) :
    Calls Try.prog 16 #[.agg #[.int .i64 p0, .int .i64 r0, .int .i64 c0, .slice a0 len0 cap0]] w fun e w' => e = .returned (.bool true) ∧ Below w.heap.size w w' := by
  by_cases g0 : 1048576 < len0
  · exact reducedForm_long0 a0 len0 cap0 p0 r0 c0 w (len_max hw0)  (by omega)
  have hx : (z0.take len0).length = len0 := row_len hw0
  have := reducedForm_at p0 r0 c0 w (intsAt_in (by omega) hw0) (by simp only [List.length_take]; omega)
  exact this
end Go.Proofs.Ytabanmaaagmeaaa
