/-
  Two numbers that an input chooses.
-/
import Derived.Test.YtjgajnhefhgpkaaDoorSrc
namespace Go.Proofs.YtjgajnhefhgpkaaDoor
open Go.RowKit
set_option linter.unusedVariables false

theorem below_gb {B p : Nat} {w w' : World} (h : w.grownBy w' (some p)) (hp : B ≤ p) (hB : B ≤ w.heap.size) : Below B w w' :=
  ⟨h.os, h.tape, h.output, h.size, fun k hk => h.block k (Nat.lt_of_lt_of_le hk hB) (fun e => absurd (Option.some.inj e) (by omega))⟩
/-- How it ends. -/
def RetR (w : World) (e : Ending) (w' : World) : Prop :=
  ∃ x y : Int, -100000 ≤ x ∧ x ≤ 3599780001 ∧ 1 ≤ y ∧ y ≤ 5000 ∧ e = .returned (.tuple #[.int .i64 x, .int .i64 y]) ∧ Below w.heap.size w w'
theorem prod60 (x y : Int) (x0 : 0 ≤ x) (x1 : x ≤ 59999) (y0 : 0 ≤ y) (y1 : y ≤ 59999) : 0 ≤ x * y ∧ x * y ≤ 3599880001 := by
  refine ⟨Int.mul_nonneg x0 y0, ?_⟩
  have := Int.mul_le_mul x1 y1 y0 (by omega : (0 : Int) ≤ 59999)
  omega
set_option maxHeartbeats 800000 in
theorem numbers_any (w : World) (a : Option Addr) (len cap : Nat) (h : Bytes w a len) :
    Calls Tryd.prog 10 #[.slice a len cap] w fun e w' => RetR w e w' := by
  have H := Lib.hid h
  clear h
  go_enter Tryd.func10, Tryd.ntmps10
  go_wp2_with fail
  refine (from_any w a len cap).mono ?_
  rintro e w1 ⟨rfl, hs1, hb1, hp1⟩
  obtain ⟨p, hp⟩ : ∃ p, w.heap.size = p := ⟨_, rfl⟩
  have C1 : Hid (Code p w1 a len) := by rw [← hp]; exact H.out.code hb1
  have HP := Lib.hid hp
  rw [hp] at hs1 hp1
  have S1 := Lib.hid hs1
  have B1 : Hid (Below p w w1) := by rw [← hp]; exact hb1
  rw [hp]
  clear hs1 hb1 hp
  go_wp2_with fail
  refine (pick_wide 60000 (by omega) (by omega) C1.out hp1 (by omega) S1.out).mono ?_
  rintro e w2 ⟨x, x0, x1, rfl, hs2, hg2⟩
  have S2 := Lib.hid hs2
  have C2 : Hid (Code p w2 a len) := C1.out.grown hp1 hg2
  have B2 : Hid (Below p w w2) := B1.out.trans (below_gb hg2 (Nat.le_refl _) (Nat.le_of_lt hp1))
  have hp2 : p < w2.heap.size := Nat.lt_of_lt_of_le hp1 hg2.size
  clear hs2 hg2
  go_wp2_with fail
  refine (pick_wide 60000 (by omega) (by omega) C2.out hp2 (by omega) S2.out).mono ?_
  rintro e w3 ⟨y, y0, y1, rfl, hs3, hg3⟩
  have S3 := Lib.hid hs3
  have C3 : Hid (Code p w3 a len) := C2.out.grown hp2 hg3
  have B3 : Hid (Below p w w3) := B2.out.trans (below_gb hg3 (Nat.le_refl _) (Nat.le_of_lt hp2))
  have hp3 : p < w3.heap.size := Nat.lt_of_lt_of_le hp2 hg3.size
  obtain ⟨xy0, xy1⟩ := prod60 x y x0 (by omega) y0 (by omega)
  clear hs3 hg3
  go_wp2_with fail
  refine (pick_wide 5000 (by omega) (by omega) C3.out hp3 (by omega) S3.out).mono ?_
  rintro e w4 ⟨z, z0, z1, rfl, hs4, hg4⟩
  have B4 : Hid (Below p w w4) := B3.out.trans (below_gb hg4 (Nat.le_refl _) (Nat.le_of_lt hp3))
  clear hs4 hg4
  go_wp2_with fail
  go_ret2
  refine ⟨x * y - 100000, 1 + z, by omega, by omega, by omega, by omega, rfl, ?_⟩
  rw [HP.out]; exact B4.out
end Go.Proofs.YtjgajnhefhgpkaaDoor
