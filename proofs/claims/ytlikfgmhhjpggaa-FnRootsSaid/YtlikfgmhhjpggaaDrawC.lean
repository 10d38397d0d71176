/-
  What the laws that draw have in common: inputs that are too long, a new source, a prime.
-/
import Derived.Test.YtlikfgmhhjpggaaDraw
import Derived.Test.YtlikfgmhhjpggaaFldA
namespace Go.Proofs.Ytlikfgmhhjpggaa
open Go.RowKit
set_option linter.unusedVariables false

theorem longB_yes (a : Option Addr) (l c : Nat) (w : World) (h : 1048576 < l) :
    Calls Try.prog 18 #[.slice a l c] w fun e w' => e = .returned (.bool true) ∧ w = w' := by
  have h1 : (1048576 : Int) < l := by omega
  go_enter Try.func18, Try.ntmps18
  go_wp2_with fail
  go_ret
  exact ⟨rfl, rfl⟩
theorem longB_no (a : Option Addr) (l c : Nat) (w : World) (h : l ≤ 1048576) :
    Calls Try.prog 18 #[.slice a l c] w fun e w' => e = .returned (.bool false) ∧ w = w' := by
  have h1 : decide ((1048576 : Int) < l) = false := decide_eq_false (by omega)
  go_enter Try.func18, Try.ntmps18
  go_wp2_with fail
  go_ret
  exact ⟨rfl, rfl⟩
theorem below_gb2 {B p : Nat} {w w' : World} (h : w.grownBy w' (some p)) (hp : B ≤ p) (hB : B ≤ w.heap.size) : Below B w w' :=
  ⟨h.os, h.tape, h.output, h.size, fun k hk => h.block k (Nat.lt_of_lt_of_le hk hB) (fun e => absurd (Option.some.inj e) (by omega))⟩
/-- A new source. -/
theorem newSc {w w1 : World} {a : Option Addr} {len cap : Nat} (h : Bytes w a len) (hs : Src w1 w.heap.size a len cap 0) (hb : Below w.heap.size w w1) (hp : w.heap.size < w1.heap.size) : Sc w.heap.size a len cap 0 w1 :=
  ⟨h.code hb, hp, 0, Nat.le_refl _, hs⟩
theorem specVPy (p : Int) (w : World) (h : IsPr p) :
    Calls Try.prog 23 #[.int .i64 p] w fun e w' => e = .returned (.bool true) ∧ w = w' := by
  have HP := Lib.hid h; clear h
  go_enter Try.func23, Try.ntmps23
  go_wp2_with fail
  refine (specPrime_yes _ _ HP.out).mono ?_
  rintro e w' ⟨rfl, rfl⟩
  go_wp2_with fail
  go_ret
  exact ⟨rfl, rfl⟩
end Go.Proofs.Ytlikfgmhhjpggaa
