/-
  The three families of a poset: chains, antichains, ideals.
-/
import Derived.Test.YtdihcmohpbgmmaaDoorPsZ
namespace Go.Proofs.YtdihcmohpbgmmaaDoor
open Go.RowKit
set_option linter.unusedVariables false
set_option linter.unusedSimpArgs false

theorem famI {N : Nat} {lo up : Nat → Nat} (hN : N ≤ 12) (hl : ∀ a, a < N → lo a < 65536) : FamOk (.iface 86 (ordV N lo up)) N (fun a s => decide (lo a &&& (65535 - s) = 0)) := fun a s F S w cF cS ha hs =>
  misfitI_is cF cS (by omega) (hl a ha) (by omega) (by simp)
theorem famC {N : Nat} {lo up : Nat → Nat} (hN : N ≤ 12) (hl : ∀ a, a < N → lo a < 65536) (hu : ∀ a, a < N → up a < 65536) : FamOk (.iface 80 (ordV N lo up)) N (fun a s => decide (s &&& (65535 - (up a ||| lo a)) = 0)) := fun a s F S w cF cS ha hs =>
  misfitC_is cF cS (by omega) (hl a ha) (hu a ha) (by omega) (by simp)
theorem famA {N : Nat} {lo up : Nat → Nat} (hN : N ≤ 12) (hl : ∀ a, a < N → lo a < 65536) (hu : ∀ a, a < N → up a < 65536) : FamOk (.iface 81 (ordV N lo up)) N (fun a s => decide (s &&& (up a ||| lo a) = 1 <<< a)) := fun a s F S w cF cS ha hs =>
  misfitA_is cF cS (by omega) (hl a ha) (hu a ha) (by omega) (by simp)
end Go.Proofs.YtdihcmohpbgmmaaDoor
