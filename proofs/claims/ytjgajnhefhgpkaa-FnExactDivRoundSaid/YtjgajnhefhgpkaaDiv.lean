/-
  Contracts of the two roundings to the nearest quotient; the arguments lie between -10^13 and 10^13, the divisor is not 0.
-/
import Derived.Test.YtjgajnhefhgpkaaIn
import Derived.Test.YtjgajnhefhgpkaaDivMath
import Derived.Deep.QuietTactic
import Derived.BigQuiet
import Derived.Laws.BitsAllLaws
import Derived.ProofKit
namespace Go.Proofs.Ytjgajnhefhgpkaa
open Go.RowKit
set_option linter.unusedVariables false

theorem nearP_bd (a b : Int) (hb : 0 < b) (ha : -10000000000000 ≤ a ∧ a ≤ 10000000000000) (hc : b ≤ 10000000000000) : -30000000000000 ≤ nearP a b ∧ nearP a b ≤ 30000000000000 := by
  have key : ∀ c : Int, 0 ≤ c → c ≤ 30000000000000 → 0 ≤ c / (2 * b) ∧ c / (2 * b) ≤ 30000000000000 := by
    intro c h0 h1
    exact ⟨Int.ediv_nonneg h0 (by omega), by have := Int.ediv_le_self (2 * b) h0; omega⟩
  unfold nearP
  split
  · have := key (b - 2 * a) (by omega) (by omega); omega
  · have := key (2 * a + b) (by omega) (by omega); omega

/-- The model's quotient where the divisor is positive. -/
theorem l01Div_pos (a b : Int) (w : World) (hb : 0 < b) (hb2 : b ≤ 10000000000000) (ha : -10000000000000 ≤ a) (ha2 : a ≤ 10000000000000) :
    Calls Try.prog 30 #[.int .i64 a, .int .i64 b] w fun e w' => e = .returned (.int .i64 (nearP a b)) ∧ w = w' := by
  have hbd := nearP_bd a b hb ⟨ha, ha2⟩ hb2
  have hb1 : ¬ b < 0 := by omega
  have hb3 : ¬ 2 * b = 0 := by omega
  by_cases hn : a < 0
  · have e : nearP a b = -((b - 2 * a) / (2 * b)) := by unfold nearP; rw [if_pos hn]
    rw [e] at hbd ⊢
    clear e
    go_enter Try.func30, Try.ntmps30
    go_wp2
    go_ret
    exact ⟨rfl, rfl⟩
  · have e : nearP a b = (2 * a + b) / (2 * b) := by unfold nearP; rw [if_neg hn]
    rw [e] at hbd ⊢
    clear e
    go_enter Try.func30, Try.ntmps30
    go_wp2
    go_ret
    exact ⟨rfl, rfl⟩
theorem l01Div_neg (a b : Int) (w : World) (hb : b < 0) (hb2 : -10000000000000 ≤ b) (ha : -10000000000000 ≤ a) (ha2 : a ≤ 10000000000000) :
    Calls Try.prog 30 #[.int .i64 a, .int .i64 b] w fun e w' => e = .returned (.int .i64 (nearP (-a) (-b))) ∧ w = w' := by
  have hbd := nearP_bd (-a) (-b) (by omega) ⟨by omega, by omega⟩ (by omega)
  have hb3 : ¬ 2 * -b = 0 := by omega
  by_cases hn : -a < 0
  · have e : nearP (-a) (-b) = -((-b - 2 * -a) / (2 * -b)) := by unfold nearP; rw [if_pos hn]
    rw [e] at hbd ⊢
    clear e
    go_enter Try.func30, Try.ntmps30
    go_wp2
    go_ret
    exact ⟨rfl, rfl⟩
  · have e : nearP (-a) (-b) = (2 * -a + -b) / (2 * -b) := by unfold nearP; rw [if_neg hn]
    rw [e] at hbd ⊢
    clear e
    go_enter Try.func30, Try.ntmps30
    go_wp2
    go_ret
    exact ⟨rfl, rfl⟩
theorem l01Div_any (a b : Int) (w : World) (hb : b ≠ 0) (hb1 : -10000000000000 ≤ b) (hb2 : b ≤ 10000000000000) (ha : -10000000000000 ≤ a) (ha2 : a ≤ 10000000000000) :
    Calls Try.prog 30 #[.int .i64 a, .int .i64 b] w fun e w' => e = .returned (.int .i64 (nearI a b)) ∧ w = w' := by
  by_cases h : b < 0
  · rw [show nearI a b = nearP (-a) (-b) by unfold nearI; rw [if_pos h]]
    exact l01Div_neg a b w h hb1 ha ha2
  · rw [show nearI a b = nearP a b by unfold nearI; rw [if_neg h]]
    exact l01Div_pos a b w (by omega) hb2 ha ha2

theorem magnitude_any (n : Int) (k : Nat) (w : World) (hk : n.natAbs = k) (h : k ≤ 10000000000000) :
    Calls Try.prog 38 #[.int .i64 n] w fun e w' => e = .returned (.int .u64 k) ∧ w = w' := by
  by_cases hn : n < 0
  · obtain rfl : n = -(k : Int) := by omega
    clear hk
    have e0 : IntKind.u64.wrap (-(IntKind.u64.wrap (-(k : Int)))) = (k : Int) := by
      simp only [IntKind.wrap_u64]; omega
    go_enter Try.func38, Try.ntmps38
    go_wp2
    go_ret
    exact ⟨rfl, rfl⟩
  · obtain rfl : n = (k : Int) := by omega
    clear hk
    go_enter Try.func38, Try.ntmps38
    go_wp2
    go_ret
    exact ⟨rfl, rfl⟩
end Go.Proofs.Ytjgajnhefhgpkaa
