/-
  Rests: bounds, and the contract of the program's own rest.
-/
import Derived.Test.YtabanmaaagmeaaaFldA
namespace Go.Proofs.Ytabanmaaagmeaaa
open Go.RowKit
set_option linter.unusedVariables false

theorem prod_bd {a b p : Int} (hp : p ≤ 251) (a0 : 0 ≤ a) (a1 : a < p) (b0 : 0 ≤ b) (b1 : b < p) : 0 ≤ a * b ∧ a * b ≤ 62500 := by
  have h := Int.mul_le_mul (show a ≤ 250 by omega) (show b ≤ 250 by omega) b0 (by omega)
  exact ⟨Int.mul_nonneg a0 b0, by omega⟩
theorem rem_bd (X : Int) {p : Int} (hp : 2 ≤ p) : 0 ≤ X % p ∧ X % p < p := ⟨Int.emod_nonneg _ (by omega), Int.emod_lt_of_pos _ (by omega)⟩

/-! ### Rests -/
theorem tmod_bd (a p : Int) (h : 2 ≤ p) : -p < a.tmod p ∧ a.tmod p < p := ⟨Int.lt_tmod_of_pos a (by omega), Int.tmod_lt_of_pos a (by omega)⟩
theorem tmod_mod (a p : Int) (h : 2 ≤ p) : (a.tmod p) % p = a % p := by
  have e := Int.mul_tdiv_add_tmod a p
  conv => rhs; rw [← e, Int.add_comm, Int.add_mul_emod_self_left]
theorem implMod_any (a p : Int) (w : World) (h0 : 2 ≤ p) (h1 : p ≤ 251) :
    Calls Try.prog 114 #[.int .i64 a, .int .i64 p] w fun e w' => e = .returned (.int .i64 (a % p)) ∧ w = w' := by
  have hb := tmod_bd a p h0
  have hm := tmod_mod a p h0
  obtain ⟨r, hr⟩ : ∃ r, a.tmod p = r := ⟨_, rfl⟩
  rw [hr] at hb hm
  obtain ⟨b0, b1⟩ := hb
  have wr : IntKind.i64.wrap r = r := IntWalk.i64_in _ (by omega)
  have kz : ¬ p = 0 := by omega
  by_cases hn : r < 0
  · have HM : Hid (r + p = a % p) := by
      show _ = _; rw [← hm, ← Int.add_emod_right]; exact (Int.emod_eq_of_lt (by omega) (by omega)).symm
    clear hm
    go_enter Try.func114, Try.ntmps114
    go_wp2
    go_ret
    exact ⟨ret_i HM.out, rfl⟩
  · have HM : Hid (r = a % p) := by
      show _ = _; rw [← hm]; exact (Int.emod_eq_of_lt (by omega) (by omega)).symm
    clear hm
    go_enter Try.func114, Try.ntmps114
    go_wp2
    go_ret
    exact ⟨ret_i HM.out, rfl⟩

end Go.Proofs.Ytabanmaaagmeaaa
