/-
  The rows of a kernel, by the model.
-/
import Derived.Test.YtpimnngomodnhaaSpI
import Derived.Test.YtpimnngomodnhaaSpH
namespace Go.Proofs.Ytpimnngomodnhaa
open Go.RowKit
open Lin
set_option linter.unusedVariables false
set_option linter.unusedSectionVars false

theorem l03Mod_neg (x p : Int) (w : World) (h0 : 0 ≤ x) (h1 : x ≤ 100000) (p0 : 2 ≤ p) (p1 : p ≤ 251) :
    Calls Try.prog 118 #[.int .i64 (-x), .int .i64 p] w fun e w' => e = .returned (.int .i64 ((-x) % p)) ∧ w = w' := by
  have kz : ¬ p = 0 := by omega
  have hb := tmod_bd (-x) p (by omega)
  have hm := tmod_mod (-x) p (by omega)
  obtain ⟨r, hr⟩ : ∃ r, (-x).tmod p = r := ⟨_, rfl⟩
  rw [hr] at hb hm
  obtain ⟨b0, b1⟩ := hb
  have e1 : IntKind.i64.wrap r = r := IntWalk.i64_in _ (by omega)
  have e2 : IntKind.i64.wrap (r + p) = r + p := IntWalk.i64_in _ (by omega)
  have e3 : (r + p).tmod p = (-x) % p := by rw [Int.tmod_eq_emod_of_nonneg (by omega), Int.add_emod_right, hm]
  have y0 := Int.emod_nonneg (-x) kz
  have y1 := Int.emod_lt_of_pos (-x) (show 0 < p by omega)
  obtain ⟨y, hy⟩ : ∃ y, (-x) % p = y := ⟨_, rfl⟩
  rw [hy] at e3 y0 y1 ⊢
  have e4 : IntKind.i64.wrap y = y := IntWalk.i64_in _ (by omega)
  clear hy hm
  go_enter Try.func118, Try.ntmps118
  go_wp2
  go_ret
  exact ⟨rfl, rfl⟩
end Go.Proofs.Ytpimnngomodnhaa
