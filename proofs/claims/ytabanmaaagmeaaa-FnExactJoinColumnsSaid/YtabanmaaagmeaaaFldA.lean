/-
  Contracts of the tests for a prime and of the model's arithmetic modulo one; the number is whatever fits, the prime as it is tried out.
-/
import Derived.Test.YtabanmaaagmeaaaIn
import Derived.Test.YtabanmaaagmeaaaFldMath
import Derived.Lib.Hide
import Derived.ProofKit
namespace Go.Proofs.Ytabanmaaagmeaaa
open Go.RowKit
set_option linter.unusedVariables false

theorem ret_i {k : IntKind} {a b : Int} (h : a = b) : Ending.returned (.int k a) = .returned (.int k b) := by rw [h]
theorem kk_bd {k : Int} (h0 : 2 ≤ k) (h1 : k ≤ 16) : 4 ≤ k * k ∧ k * k ≤ 256 := by
  have a := Int.mul_le_mul h1 h1 (by omega) (by omega : (0 : Int) ≤ 16)
  have b := Int.mul_le_mul h0 h0 (by omega) (by omega : (0 : Int) ≤ k)
  omega
theorem kk_small {k : Int} (h0 : 2 ≤ k) (h : k * k ≤ 251) : k ≤ 15 := by
  by_cases c : k ≤ 15
  · exact c
  · have b := Int.mul_le_mul (show 16 ≤ k by omega) (show 16 ≤ k by omega) (by omega) (by omega : (0 : Int) ≤ k)
    omega

/-- No divisor from 2 to k - 1. -/
def Tried (p k : Int) : Prop := ∀ j : Int, 2 ≤ j → j < k → p % j ≠ 0
theorem Tried.next {p k : Int} (h : Tried p k) (hz : p % k ≠ 0) : Tried p (k + 1) := by
  intro j j0 j1
  by_cases e : j = k
  · rw [e]; exact hz
  · exact h j j0 (by omega)
theorem Tried.pr {p k : Int} (h : Tried p k) (h0 : 2 ≤ p) (h1 : p ≤ 251) (hk : 2 ≤ k) (hkk : p < k * k) : IsPr p := by
  refine ⟨h0, h1, fun j j0 jj => h j j0 ?_⟩
  by_cases c : j < k
  · exact c
  · have := Int.mul_le_mul (show k ≤ j by omega) (show k ≤ j by omega) (by omega) (by omega : (0 : Int) ≤ j)
    omega

theorem specPrime_yes (p : Int) (w : World) (h : IsPr p) :
    Calls Try.prog 109 #[.int .i64 p] w fun e w' => e = .returned (.bool true) ∧ w = w' := by
  obtain ⟨h0, h1, h2⟩ := h
  have H2 := Lib.hid h2; clear h2
  go_enter Try.func109, Try.ntmps109
  go_wp2_with fail
  refine (l00In_yes _ _ _ _ h0 h1).mono ?_
  rintro e w' ⟨rfl, rfl⟩
  go_wp2_with fail
  go_loop [3] (fun i => ∃ k : Int, 2 ≤ k ∧ k ≤ 16 ∧ i = .int .i64 k) (fun i => 20 - (intOf i).toNat)
  case atStart => exact ⟨2, by omega, by omega, rfl⟩
  case round =>
    obtain ⟨k, hk0, hk1, rfl⟩ := hrel
    obtain ⟨b0, b1⟩ := kk_bd hk0 hk1
    have kz : ¬ k = 0 := by omega
    by_cases hlt : k * k ≤ p
    · have hs := kk_small hk0 (by omega)
      have hz := H2.out k hk0 hlt
      obtain ⟨r, hr⟩ : ∃ r, p % k = r := ⟨_, rfl⟩
      rw [hr] at hz
      have hz' : (r == 0) = false := by simpa using hz
      clear hz
      go_wp2
      go_round
      case rel => exact ⟨k + 1, by omega, by omega, by go_num⟩
      case measure => simp [intOf]; omega
    · have hlt' : decide (k * k ≤ p) = false := by simpa using hlt
      clear hlt
      go_wp2
      go_ret
      exact ⟨rfl, rfl⟩
theorem implPrime_yes (p : Int) (w : World) (h : IsPr p) :
    Calls Try.prog 87 #[.int .i64 p] w fun e w' => e = .returned (.bool true) ∧ w = w' := by
  obtain ⟨h0, h1, h2⟩ := h
  have H2 := Lib.hid h2; clear h2
  go_enter Try.func87, Try.ntmps87
  go_wp2_with fail
  refine (within64_yes _ _ _ _ h0 h1).mono ?_
  rintro e w' ⟨rfl, rfl⟩
  go_wp2_with fail
  go_loop [3] (fun i => ∃ k : Int, 2 ≤ k ∧ k ≤ 16 ∧ i = .int .i64 k) (fun i => 20 - (intOf i).toNat)
  case atStart => exact ⟨2, by omega, by omega, rfl⟩
  case round =>
    obtain ⟨k, hk0, hk1, rfl⟩ := hrel
    obtain ⟨b0, b1⟩ := kk_bd hk0 hk1
    have kz : ¬ k = 0 := by omega
    by_cases hlt : k * k ≤ p
    · have hs := kk_small hk0 (by omega)
      have hz := H2.out k hk0 hlt
      obtain ⟨r, hr⟩ : ∃ r, p % k = r := ⟨_, rfl⟩
      rw [hr] at hz
      have hz' : (r == 0) = false := by simpa using hz
      clear hz
      go_wp2
      go_round
      case rel => exact ⟨k + 1, by omega, by omega, by go_num⟩
      case measure => simp [intOf]; omega
    · have hlt' : decide (k * k ≤ p) = false := by simpa using hlt
      clear hlt
      go_wp2
      go_ret
      exact ⟨rfl, rfl⟩
theorem specPrime_no (p : Int) (w : World) (h : ¬ IsPr p) :
    Calls Try.prog 109 #[.int .i64 p] w fun e w' => e = .returned (.bool false) ∧ w = w' := by
  by_cases hin : p < 2 ∨ 251 < p
  · have HI := Lib.hid hin; clear hin h
    go_enter Try.func109, Try.ntmps109
    go_wp2_with fail
    refine (l00In_no _ _ _ _ HI.out).mono ?_
    rintro e w' ⟨rfl, rfl⟩
    go_wp2_with fail
    go_ret
    exact ⟨rfl, rfl⟩
  · have h0 : 2 ≤ p := by omega
    have h1 : p ≤ 251 := by omega
    have HN := Lib.hid h; clear h hin
    go_enter Try.func109, Try.ntmps109
    go_wp2_with fail
    refine (l00In_yes _ _ _ _ h0 h1).mono ?_
    rintro e w' ⟨rfl, rfl⟩
    go_wp2_with fail
    go_loop [3] (fun i => ∃ k : Int, 2 ≤ k ∧ k ≤ 16 ∧ i = .int .i64 k ∧ Hid (Tried p k)) (fun i => 20 - (intOf i).toNat)
    case atStart => exact ⟨2, by omega, by omega, rfl, fun j _ _ => absurd (by omega : j < j) (by omega)⟩
    case round =>
      obtain ⟨k, hk0, hk1, rfl, HT⟩ := hrel
      obtain ⟨b0, b1⟩ := kk_bd hk0 hk1
      have kz : ¬ k = 0 := by omega
      by_cases hlt : k * k ≤ p
      · have hs := kk_small hk0 (by omega)
        by_cases hz : p % k = 0
        · go_wp2
          go_ret
          exact ⟨rfl, rfl⟩
        · have HT2 := Lib.hid (HT.out.next hz)
          obtain ⟨r, hr⟩ : ∃ r, p % k = r := ⟨_, rfl⟩
          rw [hr] at hz
          have hz' : (r == 0) = false := by simpa using hz
          clear hz
          go_wp2
          go_round
          case rel => exact ⟨k + 1, by omega, by omega, by go_num, HT2⟩
          case measure => simp [intOf]; omega
      · exact absurd (HT.out.pr h0 h1 hk0 (by omega)) HN.out
theorem implPrime_no (p : Int) (w : World) (h : ¬ IsPr p) :
    Calls Try.prog 87 #[.int .i64 p] w fun e w' => e = .returned (.bool false) ∧ w = w' := by
  by_cases hin : p < 2 ∨ 251 < p
  · have HI := Lib.hid hin; clear hin h
    go_enter Try.func87, Try.ntmps87
    go_wp2_with fail
    refine (within64_no _ _ _ _ HI.out).mono ?_
    rintro e w' ⟨rfl, rfl⟩
    go_wp2_with fail
    go_ret
    exact ⟨rfl, rfl⟩
  · have h0 : 2 ≤ p := by omega
    have h1 : p ≤ 251 := by omega
    have HN := Lib.hid h; clear h hin
    go_enter Try.func87, Try.ntmps87
    go_wp2_with fail
    refine (within64_yes _ _ _ _ h0 h1).mono ?_
    rintro e w' ⟨rfl, rfl⟩
    go_wp2_with fail
    go_loop [3] (fun i => ∃ k : Int, 2 ≤ k ∧ k ≤ 16 ∧ i = .int .i64 k ∧ Hid (Tried p k)) (fun i => 20 - (intOf i).toNat)
    case atStart => exact ⟨2, by omega, by omega, rfl, fun j _ _ => absurd (by omega : j < j) (by omega)⟩
    case round =>
      obtain ⟨k, hk0, hk1, rfl, HT⟩ := hrel
      obtain ⟨b0, b1⟩ := kk_bd hk0 hk1
      have kz : ¬ k = 0 := by omega
      by_cases hlt : k * k ≤ p
      · have hs := kk_small hk0 (by omega)
        by_cases hz : p % k = 0
        · go_wp2
          go_ret
          exact ⟨rfl, rfl⟩
        · have HT2 := Lib.hid (HT.out.next hz)
          obtain ⟨r, hr⟩ : ∃ r, p % k = r := ⟨_, rfl⟩
          rw [hr] at hz
          have hz' : (r == 0) = false := by simpa using hz
          clear hz
          go_wp2
          go_round
          case rel => exact ⟨k + 1, by omega, by omega, by go_num, HT2⟩
          case measure => simp [intOf]; omega
      · exact absurd (HT.out.pr h0 h1 hk0 (by omega)) HN.out
end Go.Proofs.Ytabanmaaagmeaaa
