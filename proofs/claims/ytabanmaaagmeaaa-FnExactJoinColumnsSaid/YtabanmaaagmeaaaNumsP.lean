/-
  Contracts of the codes for a prime and a list of numbers, as the program finds them.
-/
import Derived.Test.YtabanmaaagmeaaaFldA
import Derived.Test.YtabanmaaagmeaaaInts
namespace Go.Proofs.Ytabanmaaagmeaaa
open Go.RowKit
set_option linter.unusedVariables false

/-- All of the numbers are numbers modulo p. -/
def NumOk (p : Int) (zs : List Int) : Prop := ∀ (j : Nat) (h : j < zs.length), 0 ≤ zs[j] ∧ zs[j] ≤ p - 1
/-- The code: 1 no prime, 2 a number out of range, 0 neither. -/
def NumCode (p : Int) (zs : List Int) (c : Int) : Prop := (¬ IsPr p ∧ c = 1) ∨ (IsPr p ∧ ¬ NumOk p zs ∧ c = 2) ∨ (IsPr p ∧ NumOk p zs ∧ c = 0)
/-- What holds of the numbers before k holds of all, or fails at one. -/
def Till (P : Int → Prop) (zs : List Int) (k : Nat) : Prop := ∀ (j : Nat) (h : j < zs.length), j < k → P zs[j]
theorem Till.zero (P : Int → Prop) (zs : List Int) : Till P zs 0 := fun _ _ h => absurd h (Nat.not_lt_zero _)
theorem Till.next {P : Int → Prop} {zs : List Int} {k : Nat} (h : Till P zs k) (hk : k < zs.length) (hp : P zs[k]) : Till P zs (k + 1) := by
  intro j hj hjk
  by_cases e : j = k
  · subst e; exact hp
  · exact h j hj (by omega)

theorem numsP_no (p : Int) (v : Value) (w : World) (h : ¬ IsPr p) :
    Calls Try.prog 82 #[.int .i64 p, v] w fun e w' => e = .returned (.int .i64 1) ∧ w = w' := by
  have HP := Lib.hid h; clear h
  go_enter Try.func82, Try.ntmps82
  go_wp2_with fail
  refine (implPrime_no _ _ HP.out).mono ?_
  rintro e w' ⟨rfl, rfl⟩
  go_wp2_with fail
  go_ret
  exact ⟨rfl, rfl⟩
theorem numsP_nil (p : Int) (a : Option Addr) (cap : Nat) (w : World) (hp : IsPr p) :
    Calls Try.prog 82 #[.int .i64 p, .slice a 0 cap] w fun e w' => e = .returned (.int .i64 0) ∧ w = w' := by
  have HP := Lib.hid hp; clear hp
  go_enter Try.func82, Try.ntmps82
  go_wp2_with fail
  refine (implPrime_yes _ _ HP.out).mono ?_
  rintro e w' ⟨rfl, rfl⟩
  go_wp2_with fail
  refine wp_loop_rounds 1 ?_
  rw [rounds_succ]
  go_wp2
  go_ret
  exact ⟨rfl, rfl⟩
set_option maxHeartbeats 800000 in
theorem numsP_some (p : Int) (b off cap : Nat) (zs : List Int) (c : Int) (w : World) (hp : IsPr p) (hl : zs.length ≤ 1048576)
    (h1 : ∀ j (h : j < zs.length), w.cell? ⟨b, off + j, none⟩ = some (.int .i64 zs[j])) (hc : (¬ NumOk p zs ∧ c = 2) ∨ (NumOk p zs ∧ c = 0)) :
    Calls Try.prog 82 #[.int .i64 p, .slice (some ⟨b, off, none⟩) zs.length cap] w fun e w' => e = .returned (.int .i64 c) ∧ w = w' := by
  have H1 := Lib.hid h1
  have HC := Lib.hid hc
  have HP := Lib.hid hp
  have p0 := hp.1
  have p1 := hp.2.1
  clear h1 hc hp
  go_enter Try.func82, Try.ntmps82
  go_wp2_with fail
  refine (implPrime_yes _ _ HP.out).mono ?_
  rintro e w' ⟨rfl, rfl⟩
  go_wp2_with fail
  go_loop [12] (fun i => ∃ k : Nat, k ≤ zs.length ∧ i = .int .i64 (k : Int) ∧ Hid (Till (fun z => 0 ≤ z ∧ z ≤ p - 1) zs k)) (fun i => zs.length - (intOf i).toNat)
  case atStart => exact ⟨0, Nat.zero_le _, rfl, Till.zero _ _⟩
  case round =>
    obtain ⟨k, hk, rfl, HT⟩ := hrel
    by_cases hlt : k < zs.length
    · have HZ := Lib.hid (fun hz => HT.out.next hlt hz)
      have c1 := H1.out k hlt
      have HN : Hid (NumOk p zs → 0 ≤ zs[k] ∧ zs[k] ≤ p - 1) := fun h => h k hlt
      obtain ⟨z, hz⟩ : ∃ z, zs[k] = z := ⟨_, rfl⟩
      rw [hz] at c1 HZ HN
      clear hz
      have i0 : (k : Int) < zs.length := by omega
      by_cases hin : z < 0 ∨ p - 1 < z
      · have hc2 : c = 2 := by
          rcases HC.out with ⟨_, h⟩ | ⟨h, _⟩
          · exact h
          · have := HN.out h; omega
        subst hc2
        have HI := Lib.hid hin
        clear hin
        go_wp2_with fail
        refine (within64_no _ _ _ _ HI.out).mono ?_
        rintro e w' ⟨rfl, rfl⟩
        go_wp2_with fail
        go_ret
        exact ⟨rfl, rfl⟩
      · have z0 : 0 ≤ z := by omega
        have z1 : z ≤ p - 1 := by omega
        have HT2 := Lib.hid (HZ.out ⟨z0, z1⟩)
        clear hin
        go_wp2_with fail
        refine (within64_yes _ _ _ _ z0 z1).mono ?_
        rintro e w' ⟨rfl, rfl⟩
        go_wp2_with fail
        go_round
        case rel => exact ⟨k + 1, by omega, by go_num, HT2⟩
        case measure => simp [intOf]; omega
    · have hc2 : c = 0 := by
        rcases HC.out with ⟨h, _⟩ | ⟨_, h⟩
        · exact absurd (fun j hj => HT.out j hj (by omega)) h
        · exact h
      subst hc2
      go_wp2
      go_ret
      exact ⟨rfl, rfl⟩
theorem numsP_any {p : Int} {v : Value} {zs : List Int} {c : Int} {w : World} (hv : IntsAt w v zs) (hc : NumCode p zs c) :
    Calls Try.prog 82 #[.int .i64 p, v] w fun e w' => e = .returned (.int .i64 c) ∧ w = w' := by
  rcases hc with ⟨hp, rfl⟩ | hc
  · exact numsP_no p v w hp
  · obtain ⟨hp, hc⟩ : IsPr p ∧ ((¬ NumOk p zs ∧ c = 2) ∨ (NumOk p zs ∧ c = 0)) := by
      rcases hc with ⟨hp, h⟩ | ⟨hp, h⟩
      · exact ⟨hp, .inl h⟩
      · exact ⟨hp, .inr h⟩
    obtain ⟨a, cap, rfl, hl, rfl | ⟨b, off, rfl, hb, h1⟩⟩ := hv
    · rcases hc with ⟨h, _⟩ | ⟨_, rfl⟩
      · exact absurd (fun j hj => absurd hj (Nat.not_lt_zero _)) h
      · exact numsP_nil p a cap w hp
    · exact numsP_some p b off cap zs c w hp hl h1 hc

end Go.Proofs.Ytabanmaaagmeaaa
