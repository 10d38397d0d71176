/-
  Contracts of the codes for a prime and a list of numbers, as the program finds them.
-/
import Derived.Test.YtlikfgmhhjpggaaFldA
import Derived.Test.YtlikfgmhhjpggaaInts
namespace Go.Proofs.Ytlikfgmhhjpggaa
open Go.RowKit
set_option linter.unusedVariables false

/-- All of the numbers are numbers modulo p. -/
def NumOk (p : Int) (zs : List Int) : Prop := ∀ (j : Nat) (h : j < zs.length), 0 ≤ zs[j] ∧ zs[j] ≤ p - 1
/-- None of the numbers is 0. -/
def NoZero (zs : List Int) : Prop := ∀ (j : Nat) (h : j < zs.length), zs[j] ≠ 0
/-- The code: 1 no prime, 2 a number out of range, 0 neither. -/
def NumCode (p : Int) (zs : List Int) (c : Int) : Prop := (¬ IsPr p ∧ c = 1) ∨ (IsPr p ∧ ¬ NumOk p zs ∧ c = 2) ∨ (IsPr p ∧ NumOk p zs ∧ c = 0)
/-- The code with a third one: 6 a number is 0. -/
def UnitCode (p : Int) (zs : List Int) (c : Int) : Prop := (¬ IsPr p ∧ c = 1) ∨ (IsPr p ∧ ¬ NumOk p zs ∧ c = 2) ∨ (IsPr p ∧ NumOk p zs ∧ ¬ NoZero zs ∧ c = 6) ∨ (IsPr p ∧ NumOk p zs ∧ NoZero zs ∧ c = 0)
/-- What holds of the numbers before k holds of all, or fails at one. -/
def Till (P : Int → Prop) (zs : List Int) (k : Nat) : Prop := ∀ (j : Nat) (h : j < zs.length), j < k → P zs[j]
theorem Till.zero (P : Int → Prop) (zs : List Int) : Till P zs 0 := fun _ _ h => absurd h (Nat.not_lt_zero _)
theorem Till.next {P : Int → Prop} {zs : List Int} {k : Nat} (h : Till P zs k) (hk : k < zs.length) (hp : P zs[k]) : Till P zs (k + 1) := by
  intro j hj hjk
  by_cases e : j = k
  · subst e; exact hp
  · exact h j hj (by omega)

theorem numsP_no (p : Int) (v : Value) (w : World) (h : ¬ IsPr p) :
    Calls Try.prog 60 #[.int .i64 p, v] w fun e w' => e = .returned (.int .i64 1) ∧ w = w' := by
  have HP := Lib.hid h; clear h
  go_enter Try.func60, Try.ntmps60
  go_wp2_with fail
  refine (implPrime_no _ _ HP.out).mono ?_
  rintro e w' ⟨rfl, rfl⟩
  go_wp2_with fail
  go_ret
  exact ⟨rfl, rfl⟩
theorem numsP_nil (p : Int) (a : Option Addr) (cap : Nat) (w : World) (hp : IsPr p) :
    Calls Try.prog 60 #[.int .i64 p, .slice a 0 cap] w fun e w' => e = .returned (.int .i64 0) ∧ w = w' := by
  have HP := Lib.hid hp; clear hp
  go_enter Try.func60, Try.ntmps60
  go_wp2_with fail
  refine (implPrime_yes _ _ HP.out).mono ?_
  rintro e w' ⟨rfl, rfl⟩
  go_wp2_with fail
  refine wp_loop_rounds 1 ?_
  rw [rounds_succ]
  go_wp2
  go_ret
  exact ⟨rfl, rfl⟩
set_option maxHeartbeats 800000 in
theorem numsP_some (p : Int) (b off cap : Nat) (zs : List Int) (c : Int) (w : World) (hp : IsPr p) (hl : zs.length ≤ 1048576)
    (h1 : ∀ j (h : j < zs.length), w.cell? ⟨b, off + j, none⟩ = some (.int .i64 zs[j])) (hc : (¬ NumOk p zs ∧ c = 2) ∨ (NumOk p zs ∧ c = 0)) :
    Calls Try.prog 60 #[.int .i64 p, .slice (some ⟨b, off, none⟩) zs.length cap] w fun e w' => e = .returned (.int .i64 c) ∧ w = w' := by
  have H1 := Lib.hid h1
  have HC := Lib.hid hc
  have HP := Lib.hid hp
  have p0 := hp.1
  have p1 := hp.2.1
  clear h1 hc hp
  go_enter Try.func60, Try.ntmps60
  go_wp2_with fail
  refine (implPrime_yes _ _ HP.out).mono ?_
  rintro e w' ⟨rfl, rfl⟩
  go_wp2_with fail
  go_loop [12] (fun i => ∃ k : Nat, k ≤ zs.length ∧ i = .int .i64 (k : Int) ∧ Hid (Till (fun z => 0 ≤ z ∧ z ≤ p - 1) zs k)) (fun i => zs.length - (intOf i).toNat)
  case atStart => exact ⟨0, Nat.zero_le _, rfl, Till.zero _ _⟩
  case round =>
    obtain ⟨k, hk, rfl, HT⟩ := hrel
    by_cases hlt : k < zs.length
    · have HZ := Lib.hid (fun hz => HT.out.next hlt hz)
      have c1 := H1.out k hlt
      have HN : Hid (NumOk p zs → 0 ≤ zs[k] ∧ zs[k] ≤ p - 1) := fun h => h k hlt
      obtain ⟨z, hz⟩ : ∃ z, zs[k] = z := ⟨_, rfl⟩
      rw [hz] at c1 HZ HN
      clear hz
      have i0 : (k : Int) < zs.length := by omega
      by_cases hin : z < 0 ∨ p - 1 < z
      · have hc2 : c = 2 := by
          rcases HC.out with ⟨_, h⟩ | ⟨h, _⟩
          · exact h
          · have := HN.out h; omega
        subst hc2
        have HI := Lib.hid hin
        clear hin
        go_wp2_with fail
        refine (within64_no _ _ _ _ HI.out).mono ?_
        rintro e w' ⟨rfl, rfl⟩
        go_wp2_with fail
        go_ret
        exact ⟨rfl, rfl⟩
      · have z0 : 0 ≤ z := by omega
        have z1 : z ≤ p - 1 := by omega
        have HT2 := Lib.hid (HZ.out ⟨z0, z1⟩)
        clear hin
        go_wp2_with fail
        refine (within64_yes _ _ _ _ z0 z1).mono ?_
        rintro e w' ⟨rfl, rfl⟩
        go_wp2_with fail
        go_round
        case rel => exact ⟨k + 1, by omega, by go_num, HT2⟩
        case measure => simp [intOf]; omega
    · have hc2 : c = 0 := by
        rcases HC.out with ⟨h, _⟩ | ⟨_, h⟩
        · exact absurd (fun j hj => HT.out j hj (by omega)) h
        · exact h
      subst hc2
      go_wp2
      go_ret
      exact ⟨rfl, rfl⟩
theorem numsP_any {p : Int} {v : Value} {zs : List Int} {c : Int} {w : World} (hv : IntsAt w v zs) (hc : NumCode p zs c) :
    Calls Try.prog 60 #[.int .i64 p, v] w fun e w' => e = .returned (.int .i64 c) ∧ w = w' := by
  rcases hc with ⟨hp, rfl⟩ | hc
  · exact numsP_no p v w hp
  · obtain ⟨hp, hc⟩ : IsPr p ∧ ((¬ NumOk p zs ∧ c = 2) ∨ (NumOk p zs ∧ c = 0)) := by
      rcases hc with ⟨hp, h⟩ | ⟨hp, h⟩
      · exact ⟨hp, .inl h⟩
      · exact ⟨hp, .inr h⟩
    obtain ⟨a, cap, rfl, hl, rfl | ⟨b, off, rfl, hb, h1⟩⟩ := hv
    · rcases hc with ⟨h, _⟩ | ⟨_, rfl⟩
      · exact absurd (fun j hj => absurd hj (Nat.not_lt_zero _)) h
      · exact numsP_nil p a cap w hp
    · exact numsP_some p b off cap zs c w hp hl h1 hc

set_option maxHeartbeats 800000 in
theorem unitsP_some (p : Int) (b off cap : Nat) (zs : List Int) (c : Int) (w : World) (hp : IsPr p) (hn : NumOk p zs) (hb : b < w.heap.size) (hl : zs.length ≤ 1048576)
    (h1 : ∀ j (h : j < zs.length), w.cell? ⟨b, off + j, none⟩ = some (.int .i64 zs[j])) (hc : (¬ NoZero zs ∧ c = 6) ∨ (NoZero zs ∧ c = 0)) :
    Calls Try.prog 57 #[.int .i64 p, .slice (some ⟨b, off, none⟩) zs.length cap] w fun e w' => e = .returned (.int .i64 c) ∧ w = w' := by
  have H1 := Lib.hid h1
  have HC := Lib.hid hc
  have HV : Hid (IntsAt w (.slice (some ⟨b, off, none⟩) zs.length cap) zs) := ⟨_, cap, rfl, hl, .inr ⟨b, off, rfl, hb, h1⟩⟩
  have HP : Hid (NumCode p zs 0) := .inr (.inr ⟨hp, hn, rfl⟩)
  clear h1 hc hp hn
  go_enter Try.func57, Try.ntmps57
  go_wp2_with fail
  refine (numsP_any HV.out HP.out).mono ?_
  rintro e w' ⟨rfl, rfl⟩
  go_wp2_with fail
  go_loop [16] (fun i => ∃ k : Nat, k ≤ zs.length ∧ i = .int .i64 (k : Int) ∧ Hid (Till (fun z => z ≠ 0) zs k)) (fun i => zs.length - (intOf i).toNat)
  case atStart => exact ⟨0, Nat.zero_le _, rfl, Till.zero _ _⟩
  case round =>
    obtain ⟨k, hk, rfl, HT⟩ := hrel
    by_cases hlt : k < zs.length
    · have HZ := Lib.hid (fun hz => HT.out.next hlt hz)
      have c1 := H1.out k hlt
      have HN : Hid (NoZero zs → zs[k] ≠ 0) := fun h => h k hlt
      obtain ⟨z, hz⟩ : ∃ z, zs[k] = z := ⟨_, rfl⟩
      rw [hz] at c1 HZ HN
      clear hz
      have i0 : (k : Int) < zs.length := by omega
      by_cases hin : z = 0
      · have hc2 : c = 6 := by
          rcases HC.out with ⟨_, h⟩ | ⟨h, _⟩
          · exact h
          · exact absurd hin (HN.out h)
        subst hc2
        subst hin
        go_wp2_with fail
        go_ret
        exact ⟨rfl, rfl⟩
      · have HT2 := Lib.hid (HZ.out hin)
        have hz' : (z == 0) = false := by simpa using hin
        clear hin
        go_wp2_with fail
        go_round
        case rel => exact ⟨k + 1, by omega, by go_num, HT2⟩
        case measure => simp [intOf]; omega
    · have hc2 : c = 0 := by
        rcases HC.out with ⟨h, _⟩ | ⟨_, h⟩
        · exact absurd (fun j hj => HT.out j hj (by omega)) h
        · exact h
      subst hc2
      go_wp2
      go_ret
      exact ⟨rfl, rfl⟩
theorem unitsP_bad {p : Int} {v : Value} {zs : List Int} {c : Int} {w : World} (hv : IntsAt w v zs) (hc : NumCode p zs c) (h0 : c = 1 ∨ c = 2) :
    Calls Try.prog 57 #[.int .i64 p, v] w fun e w' => e = .returned (.int .i64 c) ∧ w = w' := by
  have HV := Lib.hid hv
  have HC := Lib.hid hc
  have h0' : (c != 0) = true := by rcases h0 with rfl | rfl <;> rfl
  clear hv hc h0
  go_enter Try.func57, Try.ntmps57
  go_wp2_with fail
  refine (numsP_any HV.out HC.out).mono ?_
  rintro e w' ⟨rfl, rfl⟩
  go_wp2_with fail
  go_ret
  exact ⟨rfl, rfl⟩
/-- The code for a list that is not empty. -/
theorem unitsP_any {p : Int} {v : Value} {zs : List Int} {c : Int} {w : World} (hv : IntsAt w v zs) (hne : zs ≠ []) (hc : UnitCode p zs c) :
    Calls Try.prog 57 #[.int .i64 p, v] w fun e w' => e = .returned (.int .i64 c) ∧ w = w' := by
  rcases hc with ⟨hp, rfl⟩ | ⟨hp, hn, rfl⟩ | ⟨hp, hn, hz, rfl⟩ | ⟨hp, hn, hz, rfl⟩
  · exact unitsP_bad hv (.inl ⟨hp, rfl⟩) (.inl rfl)
  · exact unitsP_bad hv (.inr (.inl ⟨hp, hn, rfl⟩)) (.inr rfl)
  all_goals
    obtain ⟨a, cap, rfl, hl, rfl | ⟨b, off, rfl, hb, h1⟩⟩ := hv
    · exact absurd rfl hne
  · exact unitsP_some p b off cap zs 6 w hp hn hb hl h1 (.inl ⟨hz, rfl⟩)
  · exact unitsP_some p b off cap zs 0 w hp hn hb hl h1 (.inr ⟨hz, rfl⟩)

/-! ### Lists that the call builds -/
theorem one_at (w : World) (a : Int) (t : TypeId) : IntsAt (w.alloc (.cells #[.int .i64 a] t)) (.slice (some ⟨w.heap.size, 0, none⟩) 1 1) [a] := by
  refine ⟨_, 1, rfl, by simp, .inr ⟨w.heap.size, 0, rfl, by simp, fun j hj => ?_⟩⟩
  obtain rfl : j = 0 := by simpa using hj
  rw [World.cell?_alloc_at _ _ _ _ rfl]; rfl
theorem two_at (w : World) (a b : Int) (t : TypeId) : IntsAt (w.alloc (.cells #[.int .i64 a, .int .i64 b] t)) (.slice (some ⟨w.heap.size, 0, none⟩) 2 2) [a, b] := by
  refine ⟨_, 2, rfl, by simp, .inr ⟨w.heap.size, 0, rfl, by simp, fun j hj => ?_⟩⟩
  rw [World.cell?_alloc_at _ _ _ _ rfl]
  have hj : j < 2 := by simpa using hj
  match j, hj with
  | 0, _ => rfl
  | 1, _ => rfl
theorem numOk_one (p a : Int) : NumOk p [a] ↔ 0 ≤ a ∧ a ≤ p - 1 := by
  constructor
  · intro h; exact h 0 (by simp)
  · intro h j hj; obtain rfl : j = 0 := by simpa using hj
    exact h
theorem noZero_one (a : Int) : NoZero [a] ↔ a ≠ 0 := by
  constructor
  · intro h; exact h 0 (by simp)
  · intro h j hj; obtain rfl : j = 0 := by simpa using hj
    exact h
theorem numOk_two (p a b : Int) : NumOk p [a, b] ↔ (0 ≤ a ∧ a ≤ p - 1) ∧ (0 ≤ b ∧ b ≤ p - 1) := by
  constructor
  · intro h; exact ⟨h 0 (by simp), h 1 (by simp)⟩
  · intro h j hj
    have hj : j < 2 := by simpa using hj
    match j, hj with
    | 0, _ => exact h.1
    | 1, _ => exact h.2
theorem noZero_two (a b : Int) : NoZero [a, b] ↔ a ≠ 0 ∧ b ≠ 0 := by
  constructor
  · intro h; exact ⟨h 0 (by simp), h 1 (by simp)⟩
  · intro h j hj
    have hj : j < 2 := by simpa using hj
    match j, hj with
    | 0, _ => exact h.1
    | 1, _ => exact h.2
end Go.Proofs.Ytlikfgmhhjpggaa
