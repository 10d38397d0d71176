/-
  Contracts of the tests for vectors modulo a prime, of the model and of the program; a list has at most 1048576 numbers.
-/
import Derived.Test.YtpimnngomodnhaaPA
namespace Go.Proofs.Ytpimnngomodnhaa
open Go.RowKit
set_option linter.unusedVariables false

/-- A vector modulo a prime. -/
def Vec (p : Int) (zs : List Int) : Prop := IsPr p ∧ NumOk p zs ∧ zs.length ≤ 64

theorem specNums_nil (p : Int) (a : Option Addr) (cap : Nat) (w : World) :
    Calls Try.prog 57 #[.slice a 0 cap, .int .i64 p] w fun e w' => e = .returned (.bool true) ∧ w = w' := by
  go_enter Try.func57, Try.ntmps57
  go_wp2
  refine wp_loop_rounds 1 ?_
  rw [rounds_succ]
  go_wp2
  go_ret
  exact ⟨rfl, rfl⟩
set_option maxHeartbeats 800000 in
theorem specNums_some (p : Int) (b off cap : Nat) (zs : List Int) (ok : Bool) (w : World) (p0 : 2 ≤ p) (p1 : p ≤ 251) (hl : zs.length ≤ 1048576)
    (h1 : ∀ j (h : j < zs.length), w.cell? ⟨b, off + j, none⟩ = some (.int .i64 zs[j])) (hok : (NumOk p zs ∧ zs.length ≤ 64 ∧ ok = true) ∨ (¬ (NumOk p zs ∧ zs.length ≤ 64) ∧ ok = false)) :
    Calls Try.prog 57 #[.slice (some ⟨b, off, none⟩) zs.length cap, .int .i64 p] w fun e w' => e = .returned (.bool ok) ∧ w = w' := by
  have H1 := Lib.hid h1
  have HC := Lib.hid hok
  clear h1 hok
  go_enter Try.func57, Try.ntmps57
  go_wp2
  go_loop [5] (fun i => ∃ k : Nat, k ≤ zs.length ∧ i = .int .i64 (k : Int) ∧ Hid (Till (fun z => 0 ≤ z ∧ z ≤ p - 1) zs k)) (fun i => zs.length - (intOf i).toNat)
  case atStart => exact ⟨0, Nat.zero_le _, rfl, Till.zero _ _⟩
  case round =>
    obtain ⟨k, hk, rfl, HT⟩ := hrel
    by_cases hlt : k < zs.length
    · have HZ := Lib.hid (fun hz => HT.out.next hlt hz)
      have c1 := H1.out k hlt
      have HN : Hid (NumOk p zs → 0 ≤ zs[k] ∧ zs[k] ≤ p - 1) := fun h => h k hlt
      obtain ⟨z, hz⟩ : ∃ z, zs[k] = z := ⟨_, rfl⟩
      rw [hz] at c1 HZ HN
      clear hz
      have i0 : (k : Int) < zs.length := by omega
      by_cases hin : z < 0 ∨ p - 1 < z
      · have hc2 : ok = false := by
          rcases HC.out with ⟨h, _⟩ | ⟨_, h⟩
          · have := HN.out h; omega
          · exact h
        subst hc2
        have HI := Lib.hid hin
        clear hin
        go_wp2_with fail
        refine (l00In_no _ _ _ _ HI.out).mono ?_
        rintro e w' ⟨rfl, rfl⟩
        go_wp2_with fail
        go_ret
        exact ⟨rfl, rfl⟩
      · have z0 : 0 ≤ z := by omega
        have z1 : z ≤ p - 1 := by omega
        have HT2 := Lib.hid (HZ.out ⟨z0, z1⟩)
        clear hin
        go_wp2_with fail
        refine (l00In_yes _ _ _ _ z0 z1).mono ?_
        rintro e w' ⟨rfl, rfl⟩
        go_wp2_with fail
        go_round
        case rel => exact ⟨k + 1, by omega, by go_num, HT2⟩
        case measure => simp [intOf]; omega
    · have hn : NumOk p zs := fun j hj => HT.out j hj (by omega)
      have e : decide ((zs.length : Int) ≤ 64) = ok := by
        rcases HC.out with ⟨_, h, rfl⟩ | ⟨h, rfl⟩
        · simpa using (by omega : (zs.length : Int) ≤ 64)
        · have : ¬ zs.length ≤ 64 := fun x => h ⟨hn, x⟩
          simpa using (by omega : 64 < (zs.length : Int))
      clear hn
      go_wp2
      go_ret
      exact ⟨rfl, rfl⟩
theorem specNums_any {p : Int} {v : Value} {zs : List Int} {ok : Bool} {w : World} (p0 : 2 ≤ p) (p1 : p ≤ 251) (hv : IntsAt w v zs) (hok : (NumOk p zs ∧ zs.length ≤ 64 ∧ ok = true) ∨ (¬ (NumOk p zs ∧ zs.length ≤ 64) ∧ ok = false)) :
    Calls Try.prog 57 #[v, .int .i64 p] w fun e w' => e = .returned (.bool ok) ∧ w = w' := by
  obtain ⟨a, cap, rfl, hl, rfl | ⟨b, off, rfl, hb, h1⟩⟩ := hv
  · rcases hok with ⟨_, _, rfl⟩ | ⟨h, _⟩
    · exact specNums_nil p a cap w
    · exact absurd ⟨fun j hj => absurd hj (Nat.not_lt_zero _), Nat.zero_le _⟩ h
  · exact specNums_some p b off cap zs ok w p0 p1 hl h1 hok

theorem implVec_yes {p : Int} {v : Value} {zs : List Int} {w : World} (hv : IntsAt w v zs) (h : Vec p zs) :
    Calls Try.prog 101 #[v, .int .i64 p] w fun e w' => e = .returned (.bool true) ∧ w = w' := by
  have HV := Lib.hid hv
  have H := Lib.hid h
  have hl : (zs.length : Int) ≤ 64 := by have := h.2.2; omega
  obtain ⟨a, cap, rfl, _, _⟩ := hv
  clear h
  go_enter Try.func101, Try.ntmps101
  go_wp2_with fail
  refine (numsP_any HV.out (.inr (.inr ⟨H.out.1, H.out.2.1, rfl⟩))).mono ?_
  rintro e w' ⟨rfl, rfl⟩
  go_wp2_with fail
  go_ret
  exact ⟨rfl, rfl⟩
theorem numCode_hv (p : Int) (zs : List Int) : ∃ c, NumCode p zs c ∧ (c == 0) = decide (c = 0) := by
  by_cases hp : IsPr p
  · by_cases hn : NumOk p zs
    · exact ⟨0, .inr (.inr ⟨hp, hn, rfl⟩), rfl⟩
    · exact ⟨2, .inr (.inl ⟨hp, hn, rfl⟩), rfl⟩
  · exact ⟨1, .inl ⟨hp, rfl⟩, rfl⟩
theorem implVec_no {p : Int} {v : Value} {zs : List Int} {w : World} (hv : IntsAt w v zs) (h : ¬ Vec p zs) :
    Calls Try.prog 101 #[v, .int .i64 p] w fun e w' => e = .returned (.bool false) ∧ w = w' := by
  have HV := Lib.hid hv
  by_cases hl : (zs.length : Int) ≤ 64
  · obtain ⟨c, hc, hc0⟩ : ∃ c, NumCode p zs c ∧ (c == 0) = false := by
      obtain ⟨c, hc, _⟩ := numCode_hv p zs
      refine ⟨c, hc, ?_⟩
      rcases hc with ⟨_, rfl⟩ | ⟨_, _, rfl⟩ | ⟨hp, hn, rfl⟩
      · rfl
      · rfl
      · exact absurd ⟨hp, hn, by omega⟩ h
    have HC := Lib.hid hc
    obtain ⟨a, cap, rfl, _, _⟩ := hv
    clear h hc
    go_enter Try.func101, Try.ntmps101
    go_wp2_with fail
    refine (numsP_any HV.out HC.out).mono ?_
    rintro e w' ⟨rfl, rfl⟩
    go_wp2_with fail
    go_ret
    exact ⟨rfl, rfl⟩
  · have hl' : decide ((zs.length : Int) ≤ 64) = false := by simpa using hl
    obtain ⟨a, cap, rfl, _, _⟩ := hv
    clear h hl
    go_enter Try.func101, Try.ntmps101
    go_wp2_with fail
    go_ret
    exact ⟨rfl, rfl⟩

/-! ### Two vectors -/
/-- The code for two vectors. -/
def PairCode (p : Int) (xs ys : List Int) (c : Int) : Prop :=
  (¬ (Vec p xs ∧ Vec p ys) ∧ c = 1) ∨ (Vec p xs ∧ Vec p ys ∧ xs.length ≠ ys.length ∧ c = 6) ∨ (Vec p xs ∧ Vec p ys ∧ xs.length = ys.length ∧ c = 0)
theorem pairCode_has (p : Int) (xs ys : List Int) : ∃ c, PairCode p xs ys c := by
  by_cases hx : Vec p xs ∧ Vec p ys
  · by_cases hl : xs.length = ys.length
    · exact ⟨0, .inr (.inr ⟨hx.1, hx.2, hl, rfl⟩)⟩
    · exact ⟨6, .inr (.inl ⟨hx.1, hx.2, hl, rfl⟩)⟩
  · exact ⟨1, .inl ⟨hx, rfl⟩⟩
theorem specPair_any {p : Int} {u v : Value} {xs ys : List Int} {c : Int} {w : World} (hu : IntsAt w u xs) (hv : IntsAt w v ys) (hc : PairCode p xs ys c) :
    Calls Try.prog 60 #[u, v, .int .i64 p] w fun e w' => e = .returned (.int .i64 c) ∧ w = w' := by
  have HU := Lib.hid hu
  have HV := Lib.hid hv
  by_cases hp : IsPr p
  · have p0 := hp.1
    have p1 := hp.2.1
    have HP := Lib.hid hp
    by_cases hx : NumOk p xs ∧ xs.length ≤ 64
    · have HX := Lib.hid hx
      by_cases hy : NumOk p ys ∧ ys.length ≤ 64
      · have HY := Lib.hid hy
        have hl : ((xs.length : Int) != (ys.length : Int)) = (c != 0) := by
          rcases hc with ⟨h, rfl⟩ | ⟨_, _, h, rfl⟩ | ⟨_, _, h, rfl⟩
          · exact absurd ⟨⟨hp, hx⟩, ⟨hp, hy⟩⟩ h
          · have : (xs.length : Int) ≠ (ys.length : Int) := by omega
            simpa using this
          · simp [h]
        have hc' : c = 6 ∨ c = 0 := by
          rcases hc with ⟨h, rfl⟩ | ⟨_, _, _, h⟩ | ⟨_, _, _, h⟩
          · exact absurd ⟨⟨hp, hx⟩, ⟨hp, hy⟩⟩ h
          · exact .inl h
          · exact .inr h
        obtain ⟨a, ca, rfl, _, _⟩ := hu
        obtain ⟨b, cb, rfl, _, _⟩ := hv
        clear hc hx hy hp
        rcases hc' with rfl | rfl
        all_goals
          go_enter Try.func60, Try.ntmps60
          go_wp2_with fail
          refine (specPrime_yes _ _ HP.out).mono ?_
          rintro e w' ⟨rfl, rfl⟩
          go_wp2_with fail
          refine (specNums_any p0 p1 HU.out (.inl ⟨HX.out.1, HX.out.2, rfl⟩)).mono ?_
          rintro e w' ⟨rfl, rfl⟩
          go_wp2_with fail
          refine (specNums_any p0 p1 HV.out (.inl ⟨HY.out.1, HY.out.2, rfl⟩)).mono ?_
          rintro e w' ⟨rfl, rfl⟩
          go_wp2_with fail
          go_ret
          exact ⟨rfl, rfl⟩
      · have HY := Lib.hid hy
        obtain rfl : c = 1 := by
          rcases hc with ⟨h, rfl⟩ | ⟨_, h, _⟩ | ⟨_, h, _⟩
          · rfl
          · exact absurd h.2 hy
          · exact absurd h.2 hy
        clear hc hx hy hp hu hv
        go_enter Try.func60, Try.ntmps60
        go_wp2_with fail
        refine (specPrime_yes _ _ HP.out).mono ?_
        rintro e w' ⟨rfl, rfl⟩
        go_wp2_with fail
        refine (specNums_any p0 p1 HU.out (.inl ⟨HX.out.1, HX.out.2, rfl⟩)).mono ?_
        rintro e w' ⟨rfl, rfl⟩
        go_wp2_with fail
        refine (specNums_any p0 p1 HV.out (.inr ⟨HY.out, rfl⟩)).mono ?_
        rintro e w' ⟨rfl, rfl⟩
        go_wp2_with fail
        go_ret
        exact ⟨rfl, rfl⟩
    · have HX := Lib.hid hx
      obtain rfl : c = 1 := by
        rcases hc with ⟨h, rfl⟩ | ⟨h, _⟩ | ⟨h, _⟩
        · rfl
        · exact absurd h.2 hx
        · exact absurd h.2 hx
      clear hc hx hp hu hv
      go_enter Try.func60, Try.ntmps60
      go_wp2_with fail
      refine (specPrime_yes _ _ HP.out).mono ?_
      rintro e w' ⟨rfl, rfl⟩
      go_wp2_with fail
      refine (specNums_any p0 p1 HU.out (.inr ⟨HX.out, rfl⟩)).mono ?_
      rintro e w' ⟨rfl, rfl⟩
      go_wp2_with fail
      go_ret
      exact ⟨rfl, rfl⟩
  · have HP := Lib.hid hp
    obtain rfl : c = 1 := by
      rcases hc with ⟨h, rfl⟩ | ⟨h, _⟩ | ⟨h, _⟩
      · rfl
      · exact absurd h.1 hp
      · exact absurd h.1 hp
    clear hc hp hu hv
    go_enter Try.func60, Try.ntmps60
    go_wp2_with fail
    refine (specPrime_no _ _ HP.out).mono ?_
    rintro e w' ⟨rfl, rfl⟩
    go_wp2_with fail
    go_ret
    exact ⟨rfl, rfl⟩
end Go.Proofs.Ytpimnngomodnhaa
