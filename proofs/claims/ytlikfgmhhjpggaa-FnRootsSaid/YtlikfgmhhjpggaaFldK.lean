/-
  Contracts of the searches for the least number with a property, and of SquareRootOf, LegendreOf and LeastGenerator: whatever the arguments, model and program give the same number and code.
-/
import Derived.Test.YtlikfgmhhjpggaaFldI
namespace Go.Proofs.Ytlikfgmhhjpggaa
open Go.RowKit
set_option linter.unusedVariables false

/-- The code for a prime and a number, with the list that the program builds. -/
theorem Ask.code {p a c : Int} (h : Ask a p c) : NumCode p [a] c := by
  rcases h with ⟨hp, rfl⟩ | ⟨hp, h, rfl⟩ | ⟨hp, a0, a1, rfl⟩
  · exact .inl ⟨hp, rfl⟩
  · exact .inr (.inl ⟨hp, by rw [numOk_one]; omega, rfl⟩)
  · exact .inr (.inr ⟨hp, by rw [numOk_one]; omega, rfl⟩)
theorem beq_no {a b : Int} (h : a ≠ b) : (a == b) = false := by simpa using h
set_option maxHeartbeats 800000 in
theorem leastSq_yes (a p x : Int) (w : World) (h0 : 2 ≤ p) (h1 : p ≤ 251) (hx : IsRt a p x) :
    Calls Try.prog 65 #[.int .i64 p, .func (.func 68) #[.agg #[.int .i64 a, .int .i64 p]] #[]] w fun e w' => RetX x true w e w' := by
  obtain ⟨x0, x1, x2, x3⟩ := hx
  have H2 := Lib.hid x2
  have H3 := Lib.hid x3
  clear x2 x3
  go_enter Try.func65, Try.ntmps65
  go_wp2
  go_loopw [8] (fun i wr => ∃ k : Int, 0 ≤ k ∧ k ≤ x ∧ i = .int .i64 k ∧ Below w.heap.size w wr) (fun i _ => (x - intOf i).toNat)
  case atStart => exact ⟨0, by omega, x0, rfl, Below.refl _ _⟩
  case round =>
    obtain ⟨k, k0, k1, rfl, hb⟩ := hrel
    have HB := Lib.hid hb
    clear hb
    have hkp : k < p := by omega
    by_cases hk : k = x
    · subst hk
      go_wp2_with fail
      refine (isSq_yes a k p _ h0 h1 k0 x1 H2.out).mono ?_
      rintro e w1 ⟨rfl, hb1⟩
      go_wp2_with fail
      go_ret2
      exact ⟨rfl, HB.out.trans (hb1.mono HB.out.size)⟩
    · have HR := Lib.hid (beq_no (H3.out k k0 (by omega)))
      go_wp2_with fail
      refine (isSq_no a k p _ h0 h1 k0 hkp HR.out).mono ?_
      rintro e w1 ⟨rfl, hb1⟩
      have HB1 := Lib.hid (HB.out.trans (hb1.mono HB.out.size))
      clear hb1
      go_wp2_with fail
      go_roundw
      case rel => exact ⟨k + 1, by omega, by omega, by go_num, HB1.out⟩
      case measure => simp [intOf]; omega
set_option maxHeartbeats 800000 in
theorem leastSq_no (a p : Int) (w : World) (h0 : 2 ≤ p) (h1 : p ≤ 251) (hx : NoRt a p) :
    Calls Try.prog 65 #[.int .i64 p, .func (.func 68) #[.agg #[.int .i64 a, .int .i64 p]] #[]] w fun e w' => RetX 0 false w e w' := by
  have H3 := Lib.hid hx
  clear hx
  go_enter Try.func65, Try.ntmps65
  go_wp2
  go_loopw [8] (fun i wr => ∃ k : Int, 0 ≤ k ∧ k ≤ p ∧ i = .int .i64 k ∧ Below w.heap.size w wr) (fun i _ => (p - intOf i).toNat)
  case atStart => exact ⟨0, by omega, by omega, rfl, Below.refl _ _⟩
  case round =>
    obtain ⟨k, k0, k1, rfl, hb⟩ := hrel
    have HB := Lib.hid hb
    clear hb
    by_cases hk : k < p
    · have HR := Lib.hid (beq_no (H3.out k k0 hk))
      go_wp2_with fail
      refine (isSq_no a k p _ h0 h1 k0 hk HR.out).mono ?_
      rintro e w1 ⟨rfl, hb1⟩
      have HB1 := Lib.hid (HB.out.trans (hb1.mono HB.out.size))
      clear hb1
      go_wp2_with fail
      go_roundw
      case rel => exact ⟨k + 1, by omega, by omega, by go_num, HB1.out⟩
      case measure => simp [intOf]; omega
    · go_wp2_with fail
      go_ret2
      exact ⟨rfl, HB.out⟩
set_option maxRecDepth 100000 in
set_option maxHeartbeats 800000 in
theorem gen1_zero (p : Int) (g : Nat) (w : World) (hg : g < w.heap.size) (hc : w.cell? ⟨g, 0, none⟩ = some (.int .i64 p)) :
    Calls Try.prog 66 #[.agg #[.int .i64 0, .int .i64 p], .pointer (some ⟨g, 0, none⟩)] w fun e w' => e = .returned (.bool false) ∧ Below w.heap.size w w' := by
  go_enter Try.func66, Try.ntmps66
  go_wp2_with fail
  go_region_with (fail)
  all_goals
    go_wp2
    go_ret
    exact ⟨rfl, ((Below.refl _ _).alloc (Nat.le_refl _) _).drew⟩
set_option maxRecDepth 100000 in
set_option maxHeartbeats 800000 in
theorem gen1_any (p k : Int) (n : Nat) (g : Nat) (ok : Bool) (w : World) (hp : IsPr p) (k0 : 1 ≤ k) (k1 : k < p) (hn : IsOrd k p n) (hn1 : (n : Int) ≤ p - 1) (hok : ((n : Int) == p - 1) = ok) (hg : g < w.heap.size) (hc : w.cell? ⟨g, 0, none⟩ = some (.int .i64 p)) :
    Calls Try.prog 66 #[.agg #[.int .i64 k, .int .i64 p], .pointer (some ⟨g, 0, none⟩)] w fun e w' => e = .returned (.bool ok) ∧ Below w.heap.size w w' := by
  have HP := Lib.hid hp
  have HN := Lib.hid hn
  have h0 := hp.1
  have h1 := hp.2.1
  have kz : (k != 0) = true := by simp; omega
  have wp : IntKind.i64.wrap (p - 1) = p - 1 := IntWalk.i64_in _ (by omega)
  have g0 : ∀ o, (w.alloc o).cell? ⟨g, 0, none⟩ = some (.int .i64 p) := fun o => by rw [World.cell?_alloc_old _ _ _ (Nat.ne_of_lt hg)]; exact hc
  have g1 := g0 (.cells #[.int .i64 k, .int .i64 p] 54)
  clear hp hn g0
  go_enter Try.func66, Try.ntmps66
  go_wp2_with fail
  go_region_with (first
    | (go_at_call 59; refine (order_any k p n _ HP.out k0 k1 HN.out hn1).mono ?_; rintro e w1 ⟨rfl, hb1⟩; obtain ⟨hcc, hff⟩ := bcell hb1; have g2 := (hcc g 0 (by simp; omega)).trans g1))
  all_goals
    go_wp2
    go_ret
    refine ⟨rfl, ?_⟩
    exact ((Below.refl _ _).alloc (Nat.le_refl _) _).drew.trans (hb1.mono (by simp))
set_option maxHeartbeats 800000 in
theorem leastGen_any (p x : Int) (g : Nat) (w : World) (hp : IsPr p) (hx : IsGen p x) (hg : g < w.heap.size) (hc : w.cell? ⟨g, 0, none⟩ = some (.int .i64 p)) :
    Calls Try.prog 65 #[.int .i64 p, .func (.func 66) #[] #[.pointer (some ⟨g, 0, none⟩)]] w fun e w' => RetX x true w e w' := by
  obtain ⟨x0, x1, x2, x3⟩ := hx
  have h0 := hp.1
  have h1 := hp.2.1
  have HP := Lib.hid hp
  have HC := Lib.hid hc
  have H2 := Lib.hid x2
  have H3 := Lib.hid x3
  clear x2 x3 hp hc
  go_enter Try.func65, Try.ntmps65
  go_wp2
  go_loopw [8] (fun i wr => ∃ k : Int, 0 ≤ k ∧ k ≤ x ∧ i = .int .i64 k ∧ Below w.heap.size w wr) (fun i _ => (x - intOf i).toNat)
  case atStart => exact ⟨0, by omega, by omega, rfl, Below.refl _ _⟩
  case round =>
    obtain ⟨k, k0, k1, rfl, hb⟩ := hrel
    have HB := Lib.hid hb
    have HCr := Lib.hid ((hb.cell (p := ⟨g, 0, none⟩) hg).trans HC.out)
    have hgr : g < wr.heap.size := Nat.lt_of_lt_of_le hg hb.size
    clear hb
    have hkp : k < p := by omega
    by_cases hk : k = x
    · subst hk
      go_wp2_with fail
      refine (gen1_any p k (p - 1).toNat g true _ HP.out x0 x1 H2.out (by omega) (by simp; omega) hgr HCr.out).mono ?_
      rintro e w1 ⟨rfl, hb1⟩
      go_wp2_with fail
      go_ret2
      exact ⟨rfl, HB.out.trans (hb1.mono HB.out.size)⟩
    · by_cases kz : k = 0
      · subst kz
        go_wp2_with fail
        refine (gen1_zero p g _ hgr HCr.out).mono ?_
        rintro e w1 ⟨rfl, hb1⟩
        have HB1 := Lib.hid (HB.out.trans (hb1.mono HB.out.size))
        clear hb1
        go_wp2_with fail
        go_roundw
        case rel => exact ⟨1, by omega, by omega, by go_num, HB1.out⟩
        case measure => simp [intOf]; omega
      · have hk1 : 1 ≤ k := by omega
        obtain ⟨n, hn, hn1⟩ := ord_has HP.out hk1 hkp
        have HN := Lib.hid hn
        have HO : Hid (((n : Int) == p - 1) = false) := beq_no (fun e => H3.out k hk1 (by omega) (by rw [show (p - 1).toNat = n by omega]; exact hn))
        clear hn
        go_wp2_with fail
        refine (gen1_any p k n g false _ HP.out hk1 hkp HN.out hn1 HO.out hgr HCr.out).mono ?_
        rintro e w1 ⟨rfl, hb1⟩
        have HB1 := Lib.hid (HB.out.trans (hb1.mono HB.out.size))
        clear hb1
        go_wp2_with fail
        go_roundw
        case rel => exact ⟨k + 1, by omega, by omega, by go_num, HB1.out⟩
        case measure => simp [intOf]; omega

/-! ### LeastGenerator -/
def GenRes (p r c : Int) : Prop := (¬ IsPr p ∧ r = 0 ∧ c = 1) ∨ (IsPr p ∧ IsGen p r ∧ c = 0)
theorem genRes_has (p : Int) : ∃ r c, GenRes p r c := by
  by_cases hp : IsPr p
  · obtain ⟨g, hg⟩ := gen_has hp
    exact ⟨g, 0, .inr ⟨hp, hg, rfl⟩⟩
  · exact ⟨0, 1, .inl ⟨hp, rfl, rfl⟩⟩
theorem implGen_any {p r c : Int} (w : World) (h : GenRes p r c) :
    Calls Try.prog 26 #[.int .i64 p] w fun e w' => RetC r c w e w' := by
  rcases h with ⟨hp, rfl, rfl⟩ | ⟨hp, hg, rfl⟩
  · have HP := Lib.hid hp
    clear hp
    go_enter Try.func26, Try.ntmps26
    go_wp2_with fail
    refine (implPrime_no _ _ HP.out).mono ?_
    rintro e w' ⟨rfl, rfl⟩
    go_wp2_with fail
    go_ret2
    exact ⟨rfl, (Below.refl _ _).alloc (Nat.le_refl _) _⟩
  · have HP := Lib.hid hp
    have HG := Lib.hid hg
    clear hp hg
    go_enter Try.func26, Try.ntmps26
    go_wp2_with fail
    refine (implPrime_yes _ _ HP.out).mono ?_
    rintro e w' ⟨rfl, rfl⟩
    go_wp2_with fail
    refine (leastGen_any p r w.heap.size _ HP.out HG.out (by simp) (by rw [World.cell?_alloc_at _ _ _ _ rfl]; rfl)).mono ?_
    rintro e w1 ⟨rfl, hb1⟩
    go_wp2_with fail
    go_ret2
    exact ⟨rfl, ((Below.refl _ _).alloc (Nat.le_refl _) _).trans (hb1.mono (by simp))⟩
theorem specGen_any {p r c : Int} (w : World) (h : GenRes p r c) :
    Calls Try.prog 41 #[.int .i64 p] w fun e w' => RetC r c w e w' := by
  rcases h with ⟨hp, rfl, rfl⟩ | ⟨hp, hg, rfl⟩
  · have HP := Lib.hid hp
    clear hp
    go_enter Try.func41, Try.ntmps41
    go_wp2_with fail
    refine (specPrime_no _ _ HP.out).mono ?_
    rintro e w' ⟨rfl, rfl⟩
    go_wp2_with fail
    go_ret2
    exact ⟨rfl, Below.refl _ _⟩
  · obtain ⟨x0, x1, x2, x3⟩ := hg
    have h0 := hp.1
    have h1 := hp.2.1
    have HP := Lib.hid hp
    have H2 := Lib.hid x2
    have H3 := Lib.hid x3
    clear hp x2 x3
    go_enter Try.func41, Try.ntmps41
    go_wp2_with fail
    refine (specPrime_yes _ _ HP.out).mono ?_
    rintro e w' ⟨rfl, rfl⟩
    go_wp2_with fail
    go_loop [4] (fun i => ∃ k : Int, 1 ≤ k ∧ k ≤ r ∧ i = .int .i64 k) (fun i => (r - intOf i).toNat)
    case atStart => exact ⟨1, by omega, x0, rfl⟩
    case round =>
      obtain ⟨k, k0, k1, rfl⟩ := hrel
      by_cases hk : k = r
      · subst hk
        obtain ⟨n, hn⟩ : ∃ n : Nat, (p - 1).toNat = n := ⟨_, rfl⟩
        have HO : Hid (IsOrd k p n) := by rw [← hn]; exact H2.out
        obtain rfl : p = (n : Int) + 1 := by omega
        clear hn
        go_wp2_with fail
        refine (specOrd_any k _ n _ h0 h1 k0 x1 HO.out (by omega)).mono ?_
        rintro e w' ⟨rfl, rfl⟩
        have e1 : (n : Int) + 1 - 1 = n := by omega
        have e2 : ((n : Int) != (n : Int)) = false := by simp
        go_wp2_with fail
        go_ret2
        exact ⟨rfl, Below.refl _ _⟩
      · obtain ⟨n, hn, hn1⟩ := ord_has HP.out k0 (by omega)
        have HN := Lib.hid hn
        have ne : ((n : Int) != p - 1) = true := by
          have : (n : Int) ≠ p - 1 := fun e => H3.out k k0 (by omega) (by rw [show (p - 1).toNat = n by omega]; exact hn)
          simpa using this
        clear hn
        go_wp2_with fail
        refine (specOrd_any k p n _ h0 h1 k0 (by omega) HN.out hn1).mono ?_
        rintro e w' ⟨rfl, rfl⟩
        go_wp2_with fail
        go_round
        case rel => exact ⟨k + 1, by omega, by omega, by go_num⟩
        case measure => simp [intOf]; omega

/-! ### SquareRootOf, LegendreOf -/
def RtRes (p a r c : Int) : Prop := (c ≠ 0 ∧ Ask a p c ∧ r = 0) ∨ (Ask a p 0 ∧ IsRt a p r ∧ c = 0) ∨ (Ask a p 0 ∧ NoRt a p ∧ r = 0 ∧ c = 3)
theorem rtRes_has (p a : Int) : ∃ r c, RtRes p a r c := by
  obtain ⟨c, hc⟩ := ask_has a p
  by_cases h : c = 0
  · subst h
    rcases rt_or a p with ⟨x, hx⟩ | hx
    · exact ⟨x, 0, .inr (.inl ⟨hc, hx, rfl⟩)⟩
    · exact ⟨0, 3, .inr (.inr ⟨hc, hx, rfl, rfl⟩)⟩
  · exact ⟨0, c, .inl ⟨h, hc, rfl⟩⟩
theorem Ask.good {p a : Int} (h : Ask a p 0) : IsPr p ∧ 0 ≤ a ∧ a < p := by
  rcases h with ⟨_, h⟩ | ⟨_, _, h⟩ | ⟨hp, h, h2, _⟩
  · exact absurd h (by decide)
  · exact absurd h (by decide)
  · exact ⟨hp, h, h2⟩
theorem specRoot_any {p a r c : Int} (w : World) (h : RtRes p a r c) :
    Calls Try.prog 44 #[.int .i64 a, .int .i64 p] w fun e w' => RetC r c w e w' := by
  rcases h with ⟨hc, ha, rfl⟩ | ⟨ha, hx, rfl⟩ | ⟨ha, hx, rfl, rfl⟩
  · have HA := Lib.hid ha
    have e1 : (c != 0) = true := by simpa using hc
    clear ha hc
    go_enter Try.func44, Try.ntmps44
    go_wp2_with fail
    refine (specAsk_any _ HA.out).mono ?_
    rintro e w' ⟨rfl, rfl⟩
    go_wp2_with fail
    go_ret2
    exact ⟨rfl, Below.refl _ _⟩
  · obtain ⟨hp, a0, a1⟩ := ha.good
    have h0 := hp.1
    have h1 := hp.2.1
    have HA := Lib.hid ha
    have HX := Lib.hid hx
    have nn : decide (r < 0) = false := by have := hx.1; simpa using this
    clear hp ha hx
    go_enter Try.func44, Try.ntmps44
    go_wp2_with fail
    refine (specAsk_any _ HA.out).mono ?_
    rintro e w' ⟨rfl, rfl⟩
    go_wp2_with fail
    refine (specRt_yes a p r _ h0 h1 HX.out).mono ?_
    rintro e w' ⟨rfl, rfl⟩
    go_wp2_with fail
    go_ret2
    exact ⟨rfl, Below.refl _ _⟩
  · obtain ⟨hp, a0, a1⟩ := ha.good
    have h0 := hp.1
    have h1 := hp.2.1
    have HA := Lib.hid ha
    have HX := Lib.hid hx
    clear hp ha hx
    go_enter Try.func44, Try.ntmps44
    go_wp2_with fail
    refine (specAsk_any _ HA.out).mono ?_
    rintro e w' ⟨rfl, rfl⟩
    go_wp2_with fail
    refine (specRt_no a p _ h0 h1 HX.out).mono ?_
    rintro e w' ⟨rfl, rfl⟩
    go_wp2_with fail
    go_ret2
    exact ⟨rfl, Below.refl _ _⟩
theorem implRoot_any2 {p a r c : Int} (w : World) (h : RtRes p a r c) :
    Calls Try.prog 28 #[.int .i64 a, .int .i64 p] w fun e w' => RetC r c w e w' := by
  rcases h with ⟨hc, ha, rfl⟩ | ⟨ha, hx, rfl⟩ | ⟨ha, hx, rfl, rfl⟩
  · have HA := Lib.hid ha.code
    have e1 : (c != 0) = true := by simpa using hc
    clear ha hc
    go_enter Try.func28, Try.ntmps28
    go_wp2_with fail
    refine (numsP_any (one_at _ _ _) HA.out).mono ?_
    rintro e w' ⟨rfl, rfl⟩
    go_wp2_with fail
    go_ret2
    exact ⟨rfl, (Below.refl _ _).alloc (Nat.le_refl _) _⟩
  · obtain ⟨hp, a0, a1⟩ := ha.good
    have h0 := hp.1
    have h1 := hp.2.1
    have HA := Lib.hid ha.code
    have HX := Lib.hid hx
    clear hp ha hx
    go_enter Try.func28, Try.ntmps28
    go_wp2_with fail
    refine (numsP_any (one_at _ _ _) HA.out).mono ?_
    rintro e w' ⟨rfl, rfl⟩
    go_wp2_with fail
    refine (leastSq_yes a p r _ h0 h1 HX.out).mono ?_
    rintro e w1 ⟨rfl, hb1⟩
    go_wp2_with fail
    go_ret2
    exact ⟨rfl, ((Below.refl _ _).alloc (Nat.le_refl _) _).trans (hb1.mono (by simp))⟩
  · obtain ⟨hp, a0, a1⟩ := ha.good
    have h0 := hp.1
    have h1 := hp.2.1
    have HA := Lib.hid ha.code
    have HX := Lib.hid hx
    clear hp ha hx
    go_enter Try.func28, Try.ntmps28
    go_wp2_with fail
    refine (numsP_any (one_at _ _ _) HA.out).mono ?_
    rintro e w' ⟨rfl, rfl⟩
    go_wp2_with fail
    refine (leastSq_no a p _ h0 h1 HX.out).mono ?_
    rintro e w1 ⟨rfl, hb1⟩
    go_wp2_with fail
    go_ret2
    exact ⟨rfl, ((Below.refl _ _).alloc (Nat.le_refl _) _).trans (hb1.mono (by simp))⟩
/-- The result of LegendreOf. -/
def LegRes (p a r c : Int) : Prop := (c ≠ 0 ∧ Ask a p c ∧ r = 0) ∨ (Ask a p 0 ∧ a = 0 ∧ r = 0 ∧ c = 0) ∨ (Ask a p 0 ∧ a ≠ 0 ∧ (∃ x, IsRt a p x) ∧ r = 1 ∧ c = 0) ∨ (Ask a p 0 ∧ a ≠ 0 ∧ NoRt a p ∧ r = -1 ∧ c = 0)
theorem legRes_has (p a : Int) : ∃ r c, LegRes p a r c := by
  obtain ⟨c, hc⟩ := ask_has a p
  by_cases h : c = 0
  · subst h
    by_cases hz : a = 0
    · exact ⟨0, 0, .inr (.inl ⟨hc, hz, rfl, rfl⟩)⟩
    · rcases rt_or a p with hx | hx
      · exact ⟨1, 0, .inr (.inr (.inl ⟨hc, hz, hx, rfl, rfl⟩))⟩
      · exact ⟨-1, 0, .inr (.inr (.inr ⟨hc, hz, hx, rfl, rfl⟩))⟩
  · exact ⟨0, c, .inl ⟨h, hc, rfl⟩⟩
theorem specLeg_any {p a r c : Int} (w : World) (h : LegRes p a r c) :
    Calls Try.prog 43 #[.int .i64 a, .int .i64 p] w fun e w' => RetC r c w e w' := by
  rcases h with ⟨hc, ha, rfl⟩ | ⟨ha, rfl, rfl, rfl⟩ | ⟨ha, hz, ⟨x, hx⟩, rfl, rfl⟩ | ⟨ha, hz, hx, rfl, rfl⟩
  · have HA := Lib.hid ha
    have e1 : (c != 0) = true := by simpa using hc
    clear ha hc
    go_enter Try.func43, Try.ntmps43
    go_wp2_with fail
    refine (specAsk_any _ HA.out).mono ?_
    rintro e w' ⟨rfl, rfl⟩
    go_wp2_with fail
    go_ret2
    exact ⟨rfl, Below.refl _ _⟩
  · have HA := Lib.hid ha
    clear ha
    go_enter Try.func43, Try.ntmps43
    go_wp2_with fail
    refine (specAsk_any _ HA.out).mono ?_
    rintro e w' ⟨rfl, rfl⟩
    go_wp2_with fail
    go_ret2
    exact ⟨rfl, Below.refl _ _⟩
  · obtain ⟨hp, a0, a1⟩ := ha.good
    have h0 := hp.1
    have h1 := hp.2.1
    have HA := Lib.hid ha
    have HX := Lib.hid hx
    have az := beq_no hz
    have nn : decide (x < 0) = false := by have := hx.1; simpa using this
    clear hp ha hx hz
    go_enter Try.func43, Try.ntmps43
    go_wp2_with fail
    refine (specAsk_any _ HA.out).mono ?_
    rintro e w' ⟨rfl, rfl⟩
    go_wp2_with fail
    refine (specRt_yes a p x _ h0 h1 HX.out).mono ?_
    rintro e w' ⟨rfl, rfl⟩
    go_wp2_with fail
    go_ret2
    exact ⟨rfl, Below.refl _ _⟩
  · obtain ⟨hp, a0, a1⟩ := ha.good
    have h0 := hp.1
    have h1 := hp.2.1
    have HA := Lib.hid ha
    have HX := Lib.hid hx
    have az := beq_no hz
    clear hp ha hx hz
    go_enter Try.func43, Try.ntmps43
    go_wp2_with fail
    refine (specAsk_any _ HA.out).mono ?_
    rintro e w' ⟨rfl, rfl⟩
    go_wp2_with fail
    refine (specRt_no a p _ h0 h1 HX.out).mono ?_
    rintro e w' ⟨rfl, rfl⟩
    go_wp2_with fail
    go_ret2
    exact ⟨rfl, Below.refl _ _⟩
theorem implLeg_any {p a r c : Int} (w : World) (h : LegRes p a r c) :
    Calls Try.prog 29 #[.int .i64 a, .int .i64 p] w fun e w' => RetC r c w e w' := by
  rcases h with ⟨hc, ha, rfl⟩ | ⟨ha, rfl, rfl, rfl⟩ | ⟨ha, hz, ⟨x, hx⟩, rfl, rfl⟩ | ⟨ha, hz, hx, rfl, rfl⟩
  · have HA := Lib.hid ha.code
    have e1 : (c != 0) = true := by simpa using hc
    clear ha hc
    go_enter Try.func29, Try.ntmps29
    go_wp2_with fail
    refine (numsP_any (one_at _ _ _) HA.out).mono ?_
    rintro e w' ⟨rfl, rfl⟩
    go_wp2_with fail
    go_ret2
    exact ⟨rfl, (Below.refl _ _).alloc (Nat.le_refl _) _⟩
  · have HA := Lib.hid ha.code
    clear ha
    go_enter Try.func29, Try.ntmps29
    go_wp2_with fail
    refine (numsP_any (one_at _ _ _) HA.out).mono ?_
    rintro e w' ⟨rfl, rfl⟩
    go_wp2_with fail
    go_ret2
    exact ⟨rfl, (Below.refl _ _).alloc (Nat.le_refl _) _⟩
  · obtain ⟨hp, a0, a1⟩ := ha.good
    have h0 := hp.1
    have h1 := hp.2.1
    have HA := Lib.hid ha.code
    have HX := Lib.hid hx
    have az := beq_no hz
    clear hp ha hx hz
    go_enter Try.func29, Try.ntmps29
    go_wp2_with fail
    refine (numsP_any (one_at _ _ _) HA.out).mono ?_
    rintro e w' ⟨rfl, rfl⟩
    go_wp2_with fail
    refine (leastSq_yes a p x _ h0 h1 HX.out).mono ?_
    rintro e w1 ⟨rfl, hb1⟩
    go_wp2_with fail
    go_ret2
    exact ⟨rfl, ((Below.refl _ _).alloc (Nat.le_refl _) _).trans (hb1.mono (by simp))⟩
  · obtain ⟨hp, a0, a1⟩ := ha.good
    have h0 := hp.1
    have h1 := hp.2.1
    have HA := Lib.hid ha.code
    have HX := Lib.hid hx
    have az := beq_no hz
    clear hp ha hx hz
    go_enter Try.func29, Try.ntmps29
    go_wp2_with fail
    refine (numsP_any (one_at _ _ _) HA.out).mono ?_
    rintro e w' ⟨rfl, rfl⟩
    go_wp2_with fail
    refine (leastSq_no a p _ h0 h1 HX.out).mono ?_
    rintro e w1 ⟨rfl, hb1⟩
    go_wp2_with fail
    go_ret2
    exact ⟨rfl, ((Below.refl _ _).alloc (Nat.le_refl _) _).trans (hb1.mono (by simp))⟩
end Go.Proofs.Ytlikfgmhhjpggaa
