/-
  Contracts of the tests for valid matrices, of the model and of the program; a matrix has at most 1048576 cells.
-/
import Derived.Test.YtabanmaaagmeaaaMxA
import Derived.Deep.QuietTactic
import Derived.BigQuiet
namespace Go.Proofs.Ytabanmaaagmeaaa
open Go.RowKit
set_option linter.unusedVariables false

theorem quiet_left {P : Program} {f : FuncId} {args : Array Value} {w : World} {n : Nat} {v : Value}
    (h : Calls P f args (w.drewN n) fun e w' => e = .returned v ∧ w.drewN n = w') : Calls P f args (w.drewN n) fun e w'' => e = .returned v ∧ ∃ m, w'' = w.drewN m :=
  h.mono fun _ _ ⟨he, hm⟩ => ⟨he, n, hm.symm⟩
/-- lo ≤ n ≤ hi, as a Bool. -/
def inB (n lo hi : Int) : Bool := decide (lo ≤ n ∧ n ≤ hi)
theorem inB_yes {n lo hi : Int} (h0 : lo ≤ n) (h1 : n ≤ hi) : inB n lo hi = true := by simp [inB, h0, h1]
theorem inB_no {n lo hi : Int} (h : n < lo ∨ hi < n) : inB n lo hi = false := by simp only [inB, decide_eq_false_iff_not]; omega
theorem l00In_b (n lo hi : Int) (w : World) :
    Calls Try.prog 85 #[.int .i64 n, .int .i64 lo, .int .i64 hi] w fun e w' => e = .returned (.bool (inB n lo hi)) ∧ w = w' := by
  by_cases h : lo ≤ n ∧ n ≤ hi
  · rw [inB_yes h.1 h.2]; exact l00In_yes _ _ _ _ h.1 h.2
  · rw [inB_no (by omega)]; exact l00In_no _ _ _ _ (by omega)
/-- p is a prime, as a Bool. -/
noncomputable def prB (p : Int) : Bool := by classical exact decide (IsPr p)
theorem prB_yes {p : Int} (h : IsPr p) : prB p = true := by simp [prB, h]
theorem prB_no {p : Int} (h : ¬ IsPr p) : prB p = false := by simp [prB, h]
theorem specVP_b (p : Int) (w : World) :
    Calls Try.prog 84 #[.int .i64 p] w fun e w' => e = .returned (.bool (prB p)) ∧ w = w' := by
  by_cases h : IsPr p
  · have HP := Lib.hid h
    rw [prB_yes h]
    clear h
    go_enter Try.func84, Try.ntmps84
    go_wp2_with fail
    refine (specPrime_yes _ _ HP.out).mono ?_
    rintro e w' ⟨rfl, rfl⟩
    go_wp2_with fail
    go_ret
    exact ⟨rfl, rfl⟩
  · have HP := Lib.hid h
    rw [prB_no h]
    clear h
    go_enter Try.func84, Try.ntmps84
    go_wp2_with fail
    refine (specPrime_no _ _ HP.out).mono ?_
    rintro e w' ⟨rfl, rfl⟩
    go_wp2_with fail
    go_ret
    exact ⟨rfl, rfl⟩

theorem specVP_is {p : Int} {b : Bool} (w : World) (h : prB p = b) :
    Calls Try.prog 84 #[.int .i64 p] w fun e w' => e = .returned (.bool b) ∧ w = w' := by subst h; exact specVP_b p w
theorem l00In_is {n lo hi : Int} {b : Bool} (w : World) (h : inB n lo hi = b) :
    Calls Try.prog 85 #[.int .i64 n, .int .i64 lo, .int .i64 hi] w fun e w' => e = .returned (.bool b) ∧ w = w' := by subst h; exact l00In_b n lo hi w

/-! ### A column -/
/-- A list has n numbers modulo p, as a Bool. -/
noncomputable def colB (zs : List Int) (n p : Int) : Bool := by classical exact decide (NumOk p zs ∧ (zs.length : Int) = n)
theorem colB_yes {zs : List Int} {n p : Int} (h : NumOk p zs) (hl : (zs.length : Int) = n) : colB zs n p = true := by simp [colB, h, hl]
theorem colB_no {zs : List Int} {n p : Int} (h : ¬ (NumOk p zs ∧ (zs.length : Int) = n)) : colB zs n p = false := by simp only [colB, decide_eq_false_iff_not]; exact h
theorem specCol_nil (p n : Int) (a : Option Addr) (cap : Nat) (w : World) :
    Calls Try.prog 93 #[.slice a 0 cap, .int .i64 n, .int .i64 p] w fun e w' => e = .returned (.bool (decide ((0 : Int) = n))) ∧ w = w' := by
  by_cases hn : (0 : Int) = n
  · subst hn
    go_enter Try.func93, Try.ntmps93
    go_wp2
    refine wp_loop_rounds 1 ?_
    rw [rounds_succ]
    go_wp2
    go_ret
    exact ⟨rfl, rfl⟩
  · have e1 : ((0 : Int) == n) = false := by simpa using hn
    rw [decide_eq_false hn]
    clear hn
    go_enter Try.func93, Try.ntmps93
    go_wp2
    refine wp_loop_rounds 1 ?_
    rw [rounds_succ]
    go_wp2
    go_ret
    exact ⟨rfl, rfl⟩
set_option maxHeartbeats 800000 in
theorem specCol_some (p n : Int) (b off cap : Nat) (zs : List Int) (ok : Bool) (w : World) (p0 : 2 ≤ p) (p1 : p ≤ 251) (hl : zs.length ≤ 1048576)
    (h1 : ∀ j (h : j < zs.length), w.cell? ⟨b, off + j, none⟩ = some (.int .i64 zs[j])) (hok : colB zs n p = ok) :
    Calls Try.prog 93 #[.slice (some ⟨b, off, none⟩) zs.length cap, .int .i64 n, .int .i64 p] w fun e w' => e = .returned (.bool ok) ∧ w = w' := by
  have H1 := Lib.hid h1
  have HC := Lib.hid hok
  clear h1 hok
  go_enter Try.func93, Try.ntmps93
  go_wp2
  go_loop [7] (fun i => ∃ k : Nat, k ≤ zs.length ∧ i = .int .i64 (k : Int) ∧ Hid (Till (fun z => 0 ≤ z ∧ z ≤ p - 1) zs k)) (fun i => zs.length - (intOf i).toNat)
  case atStart => exact ⟨0, Nat.zero_le _, rfl, Till.zero _ _⟩
  case round =>
    obtain ⟨k, hk, rfl, HT⟩ := hrel
    by_cases hlt : k < zs.length
    · have HZ := Lib.hid (fun hz => HT.out.next hlt hz)
      have c1 := H1.out k hlt
      have HN : Hid (NumOk p zs → 0 ≤ zs[k] ∧ zs[k] ≤ p - 1) := fun h => h k hlt
      obtain ⟨z, hz⟩ : ∃ z, zs[k] = z := ⟨_, rfl⟩
      rw [hz] at c1 HZ HN
      clear hz
      have i0 : (k : Int) < zs.length := by omega
      by_cases hin : z < 0 ∨ p - 1 < z
      · have hc2 : ok = false := by
          rw [← HC.out]
          refine colB_no fun h => ?_
          have := HN.out h.1
          omega
        subst hc2
        have HI := Lib.hid hin
        clear hin
        go_wp2_with fail
        refine (l00In_no _ _ _ _ HI.out).mono ?_
        rintro e w' ⟨rfl, rfl⟩
        go_wp2_with fail
        go_ret
        exact ⟨rfl, rfl⟩
      · have z0 : 0 ≤ z := by omega
        have z1 : z ≤ p - 1 := by omega
        have HT2 := Lib.hid (HZ.out ⟨z0, z1⟩)
        clear hin
        go_wp2_with fail
        refine (l00In_yes _ _ _ _ z0 z1).mono ?_
        rintro e w' ⟨rfl, rfl⟩
        go_wp2_with fail
        go_round
        case rel => exact ⟨k + 1, by omega, by go_num, HT2⟩
        case measure => simp [intOf]; omega
    · have hn : NumOk p zs := fun j hj => HT.out j hj (by omega)
      have e : ((zs.length : Int) == n) = ok := by
        rw [← HC.out]
        by_cases hl : (zs.length : Int) = n
        · rw [colB_yes hn hl]; simpa using hl
        · rw [colB_no (fun h => hl h.2)]; simpa using hl
      clear hn
      go_wp2
      go_ret
      exact ⟨rfl, rfl⟩
theorem specCol_any {p n : Int} {v : Value} {zs : List Int} {w : World} (p0 : 2 ≤ p) (p1 : p ≤ 251) (hv : IntsAt w v zs) :
    Calls Try.prog 93 #[v, .int .i64 n, .int .i64 p] w fun e w' => e = .returned (.bool (colB zs n p)) ∧ w = w' := by
  obtain ⟨a, cap, rfl, hl, rfl | ⟨b, off, rfl, hb, h1⟩⟩ := hv
  · have e : colB [] n p = decide ((0 : Int) = n) := by
      unfold colB
      have h : NumOk p [] := fun j hj => absurd hj (Nat.not_lt_zero _)
      simp [h]
    rw [e]
    exact specCol_nil p n a cap w
  · exact specCol_some p n b off cap zs _ w p0 p1 hl h1 rfl

/-- A matrix is valid, as a Bool. -/
noncomputable def okB (p r c : Int) (zs : List Int) : Bool := by classical exact decide (MOk p r c zs)
theorem okB_yes {p r c : Int} {zs : List Int} (h : MOk p r c zs) : okB p r c zs = true := by simp [okB, h]
theorem okB_no {p r c : Int} {zs : List Int} (h : ¬ MOk p r c zs) : okB p r c zs = false := by simp [okB, h]
theorem mul_side {r c : Int} (r0 : 0 ≤ r) (r1 : r ≤ 32) (c0 : 0 ≤ c) (c1 : c ≤ 32) : 0 ≤ r * c ∧ r * c ≤ 1024 := by
  have h := Int.mul_le_mul r1 c1 c0 (by omega)
  exact ⟨Int.mul_nonneg r0 c0, by omega⟩
set_option maxRecDepth 100000 in
set_option maxHeartbeats 1600000 in
theorem specOk_side {p r c : Int} {v : Value} {zs : List Int} {L : Nat} {w : World} (hp : PtM w L p r c v) (hv : IntsAt w v zs) (s : Int) (p0 : 2 ≤ p) (p1 : p ≤ 251) (g0 : prB p = true) (g1 : inB r 0 32 = true) (g2 : inB c 0 32 = true) (m0 : 0 ≤ s) (m1 : s ≤ 1024) (wr : IntKind.i64.wrap (r * c) = s) :
    Calls Try.prog 81 #[.pointer (some ⟨L, 0, none⟩)] w fun e w' => e = .returned (.bool (colB zs s p)) ∧ ∃ n, w' = w.drewN n := by
  obtain ⟨hL, k0, k1, k2, k3⟩ := hp
  have HV := Lib.hid hv
  obtain ⟨a, cap, rfl, hl, _⟩ := hv
  go_enter Try.func81, Try.ntmps81
  go_wp2
  go_quiet ((first
    | (go_at_call 84; exact quiet_left (specVP_is _ g0))
    | (go_at_call 85; exact quiet_left (l00In_is _ (by assumption)))
    | (go_at_call 93; exact quiet_left (specCol_any p0 p1 (HV.out)))))
  go_wp2
  go_ret
  exact ⟨rfl, _, rfl⟩
set_option maxRecDepth 100000 in
set_option maxHeartbeats 1600000 in
theorem specOk_c {p r c : Int} {v : Value} {zs : List Int} {L : Nat} {w : World} (hp : PtM w L p r c v) (hv : IntsAt w v zs) (g0 : prB p = true) (g1 : inB r 0 32 = true) (g2 : inB c 0 32 = false) :
    Calls Try.prog 81 #[.pointer (some ⟨L, 0, none⟩)] w fun e w' => e = .returned (.bool false) ∧ ∃ n, w' = w.drewN n := by
  obtain ⟨hL, k0, k1, k2, k3⟩ := hp
  have HV := Lib.hid hv
  obtain ⟨a, cap, rfl, hl, _⟩ := hv
  go_enter Try.func81, Try.ntmps81
  go_wp2
  go_quiet ((first
    | (go_at_call 84; exact quiet_left (specVP_is _ g0))
    | (go_at_call 85; exact quiet_left (l00In_is _ (by assumption)))))
  go_wp2
  go_ret
  exact ⟨rfl, _, rfl⟩
set_option maxRecDepth 100000 in
set_option maxHeartbeats 1600000 in
theorem specOk_r {p r c : Int} {v : Value} {zs : List Int} {L : Nat} {w : World} (hp : PtM w L p r c v) (hv : IntsAt w v zs) (g0 : prB p = true) (g1 : inB r 0 32 = false) :
    Calls Try.prog 81 #[.pointer (some ⟨L, 0, none⟩)] w fun e w' => e = .returned (.bool false) ∧ ∃ n, w' = w.drewN n := by
  obtain ⟨hL, k0, k1, k2, k3⟩ := hp
  have HV := Lib.hid hv
  obtain ⟨a, cap, rfl, hl, _⟩ := hv
  go_enter Try.func81, Try.ntmps81
  go_wp2
  go_quiet ((first
    | (go_at_call 84; exact quiet_left (specVP_is _ g0))
    | (go_at_call 85; exact quiet_left (l00In_is _ (by assumption)))))
  go_wp2
  go_ret
  exact ⟨rfl, _, rfl⟩
set_option maxRecDepth 100000 in
set_option maxHeartbeats 1600000 in
theorem specOk_p {p r c : Int} {v : Value} {zs : List Int} {L : Nat} {w : World} (hp : PtM w L p r c v) (hv : IntsAt w v zs) (g0 : prB p = false) :
    Calls Try.prog 81 #[.pointer (some ⟨L, 0, none⟩)] w fun e w' => e = .returned (.bool false) ∧ ∃ n, w' = w.drewN n := by
  obtain ⟨hL, k0, k1, k2, k3⟩ := hp
  have HV := Lib.hid hv
  obtain ⟨a, cap, rfl, hl, _⟩ := hv
  go_enter Try.func81, Try.ntmps81
  go_wp2
  go_quiet ((first
    | (go_at_call 84; exact quiet_left (specVP_is _ g0))
    | (go_at_call 85; exact quiet_left (l00In_is _ (by assumption)))))
  go_wp2
  go_ret
  exact ⟨rfl, _, rfl⟩
theorem specOk_any {p r c : Int} {v : Value} {zs : List Int} {L : Nat} {w : World} (hp : PtM w L p r c v) (hv : IntsAt w v zs) :
    Calls Try.prog 81 #[.pointer (some ⟨L, 0, none⟩)] w fun e w' => e = .returned (.bool (okB p r c zs)) ∧ ∃ n, w' = w.drewN n := by
  by_cases hP : IsPr p
  · by_cases hr : 0 ≤ r ∧ r ≤ 32
    · by_cases hc : 0 ≤ c ∧ c ≤ 32
      · have hm := mul_side hr.1 hr.2 hc.1 hc.2
        have e : okB p r c zs = colB zs (r * c) p := by
          by_cases h : MOk p r c zs
          · rw [okB_yes h, colB_yes h.2.2.2.2.2.2 h.2.2.2.2.2.1]
          · rw [okB_no h, colB_no fun h2 => h ⟨hP, hr.1, hr.2, hc.1, hc.2, h2.2, h2.1⟩]
        rw [e]
        exact specOk_side hp hv (r * c) hP.1 hP.2.1 (prB_yes hP) (inB_yes hr.1 hr.2) (inB_yes hc.1 hc.2) hm.1 hm.2 (IntWalk.i64_in _ (by omega))
      · rw [okB_no fun h => hc ⟨h.2.2.2.1, h.2.2.2.2.1⟩]
        exact specOk_c hp hv (prB_yes hP) (inB_yes hr.1 hr.2) (inB_no (by omega))
    · rw [okB_no fun h => hr ⟨h.2.1, h.2.2.1⟩]
      exact specOk_r hp hv (prB_yes hP) (inB_no (by omega))
  · rw [okB_no fun h => hP h.1]
    exact specOk_p hp hv (prB_no hP)
set_option maxRecDepth 100000 in
theorem specVM_any {p r c : Int} {v : Value} {zs : List Int} {w : World} (hv : IntsAt w v zs) :
    Calls Try.prog 36 #[.agg #[.int .i64 p, .int .i64 r, .int .i64 c, v]] w fun e w' => e = .returned (.bool (okB p r c zs)) ∧ Below w.heap.size w w' := by
  have HV := Lib.hid hv
  obtain ⟨a, cap, rfl, hl, _⟩ := hv
  go_enter Try.func36, Try.ntmps36
  go_wp2_with fail
  refine (specOk_any (PtM.new _ _ _ _ _ _) (HV.out.on ((Below.refl _ _).alloc (Nat.le_refl _) _))).mono ?_
  rintro e w1 ⟨rfl, n, rfl⟩
  go_wp2_with fail
  go_ret
  exact ⟨rfl, below_drewX ((Below.refl _ _).alloc (Nat.le_refl _) _) n⟩

theorem specVM_r {p r c : Int} {v : Value} {zs : List Int} {T : Bool} {w : World} (hv : IntsAt w v zs) (h : T = okB p r c zs) :
    Calls Try.prog 36 #[.agg #[.int .i64 p, .int .i64 r, .int .i64 c, v]] w fun e w' => e = .returned (.bool T) ∧ Below w.heap.size w w' := by subst h; exact specVM_any hv
end Go.Proofs.Ytabanmaaagmeaaa
