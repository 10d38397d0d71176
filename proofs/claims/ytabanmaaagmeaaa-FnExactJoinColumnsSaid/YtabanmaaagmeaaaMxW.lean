/-
  Contracts of the program's test for valid matrices.
-/
import Derived.Test.YtabanmaaagmeaaaMxV
namespace Go.Proofs.Ytabanmaaagmeaaa
open Go.RowKit
set_option linter.unusedVariables false

/-! ### The program's test -/
theorem numCode_has (p : Int) (zs : List Int) : ∃ c, NumCode p zs c ∧ (c == 0) = decide (c = 0) := by
  by_cases hp : IsPr p
  · by_cases hn : NumOk p zs
    · exact ⟨0, .inr (.inr ⟨hp, hn, rfl⟩), rfl⟩
    · exact ⟨2, .inr (.inl ⟨hp, hn, rfl⟩), rfl⟩
  · exact ⟨1, .inl ⟨hp, rfl⟩, rfl⟩
theorem side_b (n : Int) (w : World) :
    Calls Try.prog 73 #[.int .i64 n] w fun e w' => e = .returned (.bool (inB n 0 32)) ∧ w = w' := by
  by_cases h : 0 ≤ n ∧ n ≤ 32
  · rw [inB_yes h.1 h.2]
    go_enter Try.func73, Try.ntmps73
    go_wp2_with fail
    refine (within64_yes _ _ _ _ h.1 h.2).mono ?_
    rintro e w' ⟨rfl, rfl⟩
    go_wp2_with fail
    go_ret
    exact ⟨rfl, rfl⟩
  · have H : Hid (n < 0 ∨ 32 < n) := by show _ ∨ _; omega
    rw [inB_no H.out]
    clear h
    go_enter Try.func73, Try.ntmps73
    go_wp2_with fail
    refine (within64_no _ _ _ _ H.out).mono ?_
    rintro e w' ⟨rfl, rfl⟩
    go_wp2_with fail
    go_ret
    exact ⟨rfl, rfl⟩
theorem side_is {n : Int} {b : Bool} (w : World) (h : inB n 0 32 = b) :
    Calls Try.prog 73 #[.int .i64 n] w fun e w' => e = .returned (.bool b) ∧ w = w' := by subst h; exact side_b n w
set_option maxRecDepth 100000 in
set_option maxHeartbeats 800000 in
theorem implVM_all {p r c : Int} {v : Value} {zs : List Int} {w : World} (hv : IntsAt w v zs) (s k : Int) (g1 : inB r 0 32 = true) (g2 : inB c 0 32 = true) (m0 : 0 ≤ s) (m1 : s ≤ 1024) (wr : IntKind.i64.wrap (r * c) = s) (e1 : ((zs.length : Int) != s) = false) (hk : NumCode p zs k) :
    Calls Try.prog 38 #[.agg #[.int .i64 p, .int .i64 r, .int .i64 c, v]] w fun e w' => e = .returned (.bool (k == 0)) ∧ Below w.heap.size w w' := by
  have HV := Lib.hid hv
  obtain ⟨a, cap, rfl, hl, _⟩ := hv
  have HK := Lib.hid hk
  clear hk
  go_enter Try.func38, Try.ntmps38
  go_wp2_with fail
  refine (side_is _ (by assumption)).mono ?_
  rintro e w' ⟨rfl, rfl⟩
  go_wp2_with fail
  refine (side_is _ (by assumption)).mono ?_
  rintro e w' ⟨rfl, rfl⟩
  go_wp2_with fail
  refine (numsP_any (HV.out.on ((Below.refl _ _).alloc (Nat.le_refl _) _)) HK.out).mono ?_
  rintro e w' ⟨rfl, rfl⟩
  go_wp2_with fail
  go_ret
  exact ⟨rfl, (Below.refl _ _).alloc (Nat.le_refl _) _⟩
set_option maxRecDepth 100000 in
set_option maxHeartbeats 800000 in
theorem implVM_len {p r c : Int} {v : Value} {zs : List Int} {w : World} (hv : IntsAt w v zs) (s : Int) (g1 : inB r 0 32 = true) (g2 : inB c 0 32 = true) (m0 : 0 ≤ s) (m1 : s ≤ 1024) (wr : IntKind.i64.wrap (r * c) = s) (e1 : ((zs.length : Int) != s) = true) :
    Calls Try.prog 38 #[.agg #[.int .i64 p, .int .i64 r, .int .i64 c, v]] w fun e w' => e = .returned (.bool false) ∧ Below w.heap.size w w' := by
  have HV := Lib.hid hv
  obtain ⟨a, cap, rfl, hl, _⟩ := hv
  go_enter Try.func38, Try.ntmps38
  go_wp2_with fail
  refine (side_is _ (by assumption)).mono ?_
  rintro e w' ⟨rfl, rfl⟩
  go_wp2_with fail
  refine (side_is _ (by assumption)).mono ?_
  rintro e w' ⟨rfl, rfl⟩
  go_wp2_with fail
  go_ret
  exact ⟨rfl, (Below.refl _ _).alloc (Nat.le_refl _) _⟩
set_option maxRecDepth 100000 in
set_option maxHeartbeats 800000 in
theorem implVM_c {p r c : Int} {v : Value} {zs : List Int} {w : World} (hv : IntsAt w v zs) (g1 : inB r 0 32 = true) (g2 : inB c 0 32 = false) :
    Calls Try.prog 38 #[.agg #[.int .i64 p, .int .i64 r, .int .i64 c, v]] w fun e w' => e = .returned (.bool false) ∧ Below w.heap.size w w' := by
  have HV := Lib.hid hv
  obtain ⟨a, cap, rfl, hl, _⟩ := hv
  go_enter Try.func38, Try.ntmps38
  go_wp2_with fail
  refine (side_is _ (by assumption)).mono ?_
  rintro e w' ⟨rfl, rfl⟩
  go_wp2_with fail
  refine (side_is _ (by assumption)).mono ?_
  rintro e w' ⟨rfl, rfl⟩
  go_wp2_with fail
  go_ret
  exact ⟨rfl, (Below.refl _ _).alloc (Nat.le_refl _) _⟩
set_option maxRecDepth 100000 in
set_option maxHeartbeats 800000 in
theorem implVM_rr {p r c : Int} {v : Value} {zs : List Int} {w : World} (hv : IntsAt w v zs) (g1 : inB r 0 32 = false) :
    Calls Try.prog 38 #[.agg #[.int .i64 p, .int .i64 r, .int .i64 c, v]] w fun e w' => e = .returned (.bool false) ∧ Below w.heap.size w w' := by
  have HV := Lib.hid hv
  obtain ⟨a, cap, rfl, hl, _⟩ := hv
  go_enter Try.func38, Try.ntmps38
  go_wp2_with fail
  refine (side_is _ (by assumption)).mono ?_
  rintro e w' ⟨rfl, rfl⟩
  go_wp2_with fail
  go_ret
  exact ⟨rfl, (Below.refl _ _).alloc (Nat.le_refl _) _⟩
theorem implVM_any {p r c : Int} {v : Value} {zs : List Int} {w : World} (hv : IntsAt w v zs) :
    Calls Try.prog 38 #[.agg #[.int .i64 p, .int .i64 r, .int .i64 c, v]] w fun e w' => e = .returned (.bool (okB p r c zs)) ∧ Below w.heap.size w w' := by
  by_cases hr : 0 ≤ r ∧ r ≤ 32
  · by_cases hc : 0 ≤ c ∧ c ≤ 32
    · have hm := mul_side hr.1 hr.2 hc.1 hc.2
      by_cases hz : (zs.length : Int) = r * c
      · obtain ⟨k, hk, hk0⟩ := numCode_has p zs
        have e : okB p r c zs = (k == 0) := by
          rcases hk with ⟨h, rfl⟩ | ⟨_, h, rfl⟩ | ⟨h, h2, rfl⟩
          · rw [okB_no fun g => h g.1]; rfl
          · rw [okB_no fun g => h g.2.2.2.2.2.2]; rfl
          · rw [okB_yes ⟨h, hr.1, hr.2, hc.1, hc.2, hz, h2⟩]; rfl
        rw [e]
        exact implVM_all hv (r * c) k (inB_yes hr.1 hr.2) (inB_yes hc.1 hc.2) hm.1 hm.2 (IntWalk.i64_in _ (by omega)) (by simpa using hz) hk
      · rw [okB_no fun h => hz h.2.2.2.2.2.1]
        exact implVM_len hv (r * c) (inB_yes hr.1 hr.2) (inB_yes hc.1 hc.2) hm.1 hm.2 (IntWalk.i64_in _ (by omega)) (by simpa using hz)
    · rw [okB_no fun h => hc ⟨h.2.2.2.1, h.2.2.2.2.1⟩]
      exact implVM_c hv (inB_yes hr.1 hr.2) (inB_no (by omega))
  · rw [okB_no fun h => hr ⟨h.2.1, h.2.2.1⟩]
    exact implVM_rr hv (inB_no (by omega))
theorem implVM_r {p r c : Int} {v : Value} {zs : List Int} {T : Bool} {w : World} (hv : IntsAt w v zs) (h : T = okB p r c zs) :
    Calls Try.prog 38 #[.agg #[.int .i64 p, .int .i64 r, .int .i64 c, v]] w fun e w' => e = .returned (.bool T) ∧ Below w.heap.size w w' := by subst h; exact implVM_any hv
end Go.Proofs.Ytabanmaaagmeaaa
