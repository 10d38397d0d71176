/-
  What the laws' own small functions answer.
-/
import Derived.Test.YtjgajnhefhgpkaaDoorSrc
import Derived.Test.YtjgajnhefhgpkaaDoorInts
namespace Go.Proofs.YtjgajnhefhgpkaaDoor
open Go.RowKit
set_option linter.unusedVariables false

theorem long_yes (a b : Option Addr) (la ca lb cb : Nat) (w : World) (h : 1048576 < la ∨ 1048576 < lb) :
    Calls Tryd.prog 9 #[.slice a la ca, .slice b lb cb] w fun e w' => e = .returned (.bool true) ∧ w = w' := by
  by_cases h1 : (1048576 : Int) < la
  · clear h
    go_enter Tryd.func9, Tryd.ntmps9
    go_wp2_with fail
    go_ret
    exact ⟨rfl, rfl⟩
  · have h2 : (1048576 : Int) < lb := by omega
    clear h
    go_enter Tryd.func9, Tryd.ntmps9
    go_wp2_with fail
    go_ret
    exact ⟨rfl, rfl⟩
theorem long_no (a b : Option Addr) (la ca lb cb : Nat) (w : World) (h1 : la ≤ 1048576) (h2 : lb ≤ 1048576) :
    Calls Tryd.prog 9 #[.slice a la ca, .slice b lb cb] w fun e w' => e = .returned (.bool false) ∧ w = w' := by
  go_enter Tryd.func9, Tryd.ntmps9
  go_wp2_with fail
  go_ret
  have e1 : decide ((1048576 : Int) < (la : Int)) = false := decide_eq_false (by omega)
  have e2 : decide ((1048576 : Int) < (lb : Int)) = false := decide_eq_false (by omega)
  refine ⟨?_, rfl⟩
  show Ending.returned (.bool (decide ((1048576 : Int) < (la : Int)) || decide ((1048576 : Int) < (lb : Int)))) = _
  rw [e1, e2]; rfl
/-- A number below n, nothing written. -/
def RetB (w : World) (n : Nat) (e : Ending) (w' : World) : Prop := ∃ r : Int, 0 ≤ r ∧ r < n ∧ e = .returned (.int .i64 r) ∧ w = w'
theorem at_out (a : Option Addr) (len cap k : Nat) (w : World) (hl : len ≤ 1048576) (hk : k ≤ 100) (h : ¬ k < len) :
    Calls Tryd.prog 39 #[.slice a len cap, .int .i64 (k : Int), .int .i64 256] w fun e w' => RetB w 256 e w' := by
  have h' : (len : Int) ≤ k := by omega
  clear h
  go_enter Tryd.func39, Tryd.ntmps39
  go_wp2_with fail
  go_ret
  exact ⟨0, by omega, by omega, rfl, rfl⟩
theorem at_in (b off len cap k : Nat) (x : Int) (w : World) (hl : len ≤ 1048576) (hk : k < len) (x0 : 0 ≤ x) (x1 : x ≤ 255) (hx : w.cell? ⟨b, off + k, none⟩ = some (.int .u8 x)) :
    Calls Tryd.prog 39 #[.slice (some ⟨b, off, none⟩) len cap, .int .i64 (k : Int), .int .i64 256] w fun e w' => RetB w 256 e w' := by
  have h' : ¬ (len : Int) ≤ k := by omega
  have h2 : (k : Int) < len := by omega
  have h3 : 0 ≤ (k : Int) := by omega
  clear hk
  go_enter Tryd.func39, Tryd.ntmps39
  go_wp2_with fail
  go_ret
  exact ⟨x % 256, by omega, by omega, rfl, rfl⟩
theorem at_any {w : World} {a : Option Addr} {len cap : Nat} (i : Int) (h0 : 0 ≤ i) (hk : i ≤ 100) (h : Bytes w a len) :
    Calls Tryd.prog 39 #[.slice a len cap, .int .i64 i, .int .i64 256] w fun e w' => RetB w 256 e w' := by
  obtain ⟨k, rfl⟩ := Int.eq_ofNat_of_zero_le h0
  have hk : k ≤ 100 := by omega
  obtain ⟨hl, h⟩ := h
  by_cases hc : k < len
  · rcases h with rfl | ⟨b, off, rfl, hb, hx⟩
    · exact absurd hc (by omega)
    · obtain ⟨x, x0, x1, hx⟩ := hx k hc
      exact at_in b off len cap k x w hl hc x0 x1 hx
  · exact at_out a len cap k w hl hk hc
theorem wide_any {w : World} {a : Option Addr} {len cap : Nat} (k : Int) (n : Nat) (h0 : 0 ≤ k) (hk : k ≤ 90) (hn0 : 1 ≤ n) (hn : n ≤ 65536) (h : Bytes w a len) :
    Calls Tryd.prog 14 #[.slice a len cap, .int .i64 k, .int .i64 (n : Int)] w fun e w' => RetB w n e w' := by
  have H := Lib.hid h
  have n3 : ¬ (n : Int) = 0 := by omega
  clear h
  go_enter Tryd.func14, Tryd.ntmps14
  go_wp2_with fail
  refine (at_any k h0 (by omega) H.out).mono ?_
  rintro e w1 ⟨x, x0, x1, rfl, rfl⟩
  go_wp2_with fail
  refine (at_any (k + 1) (by omega) (by omega) H.out).mono ?_
  rintro e w1 ⟨y, y0, y1, rfl, rfl⟩
  go_wp2_with fail
  go_ret
  exact ⟨(256 * x + y) % n, Int.emod_nonneg _ (by omega), Int.emod_lt_of_pos _ (by omega), rfl, rfl⟩
def absI (n : Int) : Int := if n < 0 then -n else n
theorem abs_any (n : Int) (w : World) (h0 : -9223372036854775807 ≤ n) (h1 : n ≤ 9223372036854775807) :
    Calls Tryd.prog 13 #[.int .i64 n] w fun e w' => e = .returned (.int .i64 (absI n)) ∧ w = w' := by
  by_cases h : n < 0
  · have e : absI n = -n := by unfold absI; rw [if_pos h]
    rw [e]
    go_enter Tryd.func13, Tryd.ntmps13
    go_wp2_with fail
    go_ret
    exact ⟨rfl, rfl⟩
  · have e : absI n = n := by unfold absI; rw [if_neg h]
    rw [e]
    go_enter Tryd.func13, Tryd.ntmps13
    go_wp2_with fail
    go_ret
    exact ⟨rfl, rfl⟩
set_option maxHeartbeats 400000 in
theorem sameI_some (b1 o1 c1 b2 o2 c2 : Nat) (zs : List Int) (w : World) (hl : zs.length ≤ 1048576)
    (h1 : ∀ j (h : j < zs.length), w.cell? ⟨b1, o1 + j, none⟩ = some (.int .i64 zs[j])) (h2 : ∀ j (h : j < zs.length), w.cell? ⟨b2, o2 + j, none⟩ = some (.int .i64 zs[j])) :
    Calls Tryd.prog 20 #[.slice (some ⟨b1, o1, none⟩) zs.length c1, .slice (some ⟨b2, o2, none⟩) zs.length c2] w fun e w' => e = .returned (.bool true) ∧ ∃ n, w' = w.drewN n := by
  have H1 := Lib.hid h1
  have H2 := Lib.hid h2
  clear h1 h2
  go_enter Tryd.func20, Tryd.ntmps20
  go_wp2
  go_loopw [5] (fun i wr => ∃ k n : Nat, k ≤ zs.length ∧ i = .int .i64 (k : Int) ∧ wr = w.drewN n) (fun i _ => zs.length - (intOf i).toNat)
  case atStart => exact ⟨0, 0, Nat.zero_le _, rfl, rfl⟩
  case round =>
    obtain ⟨k, n, hk, rfl, rfl⟩ := hrel
    by_cases hlt : k < zs.length
    · obtain ⟨z, hz⟩ : ∃ z, zs[k] = z := ⟨_, rfl⟩
      have c1 := H1.out k hlt
      have c2 := H2.out k hlt
      rw [hz] at c1 c2
      clear hz
      have i0 : 0 ≤ (k : Int) := by omega
      have i1 : (k : Int) < zs.length := by omega
      have eb : (z != z) = false := by simp
      go_wp2
      go_quiet (fail)
      go_wp2
      go_roundw
      case rel => exact ⟨k + 1, _, by omega, by go_num, rfl⟩
      case measure => simp [intOf]; omega
    · go_wp2
      go_ret
      exact ⟨rfl, _, rfl⟩

theorem sameI_none (a1 a2 : Option Addr) (c1 c2 : Nat) (w : World) :
    Calls Tryd.prog 20 #[.slice a1 0 c1, .slice a2 0 c2] w fun e w' => e = .returned (.bool true) ∧ ∃ n, w' = w.drewN n := by
  go_enter Tryd.func20, Tryd.ntmps20
  go_wp2
  refine wp_loop_rounds 1 ?_
  rw [rounds_succ]
  go_wp2
  go_ret
  exact ⟨rfl, 0, rfl⟩
theorem sameI_any {v1 v2 : Value} {zs : List Int} {w : World} (h1 : IntsAt w v1 zs) (h2 : IntsAt w v2 zs) :
    Calls Tryd.prog 20 #[v1, v2] w fun e w' => e = .returned (.bool true) ∧ ∃ n, w' = w.drewN n := by
  obtain ⟨a1, c1, rfl, hl, h1⟩ := h1
  obtain ⟨a2, c2, rfl, _, h2⟩ := h2
  by_cases hz : zs = []
  · subst hz
    exact sameI_none a1 a2 c1 c2 w
  · rcases h1 with rfl | ⟨b1, o1, rfl, _, h1⟩
    · exact absurd rfl hz
    rcases h2 with rfl | ⟨b2, o2, rfl, _, h2⟩
    · exact absurd rfl hz
    exact sameI_some b1 o1 c1 b2 o2 c2 zs w hl h1 h2

end Go.Proofs.YtjgajnhefhgpkaaDoor
