/-
  The contract of 'a multiple of numbers is added to others', as the program does it, in a row of the call's own.
-/
import Derived.Test.YtabanmaaagmeaaaMxU
import Derived.Test.YtabanmaaagmeaaaModu
namespace Go.Proofs.Ytabanmaaagmeaaa
open Go.RowKit
open Lin
set_option linter.unusedVariables false
set_option linter.unusedSectionVars false

/-- The row behind it: from os on, n sums. -/
def AddF {q : Nat} [NeZero q] (F : Nat → Value) (os n : Nat) (X Y : Nat → Fin q) (c : Fin q) (t : Nat) : Value :=
  if os ≤ t ∧ t < os + n then .int .i64 (fv (X (t - os) + Y (t - os) * c)) else F t
theorem addF_zero {q : Nat} [NeZero q] (F : Nat → Value) (os : Nat) (X Y : Nat → Fin q) (c : Fin q) (t : Nat) : AddF F os 0 X Y c t = F t := by unfold AddF; rw [if_neg (by omega)]
theorem addF_next {q : Nat} [NeZero q] {F : Nat → Value} {os k : Nat} {X Y : Nat → Fin q} {c : Fin q} (t : Nat) : (if t = os + k then Value.int .i64 (fv (X k + Y k * c)) else AddF F os k X Y c t) = AddF F os (k + 1) X Y c t := by
  unfold AddF
  by_cases e : t = os + k
  · subst e; rw [if_pos rfl, if_pos (by omega), Nat.add_sub_cancel_left]
  · rw [if_neg e]
    by_cases h : os ≤ t ∧ t < os + k
    · rw [if_pos h, if_pos (by omega)]
    · rw [if_neg h, if_neg (by omega)]
/-- How it ends. -/
def RetAdd (gs N : Nat) (G : Nat → Value) (w : World) (e : Ending) (w' : World) : Prop := e = .returned (.tuple #[]) ∧ w'.rowIs gs 2 N G ∧ w.grownBy w' (some gs)
theorem addMul_nil {gs N : Nat} {F : Nat → Value} {a1 a2 : Option Addr} {n1 c1 c2 : Nat} (f p : Int) (w : World) (h : w.rowIs gs 2 N F) :
    Calls Try.prog 79 #[.slice a1 n1 c1, .slice a2 0 c2, .int .i64 f, .int .i64 p] w fun e w' => RetAdd gs N F w e w' := by
  have H := Lib.hid h
  clear h
  go_enter Try.func79, Try.ntmps79
  go_wp2
  refine wp_loop_rounds 1 ?_
  rw [rounds_succ]
  go_wp2
  go_end0
  exact ⟨rfl, H.out, grown_refl _ _⟩
theorem fv_sum_bd {q : Nat} [NeZero q] (hq : q ≤ 251) (x y c : Fin q) : 0 ≤ fv y * fv c ∧ fv y * fv c ≤ 62500 ∧ 0 ≤ fv x ∧ fv x ≤ 250 := by
  have hx0 := fv_nn x; have hx := fv_lt x; have hy0 := fv_nn y; have hy := fv_lt y; have hc0 := fv_nn c; have hc := fv_lt c
  have h := Int.mul_le_mul (show fv y ≤ 250 by omega) (show fv c ≤ 250 by omega) hc0 (by omega)
  exact ⟨Int.mul_nonneg hy0 hc0, by omega, hx0, by omega⟩
set_option maxRecDepth 100000 in
set_option maxHeartbeats 1600000 in
theorem addMul_some {q : Nat} [NeZero q] {gs os ms cs b o cb n N : Nat} {F : Nat → Value} {X Y : Nat → Fin q} {c : Fin q} {w : World} (hq2 : 2 ≤ q) (hq : q ≤ 251) (hn : n ≤ 1048576) (hrow : w.rowIs gs 2 N F) (hfit : os + n ≤ N) (hms : n ≤ ms) (hm2 : ms ≤ maxLen) (hb : b ≠ gs) (hb2 : b < w.heap.size)
    (hX : ∀ j, j < n → F (os + j) = .int .i64 (fv (X j))) (hY : ∀ j, j < n → w.cell? ⟨b, o + j, none⟩ = some (.int .i64 (fv (Y j)))) :
    Calls Try.prog 79 #[.slice (some ⟨gs, os, none⟩) ms cs, .slice (some ⟨b, o, none⟩) n cb, .int .i64 (fv c), .int .i64 (q : Int)] w fun e w' => RetAdd gs N (AddF F os n X Y c) w e w' := by
  unfold maxLen at hm2
  have HR := Lib.hid hrow
  have HX := Lib.hid hX
  have HY := Lib.hid hY
  have kz : ¬ (q : Int) = 0 := by omega
  have q2 : (2 : Int) ≤ q := by omega
  obtain ⟨f, hf⟩ : ∃ f, fv c = f := ⟨_, rfl⟩
  have HF := Lib.hid hf
  rw [hf]
  clear hrow hX hY hf
  go_enter Try.func79, Try.ntmps79
  go_wp2
  go_loopw [12] (fun i wr => ∃ k : Nat, k ≤ n ∧ i = .int .i64 (k : Int) ∧ Hid (wr.rowIs gs 2 N (AddF F os k X Y c)) ∧ Hid (w.grownBy wr (some gs))) (fun i _ => n - (intOf i).toNat)
  case atStart => exact ⟨0, Nat.zero_le _, rfl, HR.out.congr fun t _ => (addF_zero F os X Y c t).symm, grown_refl _ _⟩
  case round =>
    obtain ⟨k, hk, rfl, HS, HG⟩ := hrel
    by_cases hlt : k < n
    · have c1 : wr.cell? ⟨b, o + k, none⟩ = some (.int .i64 (fv (Y k))) := (World.cell?_of_block (HG.out.block b hb2 (fun e => hb (by injection e)))).trans (HY.out k hlt)
      have c2 := HS.out.cell (i := os + k) (by omega)
      have e2 : AddF F os k X Y c (os + k) = .int .i64 (fv (X k)) := by unfold AddF; rw [if_neg (by omega)]; exact HX.out k hlt
      rw [e2] at c2
      have f2 := HS.out.frozen (os + k)
      obtain ⟨b0, b1, b2, b3⟩ := fv_sum_bd hq (X k) (Y k) c
      have hv := fv_addmul (X k) (Y k) c
      obtain ⟨x, hx⟩ : ∃ x, fv (X k) = x := ⟨_, rfl⟩
      obtain ⟨y, hy⟩ : ∃ y, fv (Y k) = y := ⟨_, rfl⟩
      rw [hx, hy, HF.out] at hv
      rw [hx] at c2 b2 b3
      rw [hy] at c1
      rw [hy, HF.out] at b0 b1
      have HV := Lib.hid hv
      have HY2 : Hid ((wr.setCell ⟨gs, os + k, none⟩ (.int .i64 ((x + y * f) % q))).rowIs gs 2 N (AddF F os (k + 1) X Y c)) := by
        refine (HS.out.set (os + k) _).congr fun t _ => ?_
        rw [hv]; exact addF_next t
      have HG2 : Hid (w.grownBy (wr.setCell ⟨gs, os + k, none⟩ (.int .i64 ((x + y * f) % q))) (some gs)) := gb_set HG.out _
      have i0 : (0 : Int) ≤ (k : Int) := by omega
      have i1 : (k : Int) < (n : Int) := by omega
      have i2 : (k : Int) < (ms : Int) := by omega
      clear hv hx hy e2
      go_wp2
      go_roundw
      case rel => exact ⟨k + 1, by omega, by go_num, HY2.out, HG2.out⟩
      case measure => simp [intOf]; omega
    · obtain rfl : k = n := by omega
      go_wp2
      go_end0
      exact ⟨rfl, HS.out, HG.out⟩
end Go.Proofs.Ytabanmaaagmeaaa
