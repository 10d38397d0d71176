/-
  The rows of a matrix, as the program lays them out.
-/
import Derived.Test.YtabanmaaagmeaaaMxU
namespace Go.Proofs.Ytabanmaaagmeaaa
open Go.RowKit
open Lin
set_option linter.unusedVariables false

theorem info_s : (Try.prog.info? 25).map (fun i => (i.zero, i.size, i.bytes)) = some (some (.slice none 0 0), 1, 24) := by kernel_rfl
/-- The i-th row of n cells of a slice from g, off on. -/
def rowV (g off n cap i : Nat) : Value := .slice (some ⟨g, off + i * n, none⟩) n (cap - i * n)
/-- How the rows come back: a row of slices, each given by F. -/
def RetRows (m : Nat) (F : Nat → Value) (w : World) (e : Ending) (w' : World) : Prop :=
  ∃ H, e = .returned (.slice (some ⟨H, 0, none⟩) m m) ∧ w.heap.size ≤ H ∧ w'.rowIs H 25 m F ∧ Below w.heap.size w w'
theorem row_next {k : Nat} {F : Nat → Value} {z v : Value} (hv : v = F k) (t : Nat) : (if t = k then v else if t < k then F t else z) = if t < k + 1 then F t else z := by
  by_cases e : t = k
  · subst e; rw [if_pos rfl, if_pos (by omega), hv]
  · rw [if_neg e]
    by_cases h : t < k
    · rw [if_pos h, if_pos (by omega)]
    · rw [if_neg h, if_neg (by omega)]
theorem mul_i {a b : Nat} (h : a ≤ 40) (g : b ≤ 40) : ((a : Int) * b = ((a * b : Nat) : Int)) ∧ a * b ≤ 1600 := ⟨(Int.natCast_mul a b).symm, Nat.mul_le_mul h g⟩
set_option maxRecDepth 100000 in
set_option maxHeartbeats 1600000 in
theorem rows_some {p : Int} {m n : Nat} {g off cap L : Nat} {w : World} (hp : PtM w L p m n (.slice (some ⟨g, off, none⟩) (m * n) cap)) (hm : m ≤ 32) (hn : n ≤ 40) (hn0 : 0 < n) (hcap : m * n ≤ cap) (hc2 : cap ≤ maxLen) :
    Calls Try.prog 68 #[.pointer (some ⟨L, 0, none⟩)] w fun e w' => RetRows m (rowV g off n cap) w e w' := by
  unfold maxLen at hc2
  have hmk := run_make_row' (P := Try.prog) 64 25 (.slice none 0 0) 24 Try.underlying64 info_s rfl .i64 .i64 m (by omega) (by omega)
  have HP := Lib.hid hp
  obtain ⟨lM, m0, m1, m2, m3⟩ := hp
  have hm1 : (m : Int) ≤ 32 := by omega
  go_enter Try.func68, Try.ntmps68
  go_wp2_with fail
  have hrow := World.rowIs_made w (.slice none 0 0) m 25
  have bb := (Below.refl w.heap.size w).alloc (Nat.le_refl _) (.cells (madeCells #[.slice none 0 0] m) 25)
  generalize hW : World.alloc w (.cells (madeCells #[.slice none 0 0] m) 25) = W1 at hrow bb ⊢
  obtain ⟨H, hH⟩ : ∃ H, w.heap.size = H := ⟨_, rfl⟩
  rw [hH] at hrow ⊢
  have HP := Lib.hid (HP.out.on bb)
  have HB := Lib.hid bb
  have HR := Lib.hid hrow
  have hLH : L < H := by omega
  have hs1 : H ≤ W1.heap.size := by have := bb.size; omega
  clear hrow bb hW m0 m1 m2 m3 hmk
  go_loopw [14] (fun i wr => ∃ k : Nat, k ≤ m ∧ i = .int .i64 (k : Int) ∧ Hid (wr.rowIs H 25 m (fun t => if t < k then rowV g off n cap t else .slice none 0 0)) ∧ Hid (W1.grownBy wr (some H))) (fun i _ => m - (intOf i).toNat)
  case atStart => exact ⟨0, Nat.zero_le _, rfl, HR.out.congr fun t _ => by rw [if_neg (by omega)], grown_refl _ _⟩
  case round =>
    obtain ⟨k, hk, rfl, HX, HG⟩ := hrel
    by_cases hlt : k < m
    · obtain ⟨l0, x0, x1, x2, x3⟩ := HP.out.gb HG.out (by omega)
      obtain ⟨e1, e2⟩ := mul_i (a := k) (b := n) (by omega) hn
      obtain ⟨e3, e4⟩ := mul_i (a := k + 1) (b := n) (by omega) hn
      have hle : k * n + n ≤ m * n := by rw [← Nat.succ_mul]; exact Nat.mul_le_mul_right n hlt
      have e5 : (k + 1) * n = k * n + n := Nat.succ_mul k n
      obtain ⟨s, hs⟩ : ∃ s : Nat, k * n = s := ⟨_, rfl⟩
      rw [hs] at e1 e2 hle e5
      rw [e5] at e3
      have w1 : IntKind.i64.wrap ((k : Int) * n) = s := by rw [e1]; exact IntWalk.i64_in _ (by omega)
      have w2 : IntKind.i64.wrap (((k : Int) + 1) * n) = ((s + n : Nat) : Int) := by
        rw [show (k : Int) + 1 = ((k + 1 : Nat) : Int) by omega, e3]; exact IntWalk.i64_in _ (by omega)
      have w3 : IntKind.i64.wrap ((k : Int) + 1) = (k : Int) + 1 := IntWalk.i64_in _ (by omega)
      have c1 := HX.out.cell (i := k) hlt
      have f1 := HX.out.frozen k
      rw [if_neg (by omega)] at c1
      have i0 : (0 : Int) ≤ (k : Int) := by omega
      have i1 : (k : Int) < (m : Int) := by omega
      have j0 : (0 : Int) ≤ (s : Int) := by omega
      have j1 : (s : Int) ≤ ((s + n : Nat) : Int) := by omega
      have j2 : ((s + n : Nat) : Int) ≤ (cap : Int) := by omega
      have j3 : s ≠ cap := by omega
      have HE : Hid (Value.slice (some ⟨g, off + s, none⟩) n (cap - s) = rowV g off n cap k) := by show _ = _; unfold rowV; rw [hs]
      have HY : Hid ((wr.setCell ⟨H, k, none⟩ (.slice (some ⟨g, off + s, none⟩) n (cap - s))).drew.rowIs H 25 m (fun t => if t < k + 1 then rowV g off n cap t else .slice none 0 0)) :=
        ((HX.out.set k _).congr fun t _ => row_next HE.out t).drew
      have HG2 : Hid (W1.grownBy (wr.setCell ⟨H, k, none⟩ (.slice (some ⟨g, off + s, none⟩) n (cap - s))).drew (some H)) := gb_drew (gb_set HG.out _)
      clear e1 e3 e5 hs
      go_wp2
      go_region
      go_wp2
      go_roundw
      case rel => exact ⟨k + 1, by omega, by go_num, HY.out, HG2.out⟩
      case measure => simp [intOf]; omega
    · obtain rfl : k = m := by omega
      obtain ⟨l0, x0, x1, x2, x3⟩ := HP.out.gb HG.out (by omega)
      go_wp2
      go_ret
      exact ⟨_, rfl, by omega, HX.out.congr fun t ht => by rw [if_pos ht], below_gb HB.out HG.out (by omega) (by omega)⟩
set_option maxRecDepth 100000 in
set_option maxHeartbeats 1600000 in
theorem rows_zero {p : Int} {m : Nat} {a : Option Addr} {cap L : Nat} {w : World} (hp : PtM w L p m (0 : Nat) (.slice a 0 cap)) (hm : m ≤ 32) (ha : (a = none ∧ cap = 0) ∨ ∃ g off, a = some ⟨g, off, none⟩) (hc2 : cap ≤ maxLen) :
    Calls Try.prog 68 #[.pointer (some ⟨L, 0, none⟩)] w fun e w' => RetRows m (fun _ => .slice a 0 cap) w e w' := by
  unfold maxLen at hc2
  have hmk := run_make_row' (P := Try.prog) 64 25 (.slice none 0 0) 24 Try.underlying64 info_s rfl .i64 .i64 m (by omega) (by omega)
  have HP := Lib.hid hp
  obtain ⟨lM, m0, m1, m2, m3⟩ := hp
  have hm1 : (m : Int) ≤ 32 := by omega
  go_enter Try.func68, Try.ntmps68
  go_wp2_with fail
  have hrow := World.rowIs_made w (.slice none 0 0) m 25
  have bb := (Below.refl w.heap.size w).alloc (Nat.le_refl _) (.cells (madeCells #[.slice none 0 0] m) 25)
  generalize hW : World.alloc w (.cells (madeCells #[.slice none 0 0] m) 25) = W1 at hrow bb ⊢
  obtain ⟨H, hH⟩ : ∃ H, w.heap.size = H := ⟨_, rfl⟩
  rw [hH] at hrow ⊢
  have HP := Lib.hid (HP.out.on bb)
  have HB := Lib.hid bb
  have HR := Lib.hid hrow
  have hLH : L < H := by omega
  have hs1 : H ≤ W1.heap.size := by have := bb.size; omega
  clear hrow bb hW m0 m1 m2 m3 hmk
  go_loopw [14] (fun i wr => ∃ k : Nat, k ≤ m ∧ i = .int .i64 (k : Int) ∧ Hid (wr.rowIs H 25 m (fun t => if t < k then .slice a 0 cap else .slice none 0 0)) ∧ Hid (W1.grownBy wr (some H))) (fun i _ => m - (intOf i).toNat)
  case atStart => exact ⟨0, Nat.zero_le _, rfl, HR.out.congr fun t _ => by rw [if_neg (by omega)], grown_refl _ _⟩
  case round =>
    obtain ⟨k, hk, rfl, HX, HG⟩ := hrel
    by_cases hlt : k < m
    · obtain ⟨l0, x0, x1, x2, x3⟩ := HP.out.gb HG.out (by omega)
      have w1 : IntKind.i64.wrap ((k : Int) * (0 : Int)) = 0 := by rw [Int.mul_zero]; rfl
      have w2 : IntKind.i64.wrap (((k : Int) + 1) * (0 : Int)) = 0 := by rw [Int.mul_zero]; rfl
      have w3 : IntKind.i64.wrap ((k : Int) + 1) = (k : Int) + 1 := IntWalk.i64_in _ (by omega)
      have c1 := HX.out.cell (i := k) hlt
      have f1 := HX.out.frozen k
      rw [if_neg (by omega)] at c1
      have i0 : (0 : Int) ≤ (k : Int) := by omega
      have i1 : (k : Int) < (m : Int) := by omega
      have HY : Hid ((wr.setCell ⟨H, k, none⟩ (.slice a 0 cap)).drew.rowIs H 25 m (fun t => if t < k + 1 then .slice a 0 cap else .slice none 0 0)) :=
        ((HX.out.set k _).congr fun t _ => row_next (F := fun _ => .slice a 0 cap) rfl t).drew
      have HG2 : Hid (W1.grownBy (wr.setCell ⟨H, k, none⟩ (.slice a 0 cap)).drew (some H)) := gb_drew (gb_set HG.out _)
      rcases ha with ⟨rfl, rfl⟩ | ⟨g, off, rfl⟩
      · go_wp2
        go_region
        go_wp2
        go_roundw
        case rel => exact ⟨k + 1, by omega, by go_num, HY.out, HG2.out⟩
        case measure => simp [intOf]; omega
      · go_wp2
        go_region
        go_wp2
        go_roundw
        case rel => exact ⟨k + 1, by omega, by go_num, HY.out, HG2.out⟩
        case measure => simp [intOf]; omega
    · obtain rfl : k = m := by omega
      obtain ⟨l0, x0, x1, x2, x3⟩ := HP.out.gb HG.out (by omega)
      go_wp2
      go_ret
      exact ⟨_, rfl, by omega, HX.out.congr fun t ht => by rw [if_pos ht], below_gb HB.out HG.out (by omega) (by omega)⟩
end Go.Proofs.Ytabanmaaagmeaaa
