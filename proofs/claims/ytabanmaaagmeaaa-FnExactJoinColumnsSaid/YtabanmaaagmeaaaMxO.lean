/-
  The iterator over the cells of rows (rowList.cells), for loop bodies that write into one block alone.
-/
import Derived.RangeFuncNested
import Derived.RangeFuncBound
import Derived.RangeFuncCalls
import Derived.RangeFuncLeaves
import Derived.Shelf.Abstract
import Derived.Shelf.RegionOpen
import Derived.WalkKit
import Derived.OwnWalkIn
import Derived.TacticsInMore
import Derived.LoopNIn
import Derived.LoopIn
import Derived.Test.YtabanmaaagmeaaaMxP
namespace Go.Proofs.Ytabanmaaagmeaaa
open Go.RowKit Go.Shelf
open Lin
set_option linter.unusedVariables false
set_option linter.unusedSectionVars false
attribute [local go_sem] Oper.semAt_some

/-- Cells below n₀ are kept, those of one block apart. -/
def KeepC (n₀ G : Nat) (W W' : World) : Prop := ∀ p : Addr, p.block < n₀ → p.block ≠ G → W'.cell? p = W.cell? p
theorem KeepC.refl (n₀ G : Nat) (W : World) : KeepC n₀ G W W := fun _ _ _ => rfl
theorem KeepC.trans {n₀ G : Nat} {A B C : World} (h : KeepC n₀ G A B) (k : KeepC n₀ G B C) : KeepC n₀ G A C := fun p hp hg => (k p hp hg).trans (h p hp hg)
/-- What has come when k rounds are over. -/
def upTo {α : Type} (f : Nat → α) (k : Nat) : List α := (List.range k).map f
theorem upTo_succ {α : Type} (f : Nat → α) (k : Nat) : upTo f (k + 1) = upTo f k ++ [f k] := by simp [upTo, List.range_succ]
theorem upTo_length {α : Type} (f : Nat → α) (k : Nat) : (upTo f k).length = k := by simp [upTo]
theorem idxLt {i j m n : Nat} (hi : i < m) (hj : j < n) : i * n + j < m * n := by
  have : (i + 1) * n ≤ m * n := Nat.mul_le_mul_right n hi
  rw [Nat.succ_mul] at this; omega

theorem idxDiv {n i j : Nat} (hj : j < n) : (i * n + j) / n = i := by
  rw [Nat.add_comm, Nat.add_mul_div_right _ _ (by omega), Nat.div_eq_of_lt hj, Nat.zero_add]
theorem idxMod {n i j : Nat} (hj : j < n) : (i * n + j) % n = j := by
  rw [Nat.add_comm, Nat.add_mul_mod_self_right, Nat.mod_eq_of_lt hj]
set_option maxRecDepth 100000 in
set_option maxHeartbeats 4000000 in
theorem cells1_in (F : Fence) (N : Nat) (hf : F.fn 105) (hro : F.round = none) (hN : 1 ≤ N) (l Bs n₀ G bl m cl n : Nat) (ar : Nat → Option Addr) (cc : Nat → Nat) (z : Nat → Nat → Int) (hm : m ≤ 1024) (hn : n ≤ 1024)
    (hbl : bl < n₀) (gl : bl ≠ G) (J Jx : List (Nat × Nat × Int) → World → Prop)
    (hY : ∀ pre x W, J pre W → pre.length < m * n → x = (pre.length / n, pre.length % n, z (pre.length / n) (pre.length % n)) → YieldAt F (N - 1) Try.prog l #[.agg #[.int .i64 (x.1 : Int), .int .i64 (x.2.1 : Int)], .int .i64 x.2.2] W fun e W' =>
      (e = .returned (.bool true) ∧ J (pre ++ [x]) W' ∧ KeepC n₀ G W W') ∨ (e = .returned (.bool false) ∧ Jx (pre ++ [x]) W'))
    (W : World) (hBs : W.cell? ⟨Bs, 0, none⟩ = some (.slice (some ⟨bl, 0, none⟩) m cl)) (hr : ∀ i, i < m → W.cell? ⟨bl, i, none⟩ = some (.slice (ar i) n (cc i)))
    (hc : ∀ i k, i < m → k < n → ∃ b o, ar i = some ⟨b, o, none⟩ ∧ b < n₀ ∧ b ≠ G ∧ W.cell? ⟨b, o + k, none⟩ = some (.int .i64 (z i k))) (h0 : J [] W) :
    CallsIn F N Try.prog 105 #[.func (.yield l) #[] #[], .pointer (some ⟨Bs, 0, none⟩)] W fun e W' => (∃ v, e = .returned v) ∧
      ((∃ ys, ys = upTo (fun t => (t / n, t % n, z (t / n) (t % n))) (m * n) ∧ J ys W') ∨ (∃ pre, True ∧ Jx pre W')) := by
  refine callsIn_of_wp Try.func105 rfl hf ?_ hro
  simp only [Try.ntmps105, List.size_toArray, List.length_cons, List.length_nil, Nat.reduceAdd, Nat.reduceSub, Array.replicate_succ, Array.replicate_zero, List.push_toArray, List.append_toArray, List.nil_append, List.cons_append]
  have Hr := Lib.hid hr
  have Hc := Lib.hid hc
  have HY := Lib.hid hY
  clear hr hc hY
  gi_wp2
  gi_loopw [9] (fun s wr => ∃ i : Nat, i ≤ m ∧ s = .int .i64 (i : Int) ∧ J (upTo (fun t => (t / n, t % n, z (t / n) (t % n))) (i * n)) wr ∧ KeepC n₀ G W wr) (fun s _ => m - (intOf s).toNat)
  case atStart => exact ⟨0, Nat.zero_le _, rfl, by rw [Nat.zero_mul]; exact h0, KeepC.refl _ _ _⟩
  case round =>
    obtain ⟨i, hi, rfl, hJs, hk0⟩ := hrel
    by_cases hlt : i < m
    · have hrow := (hk0 ⟨bl, i, none⟩ hbl gl).trans (Hr.out i hlt)
      have Hci := Lib.hid (fun k => Hc.out i k hlt)
      obtain ⟨a, ha⟩ : ∃ a, ar i = a := ⟨_, rfl⟩
      rw [ha] at hrow Hci
      clear ha
      have HJ := Lib.hid hJs
      have HK := Lib.hid hk0
      clear hJs hk0
      gi_wp2
      gi_loopw [16] (fun s wr => ∃ k : Nat, k ≤ n ∧ s = .int .i64 (k : Int) ∧ J (upTo (fun t => (t / n, t % n, z (t / n) (t % n))) (i * n + k)) wr ∧ KeepC n₀ G W wr) (fun s _ => n - (intOf s).toNat)
      case atStart => exact ⟨0, Nat.zero_le _, rfl, HJ.out, HK.out⟩
      case round =>
        obtain ⟨k, hk, rfl, hJs, hk0⟩ := hrel
        by_cases hkt : k < n
        · obtain ⟨b, o, rfl, hb, gb, hcell0⟩ := Hci.out k hkt
          have hcell := (hk0 ⟨b, o + k, none⟩ hb gb).trans hcell0
          clear hcell0
          have hy := idxLt hlt hkt
          obtain ⟨fn, tmps, assign, body, hy, hR⟩ := HY.out _ (i, k, z i k) wr hJs (by rw [upTo_length]; exact hy) (by rw [upTo_length, idxDiv hkt, idxMod hkt])
          dsimp only at hy
          gi_wp2
          refine hR.mono ?_
          rintro e W3 (⟨rfl, hJ3, hk3⟩ | ⟨rfl, hJx3⟩)
          · gi_wp2
            go_roundw
            case rel => exact ⟨k + 1, by omega, by simp, by
              rw [← Nat.add_assoc, upTo_succ, Nat.add_comm (i * n) k, Nat.add_mul_div_right _ _ (by omega), Nat.add_mul_mod_self_right, Nat.div_eq_of_lt hkt, Nat.mod_eq_of_lt hkt, Nat.zero_add, Nat.add_comm k (i * n)]; exact hJ3, hk0.trans hk3⟩
            case measure => simp [intOf]; omega
          · gi_wp2
            refine bodyPost_ret (results_none rfl _ _ _) rfl ?_
            exact ⟨⟨_, rfl⟩, .inr ⟨_, trivial, hJx3⟩⟩
        · obtain rfl : k = n := by omega
          gi_wp2
          go_roundw
          case rel => exact ⟨i + 1, by omega, by simp, by rw [Nat.succ_mul]; exact hJs, hk0⟩
          case measure => simp [intOf]; omega
    · obtain rfl : i = m := by omega
      gi_wp2
      go_end0
      exact ⟨⟨_, rfl⟩, .inl ⟨_, rfl, hJs⟩⟩
theorem keepC_b {n₀ G : Nat} {w : World} (hn : n₀ ≤ w.heap.size) (W : World) (l : Nat) (o o' : Obj) (hl : w.heap.size ≤ l) (h : W.heap[l]? = some o) (h1 : o.isCells = false) (h2 : o.isWalk = false) : KeepC n₀ G W (W.putObj l o') :=
  fun p hp _ => (belowK_b hn W l o o' hl h h1 h2).cell (p := p) hp
def CellArgs (x : Nat × Nat × Int) : Array Value := #[.agg #[.int .i64 (x.1 : Int), .int .i64 (x.2.1 : Int)], .int .i64 x.2.2]
/-- The t-th of m times n cells, as the iterator hands it. -/
def cellEnc (m n : Nat) (z : Nat → Nat → Int) (x : Fin (m * n)) : Array Value := CellArgs (x.val / n, x.val % n, z (x.val / n) (x.val % n))
theorem cells_stops (F : Fence) (N : Nat) (hf : F.fn 105) (hro : F.round = none) (hN : 1 ≤ N) (Bs n₀ G bl m cl n : Nat) (ar : Nat → Option Addr) (cc : Nat → Nat) (z : Nat → Nat → Int) (hm : m ≤ 1024) (hn : n ≤ 1024)
    (hbl : bl < n₀) (gl : bl ≠ G) (w : World) (hB : Bs < w.heap.size) (hn₀ : n₀ ≤ w.heap.size)
    (hBs : w.cell? ⟨Bs, 0, none⟩ = some (.slice (some ⟨bl, 0, none⟩) m cl)) (hr : ∀ i, i < m → w.cell? ⟨bl, i, none⟩ = some (.slice (ar i) n (cc i)))
    (hc : ∀ i k, i < m → k < n → ∃ b o, ar i = some ⟨b, o, none⟩ ∧ b < n₀ ∧ b ≠ G ∧ w.cell? ⟨b, o + k, none⟩ = some (.int .i64 (z i k))) :
    SeqStopsK F N Try.prog 105 #[.pointer (some ⟨Bs, 0, none⟩)] (cellEnc m n z) (KeepC n₀ G) (fun ys => ys.map Fin.val = List.range (m * n)) (fun _ => True) (m * n) w := fun l J Jx W hW _ _ hY h0 => by
  refine (cells1_in F N hf hro hN l Bs n₀ G bl m cl n ar cc z hm hn hbl gl (fun pre W => ∃ pr : List (Fin (m * n)), pr.map Fin.val = List.range pre.length ∧ J pr W) (fun pre W => ∃ pr : List (Fin (m * n)), Jx pr W) ?_ W ((hW.cell (p := ⟨Bs, 0, none⟩) hB).trans hBs) (fun i hi => (hW.cell (p := ⟨bl, i, none⟩) (show bl < _ by omega)).trans (hr i hi)) (fun i k hi hk => ?_) ⟨[], rfl, h0⟩).mono ?_
  · rintro pre x W1 ⟨pr, hpr, hJ⟩ hlt rfl
    have hl : pr.length = pre.length := by have := congrArg List.length hpr; simpa using this
    have h := hY pr ⟨pre.length, hlt⟩ W1 hJ (by rw [hl]; exact hlt)
    refine YieldAt.mono h ?_
    rintro e w1 (⟨rfl, hJ1, hk⟩ | ⟨rfl, hJx⟩)
    · exact .inl ⟨rfl, ⟨_, by rw [List.map_append, hpr, List.length_append]; simp [List.range_succ], hJ1⟩, hk⟩
    · exact .inr ⟨rfl, ⟨_, hJx⟩⟩
  · obtain ⟨b, o, e, hb, gb, h⟩ := hc i k hi hk
    exact ⟨b, o, e, hb, gb, (hW.cell (p := ⟨b, o + k, none⟩) (show b < _ by omega)).trans h⟩
  · rintro e w1 ⟨hv, ⟨ys, rfl, pr, hpr, hJ⟩ | ⟨pre, _, pr, hJx⟩⟩
    · exact ⟨hv, .inl ⟨pr, hpr.trans (by rw [upTo_length]), hJ⟩⟩
    · exact ⟨hv, .inr ⟨pr, trivial, hJx⟩⟩
set_option maxHeartbeats 1000000 in
theorem cells_in (F : Fence) (N : Nat) (hf : F.fn 71) (hro : F.round = none) (a : Option Addr) (len cap : Nat) (w : World) :
    CallsIn F N Try.prog 71 #[.slice a len cap] w fun e w' => e = .returned (.func (.func 105) #[] #[.pointer (some ⟨w.heap.size, 0, none⟩)]) ∧ w' = w.alloc (.cells #[.slice a len cap] 64) := by
  refine callsIn_of_wp Try.func71 rfl hf ?_ hro
  simp only [Try.ntmps71, List.size_toArray, List.length_cons, List.length_nil, Nat.reduceAdd, Nat.reduceSub, Array.replicate_succ, Array.replicate_zero, List.push_toArray, List.append_toArray, List.nil_append, List.cons_append]
  gi_wp2
  go_ret
  exact ⟨rfl, rfl⟩
/-- What a world has grown by, block G apart, abides the turn of later blocks. -/
theorem ownFrom_grown {β : Type} {G B : Nat} {w₀ : World} (hB : w₀.heap.size ≤ B) : OwnFrom B (fun (_ : β) W => w₀.grownBy W (some G)) := fun _ W W' row hs hg hr =>
  ⟨hg.os.trans hs.os, hg.tape.trans hs.tape, hg.output.trans hs.output, Nat.le_trans hs.size hg.size, fun i hi hne => (hg.block i (Nat.lt_of_lt_of_le hi hs.size) (fun e => by
    have := (hr i e.symm).1; omega)).trans (hs.block i hi hne)⟩
theorem ownFrom_rowIs {β : Type} {G B n : Nat} {t : TypeId} (F : β → Nat → Value) (hG : G < B) : OwnFrom B (fun s W => W.rowIs G t n (F s)) := fun _ W W' row hs hg hr =>
  hs.of_block (hg.block G hs.lt (fun e => by have := (hr G e.symm).1; omega))
end Go.Proofs.Ytabanmaaagmeaaa
