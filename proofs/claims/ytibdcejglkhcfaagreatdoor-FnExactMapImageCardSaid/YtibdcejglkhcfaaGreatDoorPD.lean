/-
  The iterator over the cells of rows (rowList.cells), for loop bodies that write into one block alone.
  What a loop over the cells of a matrix has made: the transposed matrix, cell by cell in any order.
  A region that draws its order, in the body of a loop over an iterator: loads in whatever order, then the rest in its own order.
  What a loop over the cells of a matrix has made of a product, cell by cell in any order.
  Contracts of Transpose of the program.
  Contracts of Multiply of the program.
  Contracts of ApplyMatrix of the model.
  Contracts of ApplyMatrix of the model and of the program.
-/
import Derived.RangeFuncNested
import Derived.RangeFuncBound
import Derived.RangeFuncCalls
import Derived.RangeFuncLeaves
import Derived.Shelf.Abstract
import Derived.Shelf.RegionOpen
import Derived.WalkKit
import Derived.OwnWalkIn
import Derived.TacticsInMore
import Derived.LoopNIn
import Derived.LoopIn
import Derived.Test.YtibdcejglkhcfaaGreatDoorPB
import Derived.Test.YtibdcejglkhcfaaGreatDoorPC
import Derived.StillTail
import Derived.StillTailTactics
import Derived.Deep.RegionHeld3
import Derived.OrdersIn
import Derived.Test.YtibdcejglkhcfaaGreatDoorPA
namespace Go.Proofs.YtibdcejglkhcfaaGreatDoor
open Go.RowKit Go.Shelf
open Lin
set_option linter.unusedVariables false
set_option linter.unusedSectionVars false
attribute [local go_sem] Oper.semAt_some

/-- Cells below n₀ are kept, those of one block apart. -/
def KeepC (n₀ G : Nat) (W W' : World) : Prop := ∀ p : Addr, p.block < n₀ → p.block ≠ G → W'.cell? p = W.cell? p
theorem KeepC.refl (n₀ G : Nat) (W : World) : KeepC n₀ G W W := fun _ _ _ => rfl
theorem KeepC.trans {n₀ G : Nat} {A B C : World} (h : KeepC n₀ G A B) (k : KeepC n₀ G B C) : KeepC n₀ G A C := fun p hp hg => (k p hp hg).trans (h p hp hg)
/-- What has come when k rounds are over. -/
def upTo {α : Type} (f : Nat → α) (k : Nat) : List α := (List.range k).map f
theorem upTo_succ {α : Type} (f : Nat → α) (k : Nat) : upTo f (k + 1) = upTo f k ++ [f k] := by simp [upTo, List.range_succ]
theorem upTo_length {α : Type} (f : Nat → α) (k : Nat) : (upTo f k).length = k := by simp [upTo]
theorem idxLt {i j m n : Nat} (hi : i < m) (hj : j < n) : i * n + j < m * n := by
  have : (i + 1) * n ≤ m * n := Nat.mul_le_mul_right n hi
  rw [Nat.succ_mul] at this; omega

theorem idxDiv {n i j : Nat} (hj : j < n) : (i * n + j) / n = i := by
  rw [Nat.add_comm, Nat.add_mul_div_right _ _ (by omega), Nat.div_eq_of_lt hj, Nat.zero_add]
theorem idxMod {n i j : Nat} (hj : j < n) : (i * n + j) % n = j := by
  rw [Nat.add_comm, Nat.add_mul_mod_self_right, Nat.mod_eq_of_lt hj]
set_option maxRecDepth 100000 in
set_option maxHeartbeats 4000000 in
theorem cells1_in (F : Fence) (N : Nat) (hf : F.fn 191) (hro : F.round = none) (hN : 1 ≤ N) (l Bs n₀ G bl m cl n : Nat) (ar : Nat → Option Addr) (cc : Nat → Nat) (z : Nat → Nat → Int) (hm : m ≤ 1024) (hn : n ≤ 1024)
    (hbl : bl < n₀) (gl : bl ≠ G) (J Jx : List (Nat × Nat × Int) → World → Prop)
    (hY : ∀ pre x W, J pre W → pre.length < m * n → x = (pre.length / n, pre.length % n, z (pre.length / n) (pre.length % n)) → YieldAt F (N - 1) Tryz.prog l #[.agg #[.int .i64 (x.1 : Int), .int .i64 (x.2.1 : Int)], .int .i64 x.2.2] W fun e W' =>
      (e = .returned (.bool true) ∧ J (pre ++ [x]) W' ∧ KeepC n₀ G W W') ∨ (e = .returned (.bool false) ∧ Jx (pre ++ [x]) W'))
    (W : World) (hBs : W.cell? ⟨Bs, 0, none⟩ = some (.slice (some ⟨bl, 0, none⟩) m cl)) (hr : ∀ i, i < m → W.cell? ⟨bl, i, none⟩ = some (.slice (ar i) n (cc i)))
    (hc : ∀ i k, i < m → k < n → ∃ b o, ar i = some ⟨b, o, none⟩ ∧ b < n₀ ∧ b ≠ G ∧ W.cell? ⟨b, o + k, none⟩ = some (.int .i64 (z i k))) (h0 : J [] W) :
    CallsIn F N Tryz.prog 191 #[.func (.yield l) #[] #[], .pointer (some ⟨Bs, 0, none⟩)] W fun e W' => (∃ v, e = .returned v) ∧
      ((∃ ys, ys = upTo (fun t => (t / n, t % n, z (t / n) (t % n))) (m * n) ∧ J ys W') ∨ (∃ pre, True ∧ Jx pre W')) := by
  refine callsIn_of_wp Tryz.func191 rfl hf ?_ hro
  simp only [Tryz.ntmps191, List.size_toArray, List.length_cons, List.length_nil, Nat.reduceAdd, Nat.reduceSub, Array.replicate_succ, Array.replicate_zero, List.push_toArray, List.append_toArray, List.nil_append, List.cons_append]
  have Hr := Lib.hid hr
  have Hc := Lib.hid hc
  have HY := Lib.hid hY
  clear hr hc hY
  gi_wp2
  gi_loopw [9] (fun s wr => ∃ i : Nat, i ≤ m ∧ s = .int .i64 (i : Int) ∧ J (upTo (fun t => (t / n, t % n, z (t / n) (t % n))) (i * n)) wr ∧ KeepC n₀ G W wr) (fun s _ => m - (intOf s).toNat)
  case atStart => exact ⟨0, Nat.zero_le _, rfl, by rw [Nat.zero_mul]; exact h0, KeepC.refl _ _ _⟩
  case round =>
    obtain ⟨i, hi, rfl, hJs, hk0⟩ := hrel
    by_cases hlt : i < m
    · have hrow := (hk0 ⟨bl, i, none⟩ hbl gl).trans (Hr.out i hlt)
      have Hci := Lib.hid (fun k => Hc.out i k hlt)
      obtain ⟨a, ha⟩ : ∃ a, ar i = a := ⟨_, rfl⟩
      rw [ha] at hrow Hci
      clear ha
      have HJ := Lib.hid hJs
      have HK := Lib.hid hk0
      clear hJs hk0
      gi_wp2
      gi_loopw [16] (fun s wr => ∃ k : Nat, k ≤ n ∧ s = .int .i64 (k : Int) ∧ J (upTo (fun t => (t / n, t % n, z (t / n) (t % n))) (i * n + k)) wr ∧ KeepC n₀ G W wr) (fun s _ => n - (intOf s).toNat)
      case atStart => exact ⟨0, Nat.zero_le _, rfl, HJ.out, HK.out⟩
      case round =>
        obtain ⟨k, hk, rfl, hJs, hk0⟩ := hrel
        by_cases hkt : k < n
        · obtain ⟨b, o, rfl, hb, gb, hcell0⟩ := Hci.out k hkt
          have hcell := (hk0 ⟨b, o + k, none⟩ hb gb).trans hcell0
          clear hcell0
          have hy := idxLt hlt hkt
          obtain ⟨fn, tmps, assign, body, hy, hR⟩ := HY.out _ (i, k, z i k) wr hJs (by rw [upTo_length]; exact hy) (by rw [upTo_length, idxDiv hkt, idxMod hkt])
          dsimp only at hy
          gi_wp2
          refine hR.mono ?_
          rintro e W3 (⟨rfl, hJ3, hk3⟩ | ⟨rfl, hJx3⟩)
          · gi_wp2
            go_roundw
            case rel => exact ⟨k + 1, by omega, by simp, by
              rw [← Nat.add_assoc, upTo_succ, Nat.add_comm (i * n) k, Nat.add_mul_div_right _ _ (by omega), Nat.add_mul_mod_self_right, Nat.div_eq_of_lt hkt, Nat.mod_eq_of_lt hkt, Nat.zero_add, Nat.add_comm k (i * n)]; exact hJ3, hk0.trans hk3⟩
            case measure => simp [intOf]; omega
          · gi_wp2
            refine bodyPost_ret (results_none rfl _ _ _) rfl ?_
            exact ⟨⟨_, rfl⟩, .inr ⟨_, trivial, hJx3⟩⟩
        · obtain rfl : k = n := by omega
          gi_wp2
          go_roundw
          case rel => exact ⟨i + 1, by omega, by simp, by rw [Nat.succ_mul]; exact hJs, hk0⟩
          case measure => simp [intOf]; omega
    · obtain rfl : i = m := by omega
      gi_wp2
      go_end0
      exact ⟨⟨_, rfl⟩, .inl ⟨_, rfl, hJs⟩⟩
theorem keepC_b {n₀ G : Nat} {w : World} (hn : n₀ ≤ w.heap.size) (W : World) (l : Nat) (o o' : Obj) (hl : w.heap.size ≤ l) (h : W.heap[l]? = some o) (h1 : o.isCells = false) (h2 : o.isWalk = false) : KeepC n₀ G W (W.putObj l o') :=
  fun p hp _ => (belowK_b hn W l o o' hl h h1 h2).cell (p := p) hp
def CellArgs (x : Nat × Nat × Int) : Array Value := #[.agg #[.int .i64 (x.1 : Int), .int .i64 (x.2.1 : Int)], .int .i64 x.2.2]
/-- The t-th of m times n cells, as the iterator hands it. -/
def cellEnc (m n : Nat) (z : Nat → Nat → Int) (x : Fin (m * n)) : Array Value := CellArgs (x.val / n, x.val % n, z (x.val / n) (x.val % n))
theorem cells_stops (F : Fence) (N : Nat) (hf : F.fn 191) (hro : F.round = none) (hN : 1 ≤ N) (Bs n₀ G bl m cl n : Nat) (ar : Nat → Option Addr) (cc : Nat → Nat) (z : Nat → Nat → Int) (hm : m ≤ 1024) (hn : n ≤ 1024)
    (hbl : bl < n₀) (gl : bl ≠ G) (w : World) (hB : Bs < w.heap.size) (hn₀ : n₀ ≤ w.heap.size)
    (hBs : w.cell? ⟨Bs, 0, none⟩ = some (.slice (some ⟨bl, 0, none⟩) m cl)) (hr : ∀ i, i < m → w.cell? ⟨bl, i, none⟩ = some (.slice (ar i) n (cc i)))
    (hc : ∀ i k, i < m → k < n → ∃ b o, ar i = some ⟨b, o, none⟩ ∧ b < n₀ ∧ b ≠ G ∧ w.cell? ⟨b, o + k, none⟩ = some (.int .i64 (z i k))) :
    SeqStopsK F N Tryz.prog 191 #[.pointer (some ⟨Bs, 0, none⟩)] (cellEnc m n z) (KeepC n₀ G) (fun ys => ys.map Fin.val = List.range (m * n)) (fun _ => True) (m * n) w := fun l J Jx W hW _ _ hY h0 => by
  refine (cells1_in F N hf hro hN l Bs n₀ G bl m cl n ar cc z hm hn hbl gl (fun pre W => ∃ pr : List (Fin (m * n)), pr.map Fin.val = List.range pre.length ∧ J pr W) (fun pre W => ∃ pr : List (Fin (m * n)), Jx pr W) ?_ W ((hW.cell (p := ⟨Bs, 0, none⟩) hB).trans hBs) (fun i hi => (hW.cell (p := ⟨bl, i, none⟩) (show bl < _ by omega)).trans (hr i hi)) (fun i k hi hk => ?_) ⟨[], rfl, h0⟩).mono ?_
  · rintro pre x W1 ⟨pr, hpr, hJ⟩ hlt rfl
    have hl : pr.length = pre.length := by have := congrArg List.length hpr; simpa using this
    have h := hY pr ⟨pre.length, hlt⟩ W1 hJ (by rw [hl]; exact hlt)
    refine YieldAt.mono h ?_
    rintro e w1 (⟨rfl, hJ1, hk⟩ | ⟨rfl, hJx⟩)
    · exact .inl ⟨rfl, ⟨_, by rw [List.map_append, hpr, List.length_append]; simp [List.range_succ], hJ1⟩, hk⟩
    · exact .inr ⟨rfl, ⟨_, hJx⟩⟩
  · obtain ⟨b, o, e, hb, gb, h⟩ := hc i k hi hk
    exact ⟨b, o, e, hb, gb, (hW.cell (p := ⟨b, o + k, none⟩) (show b < _ by omega)).trans h⟩
  · rintro e w1 ⟨hv, ⟨ys, rfl, pr, hpr, hJ⟩ | ⟨pre, _, pr, hJx⟩⟩
    · exact ⟨hv, .inl ⟨pr, hpr.trans (by rw [upTo_length]), hJ⟩⟩
    · exact ⟨hv, .inr ⟨pr, trivial, hJx⟩⟩
set_option maxHeartbeats 1000000 in
theorem cells_in (F : Fence) (N : Nat) (hf : F.fn 152) (hro : F.round = none) (a : Option Addr) (len cap : Nat) (w : World) :
    CallsIn F N Tryz.prog 152 #[.slice a len cap] w fun e w' => e = .returned (.func (.func 191) #[] #[.pointer (some ⟨w.heap.size, 0, none⟩)]) ∧ w' = w.alloc (.cells #[.slice a len cap] 147) := by
  refine callsIn_of_wp Tryz.func152 rfl hf ?_ hro
  simp only [Tryz.ntmps152, List.size_toArray, List.length_cons, List.length_nil, Nat.reduceAdd, Nat.reduceSub, Array.replicate_succ, Array.replicate_zero, List.push_toArray, List.append_toArray, List.nil_append, List.cons_append]
  gi_wp2
  go_ret
  exact ⟨rfl, rfl⟩
/-- What a world has grown by, block G apart, abides the turn of later blocks. -/
theorem ownFrom_grown {β : Type} {G B : Nat} {w₀ : World} (hB : w₀.heap.size ≤ B) : OwnFrom B (fun (_ : β) W => w₀.grownBy W (some G)) := fun _ W W' row hs hg hr =>
  ⟨hg.os.trans hs.os, hg.tape.trans hs.tape, hg.output.trans hs.output, Nat.le_trans hs.size hg.size, fun i hi hne => (hg.block i (Nat.lt_of_lt_of_le hi hs.size) (fun e => by
    have := (hr i e.symm).1; omega)).trans (hs.block i hi hne)⟩
theorem ownFrom_rowIs {β : Type} {G B n : Nat} {t : TypeId} (F : β → Nat → Value) (hG : G < B) : OwnFrom B (fun s W => W.rowIs G t n (F s)) := fun _ W W' row hs hg hr =>
  hs.of_block (hg.block G hs.lt (fun e => by have := (hr G e.symm).1; omega))
end Go.Proofs.YtibdcejglkhcfaaGreatDoor

namespace Go.Proofs.YtibdcejglkhcfaaGreatDoor
open Go.RowKit
open Lin
set_option linter.unusedVariables false
set_option linter.unusedSectionVars false

theorem cell_row {m n : Nat} (x : Fin (m * n)) : x.val / n < m ∧ x.val % n < n := by
  have h := x.isLt
  have hn : 0 < n := Nat.pos_of_ne_zero fun e => by subst e; simp at h
  exact ⟨Nat.div_lt_of_lt_mul (by have e := Nat.mul_comm n m; omega), Nat.mod_lt _ hn⟩
/-- The transposed matrix, the cells of pre filled. -/
def TrF {q : Nat} [NeZero q] (m n : Nat) (A : Mt q) (pre : List (Fin (m * n))) (t : Nat) : Value :=
  if ∃ x ∈ pre, (x.val % n) * m + x.val / n = t then .int .i64 (fv (A (t % m) (t / m))) else .int .i64 0
theorem trF_nil {q : Nat} [NeZero q] (m n : Nat) (A : Mt q) (t : Nat) : TrF m n A [] t = .int .i64 0 := by unfold TrF; rw [if_neg (by simp)]
theorem trF_snoc {q : Nat} [NeZero q] {m n : Nat} {A : Mt q} {pre : List (Fin (m * n))} (x : Fin (m * n)) (t : Nat) :
    (if t = (x.val % n) * m + x.val / n then .int .i64 (fv (A (x.val / n) (x.val % n))) else TrF m n A pre t) = TrF m n A (pre ++ [x]) t := by
  unfold TrF
  by_cases e : t = (x.val % n) * m + x.val / n
  · rw [if_pos e, if_pos ⟨x, by simp, e.symm⟩, e, idxMod (cell_row x).1, idxDiv (cell_row x).1]
  · rw [if_neg e]
    have h : (∃ y ∈ pre ++ [x], (y.val % n) * m + y.val / n = t) ↔ ∃ y ∈ pre, (y.val % n) * m + y.val / n = t := by
      constructor
      · rintro ⟨y, hy, h⟩
        rcases List.mem_append.1 hy with hy | hy
        · exact ⟨y, hy, h⟩
        · obtain rfl : y = x := by simpa using hy
          exact absurd h.symm e
      · rintro ⟨y, hy, h⟩
        exact ⟨y, List.mem_append.2 (.inl hy), h⟩
    by_cases g : ∃ y ∈ pre, (y.val % n) * m + y.val / n = t
    · rw [if_pos g, if_pos (h.2 g)]
    · rw [if_neg g, if_neg fun k => g (h.1 k)]
theorem trF_done {q : Nat} [NeZero q] {m n : Nat} {A : Mt q} {pre : List (Fin (m * n))} (h : pre.map Fin.val = List.range (m * n)) {i j : Nat} (hi : i < n) (hj : j < m) : TrF m n A pre (i * m + j) = .int .i64 (fv (A j i)) := by
  unfold TrF
  have hx : j * n + i ∈ pre.map Fin.val := by rw [h, List.mem_range]; exact idxLt hj hi
  obtain ⟨x, hx, e⟩ := List.mem_map.1 hx
  rw [if_pos ⟨x, hx, by rw [e, idxMod hi, idxDiv hi]⟩, idxMod hj, idxDiv hj]
theorem ownCell {W W' : World} {row : Option Nat} {b o : Nat} {v : Value} (h : W.cell? ⟨b, o, none⟩ = some v) (hg : W.grownBy W' row) (hr : ∀ r, row = some r → ∃ u : Obj, W.heap[r]? = some u ∧ u.isCells = false) : W'.cell? ⟨b, o, none⟩ = some v := by
  obtain ⟨u, hu, hc⟩ := cells_of_cell h
  have hb : b < W.heap.size := (Array.getElem?_eq_some_iff.1 hu).1
  refine (World.cell?_of_block (w := W) (hg.block b hb (fun e => ?_))).trans h
  obtain ⟨u', hu', hc'⟩ := hr b e.symm
  have := hu.symm.trans hu'
  simp only [Option.some.injEq] at this
  subst this
  rw [hc] at hc'
  exact absurd hc' (by decide)
theorem gb_cell {a w : World} {g b o : Nat} (h : a.grownBy w (some g)) (hb : b < a.heap.size) (hne : b ≠ g) : w.cell? ⟨b, o, none⟩ = a.cell? ⟨b, o, none⟩ := World.cell?_of_block (w := a) (h.block b hb (fun e => hne (by injection e)))
theorem keepC_alloc {n₀ G : Nat} {W : World} {o : Obj} (h : n₀ ≤ W.heap.size) : KeepC n₀ G W (W.alloc o) := fun p hp _ => ((Below.refl _ W).alloc (Nat.le_refl _) o).cell (p := p) (by omega)
theorem keepC_set {n₀ G o : Nat} {W : World} {v : Value} : KeepC n₀ G W (W.setCell ⟨G, o, none⟩ v) := fun p _ hg => World.cell?_of_block (w := W) (Deep.blk_setCell_other _ _ _ _ hg)
theorem keepD {W : World} {D b o : Nat} {u : Obj} (h : W.heap[D]? = some u) (hne : b ≠ D) (v : Value) : (W.setCell ⟨b, o, none⟩ v).heap[D]? = some u := (Deep.blk_setCell_other _ _ _ _ (fun e => hne e.symm)).trans h
theorem keepD4 {W : World} {D b : Nat} {u : Obj} (h : W.heap[D]? = some u) (hne : b ≠ D) (v0 v1 v2 v3 : Value) : ((((W.setCell ⟨b, 0, none⟩ v0).setCell ⟨b, 1, none⟩ v1).setCell ⟨b, 2, none⟩ v2).setCell ⟨b, 3, none⟩ v3).heap[D]? = some u :=
  keepD (keepD (keepD (keepD h hne _) hne _) hne _) hne _
theorem PtM.put {W : World} {L D : Nat} {p r c : Int} {v : Value} (h : PtM W L p r c v) (o : Obj) (hne : L ≠ D) : PtM (W.putObj D o) L p r c v := by
  obtain ⟨h0, h1, h2, h3, h4⟩ := h
  have e : ∀ k, (W.putObj D o).cell? ⟨L, k, none⟩ = W.cell? ⟨L, k, none⟩ := fun k => World.cell?_of_block (w := W) (World.putObj_heap_other (fun e => hne e))
  exact ⟨by simpa using h0, (e 0).trans h1, (e 1).trans h2, (e 2).trans h3, (e 3).trans h4⟩
theorem rowIs_put {W : World} {b D n : Nat} {t : TypeId} {f : Nat → Value} (h : W.rowIs b t n f) (o : Obj) (hne : b ≠ D) : (W.putObj D o).rowIs b t n f := h.of_block (World.putObj_heap_other (fun e => hne e))
/-- The result variable filled. -/
def set4 (W : World) (L : Nat) (p r c : Int) (v : Value) : World := (((W.setCell ⟨L, 0, none⟩ (.int .i64 p)).setCell ⟨L, 1, none⟩ (.int .i64 r)).setCell ⟨L, 2, none⟩ (.int .i64 c)).setCell ⟨L, 3, none⟩ v
theorem rowIs_set4 {W : World} {b L n : Nat} {t : TypeId} {f : Nat → Value} (h : W.rowIs b t n f) (hne : b ≠ L) (p r c : Int) (v : Value) : (set4 W L p r c v).rowIs b t n f :=
  rowIs_setO (rowIs_setO (rowIs_setO (rowIs_setO h hne _) hne _) hne _) hne _
theorem below_set4 {B : Nat} {w W : World} {L : Nat} (h : Below B w W) (hL : B ≤ L) (p r c : Int) (v : Value) : Below B w (set4 W L p r c v) :=
  Below.setC (Below.setC (Below.setC (Below.setC h hL _) hL _) hL _) hL _
/-- The end of a function with a loop over an iterator, whose result is a matrix variable. -/
theorem fin_mat {q m n : Nat} [NeZero q] {A : Mt q} {w W : World} {L D g : Nat} {F : Nat → Value} {p r c : Int} (hD : W.heap[D]? = some (.deferred (some []))) (hR : W.rowIs g 2 (m * n) F) (hB : Below w.heap.size w W) (hL : w.heap.size ≤ L) (hg : w.heap.size ≤ g) (hgL : g ≠ L) (hgD : g ≠ D) (hLD : L ≠ D) (hwD : w.heap.size ≤ D) (hl : m * n ≤ 1048576)
    (hF : ∀ i j, i < m → j < n → F (i * n + j) = .int .i64 (fv (A i j))) :
    OwnI w.heap.size ((set4 W L p r c (.slice (some ⟨g, 0, none⟩) (m * n) (m * n))).putObj D (.deferred none)) (.slice (some ⟨g, 0, none⟩) (m * n) (m * n)) (flat m n A) ∧ Below w.heap.size w ((set4 W L p r c (.slice (some ⟨g, 0, none⟩) (m * n) (m * n))).putObj D (.deferred none)) := by
  refine ⟨OwnI.of_flat (rowIs_put (rowIs_set4 hR hgL _ _ _ _) _ hgD) hg hl hF, ?_⟩
  have h4 : (set4 W L p r c (.slice (some ⟨g, 0, none⟩) (m * n) (m * n))).heap[D]? = some (.deferred (some [])) := keepD4 hD hLD _ _ _ _
  exact (below_set4 hB hL _ _ _ _).trans (belowK_b (w := w) (Nat.le_refl _) _ D _ _ hwD h4 rfl rfl)
end Go.Proofs.YtibdcejglkhcfaaGreatDoor

namespace Go.Proofs.YtibdcejglkhcfaaGreatDoor
open Go.RowKit
set_option linter.unusedVariables false

theorem oper_round {P : Program} {o : Oper} {a : Act} {w : World} {K : Act → World → Prop} {Q : Exit → Act → World → Prop} {r N : Nat} (hd : ∀ c, o.op ≠ .defer c) (h : o.wp P a w K Q) : o.wpIn (Fence.wide.inRound r) N P a w K Q := by
  refine ⟨fun f _ => trivial, ?_⟩
  rw [Oper.semAt_eq _ _ _ hd]
  unfold Oper.wp at h
  generalize (execOp a.eval o).run P w = res at h ⊢
  cases res with
  | ok x w' =>
    cases x <;> simp only [Oper.upon, Oper.uponIn] at h ⊢ <;>
      first
        | exact h
        | exact h.elim
        | exact ⟨fun e => absurd e (by simp [Fence.wide, Fence.inRound]), CallsIn.inRound r (callsIn_wide.2 (h.mono fun e w'' he => by cases e <;> exact he))⟩
        | exact ⟨fun e => absurd e (by simp [Fence.wide, Fence.inRound]), fun c cs _ => let ⟨v, w2, g, s⟩ := h c cs; ⟨v, w2, g, stepsIn_wide.2 s⟩⟩
  | halt x w' => cases x <;> simp only [Oper.upon, Oper.uponIn] at h ⊢ <;> exact h
theorem any_round {P : Program} {ops : Array Oper} {md : Region.Mode} {Q : Exit → Act → World → Prop} {r N : Nat} (hd : ∀ (i : Nat) (o : Oper), ops[i]? = some o → ∀ c, o.op ≠ .defer c) (hL : ¬ LetsOut Q) :
    ∀ (fuel : Nat) (listed : Array Bool) (a : Act) (w : World), wpAny P md ops Q fuel listed a w → wpAnyIn (Fence.wide.inRound r) N P md ops Q fuel listed a w
  | 0, _, _, _, h => h
  | fuel + 1, listed, a, w, h => by
    refine ⟨h.1, fun i hi => ?_⟩
    have h2 := h.2 i hi
    unfold wpOp at h2
    unfold wpOpIn
    cases ho : ops[i]? with
    | none => simp only [ho] at h2; exact any_round hd hL fuel _ _ _ h2
    | some o =>
      simp only [ho] at h2 ⊢
      split
      · rename_i hw
        simp only [hw, if_true] at h2
        rcases h2 with h2 | ⟨_, h2⟩
        · exact Oper.wpIn_mono (fun a' w' h' => any_round hd hL fuel _ _ _ h') (oper_round (hd i o ho) h2)
        · exact absurd h2 hL
      · rename_i hw
        simp only [hw] at h2
        exact ⟨fun f _ => trivial, any_round hd hL fuel _ _ _ h2⟩
def noDefer (ops : List Oper) : Bool := ops.all fun o => match o.op with | .defer _ => false | _ => true
theorem noDefer_is {l : List Oper} (h : noDefer l = true) (i : Nat) (o : Oper) (ho : l.toArray[i]? = some o) (c : _) : o.op ≠ .defer c := by
  intro e
  have hm : o ∈ l := by
    have : l[i]? = some o := by simpa using ho
    exact List.mem_of_getElem? this
  have := (List.all_eq_true.1 h) o hm
  rw [e] at this
  exact absurd this (by simp)
theorem region_round {P : Program} {id : Nat} {Q : Exit → Act → World → Prop} {a : Act} {w : World} {l : List Oper} {r N : Nat} (n : Nat) (hm : P.follows .mixedOrders = true) (hB : Region.lexTailB .any l.toArray n = true) (hd : noDefer l = true) (hL : ¬ LetsOut Q)
    (h : wpStill P l.toArray w.drew (fun a' => wpList P l.toArray Q (l.drop n) a' w.drew) (l.take n) a) : (Code.region id l.toArray true).wpIn (Fence.wide.inRound r) N P Q a w := by
  simp only [Region.lexTailB, Bool.and_eq_true, decide_eq_true_eq] at hB
  obtain ⟨⟨⟨⟨hsel, hn⟩, hs⟩, hc⟩, hlex⟩ := hB
  have hn' : n < l.length := by simpa using hn
  have htl : (l.take n).length = n := by simp; omega
  have hdl : (l.drop n).length = l.toArray.size - n := by simp
  refine wpIn_region_any hm (any_round (noDefer_is hd) hL _ _ _ _ ?_)
  have inv0 : HeadInv .any l.toArray n (Array.replicate l.toArray.size false) :=
    ⟨by simp, fun j oj _ hl => (by rw [getD_replicate_false] at hl; cases hl), fun t _ ht => Go.getD_in (by simpa using ht) (getD_replicate_false _ _)⟩
  have H := wpAnyL_lex (md := .any) (g := l.toArray.size - n) hsel hs hc hn (l.take n) 0 _ a (fun j hj => by
    have hj' : j < n := by omega
    simp [hj']) (by simpa using htl) inv0 (by rw [htl]; exact hlex) h
  have K := wpAny_of_head (Q' := Q) (g := l.toArray.size - n) (fun listed a' hL => by
    have K := wpAny_of_seq (md := .any) (Q' := Q) (l.drop n) n listed a' w.drew (fun j => by simp [List.getElem?_drop]) (by rw [hdl]; exact hL.1) hL.2
    rwa [hdl] at K) _ _ _ H
  rw [htl, show n + (l.toArray.size - n) = l.toArray.size by omega] at K
  exact K
theorem own_letsOut {α : Type} {B : Nat} {Kp : World → World → Prop} {I : List α → World → Prop} {Ix : Code → List α → World → Prop} {xs : List α} {W : World} : ¬ LetsOut (ownPostG B Kp I Ix xs W) := fun ⟨_, _, h⟩ => h
end Go.Proofs.YtibdcejglkhcfaaGreatDoor

namespace Go.Proofs.YtibdcejglkhcfaaGreatDoor
open Go.RowKit
open Lin
set_option linter.unusedVariables false
set_option linter.unusedSectionVars false

/-- One multiple of a row added. -/
def muS {q : Nat} [NeZero q] (l : Nat) (A B : Mt q) (M : Mt q) (x : Nat) : Mt q := fun i j => if i = x / l then M i j + B (x % l) j * A (x / l) (x % l) else M i j
def muP {q : Nat} [NeZero q] {m l : Nat} (A B : Mt q) (pre : List (Fin (m * l))) : Mt q := (pre.map Fin.val).foldl (muS l A B) (fun _ _ => 0)
theorem muP_snoc {q : Nat} [NeZero q] {m l : Nat} (A B : Mt q) (pre : List (Fin (m * l))) (x : Fin (m * l)) : muP A B (pre ++ [x]) = muS l A B (muP A B pre) x.val := by
  simp [muP, List.map_append, List.foldl_append]
theorem muP_range {q : Nat} [NeZero q] {l : Nat} (A B : Mt q) (hl : 0 < l) (i j : Nat) : ∀ T, (List.range T).foldl (muS l A B) (fun _ _ => 0) i j = sm (min l (T - i * l)) (fun k => A i k * B k j)
  | 0 => by simp [sm]
  | T + 1 => by
    rw [List.range_succ, List.foldl_append]
    have ih := muP_range A B hl i j T
    simp only [List.foldl_cons, List.foldl_nil]
    show (if i = T / l then _ + B (T % l) j * A (T / l) (T % l) else _) = _
    rw [ih]
    have hd := Nat.div_add_mod T l
    have hm := Nat.mod_lt T hl
    have hc : l * (T / l) = T / l * l := Nat.mul_comm _ _
    by_cases e : i = T / l
    · subst e
      rw [if_pos rfl]
      have e1 : min l (T - T / l * l) = T % l := by omega
      have e2 : min l (T + 1 - T / l * l) = T % l + 1 := by omega
      rw [e1, e2]
      show _ = sm _ _ + _
      grind
    · rw [if_neg e]
      have e1 : min l (T + 1 - i * l) = min l (T - i * l) := by
        rcases Nat.lt_or_ge i (T / l) with h | h
        · have : (i + 1) * l ≤ T / l * l := Nat.mul_le_mul_right l h
          rw [Nat.succ_mul] at this; omega
        · have : (T / l + 1) * l ≤ i * l := Nat.mul_le_mul_right l (by omega)
          rw [Nat.succ_mul] at this; omega
      rw [e1]
theorem muP_done {q : Nat} [NeZero q] {m l : Nat} {A B : Mt q} {pre : List (Fin (m * l))} (h : pre.map Fin.val = List.range (m * l)) {i : Nat} (j : Nat) (hi : i < m) : muP A B pre i j = muC l A B i j := by
  unfold muP muC
  rw [h]
  by_cases hl : l = 0
  · subst hl; simp [sm]
  · rw [muP_range A B (by omega)]
    have : (i + 1) * l ≤ m * l := Nat.mul_le_mul_right l hi
    rw [Nat.succ_mul] at this
    rw [show min l (m * l - i * l) = l by omega]
/-- The product so far. -/
def MuF {q : Nat} [NeZero q] {m l : Nat} (n : Nat) (A B : Mt q) (pre : List (Fin (m * l))) (t : Nat) : Value := .int .i64 (fv (muP A B pre (t / n) (t % n)))
theorem muF_nil {q : Nat} [NeZero q] (m l n : Nat) (A B : Mt q) (t : Nat) : MuF (m := m) (l := l) n A B [] t = .int .i64 0 := by
  show Value.int .i64 (fv (0 : Fin q)) = _
  rw [fv_zero]
theorem muF_snoc {q : Nat} [NeZero q] {m l n : Nat} {A B : Mt q} {pre : List (Fin (m * l))} (x : Fin (m * l)) (t : Nat) (ht : t < m * n) :
    AddF (MuF n A B pre) (x.val / l * n) n (fun j => muP A B pre (x.val / l) j) (fun j => B (x.val % l) j) (A (x.val / l) (x.val % l)) t = MuF n A B (pre ++ [x]) t := by
  have hn : 0 < n := Nat.pos_of_ne_zero fun e => by subst e; simp at ht
  have hd := Nat.div_add_mod t n
  have hm := Nat.mod_lt t hn
  have hc : n * (t / n) = t / n * n := Nat.mul_comm _ _
  unfold AddF MuF
  rw [muP_snoc]
  unfold muS
  by_cases e : t / n = x.val / l
  · rw [← e, if_pos (by omega), if_pos rfl, show t - t / n * n = t % n by omega]
  · rw [if_neg e, if_neg]
    intro h
    apply e
    obtain ⟨j, hj⟩ : ∃ j, t = x.val / l * n + j := ⟨t - x.val / l * n, by omega⟩
    rw [hj, idxDiv (by omega)]
theorem muF_at {q : Nat} [NeZero q] {m l n : Nat} {A B : Mt q} {pre : List (Fin (m * l))} {i j : Nat} (hj : j < n) : MuF n A B pre (i * n + j) = .int .i64 (fv (muP A B pre i j)) := by
  unfold MuF; rw [idxDiv hj, idxMod hj]
theorem muF_done {q : Nat} [NeZero q] {m l n : Nat} {A B : Mt q} {pre : List (Fin (m * l))} (h : pre.map Fin.val = List.range (m * l)) {i j : Nat} (hi : i < m) (hj : j < n) : MuF n A B pre (i * n + j) = .int .i64 (fv (muC l A B i j)) := by
  rw [muF_at hj, muP_done h j hi]
/-- addMultiple at a row that is read from rows. -/
theorem addMul_at {q : Nat} [NeZero q] {gs os ms cs cb n N : Nat} {F : Nat → Value} {X Y : Nat → Fin q} {c : Fin q} {f : Int} {ar : Option Addr} {w : World} (hf : fv c = f) (hq2 : 2 ≤ q) (hq : q ≤ 251) (hn : n ≤ 1048576) (hrow : w.rowIs gs 2 N F) (hfit : os + n ≤ N) (hms : n ≤ ms) (hm2 : ms ≤ maxLen)
    (hX : ∀ j, j < n → F (os + j) = .int .i64 (fv (X j))) (hY : ∀ j, j < n → ∃ b o, ar = some ⟨b, o, none⟩ ∧ b ≠ gs ∧ b < w.heap.size ∧ w.cell? ⟨b, o + j, none⟩ = some (.int .i64 (fv (Y j)))) :
    Calls Tryz.prog 153 #[.slice (some ⟨gs, os, none⟩) ms cs, .slice ar n cb, .int .i64 f, .int .i64 (q : Int)] w fun e w' => RetAdd gs N (AddF F os n X Y c) w e w' := by
  by_cases h0 : n = 0
  · subst h0
    refine (addMul_nil f q w hrow).mono ?_
    rintro e w' ⟨h1, h2, h3⟩
    exact ⟨h1, h2.congr fun t _ => (addF_zero F os X Y c t).symm, h3⟩
  · obtain ⟨b, o, e, hb, hb2, _⟩ := hY 0 (by omega)
    subst e
    refine addMul_k hf hq2 hq hn hrow hfit hms hm2 hb hb2 hX fun j hj => ?_
    obtain ⟨b', o', e, _, _, h⟩ := hY j hj
    simp only [Option.some.injEq, Addr.mk.injEq, and_true] at e
    obtain ⟨rfl, rfl⟩ := e
    exact h
theorem keepC_gb {n₀ G : Nat} {W W' : World} (h : W.grownBy W' (some G)) (hn : n₀ ≤ W.heap.size) : KeepC n₀ G W W' := fun p hp hg => World.cell?_of_block (w := W) (h.block p.block (by omega) (fun e => hg (by injection e)))
theorem gb_trans {a b c : World} {g : Nat} (h : a.grownBy b (some g)) (k : b.grownBy c (some g)) : a.grownBy c (some g) :=
  ⟨k.os.trans h.os, k.tape.trans h.tape, k.output.trans h.output, Nat.le_trans h.size k.size, fun i hi hne => (k.block i (Nat.lt_of_lt_of_le hi h.size) hne).trans (h.block i hi hne)⟩
theorem gb_undrew {a b : World} {g : Nat} (h : a.drew.grownBy b (some g)) : a.grownBy b (some g) := ⟨h.os, h.tape, h.output, h.size, h.block⟩
end Go.Proofs.YtibdcejglkhcfaaGreatDoor

namespace Go.Proofs.YtibdcejglkhcfaaGreatDoor
open Go.RowKit Go.Shelf
open Lin
set_option linter.unusedVariables false
set_option linter.unusedSectionVars false
attribute [local go_sem] Oper.semAt_some

set_option maxRecDepth 100000 in
set_option maxHeartbeats 1600000 in
theorem implTr_b1 {p r c : Int} {u : Value} {xs : List Int} {w : World} (hu : IntsAt w u xs) (hk : false = okB p r c xs) :
    Calls Tryz.prog 139 #[.agg #[.int .i64 p, .int .i64 r, .int .i64 c, u]] w fun e w' => RetMC 0 0 0 [] 1 w e w' := by
  have HU := Lib.hid hu
  obtain ⟨a1, c1, rfl, hl1, _⟩ := hu
  have HK := Lib.hid hk
  clear hk
  have Pa0 := PtM.new1 w p r c (.slice a1 xs.length c1) 41 (.cells #[.int .i64 0, .int .i64 0, .int .i64 0, .slice none 0 0] 41)
  have Pr0 := PtM.new (w.alloc (.cells #[.int .i64 p, .int .i64 r, .int .i64 c, .slice a1 xs.length c1] 41)) 0 0 0 (.slice none 0 0) 41
  have Fr0 := Fz.new (w.alloc (.cells #[.int .i64 p, .int .i64 r, .int .i64 c, .slice a1 xs.length c1] 41)) #[.int .i64 0, .int .i64 0, .int .i64 0, .slice none 0 0] 41
  rw [World.size_alloc] at Pr0 Fr0
  go_enter Tryz.func139, Tryz.ntmps139
  go_wp2_with fail
  with_reducible refine Calls.mono (implVM_r (T := false) (HU.out.on (al1 (al1 (Below.refl _ _) _) _)) HK.out) ?_
  rintro e w1 ⟨rfl, hb⟩
  have Pa := Lib.hid (Pa0.on hb)
  have Pr := Lib.hid (Pr0.on hb)
  have Fr : Hid (Fz w1 (w.heap.size + 1)) := Fr0.on (by simp) hb
  have HB := Lib.hid (up2 hb)
  have hz : w.heap.size + 2 ≤ w1.heap.size := by have := hb.size; simp at this; omega
  clear hb Pa0 Pr0 Fr0
  obtain ⟨lA, x0, x1, x2, x3⟩ := Pa.out
  obtain ⟨lR, r0, r1, r2, r3⟩ := Pr.out
  obtain ⟨f0, f1, f2, f3⟩ := Fr.out.all
  go_wp2_with fail
  refine bodyPost_ret (v := .tuple #[.agg #[.int .i64 0, .int .i64 0, .int .i64 0, .slice none 0 0], .int .i64 1]) (by simp [results, Tryz.results139, go_sem, r0, r1, r2, r3]) rfl ⟨_, rfl, OwnI.nul _ _, ?_⟩
  repeat (refine Below.setC ?_ (by omega) _)
  exact HB.out
set_option maxRecDepth 100000 in
set_option maxHeartbeats 3200000 in
theorem implTr_ok {q m n : Nat} [NeZero q] {A : Mt q} {u : Value} {w : World} (hu : IntsC w u (flat m n A)) (hA : MIs q m n (flat m n A) q m n A) :
    Calls Tryz.prog 139 #[.agg #[.int .i64 (q : Int), .int .i64 (m : Int), .int .i64 (n : Int), u]] w fun e w' => RetMC q n m (flat n m (fun i j => A j i)) 0 w e w' := by
  have hk : true = okB (q : Int) m n (flat m n A) := (okB_yes hA.ok).symm
  have hN := side_mul hA.m32 hA.n32
  obtain ⟨hq2, hq⟩ := hA.q2
  have HC := Lib.hid hu
  have HU := Lib.hid hu.1
  obtain ⟨a1, k1, rfl, hl1, -⟩ := hu.1
  have HK := Lib.hid hk
  clear hk
  simp only [flat_len] at HU HC hl1 ⊢
  clear hu
  have Pa0 := PtM.new1 w q m n (.slice a1 (m * n) k1) 41 (.cells #[.int .i64 0, .int .i64 0, .int .i64 0, .slice none 0 0] 41)
  have Pr0 := PtM.new (w.alloc (.cells #[.int .i64 q, .int .i64 m, .int .i64 n, .slice a1 (m * n) k1] 41)) 0 0 0 (.slice none 0 0) 41
  have Fr0 := Fz.new (w.alloc (.cells #[.int .i64 q, .int .i64 m, .int .i64 n, .slice a1 (m * n) k1] 41)) #[.int .i64 0, .int .i64 0, .int .i64 0, .slice none 0 0] 41
  rw [World.size_alloc] at Pr0 Fr0
  refine (callsIn_wide (n := 9)).1 ?_
  refine callsIn_of_wp_marks Tryz.func139 rfl trivial ?_ rfl
  simp only [Tryz.ntmps139, List.size_toArray, List.length_cons, List.length_nil, Nat.reduceAdd, Nat.reduceSub, Array.replicate_succ, Array.replicate_zero, List.push_toArray, List.append_toArray, List.nil_append, List.cons_append]
  gi_wp2_with fail
  refine ⟨trivial, (callsIn_wide.2 (implVM_r (T := true) (HU.out.on (al1 (al1 (Below.refl _ _) _) _)) HK.out)).mono ?_⟩
  rintro e w1 ⟨rfl, hb⟩
  have Pa := Lib.hid (Pa0.on hb)
  have Pr := Lib.hid (Pr0.on hb)
  have Fr : Hid (Fz w1 (w.heap.size + 1)) := Fr0.on (by simp) hb
  have HB := Lib.hid (up2 hb)
  have hz : w.heap.size + 2 ≤ w1.heap.size := by have := hb.size; simp at this; omega
  clear hb Pa0 Pr0 Fr0
  obtain ⟨lA, x0, x1, x2, x3⟩ := Pa.out
  obtain ⟨lR, r0, r1, r2, r3⟩ := Pr.out
  obtain ⟨f0, f1, f2, f3⟩ := Fr.out.all
  gi_wp2_with fail
  refine ⟨trivial, (callsIn_wide.2 (implZeros_any q n m (n * m) _ (Int.natCast_mul n m).symm (by rw [Nat.mul_comm]; omega))).mono ?_⟩
  rintro e w2 ⟨h, rfl, hg, hrow, hb⟩
  clear lA x0 x1 x2 x3 lR r0 r1 r2 r3 f0 f1 f2 f3
  have Pa := Lib.hid (Pa.out.on hb)
  have Pr := Lib.hid (Pr.out.on hb)
  have Fr : Hid (Fz w2 (w.heap.size + 1)) := Fr.out.on (by omega) hb
  have HB := Lib.hid (HB.out.trans (hb.mono (by omega)))
  have hz2 : w.heap.size + 2 ≤ w2.heap.size := by have := hb.size; omega
  have hg3 := hrow.lt
  have HR := Lib.hid hrow
  have hg2 : w.heap.size + 2 ≤ h := by omega
  clear hb hrow hg
  obtain ⟨lA, x0, x1, x2, x3⟩ := Pa.out
  obtain ⟨lR, r0, r1, r2, r3⟩ := Pr.out
  obtain ⟨f0, f1, f2, f3⟩ := Fr.out.all
  gi_wp2_with fail
  have Pt0 := PtM.new w2 q n m (.slice (some ⟨h, 0, none⟩) (n * m) (n * m)) 41
  refine ⟨trivial, (callsIn_wide.2 (rows_any Pt0 hA.n32 (Nat.le_trans hA.m32 (by omega)) (Nat.le_refl _) (by unfold maxLen; rw [Nat.mul_comm]; omega) (.inr ⟨h, 0, rfl⟩))).mono ?_⟩
  rintro e w3 ⟨H1, rfl, hH1, hrow1, hb⟩
  have hsz3 : w2.heap.size + 1 ≤ w3.heap.size := by have := hb.size; simp at this; omega
  have hH1' : w2.heap.size + 1 ≤ H1 := by simpa using hH1
  have hH1l := hrow1.lt
  have hb3 : Below w2.heap.size w2 w3 := up1 hb
  clear lA x0 x1 x2 x3 lR r0 r1 r2 r3 f0 f1 f2 f3
  have Pa := Lib.hid (Pa.out.on hb3)
  have Pr := Lib.hid (Pr.out.on hb3)
  have Pt := Lib.hid (Pt0.on hb)
  have Fr : Hid (Fz w3 (w.heap.size + 1)) := Fr.out.on (by omega) hb3
  have HB := Lib.hid (HB.out.trans (hb3.mono (by omega)))
  have HR := Lib.hid (rowIs_on HR.out hb3)
  have H1R := Lib.hid hrow1
  clear hb hb3 Pt0 hrow1 hH1
  have lRR := Pr.out.1
  obtain ⟨lA, x0, x1, x2, x3⟩ := Pa.out
  obtain ⟨lR, r0, r1, r2, r3⟩ := Pr.out
  obtain ⟨f0, f1, f2, f3⟩ := Fr.out.all
  gi_wp2_with fail
  refine ⟨trivial, (callsIn_wide.2 (implRows_any (Pa.out.on ((Below.refl _ _).alloc (Nat.le_refl _) _)) HC.out (al1 HB.out _) hA.m32 (Nat.le_trans hA.n32 (by omega)))).mono ?_⟩
  rintro e w4 ⟨H2, ar, cc, rfl, hH2, hH2l, hin, hb⟩
  have hb40 := (Below.refl w4.heap.size w4).alloc (Nat.le_refl _) (.cells #[.slice (some ⟨H2, 0, none⟩) m m] 147)
  have hbW := hb.trans (hb40.mono hb.size)
  have c1 : (w4.alloc (.cells #[.slice (some ⟨H2, 0, none⟩) m m] 147)).cell? ⟨w3.heap.size, 0, none⟩ = some (.slice (some ⟨H1, 0, none⟩) n n) :=
    (hbW.cell (p := ⟨w3.heap.size, 0, none⟩) (by simp)).trans (by rw [World.cell?_alloc_at _ _ _ _ rfl]; rfl)
  have c2 : (w4.alloc (.cells #[.slice (some ⟨H2, 0, none⟩) m m] 147)).cell? ⟨w4.heap.size, 0, none⟩ = some (.slice (some ⟨H2, 0, none⟩) m m) := by rw [World.cell?_alloc_at _ _ _ _ rfl]; rfl
  have hs4 : w3.heap.size + 1 ≤ w4.heap.size := by have := hb.size; simp at this; omega
  have hH2' : w3.heap.size + 1 ≤ H2 := by simpa using hH2
  have hin0 := hin.on hH2l (by omega) hb40
  have hb0 := up1 hbW
  clear lA x0 x1 x2 x3 lR r0 r1 r2 r3 f0 f1 f2 f3
  have Pr := Lib.hid (Pr.out.on hb0)
  have Pt := Lib.hid (Pt.out.on hb0)
  have Fr := Lib.hid (Fr.out.on lRR hb0)
  have HB := Lib.hid (HB.out.trans (hb0.mono (by omega)))
  have HR := Lib.hid (rowIs_on HR.out hb0)
  have H1R := Lib.hid (rowIs_on H1R.out hb0)
  clear hb hb0 hb40 hbW hin hH2
  gi_wp2_with fail
  refine ⟨trivial, (cells_in _ _ trivial rfl _ _ _ _).mono ?_⟩
  rintro e w5 ⟨rfl, rfl⟩
  gi_wp2_with fail
  obtain ⟨W0, hW0⟩ : ∃ W0, w4.alloc (.cells #[.slice (some ⟨H2, 0, none⟩) m m] 147) = W0 := ⟨_, rfl⟩
  have hsz0 : W0.heap.size = w4.heap.size + 1 := by rw [← hW0]; simp
  rw [hW0] at c1 c2 hin0 Pr Pt Fr HB HR H1R ⊢
  clear hW0
  refine wpIn_rangeFunc_ownH rfl (by decide) (gf := 191) (lb := #[.pointer (some ⟨w4.heap.size, 0, none⟩)]) rfl trivial (enters_of Tryz.func191 (by kernel_rfl) rfl)
    (cells_stops _ _ trivial rfl (by decide) w4.heap.size W0.heap.size h H2 m m n ar cc (fun i k => fv (A i k)) (Nat.le_trans hA.m32 (by omega)) (Nat.le_trans hA.n32 (by omega)) (by omega) (by omega) W0 (by omega) (Nat.le_refl _) c2 hin0.1 (fun i k hi hk => by
      obtain ⟨b, o, e1, e2, e3⟩ := hin0.2 i k hi hk
      exact ⟨b, o, e1, by omega, by omega, e3⟩)) KeepC.trans (keepC_b (Nat.le_refl _)) (Below.refl _ _) (fun _ => rfl)
    (fun pre W => W.rowIs h 2 (n * m) (TrF m n A pre) ∧ W0.grownBy W (some h)) (fun _ _ _ => False)
    (OwnFrom.and (ownFrom_rowIs _ (by omega)) (ownFrom_grown (Nat.le_refl _))) (fun _ _ _ _ _ hs _ _ => hs)
    ⟨HR.out.congr fun t _ => (trF_nil m n A t).symm, grown_refl _ _⟩
    (fun x a' W => ∃ Bx, W0.heap.size ≤ Bx ∧ W.cell? ⟨Bx, 0, none⟩ = some (.int .i64 (x.val / n : Nat)) ∧ W.cell? ⟨Bx, 1, none⟩ = some (.int .i64 (x.val % n : Nat)) ∧ a' = { tmps := #[.agg #[.int .i64 q, .int .i64 m, .int .i64 n, .slice a1 (m * n) k1], .pointer (some ⟨w.heap.size, 0, none⟩), .pointer (some ⟨w.heap.size + 1, 0, none⟩), .int .i64 0, .pointer (some ⟨w2.heap.size, 0, none⟩), .pointer (some ⟨w3.heap.size, 0, none⟩), .pointer (some ⟨Bx, 0, none⟩), .int .i64 (fv (A (x.val / n) (x.val % n))), .agg #[.int .i64 q, .int .i64 m, .int .i64 n, .slice a1 (m * n) k1], .bool true, .bool false, undef, .pointer (some ⟨w.heap.size, 0, none⟩), .int .i64 q, .pointer (some ⟨w.heap.size, 2, none⟩), .int .i64 n, .pointer (some ⟨w.heap.size, 1, none⟩), .int .i64 m, .agg #[.int .i64 q, .int .i64 n, .int .i64 m, .slice (some ⟨h, 0, none⟩) (n * m) (n * m)], .slice (some ⟨H1, 0, none⟩) n n, .slice (some ⟨H2, 0, none⟩) m m, .func (.func 191) #[] #[.pointer (some ⟨w4.heap.size, 0, none⟩)], .agg #[.int .i64 (x.val / n : Nat), .int .i64 (x.val % n : Nat)], .int .i64 (fv (A (x.val / n) (x.val % n))), undef, undef, undef, undef, undef, undef, undef, undef, undef, undef], defers := [] })
    (fun x a' _ X Y row hs hg hr => by obtain ⟨Bx, h1, h2, h3, h4⟩ := hs; exact ⟨Bx, h1, ownCell h2 hg fun r e => (hr r e).2, ownCell h3 hg fun r e => (hr r e).2, h4⟩)
    ?assign ?body ?done ?stop
  case assign =>
    rintro l pre x W K ⟨hR, hG⟩ hK
    have hGs := hG.size
    unfold cellEnc CellArgs
    obtain ⟨i, hie⟩ : ∃ i, x.val / n = i := ⟨_, rfl⟩
    obtain ⟨k, hke⟩ : ∃ k, x.val % n = k := ⟨_, rfl⟩
    rw [hie, hke] at hK ⊢
    gi_wp2
    exact hK _ _ ((KeepsOthers.alloc _ _).from _) (keepC_alloc hGs) ⟨rowIs_on hR ((Below.refl _ W).alloc (Nat.le_refl _) _), gb_alloc hG _⟩ ⟨W.heap.size, hGs, by rw [World.cell?_alloc_at _ _ _ _ rfl]; rfl, by rw [World.cell?_alloc_at _ _ _ _ rfl]; rfl, rfl⟩
  case body =>
    rintro l pre x a' W hl ⟨r, hr⟩ ⟨hR, hG⟩ ⟨Bx, hBx, b0, b1, rfl⟩ hlt
    dsimp only
    obtain ⟨hi, hk⟩ := cell_row x
    have hsn := trF_snoc (A := A) (pre := pre) x
    obtain ⟨i, hie⟩ : ∃ i, x.val / n = i := ⟨_, rfl⟩
    obtain ⟨k, hke⟩ : ∃ k, x.val % n = k := ⟨_, rfl⟩
    rw [hie] at hi b0 hsn ⊢
    rw [hke] at hk b1 hsn ⊢
    have d1 := (gb_cell hG (b := w3.heap.size) (o := 0) (by omega) (by omega)).trans c1
    have d2 := (gb_cell hG (b := H1) (o := k) (by omega) (by omega)).trans (H1R.out.cell hk)
    have hs := idx_lt hk hi
    obtain ⟨s, hse⟩ : ∃ s, k * m = s := ⟨_, rfl⟩
    unfold rowW adr at d2
    simp only [Nat.zero_add] at d2
    rw [hse] at d2 hs hsn
    have d3 := hR.cell (i := s + i) hs
    have d4 := hR.frozen (s + i)
    have i0 : (0 : Int) ≤ (i : Int) := by omega
    have i1 : (i : Int) < (m : Int) := by omega
    have i2 : (0 : Int) ≤ (k : Int) := by omega
    have i3 : (k : Int) < (n : Int) := by omega
    have HRR := Lib.hid hR
    have HGG := Lib.hid hG
    have HS := Lib.hid hsn
    clear hR hG hr hl hA hin0 hsn
    clear HK HU HC HB HR H1R Fr Pt Pr Pa c1 c2
    gi_wp2
    refine region_round 9 (by kernel_rfl) (by kernel_rfl) (by kernel_rfl) (fun ⟨_, _, h⟩ => h) ?_
    simp only [List.take_succ_cons, List.take_zero, List.drop_succ_cons, List.drop_zero]
    repeat still_step
    try refine wpStill_nil ?_
    go_wp2
    exact ⟨((KeepsOthers.drew _).trans (KeepsOthers.setCell _ _ _)).from _, keepC_set, (((HRR.out.set (s + i) _).congr fun t _ => HS.out t).drew), gb_drew (gb_set HGG.out _)⟩
  case done =>
    rintro D ys W hD hys ⟨hR, hG⟩ hK
    have hT := Pt.out.1
    have HRR := Lib.hid hR
    have Pt := Lib.hid (Pt.out.gb hG (by omega))
    have Pr := Lib.hid (Pr.out.gb hG (by omega))
    have Fr : Hid (Fz W (w.heap.size + 1)) := Fr.out.gb (by omega) hG (by omega)
    have HB := Lib.hid (below_gb HB.out hG (by omega) (by omega))
    obtain ⟨lT, x0, x1, x2, x3⟩ := Pt.out
    obtain ⟨lR, r0, r1, r2, r3⟩ := Pr.out
    obtain ⟨f0, f1, f2, f3⟩ := Fr.out.all
    gi_wp2
    have hD1 : w.heap.size + 1 ≠ D := by omega
    have hDh : h ≠ D := by omega
    have hK4 := keepD4 hK hD1 (.int .i64 q) (.int .i64 n) (.int .i64 m) (.slice (some ⟨h, 0, none⟩) (n * m) (n * m))
    refine ⟨by simp, .inl ⟨_, _, rfl, run_takeDeferred hK4, ?_⟩⟩
    have P4 := (Pr.out.set4 q n m (.slice (some ⟨h, 0, none⟩) (n * m) (n * m))).put (.deferred none) hD1
    obtain ⟨hO, hBB⟩ := fin_mat (A := fun i j => A j i) (p := q) (r := n) (c := m) hK HRR.out HB.out (by omega : w.heap.size ≤ w.heap.size + 1) (by omega) (by omega) hDh hD1 (by omega) (by rw [Nat.mul_comm]; omega) (fun i j hi hj => trF_done hys hi hj)
    obtain ⟨_, q0, q1, q2, q3⟩ := P4
    refine ⟨.tuple #[.agg #[.int .i64 q, .int .i64 n, .int .i64 m, .slice (some ⟨h, 0, none⟩) (n * m) (n * m)], .int .i64 0], ?_, ⟨_, rfl, hO, hBB⟩⟩
    simp [results, Tryz.results139, go_sem, q0, q1, q2, q3]
  case stop =>
    rintro D c pre W _ _ h _
    exact h.elim
theorem implTr_any {p r c P R C k : Int} {u : Value} {xs zs : List Int} {w : World} (hu : IntsC w u xs) (h : TrRes p r c xs P R C zs k) :
    Calls Tryz.prog 139 #[.agg #[.int .i64 p, .int .i64 r, .int .i64 c, u]] w fun e w' => RetMC P R C zs k w e w' := by
  rcases h with ⟨h, rfl, rfl, rfl, rfl, rfl⟩ | ⟨rfl, rfl, rfl, rfl, u', _, m, n, A, hA, rfl⟩
  · exact implTr_b1 hu.1 (okB_no h).symm
  · obtain ⟨rfl, rfl, rfl, rfl, h5, h6, h7⟩ := hA
    exact implTr_ok hu ⟨rfl, rfl, rfl, rfl, h5, h6, h7⟩
end Go.Proofs.YtibdcejglkhcfaaGreatDoor

namespace Go.Proofs.YtibdcejglkhcfaaGreatDoor
open Go.RowKit Go.Shelf
open Lin
set_option linter.unusedVariables false
set_option linter.unusedSectionVars false
attribute [local go_sem] Oper.semAt_some

set_option maxRecDepth 100000 in
set_option maxHeartbeats 1600000 in
theorem implMu_b {p r c q s d k : Int} {u v : Value} {xs ys : List Int} {w : World} (hu : IntsAt w u xs) (hv : IntsAt w v ys) {T : Bool} (e1 : (c == s) = T) (hk : FitK p r c xs q s d ys T k) (e0 : (k != 0) = true) :
    Calls Tryz.prog 110 #[.agg #[.int .i64 p, .int .i64 r, .int .i64 c, u], .agg #[.int .i64 q, .int .i64 s, .int .i64 d, v]] w fun e w' => RetMC 0 0 0 [] k w e w' := by
  have HU := Lib.hid hu
  have HV := Lib.hid hv
  obtain ⟨a1, c1, rfl, hl1, _⟩ := hu
  obtain ⟨a2, c2, rfl, hl2, _⟩ := hv
  have HK := Lib.hid hk
  clear hk
  have Pa0 := PtM.new2 w p r c (.slice a1 xs.length c1) 41 (.cells #[.int .i64 q, .int .i64 s, .int .i64 d, .slice a2 ys.length c2] 41) (.cells #[.int .i64 0, .int .i64 0, .int .i64 0, .slice none 0 0] 41)
  have Pb0 := PtM.new1 (w.alloc (.cells #[.int .i64 p, .int .i64 r, .int .i64 c, .slice a1 xs.length c1] 41)) q s d (.slice a2 ys.length c2) 41 (.cells #[.int .i64 0, .int .i64 0, .int .i64 0, .slice none 0 0] 41)
  have Pr0 := PtM.new ((w.alloc (.cells #[.int .i64 p, .int .i64 r, .int .i64 c, .slice a1 xs.length c1] 41)).alloc (.cells #[.int .i64 q, .int .i64 s, .int .i64 d, .slice a2 ys.length c2] 41)) 0 0 0 (.slice none 0 0) 41
  have Fr0 := Fz.new ((w.alloc (.cells #[.int .i64 p, .int .i64 r, .int .i64 c, .slice a1 xs.length c1] 41)).alloc (.cells #[.int .i64 q, .int .i64 s, .int .i64 d, .slice a2 ys.length c2] 41)) #[.int .i64 0, .int .i64 0, .int .i64 0, .slice none 0 0] 41
  rw [World.size_alloc] at Pb0
  rw [World.size_alloc, World.size_alloc] at Pr0 Fr0
  go_enter Tryz.func110, Tryz.ntmps110
  go_wp2_with fail
  refine (fit_any (HU.out.on (al1 (al1 (al1 (Below.refl _ _) _) _) _)) (HV.out.on (al1 (al1 (al1 (Below.refl _ _) _) _) _)) HK.out).mono ?_
  rintro e w1 ⟨rfl, hb⟩
  have Pa := Lib.hid (Pa0.on hb)
  have Pb := Lib.hid (Pb0.on hb)
  have Pr := Lib.hid (Pr0.on hb)
  have Fr : Hid (Fz w1 (w.heap.size + 1 + 1)) := Fr0.on (by simp) hb
  have HB := Lib.hid (up3 hb)
  have hz : w.heap.size + 3 ≤ w1.heap.size := by have := hb.size; simp at this; omega
  clear hb Pa0 Pb0 Pr0 Fr0
  obtain ⟨lA, x0, x1, x2, x3⟩ := Pa.out
  obtain ⟨lB, y0, y1, y2, y3⟩ := Pb.out
  obtain ⟨lR, r0, r1, r2, r3⟩ := Pr.out
  obtain ⟨f0, f1, f2, f3⟩ := Fr.out.all
  go_wp2_with fail
  refine bodyPost_ret (v := .tuple #[.agg #[.int .i64 0, .int .i64 0, .int .i64 0, .slice none 0 0], .int .i64 k]) (by simp [results, Tryz.results110, go_sem, r0, r1, r2, r3]) rfl ⟨_, rfl, OwnI.nul _ _, ?_⟩
  repeat (refine Below.setC ?_ (by omega) _)
  exact HB.out
set_option maxRecDepth 100000 in
set_option maxHeartbeats 3200000 in
theorem implMu_ok {q m l n : Nat} [NeZero q] {A B : Mt q} {u v : Value} {w : World} (hu : IntsC w u (flat m l A)) (hv : IntsC w v (flat l n B)) (hA : MIs q m l (flat m l A) q m l A) (hB : MIs q l n (flat l n B) q l n B) :
    Calls Tryz.prog 110 #[.agg #[.int .i64 (q : Int), .int .i64 (m : Int), .int .i64 (l : Int), u], .agg #[.int .i64 (q : Int), .int .i64 (l : Int), .int .i64 (n : Int), v]] w fun e w' => RetMC q m n (flat m n (muC l A B)) 0 w e w' := by
  have hk : FitK (q : Int) m l (flat m l A) q l n (flat l n B) true 0 := .inr (.inr ⟨hA.ok, hB.ok, rfl, rfl, rfl⟩)
  have hN := side_mul hA.m32 hB.n32
  obtain ⟨hq2, hq⟩ := hA.q2
  have e1 : ((l : Int) == (l : Int)) = true := by simp
  have HCU := Lib.hid hu
  have HCV := Lib.hid hv
  have HU := Lib.hid hu.1
  have HV := Lib.hid hv.1
  obtain ⟨a1, k1, rfl, hl1, -⟩ := hu.1
  obtain ⟨a2, k2, rfl, hl2, -⟩ := hv.1
  have HK := Lib.hid hk
  simp only [flat_len] at HU HV HCU HCV hl1 hl2 ⊢
  have hm32 := hA.m32
  have hl32 := hA.n32
  have hn32 := hB.n32
  clear hk hA hB hu hv
  have Pa0 := PtM.new2 w q m l (.slice a1 (m * l) k1) 41 (.cells #[.int .i64 q, .int .i64 l, .int .i64 n, .slice a2 (l * n) k2] 41) (.cells #[.int .i64 0, .int .i64 0, .int .i64 0, .slice none 0 0] 41)
  have Pb0 := PtM.new1 (w.alloc (.cells #[.int .i64 q, .int .i64 m, .int .i64 l, .slice a1 (m * l) k1] 41)) q l n (.slice a2 (l * n) k2) 41 (.cells #[.int .i64 0, .int .i64 0, .int .i64 0, .slice none 0 0] 41)
  have Pr0 := PtM.new ((w.alloc (.cells #[.int .i64 q, .int .i64 m, .int .i64 l, .slice a1 (m * l) k1] 41)).alloc (.cells #[.int .i64 q, .int .i64 l, .int .i64 n, .slice a2 (l * n) k2] 41)) 0 0 0 (.slice none 0 0) 41
  have Fr0 := Fz.new ((w.alloc (.cells #[.int .i64 q, .int .i64 m, .int .i64 l, .slice a1 (m * l) k1] 41)).alloc (.cells #[.int .i64 q, .int .i64 l, .int .i64 n, .slice a2 (l * n) k2] 41)) #[.int .i64 0, .int .i64 0, .int .i64 0, .slice none 0 0] 41
  rw [World.size_alloc] at Pb0
  rw [World.size_alloc, World.size_alloc] at Pr0 Fr0
  refine (callsIn_wide (n := 9)).1 ?_
  refine callsIn_of_wp_marks Tryz.func110 rfl trivial ?_ rfl
  simp only [Tryz.ntmps110, List.size_toArray, List.length_cons, List.length_nil, Nat.reduceAdd, Nat.reduceSub, Array.replicate_succ, Array.replicate_zero, List.push_toArray, List.append_toArray, List.nil_append, List.cons_append]
  gi_wp2_with fail
  refine ⟨trivial, (callsIn_wide.2 (fit_any (HU.out.on (al1 (al1 (al1 (Below.refl _ _) _) _) _)) (HV.out.on (al1 (al1 (al1 (Below.refl _ _) _) _) _)) HK.out)).mono ?_⟩
  rintro e w1 ⟨rfl, hb⟩
  have Pa := Lib.hid (Pa0.on hb)
  have Pb := Lib.hid (Pb0.on hb)
  have Pr := Lib.hid (Pr0.on hb)
  have Fr : Hid (Fz w1 (w.heap.size + 1 + 1)) := Fr0.on (by simp) hb
  have HB := Lib.hid (up3 hb)
  have hz : w.heap.size + 3 ≤ w1.heap.size := by have := hb.size; simp at this; omega
  clear hb Pa0 Pb0 Pr0 Fr0
  obtain ⟨lA, x0, x1, x2, x3⟩ := Pa.out
  obtain ⟨lB, y0, y1, y2, y3⟩ := Pb.out
  obtain ⟨lR, r0, r1, r2, r3⟩ := Pr.out
  obtain ⟨f0, f1, f2, f3⟩ := Fr.out.all
  gi_wp2_with fail
  refine ⟨trivial, (callsIn_wide.2 (implZeros_any q m n (m * n) _ (Int.natCast_mul m n).symm (by omega))).mono ?_⟩
  rintro e w2 ⟨h, rfl, hg, hrow, hb⟩
  clear lA x0 x1 x2 x3 lB y0 y1 y2 y3 lR r0 r1 r2 r3 f0 f1 f2 f3
  have Pa := Lib.hid (Pa.out.on hb)
  have Pb := Lib.hid (Pb.out.on hb)
  have Pr := Lib.hid (Pr.out.on hb)
  have Fr : Hid (Fz w2 (w.heap.size + 1 + 1)) := Fr.out.on (by omega) hb
  have HB := Lib.hid (HB.out.trans (hb.mono (by omega)))
  have hz2 : w.heap.size + 3 ≤ w2.heap.size := by have := hb.size; omega
  have hg3 := hrow.lt
  have HR := Lib.hid hrow
  have hg2 : w.heap.size + 3 ≤ h := by omega
  clear hb hrow hg
  obtain ⟨lA, x0, x1, x2, x3⟩ := Pa.out
  obtain ⟨lB, y0, y1, y2, y3⟩ := Pb.out
  obtain ⟨lR, r0, r1, r2, r3⟩ := Pr.out
  obtain ⟨f0, f1, f2, f3⟩ := Fr.out.all
  gi_wp2_with fail
  have Pt0 := PtM.new w2 q m n (.slice (some ⟨h, 0, none⟩) (m * n) (m * n)) 41
  refine ⟨trivial, (callsIn_wide.2 (rows_any Pt0 hm32 (Nat.le_trans hn32 (by omega)) (Nat.le_refl _) (by unfold maxLen; omega) (.inr ⟨h, 0, rfl⟩))).mono ?_⟩
  rintro e w3 ⟨H1, rfl, hH1, hrow1, hb⟩
  have hsz3 : w2.heap.size + 1 ≤ w3.heap.size := by have := hb.size; simp at this; omega
  have hH1' : w2.heap.size + 1 ≤ H1 := by simpa using hH1
  have hH1l := hrow1.lt
  have hb3 : Below w2.heap.size w2 w3 := up1 hb
  clear lA x0 x1 x2 x3 lB y0 y1 y2 y3 lR r0 r1 r2 r3 f0 f1 f2 f3
  have Pa := Lib.hid (Pa.out.on hb3)
  have Pb := Lib.hid (Pb.out.on hb3)
  have Pr := Lib.hid (Pr.out.on hb3)
  have Fr : Hid (Fz w3 (w.heap.size + 1 + 1)) := Fr.out.on (by omega) hb3
  have HB := Lib.hid (HB.out.trans (hb3.mono (by omega)))
  have Pt := Lib.hid (Pt0.on hb)
  have HR := Lib.hid (rowIs_on HR.out hb3)
  have H1R := Lib.hid hrow1
  clear hb hb3 Pt0 hrow1 hH1
  obtain ⟨lA, x0, x1, x2, x3⟩ := Pa.out
  obtain ⟨lB, y0, y1, y2, y3⟩ := Pb.out
  obtain ⟨lR, r0, r1, r2, r3⟩ := Pr.out
  obtain ⟨f0, f1, f2, f3⟩ := Fr.out.all
  gi_wp2_with fail
  refine ⟨trivial, (callsIn_wide.2 (implRows_any Pb.out HCV.out HB.out hl32 (Nat.le_trans hn32 (by omega)))).mono ?_⟩
  rintro e w4 ⟨H2, ar2, cc2, rfl, hH2, hH2l, hin2, hb⟩
  have hsz4 : w3.heap.size ≤ w4.heap.size := hb.size
  clear lA x0 x1 x2 x3 lB y0 y1 y2 y3 lR r0 r1 r2 r3 f0 f1 f2 f3
  have Pa := Lib.hid (Pa.out.on hb)
  have Pb := Lib.hid (Pb.out.on hb)
  have Pr := Lib.hid (Pr.out.on hb)
  have Fr : Hid (Fz w4 (w.heap.size + 1 + 1)) := Fr.out.on (by omega) hb
  have HB := Lib.hid (HB.out.trans (hb.mono (by omega)))
  have Pt := Lib.hid (Pt.out.on hb)
  have HR := Lib.hid (rowIs_on HR.out hb)
  have H1R := Lib.hid (rowIs_on H1R.out hb)
  have HI2 := Lib.hid hin2
  clear hb hin2
  obtain ⟨lA, x0, x1, x2, x3⟩ := Pa.out
  obtain ⟨lB, y0, y1, y2, y3⟩ := Pb.out
  obtain ⟨lR, r0, r1, r2, r3⟩ := Pr.out
  obtain ⟨f0, f1, f2, f3⟩ := Fr.out.all
  gi_wp2_with fail
  refine ⟨trivial, (callsIn_wide.2 (implRows_any (Pa.out.on (al1 (al1 (Below.refl _ _) _) _)) HCU.out (al1 (al1 HB.out _) _) hm32 (Nat.le_trans hl32 (by omega)))).mono ?_⟩
  rintro e w5 ⟨H3, ar, cc, rfl, hH3, hH3l, hin, hb⟩
  have hb50 := (Below.refl w5.heap.size w5).alloc (Nat.le_refl _) (.cells #[.slice (some ⟨H3, 0, none⟩) m m] 147)
  have hbW := hb.trans (hb50.mono hb.size)
  have z1 : (w4.alloc (.cells #[.slice (some ⟨H1, 0, none⟩) m m] 147)).heap.size = w4.heap.size + 1 := by simp
  have z2 : ((w4.alloc (.cells #[.slice (some ⟨H1, 0, none⟩) m m] 147)).alloc (.cells #[.slice (some ⟨H2, 0, none⟩) l l] 147)).heap.size = w4.heap.size + 2 := by simp
  have hbx1 := (Boxed.new (w4.alloc (.cells #[.slice (some ⟨H1, 0, none⟩) m m] 147)) 147 (.slice (some ⟨H2, 0, none⟩) l l)).cell
  rw [World.size_alloc] at hbx1
  have hs5 : w4.heap.size + 2 ≤ w5.heap.size := by have := hb.size; omega
  have c1 : (w5.alloc (.cells #[.slice (some ⟨H3, 0, none⟩) m m] 147)).cell? ⟨w4.heap.size, 0, none⟩ = some (.slice (some ⟨H1, 0, none⟩) m m) :=
    (hbW.cell (p := ⟨w4.heap.size, 0, none⟩) (by simp; omega)).trans ((((Below.refl _ (w4.alloc (.cells #[.slice (some ⟨H1, 0, none⟩) m m] 147))).alloc (Nat.le_refl _) _).cell (p := ⟨w4.heap.size, 0, none⟩) (by simp)).trans (by rw [World.cell?_alloc_at _ _ _ _ rfl]; rfl))
  have c2 : (w5.alloc (.cells #[.slice (some ⟨H3, 0, none⟩) m m] 147)).cell? ⟨w4.heap.size + 1, 0, none⟩ = some (.slice (some ⟨H2, 0, none⟩) l l) :=
    (hbW.cell (p := ⟨w4.heap.size + 1, 0, none⟩) (by simp)).trans hbx1
  have c3 : (w5.alloc (.cells #[.slice (some ⟨H3, 0, none⟩) m m] 147)).cell? ⟨w5.heap.size, 0, none⟩ = some (.slice (some ⟨H3, 0, none⟩) m m) := by rw [World.cell?_alloc_at _ _ _ _ rfl]; rfl
  have hH3' : w4.heap.size + 2 ≤ H3 := by simpa using hH3
  have hin0 := hin.on hH3l (by omega) hb50
  have hb0 := up2 hbW
  have lRR := Pr.out.1
  clear lA x0 x1 x2 x3 lB y0 y1 y2 y3 lR r0 r1 r2 r3 f0 f1 f2 f3
  have Pa := Lib.hid (Pa.out.on hb0)
  have Pb := Lib.hid (Pb.out.on hb0)
  have Pr := Lib.hid (Pr.out.on hb0)
  have Fr : Hid (Fz _ (w.heap.size + 1 + 1)) := Fr.out.on (by omega) hb0
  have HB := Lib.hid (HB.out.trans (hb0.mono (by omega)))
  have Pt := Lib.hid (Pt.out.on hb0)
  have HR := Lib.hid (rowIs_on HR.out hb0)
  have H1R := Lib.hid (rowIs_on H1R.out hb0)
  have hin2 := HI2.out.on hH2l (by omega) hb0
  clear hb hb0 hb50 hbW hin hH3
  gi_wp2_with fail
  refine ⟨trivial, (cells_in _ _ trivial rfl _ _ _ _).mono ?_⟩
  rintro e w6 ⟨rfl, rfl⟩
  gi_wp2_with fail
  obtain ⟨W0, hW0⟩ : ∃ W0, w5.alloc (.cells #[.slice (some ⟨H3, 0, none⟩) m m] 147) = W0 := ⟨_, rfl⟩
  have hsz0 : W0.heap.size = w5.heap.size + 1 := by rw [← hW0]; simp
  rw [hW0] at c1 c2 c3 hin0 hin2 Pa Pr Pt Fr HB HR H1R ⊢
  clear hW0
  have q0 := Pa.out.2.1
  have lAA := Pa.out.1
  refine wpIn_rangeFunc_ownH rfl (by decide) (gf := 191) (lb := #[.pointer (some ⟨w5.heap.size, 0, none⟩)]) rfl trivial (enters_of Tryz.func191 (by kernel_rfl) rfl)
    (cells_stops _ _ trivial rfl (by decide) w5.heap.size W0.heap.size h H3 m m l ar cc (fun i k => fv (A i k)) (Nat.le_trans hm32 (by omega)) (Nat.le_trans hl32 (by omega)) (by omega) (by omega) W0 (by omega) (Nat.le_refl _) c3 hin0.1 (fun i k hi hk => by
      obtain ⟨b, o, e1, e2, e3⟩ := hin0.2 i k hi hk
      exact ⟨b, o, e1, by omega, by omega, e3⟩)) KeepC.trans (keepC_b (Nat.le_refl _)) (Below.refl _ _) (fun _ => rfl)
    (fun pre W => W.rowIs h 2 (m * n) (MuF n A B pre) ∧ W0.grownBy W (some h)) (fun _ _ _ => False)
    (OwnFrom.and (ownFrom_rowIs _ (by omega)) (ownFrom_grown (Nat.le_refl _))) (fun _ _ _ _ _ hs _ _ => hs)
    ⟨HR.out.congr fun t _ => (muF_nil m l n A B t).symm, grown_refl _ _⟩
    (fun x a' W => ∃ Bx, W0.heap.size ≤ Bx ∧ W.cell? ⟨Bx, 0, none⟩ = some (.int .i64 (x.val / l : Nat)) ∧ W.cell? ⟨Bx, 1, none⟩ = some (.int .i64 (x.val % l : Nat)) ∧ a' = { tmps := #[.agg #[.int .i64 q, .int .i64 m, .int .i64 l, .slice a1 (m * l) k1], .agg #[.int .i64 q, .int .i64 l, .int .i64 n, .slice a2 (l * n) k2], .pointer (some ⟨w.heap.size, 0, none⟩), .pointer (some ⟨w.heap.size + 1, 0, none⟩), .pointer (some ⟨w.heap.size + 1 + 1, 0, none⟩), .int .i64 0, .int .i64 0, .pointer (some ⟨w2.heap.size, 0, none⟩), .pointer (some ⟨w4.heap.size, 0, none⟩), .pointer (some ⟨w4.heap.size + 1, 0, none⟩), .pointer (some ⟨Bx, 0, none⟩), .int .i64 (fv (A (x.val / l) (x.val % l))), .agg #[.int .i64 q, .int .i64 m, .int .i64 l, .slice a1 (m * l) k1], .agg #[.int .i64 q, .int .i64 l, .int .i64 n, .slice a2 (l * n) k2], .pointer (some ⟨w.heap.size, 2, none⟩), .int .i64 l, .pointer (some ⟨w.heap.size + 1, 1, none⟩), .int .i64 l, .bool true, .int .i64 0, .int .i64 0, .bool false, undef, undef, .pointer (some ⟨w.heap.size, 0, none⟩), .int .i64 q, .pointer (some ⟨w.heap.size, 1, none⟩), .int .i64 m, .pointer (some ⟨w.heap.size + 1, 2, none⟩), .int .i64 n, .agg #[.int .i64 q, .int .i64 m, .int .i64 n, .slice (some ⟨h, 0, none⟩) (m * n) (m * n)], .slice (some ⟨H1, 0, none⟩) m m, .slice (some ⟨H2, 0, none⟩) l l, .slice (some ⟨H3, 0, none⟩) m m, .func (.func 191) #[] #[.pointer (some ⟨w5.heap.size, 0, none⟩)], .agg #[.int .i64 (x.val / l : Nat), .int .i64 (x.val % l : Nat)], .int .i64 (fv (A (x.val / l) (x.val % l))), undef, undef, undef, undef, undef, undef, undef, undef, undef, undef, undef, undef, undef, undef, undef], defers := [] })
    (fun x a' _ X Y row hs hg hr => by obtain ⟨Bx, h1, h2, h3, h4⟩ := hs; exact ⟨Bx, h1, ownCell h2 hg fun r e => (hr r e).2, ownCell h3 hg fun r e => (hr r e).2, h4⟩)
    ?assign ?body ?done ?stop
  case assign =>
    rintro l' pre x W K ⟨hR, hG⟩ hK
    have hGs := hG.size
    unfold cellEnc CellArgs
    obtain ⟨i, hie⟩ : ∃ i, x.val / l = i := ⟨_, rfl⟩
    obtain ⟨k, hke⟩ : ∃ k, x.val % l = k := ⟨_, rfl⟩
    rw [hie, hke] at hK ⊢
    gi_wp2
    exact hK _ _ ((KeepsOthers.alloc _ _).from _) (keepC_alloc hGs) ⟨rowIs_on hR ((Below.refl _ W).alloc (Nat.le_refl _) _), gb_alloc hG _⟩ ⟨W.heap.size, hGs, by rw [World.cell?_alloc_at _ _ _ _ rfl]; rfl, by rw [World.cell?_alloc_at _ _ _ _ rfl]; rfl, rfl⟩
  case body =>
    rintro l' pre x a' W hl ⟨r, hr⟩ ⟨hR, hG⟩ ⟨Bx, hBx, b0, b1, rfl⟩ hlt
    dsimp only
    obtain ⟨hi, hk⟩ := cell_row x
    have hGs := hG.size
    have hsn := fun t ht => muF_snoc (n := n) (A := A) (B := B) (pre := pre) x t ht
    obtain ⟨i, hie⟩ : ∃ i, x.val / l = i := ⟨_, rfl⟩
    obtain ⟨k, hke⟩ : ∃ k, x.val % l = k := ⟨_, rfl⟩
    rw [hie] at hi b0 hsn ⊢
    rw [hke] at hk b1 hsn ⊢
    have d1 := (gb_cell hG (b := w4.heap.size) (o := 0) (by omega) (by omega)).trans c1
    have d2 := (gb_cell hG (b := H1) (o := i) (by omega) (by omega)).trans (H1R.out.cell hi)
    have d3 := (gb_cell hG (b := w4.heap.size + 1) (o := 0) (by omega) (by omega)).trans c2
    have d4 := (gb_cell hG (b := H2) (o := k) (by omega) (by omega)).trans (hin2.1 k hk)
    have d5 := (gb_cell hG (b := w.heap.size) (o := 0) (by omega) (by omega)).trans q0
    unfold rowW adr at d2
    simp only [Nat.zero_add] at d2
    have hfit : i * n + n ≤ m * n := by rw [← Nat.succ_mul]; exact Nat.mul_le_mul_right n hi
    have hYY : Hid (∀ j, j < n → ∃ b o, ar2 k = some ⟨b, o, none⟩ ∧ b ≠ h ∧ b < W.heap.size ∧ W.drew.cell? ⟨b, o + j, none⟩ = some (.int .i64 (fv (B k j)))) := by
      show ∀ j, _
      intro j hj
      obtain ⟨b, o, e1, e2, e3⟩ := hin2.2 k j hk hj
      exact ⟨b, o, e1, by omega, by omega, (gb_cell hG (b := b) (o := o + j) (by omega) (by omega)).trans e3⟩
    obtain ⟨s, hse⟩ : ∃ s, i * n = s := ⟨_, rfl⟩
    have hXX : Hid (∀ j, j < n → MuF n A B pre (s + j) = .int .i64 (fv (muP A B pre i j))) := by
      show ∀ j, _
      intro j hj
      rw [← hse]; exact muF_at hj
    rw [hse] at d2 hfit hsn
    obtain ⟨ak, hak⟩ : ∃ ak, ar2 k = ak := ⟨_, rfl⟩
    obtain ⟨ck, hck⟩ : ∃ ck, cc2 k = ck := ⟨_, rfl⟩
    rw [hak] at d4 hYY
    rw [hck] at d4
    have i0 : (0 : Int) ≤ (i : Int) := by omega
    have i1 : (i : Int) < (m : Int) := by omega
    have i2 : (0 : Int) ≤ (k : Int) := by omega
    have i3 : (k : Int) < (l : Int) := by omega
    have HRR := Lib.hid hR
    have HGG := Lib.hid hG
    have HS := Lib.hid hsn
    clear hR hG hr hl hin0 hin2 hsn HK HU HV HCU HCV HB HR H1R Fr Pt Pr Pa c1 c2 c3 q0 hak hck hie hke e1
    gi_wp2
    refine region_round 13 (by kernel_rfl) (by kernel_rfl) (by kernel_rfl) (fun ⟨_, _, h⟩ => h) ?_
    simp only [List.take_succ_cons, List.take_zero, List.drop_succ_cons, List.drop_zero]
    repeat still_step
    try refine wpStill_nil ?_
    go_wp2_with fail
    refine (addMul_at (X := fun j => muP A B pre i j) (Y := fun j => B k j) (c := A i k) rfl hq2 hq (by omega) HRR.out.drew hfit (Nat.le_refl _) (by unfold maxLen; omega) hXX.out hYY.out).mono ?_
    rintro e w' ⟨rfl, hr2, hg2'⟩
    have hg2 := gb_undrew hg2'
    go_wp2
    exact ⟨(KeepsFrom.of_grownBy hg2 (fun j e => by cases e; omega)), keepC_gb hg2 hGs, hr2.congr fun t ht => HS.out t ht, gb_trans HGG.out hg2⟩
  case done =>
    rintro D ys W hD hys ⟨hR, hG⟩ hK
    have hT := Pt.out.1
    have HRR := Lib.hid hR
    have Pt := Lib.hid (Pt.out.gb hG (by omega))
    have Pr := Lib.hid (Pr.out.gb hG (by omega))
    have Fr : Hid (Fz W (w.heap.size + 1 + 1)) := Fr.out.gb (by omega) hG (by omega)
    have HB := Lib.hid (below_gb HB.out hG (by omega) (by omega))
    obtain ⟨lT, x0, x1, x2, x3⟩ := Pt.out
    obtain ⟨lR, r0, r1, r2, r3⟩ := Pr.out
    obtain ⟨f0, f1, f2, f3⟩ := Fr.out.all
    gi_wp2
    have hD1 : w.heap.size + 1 + 1 ≠ D := by omega
    have hDh : h ≠ D := by omega
    have hK4 := keepD4 hK hD1 (.int .i64 q) (.int .i64 m) (.int .i64 n) (.slice (some ⟨h, 0, none⟩) (m * n) (m * n))
    refine ⟨by simp, .inl ⟨_, _, rfl, run_takeDeferred hK4, ?_⟩⟩
    have P4 := (Pr.out.set4 q m n (.slice (some ⟨h, 0, none⟩) (m * n) (m * n))).put (.deferred none) hD1
    obtain ⟨hO, hBB⟩ := fin_mat (A := muC l A B) (p := q) (r := m) (c := n) hK HRR.out HB.out (by omega : w.heap.size ≤ w.heap.size + 1 + 1) (by omega) (by omega) hDh hD1 (by omega) (by omega) (fun i j hi hj => muF_done hys hi hj)
    obtain ⟨_, q0, q1, q2, q3⟩ := P4
    refine ⟨.tuple #[.agg #[.int .i64 q, .int .i64 m, .int .i64 n, .slice (some ⟨h, 0, none⟩) (m * n) (m * n)], .int .i64 0], ?_, ⟨_, rfl, hO, hBB⟩⟩
    simp [results, Tryz.results110, go_sem, q0, q1, q2, q3]
  case stop =>
    rintro D c pre W _ _ h _
    exact h.elim
theorem IntsC.al {w : World} {v : Value} {zs : List Int} {o : Obj} (h : IntsC w v zs) : IntsC (w.alloc o) v zs := h.on ((Below.refl _ _).alloc (Nat.le_refl _) o)
theorem implMu_any {p r c q s d P R C k : Int} {u v : Value} {xs ys zs : List Int} {w : World} (hu : IntsC w u xs) (hv : IntsC w v ys) (h : MuRes p r c xs q s d ys P R C zs k) :
    Calls Tryz.prog 110 #[.agg #[.int .i64 p, .int .i64 r, .int .i64 c, u], .agg #[.int .i64 q, .int .i64 s, .int .i64 d, v]] w fun e w' => RetMC P R C zs k w e w' := by
  obtain ⟨hk, ⟨h0, rfl, rfl, rfl, rfl⟩ | ⟨rfl, rfl, rfl, rfl, u', _, m, n, l, A, B, hA, hB, rfl⟩⟩ := h
  · have e0 : (k != 0) = true := by simpa using h0
    exact implMu_b hu.1 hv.1 rfl hk e0
  · obtain ⟨_, _, e, hf⟩ := hk.good
    have e1 : c = s := by simpa using hf
    subst e e1
    obtain ⟨rfl, rfl, rfl, rfl, h5, h6, h7⟩ := hA
    obtain ⟨_, _, rfl, rfl, g5, g6, g7⟩ := hB
    exact implMu_ok hu hv ⟨rfl, rfl, rfl, rfl, h5, h6, h7⟩ ⟨rfl, rfl, rfl, rfl, g5, g6, g7⟩
end Go.Proofs.YtibdcejglkhcfaaGreatDoor

namespace Go.Proofs.YtibdcejglkhcfaaGreatDoor
open Go.RowKit
open Lin
set_option linter.unusedVariables false
set_option linter.unusedSectionVars false

theorem pushI {B : Nat} {w : World} {v : Value} {zs : List Int} {z : Int} (h : w.ownsRow B 2 1 v (zs.length + 1) (iv zs ++ [.int .i64 z])) : OwnI B w v (zs ++ [z]) := by
  unfold OwnI iv at *; rw [List.length_append, List.map_append]; exact h
theorem madeI (w : World) (B : Nat) (hB : B ≤ w.heap.size) : OwnI B (w.alloc (.cells #[] 2)) (.slice (some ⟨w.heap.size, 0, none⟩) 0 0) [] :=
  World.ownsRow_made w #[] 0 hB (by unfold maxLen; omega) rfl
theorem below_pushI {B0 B : Nat} {w0 w w1 : World} {v : Value} {zs : List Int} {o : Obj} (hb : Below B0 w0 w) (hle : B0 ≤ B) (hB : B ≤ w.heap.size) (h : OwnI B w v zs) (hg : (w.alloc o).grownBy w1 v.ownBlock) : Below B0 w0 w1 :=
  (hb.alloc (by omega) o).grown hg (by simp; omega) (fun k hk => by have := (h.out.lt k hk).1; omega)
theorem row_int (w : World) (z : Int) (t : TypeId) : ∀ (j : Nat) (u : Value), [Value.int .i64 z][j]? = some u → (w.alloc (.cells #[.int .i64 z] t)).cell? ((⟨w.heap.size, 0, none⟩ : Addr).add j) = some u := by
  intro j u hu
  have hj : j = 0 := by
    have := (List.getElem?_eq_some_iff.1 hu).1
    simpa using this
  subst hj
  have e : (⟨w.heap.size, 0, none⟩ : Addr).add 0 = ⟨w.heap.size, 0, none⟩ := by simp [Addr.add]
  rw [e, World.cell?_alloc_at _ _ _ _ rfl]
  exact hu
theorem flat_col {q : Nat} [NeZero q] (i : Nat) (F : Mt q) : flat (i + 1) 1 F = flat i 1 F ++ [fv (F i 0)] := by
  simp [flat, List.range_succ, Nat.div_one, Nat.mod_one]
theorem drew_below {B : Nat} {a w : World} (h : Below B a w) : Below B a w.drew := ⟨h.os, h.tape, h.output, h.size, h.block⟩
theorem OwnI.drew {B : Nat} {w : World} {v : Value} {zs : List Int} (h : OwnI B w v zs) : OwnI B w.drew v zs := h
/-- Numbers and a code. -/
def RetLC (zs : List Int) (k : Int) (w : World) (e : Ending) (w' : World) : Prop := ∃ v, e = .returned (.tuple #[v, .int .i64 k]) ∧ OwnI w.heap.size w' v zs ∧ Below w.heap.size w w'
def RetL (zs : List Int) (w : World) (e : Ending) (w' : World) : Prop := ∃ v, e = .returned v ∧ OwnI w.heap.size w' v zs ∧ Below w.heap.size w w'

set_option maxRecDepth 100000 in
set_option maxHeartbeats 6400000 in
theorem l03Apply_any {q m n : Nat} [NeZero q] {A B : Mt q} {L : Nat} {v u : Value} {w : World} (hp : PtM w L q m n v) (hv : IntsAt w v (flat m n A)) (hv2 : IntsAt w u (flat n 1 B)) (hq2 : 2 ≤ q) (hq : q ≤ 251) (hm : m ≤ 32) (hn : n ≤ 32) :
    Calls Tryz.prog 63 #[.pointer (some ⟨L, 0, none⟩), u] w fun e w' => RetL (flat m 1 (muC n A B)) w e w' := by
  obtain ⟨i0, hi', hz0, hz1, hz2⟩ := info_parts info2
  have hN1 := side_mul hm hn
  have HV := Lib.hid hv
  have HV2 := Lib.hid hv2
  obtain ⟨a1, cp, rfl, -, -⟩ := hv
  obtain ⟨a2, cp2, rfl, -, -⟩ := hv2
  simp only [flat_len, Nat.mul_one] at hp HV HV2 ⊢
  have Pa := Lib.hid hp
  have lL := hp.1
  have kz : ¬ (q : Int) = 0 := by omega
  obtain ⟨lA, x0, x1, x2, x3⟩ := hp
  go_enter Tryz.func63, Tryz.ntmps63
  go_wp2_with fail
  clear lA x0 x1 x2 x3
  go_loopw [5, 6] (fun o s wr => ∃ i : Nat, i ≤ m ∧ s = .int .i64 (i : Int) ∧ Hid (OwnI w.heap.size wr o (flat i 1 (muC n A B))) ∧ Hid (Below w.heap.size w wr)) (fun _ s _ => m - (intOf s).toNat)
  case atStart => exact ⟨0, Nat.zero_le _, rfl, madeI _ _ (Nat.le_refl _), (Below.refl _ _).alloc (Nat.le_refl _) _⟩
  case round =>
    obtain ⟨i, hi, rfl, HO, HB⟩ := hrel
    obtain ⟨lA, x0, x1, x2, x3⟩ := Pa.out.on HB.out
    by_cases hlt : i < m
    · have i1 : (i : Int) < (m : Int) := by omega
      go_wp2_with fail
      clear lA x0 x1 x2 x3
      go_loopw [7, 8] (fun s8 s9 wr => ∃ (j : Nat) (S : Int), j ≤ n ∧ s9 = .int .i64 (j : Int) ∧ s8 = .int .i64 S ∧ 0 ≤ S ∧ S ≤ (j : Int) * 63001 ∧ Hid (S % q = fv (sm j (fun j => A i j * B j 0))) ∧ Hid (OwnI w.heap.size wr u5 (flat i 1 (muC n A B))) ∧ Hid (Below w.heap.size w wr)) (fun _ s _ => n - (intOf s).toNat)
      case atStart => exact ⟨0, 0, Nat.zero_le _, rfl, rfl, by omega, by omega, by show _ = _; rw [show sm 0 (fun j => A i j * B j 0) = 0 from rfl, fv_zero]; simp, HO.out, HB.out⟩
      case round =>
        clear HO HB
        obtain ⟨j, S, hj, rfl, rfl, hS0, hS1, HS, HO, HB⟩ := hrel
        obtain ⟨lA, x0, x1, x2, x3⟩ := Pa.out.on HB.out
        by_cases hjt : j < n
        · have j1 : (j : Int) < (n : Int) := by omega
          have ha1 := idx_lt hlt hjt
          have hv := HV.out
          obtain ⟨_, _, e, _, h1 | ⟨b1, o1, e1, hb1', K1⟩⟩ := hv
          · have := congrArg List.length h1; rw [flat_len] at this; simp at this; omega
          obtain ⟨rfl, -, rfl⟩ : a1 = _ ∧ _ ∧ cp = _ := by injection e with e1 e2 e3; exact ⟨e1, e2, e3⟩
          subst e1
          clear e
          have hv2 := HV2.out
          obtain ⟨_, _, e, _, h1 | ⟨b2, o2, e1, hb2', K2⟩⟩ := hv2
          · have := congrArg List.length h1; rw [flat_len] at this; simp at this; omega
          obtain ⟨rfl, -, rfl⟩ : a2 = _ ∧ _ ∧ cp2 = _ := by injection e with e1 e2 e3; exact ⟨e1, e2, e3⟩
          subst e1
          clear e
          have c1 : wr.cell? ⟨b1, o1 + (i * n + j), none⟩ = some (.int .i64 (fv (A i j))) := by
            rw [(HB.out.cell (p := ⟨b1, o1 + (i * n + j), none⟩) hb1'), flat_cells K1 _ ha1]; unfold cellF; rw [idx_div hjt, idx_mod hjt]
          have c2 : wr.cell? ⟨b2, o2 + j, none⟩ = some (.int .i64 (fv (B j 0))) := by
            rw [(HB.out.cell (p := ⟨b2, o2 + j, none⟩) hb2'), flat_cells K2 _ (by omega)]; unfold cellF; rw [Nat.div_one, Nat.mod_one]
          have bx := fv_nn (A i j)
          have by' := fv_nn (B j 0)
          have bx2 := fv_lt (A i j)
          have by2 := fv_lt (B j 0)
          obtain ⟨X, hX⟩ : ∃ X, fv (A i j) = X := ⟨_, rfl⟩
          obtain ⟨Y, hY⟩ : ∃ Y, fv (B j 0) = Y := ⟨_, rfl⟩
          have HS2 := Lib.hid (muC_next HS.out hX hY)
          rw [hX] at c1 bx bx2
          rw [hY] at c2 by' by2
          have p0 : 0 ≤ X * Y := Int.mul_nonneg bx by'
          have p1 : X * Y ≤ 251 * 251 := Int.mul_le_mul (by omega) (by omega) by' (by omega)
          obtain ⟨Z, hZ⟩ : ∃ Z, X * Y = Z := ⟨_, rfl⟩
          rw [hZ] at p0 p1 HS2
          have v1 : IntKind.i64.wrap (X * Y) = Z := by rw [hZ]; exact IntWalk.i64_in _ (by omega)
          have v2 : IntKind.i64.wrap (S + Z) = S + Z := IntWalk.i64_in _ (by omega)
          obtain ⟨M1, hM1⟩ : ∃ M, m * n = M := ⟨_, rfl⟩
          obtain ⟨x, hx⟩ : ∃ x, i * n = x := ⟨_, rfl⟩
          obtain ⟨s, hs⟩ : ∃ s, x + j = s := ⟨_, rfl⟩
          rw [hx, hs] at ha1 c1
          rw [hM1] at ha1 x3 hN1
          have w1 : IntKind.i64.wrap ((i : Int) * (n : Int)) = (x : Int) := by rw [← Int.natCast_mul, hx]; exact IntWalk.i64_in _ (by omega)
          have w2 : IntKind.i64.wrap ((x : Int) + (j : Int)) = (s : Int) := by rw [← Int.natCast_add, hs]; exact IntWalk.i64_in _ (by omega)
          have u0 : (0 : Int) ≤ (s : Int) := by omega
          have u1 : (s : Int) < (M1 : Int) := by omega
          have HO2 : Hid (OwnI w.heap.size wr.drew u5 (flat i 1 (muC n A B))) := HO.out.drew
          have HB2 : Hid (Below w.heap.size w wr.drew) := drew_below HB.out
          clear hx hs hM1 hX hY hZ HO HB HV HV2 HS K1 K2
          go_wp2
          go_region
          go_wp2
          go_roundw
          case rel => exact ⟨j + 1, S + Z, by omega, by go_num, rfl, by omega, by omega, HS2.out, HO2.out, HB2.out⟩
          case measure => simp [intOf]; omega
        · obtain rfl : j = n := by omega
          have v2 : S.tmod q = S % q := Int.tmod_eq_emod_of_nonneg hS0
          have HN : Hid (flat i 1 (muC j A B) ++ [S % q] = flat (i + 1) 1 (muC j A B)) := by
            show _ = _
            rw [flat_col, HS.out]; rfl
          obtain ⟨Z, hZ⟩ : ∃ Z, S % q = Z := ⟨_, rfl⟩
          rw [hZ] at v2 HN
          have hlen : (flat i 1 (muC j A B)).length + 1 ≤ 65 := by rw [flat_len]; omega
          have hsz := HB.out.size
          obtain ⟨zs, hzs⟩ : ∃ zs, flat i 1 (muC j A B) = zs := ⟨_, rfl⟩
          rw [hzs] at HO hlen HN
          clear hzs hZ HS HV HV2
          have hown := HO.out
          go_wp2_with (at_builtin; refine wpList_append_own _ rfl _ _ 25 rfl w.heap.size 2 i0 (.int .i64 0) 1 8 Tryz.underlying25 hi' hz0 hz1 hz2 rfl (by decide) _ _ _ rfl (hown.out.alloc _) ⟨wr.heap.size, 0, none⟩ 1 1 [.int .i64 Z] rfl rfl ?ah1 ?ah2 ?ah3 ?ah4 ?ah5 ?_)
          try (case ah1 => exact row_int _ _ _)
          case ah2 => first | rfl | (intro u hu; simp at hu; subst hu; rfl)
          case ah3 => unfold maxLen; omega
          case ah4 => omega
          case ah5 => first | omega | (simp; omega)
          intro v2 w2 hown2 hgrow _
          have hO := pushI hown2
          rw [HN.out] at hO
          have hB2 := below_pushI HB.out (Nat.le_refl _) hsz hown hgrow
          have HO2 := Lib.hid hO
          have HB2 := Lib.hid hB2
          clear hown2 hgrow hown HB HO HN hO hB2
          go_wp2
          go_roundw
          case rel => exact ⟨i + 1, by omega, by go_num, HO2.out, HB2.out⟩
          case measure => simp [intOf]; omega
    · obtain rfl : i = m := by omega
      go_wp2
      go_ret
      exact ⟨_, rfl, HO.out, HB.out⟩
end Go.Proofs.YtibdcejglkhcfaaGreatDoor

namespace Go.Proofs.YtibdcejglkhcfaaGreatDoor
open Go.RowKit
open Lin
set_option linter.unusedVariables false
set_option linter.unusedSectionVars false

def ApRes (p r c : Int) (xs ys zs : List Int) (k : Int) : Prop :=
  (¬ (MOk p r c xs ∧ MOk p c 1 ys) ∧ zs = [] ∧ k = 1) ∨ (k = 0 ∧ ∃ (u : Nat) (_ : NeZero u) (m n : Nat) (A B : Mt u), MIs p r c xs u m n A ∧ MIs p c 1 ys u n 1 B ∧ zs = flat m 1 (muC n A B))
theorem apRes_has (p r c : Int) (xs ys : List Int) : ∃ zs k, ApRes p r c xs ys zs k := by
  by_cases h : MOk p r c xs ∧ MOk p c 1 ys
  · obtain ⟨u, i, m, n, A, m', n', B, hA, hB⟩ := h.1.form2 h.2
    obtain rfl : n = m' := by have := hA.c; have := hB.r; omega
    obtain rfl : n' = 1 := by have := hB.c; omega
    exact ⟨_, 0, .inr ⟨rfl, u, i, m, n, A, B, hA, hB, rfl⟩⟩
  · exact ⟨_, _, .inl ⟨h, rfl, rfl⟩⟩
theorem ApRes.len {p r c : Int} {xs ys zs : List Int} {k : Int} (h : ApRes p r c xs ys zs k) : zs.length ≤ 1048576 := by
  rcases h with ⟨_, rfl, _⟩ | ⟨_, u, _, m, n, A, B, hA, hB, rfl⟩
  · simp
  · rw [flat_len]; have := hA.m32; omega
theorem col_ok {p r c : Int} {xs ys : List Int} (h : MOk p r c xs) : colB ys c p = true ↔ MOk p c 1 ys := by
  have e : colB ys c p = true ↔ (NumOk p ys ∧ (ys.length : Int) = c) := by simp [colB]
  rw [e]
  obtain ⟨h1, h2, h3, h4, h5, h6, h7⟩ := h
  constructor
  · rintro ⟨g1, g2⟩; exact ⟨h1, h4, h5, by omega, by omega, by omega, g1⟩
  · rintro ⟨g1, g2, g3, g4, g5, g6, g7⟩; exact ⟨g7, by omega⟩
theorem apRes_mu {p r c k : Int} {xs ys zs : List Int} (h : ApRes p r c xs ys zs k) : ∃ P R C, MuRes p r c xs p c 1 ys P R C zs k := by
  rcases h with ⟨h, rfl, rfl⟩ | ⟨rfl, u', i, m, n, A, B, hA, hB, rfl⟩
  · exact ⟨0, 0, 0, .inl ⟨h, rfl⟩, .inl ⟨by omega, rfl, rfl, rfl, rfl⟩⟩
  · exact ⟨_, _, _, .inr (.inr ⟨hA.ok, hB.ok, rfl, by simp, rfl⟩), .inr ⟨rfl, rfl, rfl, rfl, u', i, m, n, 1, A, B, hA, hB, rfl⟩⟩
set_option maxRecDepth 100000 in
set_option maxHeartbeats 1600000 in
theorem implAp_any {p r c k : Int} {u v : Value} {xs ys zs : List Int} {w : World} (hu : IntsC w u xs) (hv : IntsC w v ys) (h : ApRes p r c xs ys zs k) :
    Calls Tryz.prog 69 #[.agg #[.int .i64 p, .int .i64 r, .int .i64 c, u], v] w fun e w' => RetLC zs k w e w' := by
  obtain ⟨P, R, C, hm⟩ := apRes_mu h
  have HU := Lib.hid hu
  have HV := Lib.hid hv
  obtain ⟨a1, c1, rfl, -, -⟩ := hu.1
  obtain ⟨a2, c2, rfl, -, -⟩ := hv.1
  have HM := Lib.hid hm
  clear h hm hu hv
  have Pa := PtM.new w p r c (.slice a1 xs.length c1) 41
  obtain ⟨lA, x0, x1, x2, x3⟩ := Pa
  go_enter Tryz.func69, Tryz.ntmps69
  go_wp2_with fail
  refine (implMu_any (HU.out.on (al1 (Below.refl _ _) _)) (HV.out.on (al1 (Below.refl _ _) _)) HM.out).mono ?_
  rintro e w1 ⟨v, rfl, ho, hb⟩
  obtain ⟨va, vc, rfl⟩ := ho.slice
  have hB := up1 hb
  have hO := ho.mono (show w.heap.size ≤ (w.alloc _).heap.size by simp)
  have HB := Lib.hid (al1 hB (.cells #[.int .i64 P, .int .i64 R, .int .i64 C, .slice va zs.length vc] 41))
  have HO := Lib.hid (hO.on ((Below.refl _ _).alloc (Nat.le_refl _) (.cells #[.int .i64 P, .int .i64 R, .int .i64 C, .slice va zs.length vc] 41)))
  clear hO hB ho hb
  have Pn := PtM.new w1 P R C (.slice va zs.length vc) 41
  obtain ⟨ln, y0, y1, y2, y3⟩ := Pn
  go_wp2_with fail
  go_ret2
  exact ⟨_, rfl, HO.out, HB.out⟩
end Go.Proofs.YtibdcejglkhcfaaGreatDoor
