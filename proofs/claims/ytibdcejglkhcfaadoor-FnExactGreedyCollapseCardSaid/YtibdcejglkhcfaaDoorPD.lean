/-
  The iterator over the cells of rows (rowList.cells), for loop bodies that write into one block alone.
  What a loop over the cells of a matrix has made: the transposed matrix, cell by cell in any order.
  A region that draws its order, in the body of a loop over an iterator: loads in whatever order, then the rest in its own order.
  What a loop over the cells of a matrix has made of a product, cell by cell in any order.
  Contracts of Transpose of the program.
  Contracts of Multiply of the program.
  Contracts of ApplyMatrix of the model.
  Contracts of ApplyMatrix of the model and of the program.
-/
import Derived.RangeFuncNested
import Derived.RangeFuncBound
import Derived.RangeFuncCalls
import Derived.RangeFuncLeaves
import Derived.Shelf.Abstract
import Derived.Shelf.RegionOpen
import Derived.WalkKit
import Derived.OwnWalkIn
import Derived.TacticsInMore
import Derived.LoopNIn
import Derived.LoopIn
import Derived.Test.YtibdcejglkhcfaaDoorPB
import Derived.Test.YtibdcejglkhcfaaDoorPC
import Derived.StillTail
import Derived.StillTailTactics
import Derived.Deep.RegionHeld3
import Derived.OrdersIn
import Derived.Test.YtibdcejglkhcfaaDoorPA
namespace Go.Proofs.YtibdcejglkhcfaaDoor
open Go.RowKit Go.Shelf
open Lin
set_option linter.unusedVariables false
set_option linter.unusedSectionVars false
attribute [local go_sem] Oper.semAt_some

/-- Cells below n₀ are kept, those of one block apart. -/
def KeepC (n₀ G : Nat) (W W' : World) : Prop := ∀ p : Addr, p.block < n₀ → p.block ≠ G → W'.cell? p = W.cell? p
theorem KeepC.refl (n₀ G : Nat) (W : World) : KeepC n₀ G W W := fun _ _ _ => rfl
theorem KeepC.trans {n₀ G : Nat} {A B C : World} (h : KeepC n₀ G A B) (k : KeepC n₀ G B C) : KeepC n₀ G A C := fun p hp hg => (k p hp hg).trans (h p hp hg)
/-- What has come when k rounds are over. -/
def upTo {α : Type} (f : Nat → α) (k : Nat) : List α := (List.range k).map f
theorem upTo_succ {α : Type} (f : Nat → α) (k : Nat) : upTo f (k + 1) = upTo f k ++ [f k] := by simp [upTo, List.range_succ]
theorem upTo_length {α : Type} (f : Nat → α) (k : Nat) : (upTo f k).length = k := by simp [upTo]
theorem idxLt {i j m n : Nat} (hi : i < m) (hj : j < n) : i * n + j < m * n := by
  have : (i + 1) * n ≤ m * n := Nat.mul_le_mul_right n hi
  rw [Nat.succ_mul] at this; omega

theorem idxDiv {n i j : Nat} (hj : j < n) : (i * n + j) / n = i := by
  rw [Nat.add_comm, Nat.add_mul_div_right _ _ (by omega), Nat.div_eq_of_lt hj, Nat.zero_add]
theorem idxMod {n i j : Nat} (hj : j < n) : (i * n + j) % n = j := by
  rw [Nat.add_comm, Nat.add_mul_mod_self_right, Nat.mod_eq_of_lt hj]
theorem keepC_b {n₀ G : Nat} {w : World} (hn : n₀ ≤ w.heap.size) (W : World) (l : Nat) (o o' : Obj) (hl : w.heap.size ≤ l) (h : W.heap[l]? = some o) (h1 : o.isCells = false) (h2 : o.isWalk = false) : KeepC n₀ G W (W.putObj l o') :=
  fun p hp _ => (belowK_b hn W l o o' hl h h1 h2).cell (p := p) hp
def CellArgs (x : Nat × Nat × Int) : Array Value := #[.agg #[.int .i64 (x.1 : Int), .int .i64 (x.2.1 : Int)], .int .i64 x.2.2]
/-- The t-th of m times n cells, as the iterator hands it. -/
def cellEnc (m n : Nat) (z : Nat → Nat → Int) (x : Fin (m * n)) : Array Value := CellArgs (x.val / n, x.val % n, z (x.val / n) (x.val % n))
/-- What a world has grown by, block G apart, abides the turn of later blocks. -/
theorem ownFrom_grown {β : Type} {G B : Nat} {w₀ : World} (hB : w₀.heap.size ≤ B) : OwnFrom B (fun (_ : β) W => w₀.grownBy W (some G)) := fun _ W W' row hs hg hr =>
  ⟨hg.os.trans hs.os, hg.tape.trans hs.tape, hg.output.trans hs.output, Nat.le_trans hs.size hg.size, fun i hi hne => (hg.block i (Nat.lt_of_lt_of_le hi hs.size) (fun e => by
    have := (hr i e.symm).1; omega)).trans (hs.block i hi hne)⟩
theorem ownFrom_rowIs {β : Type} {G B n : Nat} {t : TypeId} (F : β → Nat → Value) (hG : G < B) : OwnFrom B (fun s W => W.rowIs G t n (F s)) := fun _ W W' row hs hg hr =>
  hs.of_block (hg.block G hs.lt (fun e => by have := (hr G e.symm).1; omega))
end Go.Proofs.YtibdcejglkhcfaaDoor

namespace Go.Proofs.YtibdcejglkhcfaaDoor
open Go.RowKit
open Lin
set_option linter.unusedVariables false
set_option linter.unusedSectionVars false

theorem cell_row {m n : Nat} (x : Fin (m * n)) : x.val / n < m ∧ x.val % n < n := by
  have h := x.isLt
  have hn : 0 < n := Nat.pos_of_ne_zero fun e => by subst e; simp at h
  exact ⟨Nat.div_lt_of_lt_mul (by have e := Nat.mul_comm n m; omega), Nat.mod_lt _ hn⟩
/-- The transposed matrix, the cells of pre filled. -/
def TrF {q : Nat} [NeZero q] (m n : Nat) (A : Mt q) (pre : List (Fin (m * n))) (t : Nat) : Value :=
  if ∃ x ∈ pre, (x.val % n) * m + x.val / n = t then .int .i64 (fv (A (t % m) (t / m))) else .int .i64 0
theorem trF_nil {q : Nat} [NeZero q] (m n : Nat) (A : Mt q) (t : Nat) : TrF m n A [] t = .int .i64 0 := by unfold TrF; rw [if_neg (by simp)]
theorem trF_snoc {q : Nat} [NeZero q] {m n : Nat} {A : Mt q} {pre : List (Fin (m * n))} (x : Fin (m * n)) (t : Nat) :
    (if t = (x.val % n) * m + x.val / n then .int .i64 (fv (A (x.val / n) (x.val % n))) else TrF m n A pre t) = TrF m n A (pre ++ [x]) t := by
  unfold TrF
  by_cases e : t = (x.val % n) * m + x.val / n
  · rw [if_pos e, if_pos ⟨x, by simp, e.symm⟩, e, idxMod (cell_row x).1, idxDiv (cell_row x).1]
  · rw [if_neg e]
    have h : (∃ y ∈ pre ++ [x], (y.val % n) * m + y.val / n = t) ↔ ∃ y ∈ pre, (y.val % n) * m + y.val / n = t := by
      constructor
      · rintro ⟨y, hy, h⟩
        rcases List.mem_append.1 hy with hy | hy
        · exact ⟨y, hy, h⟩
        · obtain rfl : y = x := by simpa using hy
          exact absurd h.symm e
      · rintro ⟨y, hy, h⟩
        exact ⟨y, List.mem_append.2 (.inl hy), h⟩
    by_cases g : ∃ y ∈ pre, (y.val % n) * m + y.val / n = t
    · rw [if_pos g, if_pos (h.2 g)]
    · rw [if_neg g, if_neg fun k => g (h.1 k)]
theorem trF_done {q : Nat} [NeZero q] {m n : Nat} {A : Mt q} {pre : List (Fin (m * n))} (h : pre.map Fin.val = List.range (m * n)) {i j : Nat} (hi : i < n) (hj : j < m) : TrF m n A pre (i * m + j) = .int .i64 (fv (A j i)) := by
  unfold TrF
  have hx : j * n + i ∈ pre.map Fin.val := by rw [h, List.mem_range]; exact idxLt hj hi
  obtain ⟨x, hx, e⟩ := List.mem_map.1 hx
  rw [if_pos ⟨x, hx, by rw [e, idxMod hi, idxDiv hi]⟩, idxMod hj, idxDiv hj]
theorem ownCell {W W' : World} {row : Option Nat} {b o : Nat} {v : Value} (h : W.cell? ⟨b, o, none⟩ = some v) (hg : W.grownBy W' row) (hr : ∀ r, row = some r → ∃ u : Obj, W.heap[r]? = some u ∧ u.isCells = false) : W'.cell? ⟨b, o, none⟩ = some v := by
  obtain ⟨u, hu, hc⟩ := cells_of_cell h
  have hb : b < W.heap.size := (Array.getElem?_eq_some_iff.1 hu).1
  refine (World.cell?_of_block (w := W) (hg.block b hb (fun e => ?_))).trans h
  obtain ⟨u', hu', hc'⟩ := hr b e.symm
  have := hu.symm.trans hu'
  simp only [Option.some.injEq] at this
  subst this
  rw [hc] at hc'
  exact absurd hc' (by decide)
theorem gb_cell {a w : World} {g b o : Nat} (h : a.grownBy w (some g)) (hb : b < a.heap.size) (hne : b ≠ g) : w.cell? ⟨b, o, none⟩ = a.cell? ⟨b, o, none⟩ := World.cell?_of_block (w := a) (h.block b hb (fun e => hne (by injection e)))
theorem keepC_alloc {n₀ G : Nat} {W : World} {o : Obj} (h : n₀ ≤ W.heap.size) : KeepC n₀ G W (W.alloc o) := fun p hp _ => ((Below.refl _ W).alloc (Nat.le_refl _) o).cell (p := p) (by omega)
theorem keepC_set {n₀ G o : Nat} {W : World} {v : Value} : KeepC n₀ G W (W.setCell ⟨G, o, none⟩ v) := fun p _ hg => World.cell?_of_block (w := W) (Deep.blk_setCell_other _ _ _ _ hg)
theorem keepD {W : World} {D b o : Nat} {u : Obj} (h : W.heap[D]? = some u) (hne : b ≠ D) (v : Value) : (W.setCell ⟨b, o, none⟩ v).heap[D]? = some u := (Deep.blk_setCell_other _ _ _ _ (fun e => hne e.symm)).trans h
theorem keepD4 {W : World} {D b : Nat} {u : Obj} (h : W.heap[D]? = some u) (hne : b ≠ D) (v0 v1 v2 v3 : Value) : ((((W.setCell ⟨b, 0, none⟩ v0).setCell ⟨b, 1, none⟩ v1).setCell ⟨b, 2, none⟩ v2).setCell ⟨b, 3, none⟩ v3).heap[D]? = some u :=
  keepD (keepD (keepD (keepD h hne _) hne _) hne _) hne _
theorem PtM.put {W : World} {L D : Nat} {p r c : Int} {v : Value} (h : PtM W L p r c v) (o : Obj) (hne : L ≠ D) : PtM (W.putObj D o) L p r c v := by
  obtain ⟨h0, h1, h2, h3, h4⟩ := h
  have e : ∀ k, (W.putObj D o).cell? ⟨L, k, none⟩ = W.cell? ⟨L, k, none⟩ := fun k => World.cell?_of_block (w := W) (World.putObj_heap_other (fun e => hne e))
  exact ⟨by simpa using h0, (e 0).trans h1, (e 1).trans h2, (e 2).trans h3, (e 3).trans h4⟩
theorem rowIs_put {W : World} {b D n : Nat} {t : TypeId} {f : Nat → Value} (h : W.rowIs b t n f) (o : Obj) (hne : b ≠ D) : (W.putObj D o).rowIs b t n f := h.of_block (World.putObj_heap_other (fun e => hne e))
/-- The result variable filled. -/
def set4 (W : World) (L : Nat) (p r c : Int) (v : Value) : World := (((W.setCell ⟨L, 0, none⟩ (.int .i64 p)).setCell ⟨L, 1, none⟩ (.int .i64 r)).setCell ⟨L, 2, none⟩ (.int .i64 c)).setCell ⟨L, 3, none⟩ v
theorem rowIs_set4 {W : World} {b L n : Nat} {t : TypeId} {f : Nat → Value} (h : W.rowIs b t n f) (hne : b ≠ L) (p r c : Int) (v : Value) : (set4 W L p r c v).rowIs b t n f :=
  rowIs_setO (rowIs_setO (rowIs_setO (rowIs_setO h hne _) hne _) hne _) hne _
theorem below_set4 {B : Nat} {w W : World} {L : Nat} (h : Below B w W) (hL : B ≤ L) (p r c : Int) (v : Value) : Below B w (set4 W L p r c v) :=
  Below.setC (Below.setC (Below.setC (Below.setC h hL _) hL _) hL _) hL _
/-- The end of a function with a loop over an iterator, whose result is a matrix variable. -/
theorem fin_mat {q m n : Nat} [NeZero q] {A : Mt q} {w W : World} {L D g : Nat} {F : Nat → Value} {p r c : Int} (hD : W.heap[D]? = some (.deferred (some []))) (hR : W.rowIs g 2 (m * n) F) (hB : Below w.heap.size w W) (hL : w.heap.size ≤ L) (hg : w.heap.size ≤ g) (hgL : g ≠ L) (hgD : g ≠ D) (hLD : L ≠ D) (hwD : w.heap.size ≤ D) (hl : m * n ≤ 1048576)
    (hF : ∀ i j, i < m → j < n → F (i * n + j) = .int .i64 (fv (A i j))) :
    OwnI w.heap.size ((set4 W L p r c (.slice (some ⟨g, 0, none⟩) (m * n) (m * n))).putObj D (.deferred none)) (.slice (some ⟨g, 0, none⟩) (m * n) (m * n)) (flat m n A) ∧ Below w.heap.size w ((set4 W L p r c (.slice (some ⟨g, 0, none⟩) (m * n) (m * n))).putObj D (.deferred none)) := by
  refine ⟨OwnI.of_flat (rowIs_put (rowIs_set4 hR hgL _ _ _ _) _ hgD) hg hl hF, ?_⟩
  have h4 : (set4 W L p r c (.slice (some ⟨g, 0, none⟩) (m * n) (m * n))).heap[D]? = some (.deferred (some [])) := keepD4 hD hLD _ _ _ _
  exact (below_set4 hB hL _ _ _ _).trans (belowK_b (w := w) (Nat.le_refl _) _ D _ _ hwD h4 rfl rfl)
end Go.Proofs.YtibdcejglkhcfaaDoor

namespace Go.Proofs.YtibdcejglkhcfaaDoor
open Go.RowKit
set_option linter.unusedVariables false

theorem oper_round {P : Program} {o : Oper} {a : Act} {w : World} {K : Act → World → Prop} {Q : Exit → Act → World → Prop} {r N : Nat} (hd : ∀ c, o.op ≠ .defer c) (h : o.wp P a w K Q) : o.wpIn (Fence.wide.inRound r) N P a w K Q := by
  refine ⟨fun f _ => trivial, ?_⟩
  rw [Oper.semAt_eq _ _ _ hd]
  unfold Oper.wp at h
  generalize (execOp a.eval o).run P w = res at h ⊢
  cases res with
  | ok x w' =>
    cases x <;> simp only [Oper.upon, Oper.uponIn] at h ⊢ <;>
      first
        | exact h
        | exact h.elim
        | exact ⟨fun e => absurd e (by simp [Fence.wide, Fence.inRound]), CallsIn.inRound r (callsIn_wide.2 (h.mono fun e w'' he => by cases e <;> exact he))⟩
        | exact ⟨fun e => absurd e (by simp [Fence.wide, Fence.inRound]), fun c cs _ => let ⟨v, w2, g, s⟩ := h c cs; ⟨v, w2, g, stepsIn_wide.2 s⟩⟩
  | halt x w' => cases x <;> simp only [Oper.upon, Oper.uponIn] at h ⊢ <;> exact h
theorem any_round {P : Program} {ops : Array Oper} {md : Region.Mode} {Q : Exit → Act → World → Prop} {r N : Nat} (hd : ∀ (i : Nat) (o : Oper), ops[i]? = some o → ∀ c, o.op ≠ .defer c) (hL : ¬ LetsOut Q) :
    ∀ (fuel : Nat) (listed : Array Bool) (a : Act) (w : World), wpAny P md ops Q fuel listed a w → wpAnyIn (Fence.wide.inRound r) N P md ops Q fuel listed a w
  | 0, _, _, _, h => h
  | fuel + 1, listed, a, w, h => by
    refine ⟨h.1, fun i hi => ?_⟩
    have h2 := h.2 i hi
    unfold wpOp at h2
    unfold wpOpIn
    cases ho : ops[i]? with
    | none => simp only [ho] at h2; exact any_round hd hL fuel _ _ _ h2
    | some o =>
      simp only [ho] at h2 ⊢
      split
      · rename_i hw
        simp only [hw, if_true] at h2
        rcases h2 with h2 | ⟨_, h2⟩
        · exact Oper.wpIn_mono (fun a' w' h' => any_round hd hL fuel _ _ _ h') (oper_round (hd i o ho) h2)
        · exact absurd h2 hL
      · rename_i hw
        simp only [hw] at h2
        exact ⟨fun f _ => trivial, any_round hd hL fuel _ _ _ h2⟩
def noDefer (ops : List Oper) : Bool := ops.all fun o => match o.op with | .defer _ => false | _ => true
theorem noDefer_is {l : List Oper} (h : noDefer l = true) (i : Nat) (o : Oper) (ho : l.toArray[i]? = some o) (c : _) : o.op ≠ .defer c := by
  intro e
  have hm : o ∈ l := by
    have : l[i]? = some o := by simpa using ho
    exact List.mem_of_getElem? this
  have := (List.all_eq_true.1 h) o hm
  rw [e] at this
  exact absurd this (by simp)
theorem region_round {P : Program} {id : Nat} {Q : Exit → Act → World → Prop} {a : Act} {w : World} {l : List Oper} {r N : Nat} (n : Nat) (hm : P.follows .mixedOrders = true) (hB : Region.lexTailB .any l.toArray n = true) (hd : noDefer l = true) (hL : ¬ LetsOut Q)
    (h : wpStill P l.toArray w.drew (fun a' => wpList P l.toArray Q (l.drop n) a' w.drew) (l.take n) a) : (Code.region id l.toArray true).wpIn (Fence.wide.inRound r) N P Q a w := by
  simp only [Region.lexTailB, Bool.and_eq_true, decide_eq_true_eq] at hB
  obtain ⟨⟨⟨⟨hsel, hn⟩, hs⟩, hc⟩, hlex⟩ := hB
  have hn' : n < l.length := by simpa using hn
  have htl : (l.take n).length = n := by simp; omega
  have hdl : (l.drop n).length = l.toArray.size - n := by simp
  refine wpIn_region_any hm (any_round (noDefer_is hd) hL _ _ _ _ ?_)
  have inv0 : HeadInv .any l.toArray n (Array.replicate l.toArray.size false) :=
    ⟨by simp, fun j oj _ hl => (by rw [getD_replicate_false] at hl; cases hl), fun t _ ht => Go.getD_in (by simpa using ht) (getD_replicate_false _ _)⟩
  have H := wpAnyL_lex (md := .any) (g := l.toArray.size - n) hsel hs hc hn (l.take n) 0 _ a (fun j hj => by
    have hj' : j < n := by omega
    simp [hj']) (by simpa using htl) inv0 (by rw [htl]; exact hlex) h
  have K := wpAny_of_head (Q' := Q) (g := l.toArray.size - n) (fun listed a' hL => by
    have K := wpAny_of_seq (md := .any) (Q' := Q) (l.drop n) n listed a' w.drew (fun j => by simp [List.getElem?_drop]) (by rw [hdl]; exact hL.1) hL.2
    rwa [hdl] at K) _ _ _ H
  rw [htl, show n + (l.toArray.size - n) = l.toArray.size by omega] at K
  exact K
theorem own_letsOut {α : Type} {B : Nat} {Kp : World → World → Prop} {I : List α → World → Prop} {Ix : Code → List α → World → Prop} {xs : List α} {W : World} : ¬ LetsOut (ownPostG B Kp I Ix xs W) := fun ⟨_, _, h⟩ => h
end Go.Proofs.YtibdcejglkhcfaaDoor

namespace Go.Proofs.YtibdcejglkhcfaaDoor
open Go.RowKit
open Lin
set_option linter.unusedVariables false
set_option linter.unusedSectionVars false

/-- One multiple of a row added. -/
def muS {q : Nat} [NeZero q] (l : Nat) (A B : Mt q) (M : Mt q) (x : Nat) : Mt q := fun i j => if i = x / l then M i j + B (x % l) j * A (x / l) (x % l) else M i j
def muP {q : Nat} [NeZero q] {m l : Nat} (A B : Mt q) (pre : List (Fin (m * l))) : Mt q := (pre.map Fin.val).foldl (muS l A B) (fun _ _ => 0)
theorem muP_snoc {q : Nat} [NeZero q] {m l : Nat} (A B : Mt q) (pre : List (Fin (m * l))) (x : Fin (m * l)) : muP A B (pre ++ [x]) = muS l A B (muP A B pre) x.val := by
  simp [muP, List.map_append, List.foldl_append]
theorem muP_range {q : Nat} [NeZero q] {l : Nat} (A B : Mt q) (hl : 0 < l) (i j : Nat) : ∀ T, (List.range T).foldl (muS l A B) (fun _ _ => 0) i j = sm (min l (T - i * l)) (fun k => A i k * B k j)
  | 0 => by simp [sm]
  | T + 1 => by
    rw [List.range_succ, List.foldl_append]
    have ih := muP_range A B hl i j T
    simp only [List.foldl_cons, List.foldl_nil]
    show (if i = T / l then _ + B (T % l) j * A (T / l) (T % l) else _) = _
    rw [ih]
    have hd := Nat.div_add_mod T l
    have hm := Nat.mod_lt T hl
    have hc : l * (T / l) = T / l * l := Nat.mul_comm _ _
    by_cases e : i = T / l
    · subst e
      rw [if_pos rfl]
      have e1 : min l (T - T / l * l) = T % l := by omega
      have e2 : min l (T + 1 - T / l * l) = T % l + 1 := by omega
      rw [e1, e2]
      show _ = sm _ _ + _
      grind
    · rw [if_neg e]
      have e1 : min l (T + 1 - i * l) = min l (T - i * l) := by
        rcases Nat.lt_or_ge i (T / l) with h | h
        · have : (i + 1) * l ≤ T / l * l := Nat.mul_le_mul_right l h
          rw [Nat.succ_mul] at this; omega
        · have : (T / l + 1) * l ≤ i * l := Nat.mul_le_mul_right l (by omega)
          rw [Nat.succ_mul] at this; omega
      rw [e1]
theorem muP_done {q : Nat} [NeZero q] {m l : Nat} {A B : Mt q} {pre : List (Fin (m * l))} (h : pre.map Fin.val = List.range (m * l)) {i : Nat} (j : Nat) (hi : i < m) : muP A B pre i j = muC l A B i j := by
  unfold muP muC
  rw [h]
  by_cases hl : l = 0
  · subst hl; simp [sm]
  · rw [muP_range A B (by omega)]
    have : (i + 1) * l ≤ m * l := Nat.mul_le_mul_right l hi
    rw [Nat.succ_mul] at this
    rw [show min l (m * l - i * l) = l by omega]
/-- The product so far. -/
def MuF {q : Nat} [NeZero q] {m l : Nat} (n : Nat) (A B : Mt q) (pre : List (Fin (m * l))) (t : Nat) : Value := .int .i64 (fv (muP A B pre (t / n) (t % n)))
theorem muF_nil {q : Nat} [NeZero q] (m l n : Nat) (A B : Mt q) (t : Nat) : MuF (m := m) (l := l) n A B [] t = .int .i64 0 := by
  show Value.int .i64 (fv (0 : Fin q)) = _
  rw [fv_zero]
theorem muF_snoc {q : Nat} [NeZero q] {m l n : Nat} {A B : Mt q} {pre : List (Fin (m * l))} (x : Fin (m * l)) (t : Nat) (ht : t < m * n) :
    AddF (MuF n A B pre) (x.val / l * n) n (fun j => muP A B pre (x.val / l) j) (fun j => B (x.val % l) j) (A (x.val / l) (x.val % l)) t = MuF n A B (pre ++ [x]) t := by
  have hn : 0 < n := Nat.pos_of_ne_zero fun e => by subst e; simp at ht
  have hd := Nat.div_add_mod t n
  have hm := Nat.mod_lt t hn
  have hc : n * (t / n) = t / n * n := Nat.mul_comm _ _
  unfold AddF MuF
  rw [muP_snoc]
  unfold muS
  by_cases e : t / n = x.val / l
  · rw [← e, if_pos (by omega), if_pos rfl, show t - t / n * n = t % n by omega]
  · rw [if_neg e, if_neg]
    intro h
    apply e
    obtain ⟨j, hj⟩ : ∃ j, t = x.val / l * n + j := ⟨t - x.val / l * n, by omega⟩
    rw [hj, idxDiv (by omega)]
theorem muF_at {q : Nat} [NeZero q] {m l n : Nat} {A B : Mt q} {pre : List (Fin (m * l))} {i j : Nat} (hj : j < n) : MuF n A B pre (i * n + j) = .int .i64 (fv (muP A B pre i j)) := by
  unfold MuF; rw [idxDiv hj, idxMod hj]
theorem muF_done {q : Nat} [NeZero q] {m l n : Nat} {A B : Mt q} {pre : List (Fin (m * l))} (h : pre.map Fin.val = List.range (m * l)) {i j : Nat} (hi : i < m) (hj : j < n) : MuF n A B pre (i * n + j) = .int .i64 (fv (muC l A B i j)) := by
  rw [muF_at hj, muP_done h j hi]
theorem keepC_gb {n₀ G : Nat} {W W' : World} (h : W.grownBy W' (some G)) (hn : n₀ ≤ W.heap.size) : KeepC n₀ G W W' := fun p hp hg => World.cell?_of_block (w := W) (h.block p.block (by omega) (fun e => hg (by injection e)))
theorem gb_trans {a b c : World} {g : Nat} (h : a.grownBy b (some g)) (k : b.grownBy c (some g)) : a.grownBy c (some g) :=
  ⟨k.os.trans h.os, k.tape.trans h.tape, k.output.trans h.output, Nat.le_trans h.size k.size, fun i hi hne => (k.block i (Nat.lt_of_lt_of_le hi h.size) hne).trans (h.block i hi hne)⟩
theorem gb_undrew {a b : World} {g : Nat} (h : a.drew.grownBy b (some g)) : a.grownBy b (some g) := ⟨h.os, h.tape, h.output, h.size, h.block⟩
end Go.Proofs.YtibdcejglkhcfaaDoor

namespace Go.Proofs.YtibdcejglkhcfaaDoor
open Go.RowKit Go.Shelf
open Lin
set_option linter.unusedVariables false
set_option linter.unusedSectionVars false
attribute [local go_sem] Oper.semAt_some

end Go.Proofs.YtibdcejglkhcfaaDoor

namespace Go.Proofs.YtibdcejglkhcfaaDoor
open Go.RowKit Go.Shelf
open Lin
set_option linter.unusedVariables false
set_option linter.unusedSectionVars false
attribute [local go_sem] Oper.semAt_some

theorem IntsC.al {w : World} {v : Value} {zs : List Int} {o : Obj} (h : IntsC w v zs) : IntsC (w.alloc o) v zs := h.on ((Below.refl _ _).alloc (Nat.le_refl _) o)
end Go.Proofs.YtibdcejglkhcfaaDoor

namespace Go.Proofs.YtibdcejglkhcfaaDoor
open Go.RowKit
open Lin
set_option linter.unusedVariables false
set_option linter.unusedSectionVars false

theorem pushI {B : Nat} {w : World} {v : Value} {zs : List Int} {z : Int} (h : w.ownsRow B 2 1 v (zs.length + 1) (iv zs ++ [.int .i64 z])) : OwnI B w v (zs ++ [z]) := by
  unfold OwnI iv at *; rw [List.length_append, List.map_append]; exact h
theorem madeI (w : World) (B : Nat) (hB : B ≤ w.heap.size) : OwnI B (w.alloc (.cells #[] 2)) (.slice (some ⟨w.heap.size, 0, none⟩) 0 0) [] :=
  World.ownsRow_made w #[] 0 hB (by unfold maxLen; omega) rfl
theorem below_pushI {B0 B : Nat} {w0 w w1 : World} {v : Value} {zs : List Int} {o : Obj} (hb : Below B0 w0 w) (hle : B0 ≤ B) (hB : B ≤ w.heap.size) (h : OwnI B w v zs) (hg : (w.alloc o).grownBy w1 v.ownBlock) : Below B0 w0 w1 :=
  (hb.alloc (by omega) o).grown hg (by simp; omega) (fun k hk => by have := (h.out.lt k hk).1; omega)
theorem row_int (w : World) (z : Int) (t : TypeId) : ∀ (j : Nat) (u : Value), [Value.int .i64 z][j]? = some u → (w.alloc (.cells #[.int .i64 z] t)).cell? ((⟨w.heap.size, 0, none⟩ : Addr).add j) = some u := by
  intro j u hu
  have hj : j = 0 := by
    have := (List.getElem?_eq_some_iff.1 hu).1
    simpa using this
  subst hj
  have e : (⟨w.heap.size, 0, none⟩ : Addr).add 0 = ⟨w.heap.size, 0, none⟩ := by simp [Addr.add]
  rw [e, World.cell?_alloc_at _ _ _ _ rfl]
  exact hu
theorem flat_col {q : Nat} [NeZero q] (i : Nat) (F : Mt q) : flat (i + 1) 1 F = flat i 1 F ++ [fv (F i 0)] := by
  simp [flat, List.range_succ, Nat.div_one, Nat.mod_one]
theorem drew_below {B : Nat} {a w : World} (h : Below B a w) : Below B a w.drew := ⟨h.os, h.tape, h.output, h.size, h.block⟩
theorem OwnI.drew {B : Nat} {w : World} {v : Value} {zs : List Int} (h : OwnI B w v zs) : OwnI B w.drew v zs := h
/-- Numbers and a code. -/
def RetLC (zs : List Int) (k : Int) (w : World) (e : Ending) (w' : World) : Prop := ∃ v, e = .returned (.tuple #[v, .int .i64 k]) ∧ OwnI w.heap.size w' v zs ∧ Below w.heap.size w w'
def RetL (zs : List Int) (w : World) (e : Ending) (w' : World) : Prop := ∃ v, e = .returned v ∧ OwnI w.heap.size w' v zs ∧ Below w.heap.size w w'

end Go.Proofs.YtibdcejglkhcfaaDoor

namespace Go.Proofs.YtibdcejglkhcfaaDoor
open Go.RowKit
open Lin
set_option linter.unusedVariables false
set_option linter.unusedSectionVars false

def ApRes (p r c : Int) (xs ys zs : List Int) (k : Int) : Prop :=
  (¬ (MOk p r c xs ∧ MOk p c 1 ys) ∧ zs = [] ∧ k = 1) ∨ (k = 0 ∧ ∃ (u : Nat) (_ : NeZero u) (m n : Nat) (A B : Mt u), MIs p r c xs u m n A ∧ MIs p c 1 ys u n 1 B ∧ zs = flat m 1 (muC n A B))
theorem apRes_has (p r c : Int) (xs ys : List Int) : ∃ zs k, ApRes p r c xs ys zs k := by
  by_cases h : MOk p r c xs ∧ MOk p c 1 ys
  · obtain ⟨u, i, m, n, A, m', n', B, hA, hB⟩ := h.1.form2 h.2
    obtain rfl : n = m' := by have := hA.c; have := hB.r; omega
    obtain rfl : n' = 1 := by have := hB.c; omega
    exact ⟨_, 0, .inr ⟨rfl, u, i, m, n, A, B, hA, hB, rfl⟩⟩
  · exact ⟨_, _, .inl ⟨h, rfl, rfl⟩⟩
theorem ApRes.len {p r c : Int} {xs ys zs : List Int} {k : Int} (h : ApRes p r c xs ys zs k) : zs.length ≤ 1048576 := by
  rcases h with ⟨_, rfl, _⟩ | ⟨_, u, _, m, n, A, B, hA, hB, rfl⟩
  · simp
  · rw [flat_len]; have := hA.m32; omega
theorem col_ok {p r c : Int} {xs ys : List Int} (h : MOk p r c xs) : colB ys c p = true ↔ MOk p c 1 ys := by
  have e : colB ys c p = true ↔ (NumOk p ys ∧ (ys.length : Int) = c) := by simp [colB]
  rw [e]
  obtain ⟨h1, h2, h3, h4, h5, h6, h7⟩ := h
  constructor
  · rintro ⟨g1, g2⟩; exact ⟨h1, h4, h5, by omega, by omega, by omega, g1⟩
  · rintro ⟨g1, g2, g3, g4, g5, g6, g7⟩; exact ⟨g7, by omega⟩
theorem apRes_mu {p r c k : Int} {xs ys zs : List Int} (h : ApRes p r c xs ys zs k) : ∃ P R C, MuRes p r c xs p c 1 ys P R C zs k := by
  rcases h with ⟨h, rfl, rfl⟩ | ⟨rfl, u', i, m, n, A, B, hA, hB, rfl⟩
  · exact ⟨0, 0, 0, .inl ⟨h, rfl⟩, .inl ⟨by omega, rfl, rfl, rfl, rfl⟩⟩
  · exact ⟨_, _, _, .inr (.inr ⟨hA.ok, hB.ok, rfl, by simp, rfl⟩), .inr ⟨rfl, rfl, rfl, rfl, u', i, m, n, 1, A, B, hA, hB, rfl⟩⟩
end Go.Proofs.YtibdcejglkhcfaaDoor
