/-
  The library's sort of a slice by a function that compares two places and may make memory: what is asked of that function and of the exchange, and what a call of the sort keeps.
-/
import Derived.Test.YtibdcejglkhcfaaGreatDoorPA
import Derived.Shelf.SlSortCmp.Kit1
import Derived.Shelf.Abstract
import Derived.Sort.WalkA
import Derived.Sort.WalkB2
import Derived.Sort.WalkB12
import Derived.Deep.LoopGhost
import Derived.WalkKit
namespace Go.Proofs.YtibdcejglkhcfaaGreatDoor
open Go.RowKit Go.Sort Go.Shelf Go.Lib
set_option linter.unusedVariables false

/-- Whatever lies outside one block is as before; the heap has not shrunk. -/
structure KB (blk : Nat) (w w' : World) : Prop where
  le : w.heap.size ≤ w'.heap.size
  cell : ∀ b o, b ≠ blk → b < w.heap.size → w'.cell? ⟨b, o, none⟩ = w.cell? ⟨b, o, none⟩
  frz : ∀ b o, b ≠ blk → b < w.heap.size → w'.frozen? ⟨b, o, none⟩ = w.frozen? ⟨b, o, none⟩
theorem KB.refl (blk : Nat) (w : World) : KB blk w w := ⟨Nat.le_refl _, fun _ _ _ _ => rfl, fun _ _ _ _ => rfl⟩
theorem KB.trans {blk : Nat} {a b c : World} (h : KB blk a b) (g : KB blk b c) : KB blk a c :=
  ⟨Nat.le_trans h.le g.le, fun i o hi hb => (g.cell i o hi (Nat.lt_of_lt_of_le hb h.le)).trans (h.cell i o hi hb), fun i o hi hb => (g.frz i o hi (Nat.lt_of_lt_of_le hb h.le)).trans (h.frz i o hi hb)⟩
theorem KB.alloc {blk : Nat} {a b : World} (h : KB blk a b) (o : Obj) : KB blk a (b.alloc o) :=
  ⟨by rw [World.size_alloc]; have := h.le; omega, fun i o' hi hb => ((Below.refl b.heap.size b).alloc (Nat.le_refl _) o |>.cell (p := ⟨i, o', none⟩) (by have := h.le; show i < b.heap.size; omega)).trans (h.cell i o' hi hb), fun i o' hi hb => ((Below.refl b.heap.size b).alloc (Nat.le_refl _) o |>.frozen (p := ⟨i, o', none⟩) (by have := h.le; show i < b.heap.size; omega)).trans (h.frz i o' hi hb)⟩
theorem KB.drew {blk : Nat} {a b : World} (h : KB blk a b) : KB blk a b.drew := ⟨h.le, h.cell, h.frz⟩
theorem KB.drewN {blk : Nat} {a b : World} (h : KB blk a b) (n : Nat) : KB blk a (b.drewN n) := ⟨h.le, h.cell, h.frz⟩
theorem KB.set {blk : Nat} {a b : World} (h : KB blk a b) (o : Nat) (v : Value) : KB blk a (b.setCell ⟨blk, o, none⟩ v) :=
  ⟨by simpa using h.le, fun i o' hi hb => (World.cell?_setCell_other _ _ _ _ (by intro e; injection e with e1 _; first | exact hi e1 | exact hi e1.symm)).trans (h.cell i o' hi hb), fun i o' hi hb => by rw [World.frozen?_setCell]; exact h.frz i o' hi hb⟩
theorem KB.new {blk : Nat} {a b : World} (h : KB blk a b) {c o : Nat} (hc : a.heap.size ≤ c) (v : Value) : KB blk a (b.setCell ⟨c, o, none⟩ v) :=
  ⟨by simpa using h.le, fun i o' hi hb => (World.cell?_setCell_other _ _ _ _ (by intro e; injection e with e1 _; omega)).trans (h.cell i o' hi hb), fun i o' hi hb => by rw [World.frozen?_setCell]; exact h.frz i o' hi hb⟩
/-- A call's own box of two cells. -/
structure Bx2 (B : Nat) (x y : Value) (w : World) : Prop where
  lt : B < w.heap.size
  c0 : w.cell? ⟨B, 0, none⟩ = some x
  c1 : w.cell? ⟨B, 1, none⟩ = some y
theorem Bx2.new (w : World) (x y : Value) (t : TypeId) : Bx2 w.heap.size x y (w.alloc (.cells #[x, y] t)) := by
  refine ⟨by simp, ?_, ?_⟩ <;> rw [World.cell?_alloc_at _ _ _ _ rfl] <;> rfl
theorem Bx2.on {B blk : Nat} {x y : Value} {w w' : World} (h : Bx2 B x y w) (hne : B ≠ blk) (k : KB blk w w') : Bx2 B x y w' :=
  ⟨Nat.lt_of_lt_of_le h.lt k.le, (k.cell B 0 hne h.lt).trans h.c0, (k.cell B 1 hne h.lt).trans h.c1⟩
section
variable {α : Type} [Inhabited α]
/-- What the sort is given: a comparison of two places, which may make memory, and an exchange of two places. -/
structure Cx (enc : α → Value) (lt : α → α → Bool) (g : Nat) (lb : Array Value) (sf : Nat) (sb : Array Value) (blk off size : Nat) (w0 : World) : Prop where
  eg : ∀ args w, (callFunc g args).run Tryz.prog w = .ok (.enter g args) w
  less : ∀ (d : Array α) (W : World), SW enc w0 blk off d W → d.size = size → ∀ i j : Nat, i < size → j < size →
    Calls Tryz.prog g (#[.int .i64 (i : Int), .int .i64 (j : Int)] ++ lb) W fun e w' => e = .returned (.bool (lt d[i]! d[j]!)) ∧ SW enc w0 blk off d w' ∧ KB blk W w'
  swap : SwapSwaps Tryz.prog sf sb enc blk off size
  hb : blk < w0.heap.size
  d0 : ∃ d0 : Array α, Holds enc w0 blk off d0 ∧ d0.size = size
  sz : size < 4611686018427387904
variable {enc : α → Value} {lt : α → α → Bool} {g : Nat} {lb : Array Value} {sf : Nat} {sb : Array Value} {blk off size : Nat} {w0 : World}
theorem Cx.holds (X : Cx enc lt g lb sf sb blk off size w0) {d : Array α} {W : World} (S : SW enc w0 blk off d W) (hs : d.size = size) : Holds enc W blk off d := by
  obtain ⟨d0, h0, h1⟩ := X.d0
  exact S.holds X.hb h0 (hs.trans h1.symm)
theorem Cx.blt (X : Cx enc lt g lb sf sb blk off size w0) {d : Array α} {W : World} (S : SW enc w0 blk off d W) : blk < W.heap.size := S.lt X.hb
/-- The exchange at two places given as numbers: the call runs into one world, of which the rest is told. -/
theorem Cx.swp (X : Cx enc lt g lb sf sb blk off size w0) {d : Array α} {W : World} (S : SW enc w0 blk off d W) (hs : d.size = size) (i j : Nat) (hi : i < size) (hj : j < size) :
    ∃ W', (callFunc sf (#[.int .i64 (i : Int), .int .i64 (j : Int)] ++ sb)).run Tryz.prog W = .ok (.value (.tuple #[])) W' ∧ SW enc w0 blk off (Sort.swp d i j) W' ∧ KB blk W W' :=
  ⟨_, X.swap W d (X.holds S hs) hs i j hi hj, S.swap X.hb i j (by omega) (by omega), ((KB.refl _ _).set _ _).set _ _⟩
theorem Cx.ls (X : Cx enc lt g lb sf sb blk off size w0) {d : Array α} {W : World} (S : SW enc w0 blk off d W) (hs : d.size = size) {i j : Nat} {x y : Int} {T : Bool} (hx : x = (i : Int)) (hy : y = (j : Int)) (hi : i < size) (hj : j < size) (hT : lt d[i]! d[j]! = T) :
    Calls Tryz.prog g (#[.int .i64 x, .int .i64 y] ++ lb) W fun e w' => e = .returned (.bool T) ∧ SW enc w0 blk off d w' ∧ KB blk W w' := by
  subst hx hy hT
  exact X.less d W S hs i j hi hj
theorem Cx.sw (X : Cx enc lt g lb sf sb blk off size w0) {d : Array α} {W : World} (S : SW enc w0 blk off d W) (hs : d.size = size) {i j : Nat} {x y : Int} (hx : x = (i : Int)) (hy : y = (j : Int)) (hi : i < size) (hj : j < size) :
    ∃ W', (callFunc sf (#[.int .i64 x, .int .i64 y] ++ sb)).run Tryz.prog W = .ok (.value (.tuple #[])) W' ∧ SW enc w0 blk off (Sort.swp d i j) W' ∧ KB blk W W' := by
  subst hx hy
  exact X.swp S hs i j hi hj
end
end Go.Proofs.YtibdcejglkhcfaaGreatDoor
