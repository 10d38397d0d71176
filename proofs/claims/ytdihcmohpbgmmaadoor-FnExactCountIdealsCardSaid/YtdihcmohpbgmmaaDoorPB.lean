/-
  Contracts of the laws' own helpers for matrices: a copy, the count of cells, equality, marks.
  Contracts of the tests for valid matrices, of the model and of the program; a matrix has at most 1048576 cells.
  Contracts of the program's test for valid matrices.
  Blocks that a call makes and fills: rows of numbers; matrices of zeros.
  Contracts of unit matrices, of the model and of the program.
  The rows of a matrix, as the program lays them out.
  A slice that reads as numbers, with its capacity: what slicing it again asks.
  The rows of a matrix whose cells are read, whatever their number.
  Contracts of UnitMatrix, of the model and of the program.
  Contracts of the equality of matrices, of the model and of the program.
  Contracts of the codes for two matrices and for a square one, of the model and of the program.
  Rests: bounds, and the contract of the program's own rest.
  The contract of 'a multiple of numbers is added to others', as the program does it, in a row of the call's own.
  Contracts of AddMatrices and ScaleMatrix of the program.
  Contracts of AddMatrices of the model.
-/
import Derived.Test.YtdihcmohpbgmmaaDoorPA
import Derived.Deep.OwnRows
import Derived.Below
import Derived.Outline
import Derived.Deep.QuietTactic
import Derived.BigQuiet
import Derived.RegionTactic
namespace Go.Proofs.YtdihcmohpbgmmaaDoor
open Go.RowKit
set_option linter.unusedVariables false

theorem bcell {W w1 : World} (hb : Below W.heap.size W w1) : (∀ b o, b < W.heap.size → w1.cell? ⟨b, o, none⟩ = W.cell? ⟨b, o, none⟩) ∧ (∀ b o, b < W.heap.size → w1.frozen? ⟨b, o, none⟩ = W.frozen? ⟨b, o, none⟩) :=
  ⟨fun b o h => hb.cell (p := ⟨b, o, none⟩) h, fun b o h => hb.frozen (p := ⟨b, o, none⟩) h⟩
theorem OwnI.slice {B : Nat} {w : World} {v : Value} {zs : List Int} (h : OwnI B w v zs) : ∃ a cap, v = .slice a zs.length cap := by
  rcases h.form with ⟨rfl, rfl⟩ | ⟨g, cap, rfl, _⟩
  · exact ⟨none, 0, rfl⟩
  · exact ⟨_, cap, rfl⟩
theorem OwnI.mono {B C : Nat} {w : World} {v : Value} {zs : List Int} (h : OwnI B w v zs) (hC : C ≤ B) : OwnI C w v zs := by
  obtain ⟨hx, h | ⟨g, cap, cur, e, hB, r⟩⟩ := h
  · exact ⟨hx, .inl h⟩
  · exact ⟨hx, .inr ⟨g, cap, cur, e, Nat.le_trans hC hB, r⟩⟩
/-- A store into a block below those of the row. -/
theorem OwnI.setOut {B : Nat} {w : World} {v : Value} {zs : List Int} (h : OwnI B w v zs) {b o : Nat} (hb : b < B) (x : Value) : OwnI B (w.setCell ⟨b, o, none⟩ x) v zs := by
  obtain ⟨hx, h | ⟨g, cap, cur, e, hB, hcur, r⟩⟩ := h
  · exact ⟨hx, .inl h⟩
  · refine ⟨hx, .inr ⟨g, cap, cur, e, hB, ?_, r⟩⟩
    rw [← hcur]
    exact Deep.blk_setCell_other _ _ _ _ (show g ≠ b by omega)
theorem Below.setC {B : Nat} {a w : World} (h : Below B a w) {b o : Nat} (hb : B ≤ b) (x : Value) : Below B a (w.setCell ⟨b, o, none⟩ x) := h.setCell (p := ⟨b, o, none⟩) hb x
/-- How a call ends that hands back a matrix whose cells are its own. -/
def RetMx (p r c : Int) (zs : List Int) (w : World) (e : Ending) (w' : World) : Prop :=
  ∃ v, e = .returned (.agg #[.int .i64 p, .int .i64 r, .int .i64 c, v]) ∧ OwnI w.heap.size w' v zs ∧ Below w.heap.size w w'

/-! ### The count of cells -/
theorem szI_yes {n : Nat} {left : Int} (a : Option Addr) (cap : Nat) (w : World) (h : left ≤ 1048576) (h1 : (n : Int) ≤ left) :
    Calls Tryd.prog 54 #[.slice a n cap, .int .i64 left] w fun e w' => e = .returned (.int .i64 (left - n)) ∧ w = w' := by
  go_enter Tryd.func54, Tryd.ntmps54
  go_wp2
  go_ret
  exact ⟨rfl, rfl⟩
theorem szI_no {n : Nat} {left : Int} (a : Option Addr) (cap : Nat) (w : World) (h0 : 0 ≤ left) (h : left ≤ 1048576) (hn : n ≤ 9223372036854775807) (h1 : left < (n : Int)) :
    Calls Tryd.prog 54 #[.slice a n cap, .int .i64 left] w fun e w' => e = .returned (.int .i64 (-1)) ∧ w = w' := by
  go_enter Tryd.func54, Tryd.ntmps54
  go_wp2
  go_ret
  exact ⟨rfl, rfl⟩

/-! ### Equality -/

/-! ### Marks -/
theorem Fr.alloc {B E : Nat} {w w' : World} (h : Fr B E w w') (o : Obj) (hE : w.heap.size ≤ w'.heap.size) : Fr B E w (w'.alloc o) :=
  ⟨h.1, h.2.1, h.2.2.1, by simp; omega, fun k hk hd => (Deep.blk_alloc_lt _ _ _ (by omega)).trans (h.2.2.2.2 k hk hd)⟩
theorem Fr.refl (B E : Nat) (w : World) : Fr B E w w := ⟨rfl, rfl, rfl, Nat.le_refl _, fun _ _ _ => rfl⟩
theorem Fr.trans {B E : Nat} {a b c : World} (h : Fr B E a b) (g : Fr B E b c) : Fr B E a c :=
  ⟨g.1.trans h.1, g.2.1.trans h.2.1, g.2.2.1.trans h.2.2.1, Nat.le_trans h.2.2.2.1 g.2.2.2.1, fun k hk hd => (g.2.2.2.2 k (Nat.lt_of_lt_of_le hk h.2.2.2.1) hd).trans (h.2.2.2.2 k hk hd)⟩
theorem Fr.cell {B E : Nat} {w w' : World} (h : Fr B E w w') {b o : Nat} (hb : b < w.heap.size) (hd : b < B ∨ E ≤ b) : w'.cell? ⟨b, o, none⟩ = w.cell? ⟨b, o, none⟩ := World.cell?_of_block (w := w) (h.2.2.2.2 b hb hd)
theorem OwnX.alloc {B E : Nat} {w : World} {v : Value} {zs : List Int} (h : OwnX B E w v zs) (o : Obj) : OwnX B E (w.alloc o) v zs := h.on ((Below.refl _ _).alloc (Nat.le_refl _) o)

/-! ### A matrix behind a pointer -/
/-- A block that holds a matrix. -/
def PtM (w : World) (L : Nat) (p r c : Int) (v : Value) : Prop :=
  L < w.heap.size ∧ w.cell? ⟨L, 0, none⟩ = some (.int .i64 p) ∧ w.cell? ⟨L, 1, none⟩ = some (.int .i64 r) ∧ w.cell? ⟨L, 2, none⟩ = some (.int .i64 c) ∧ w.cell? ⟨L, 3, none⟩ = some v
theorem PtM.new (w : World) (p r c : Int) (v : Value) (t : TypeId) : PtM (w.alloc (.cells #[.int .i64 p, .int .i64 r, .int .i64 c, v] t)) w.heap.size p r c v := by
  refine ⟨by simp, ?_, ?_, ?_, ?_⟩ <;> rw [World.cell?_alloc_at _ _ _ _ rfl] <;> rfl
theorem PtM.on {w w' : World} {L : Nat} {p r c : Int} {v : Value} (h : PtM w L p r c v) (hb : Below w.heap.size w w') : PtM w' L p r c v := by
  obtain ⟨h0, h1, h2, h3, h4⟩ := h
  exact ⟨Nat.lt_of_lt_of_le h0 hb.size, (hb.cell (p := ⟨L, 0, none⟩) h0).trans h1, (hb.cell (p := ⟨L, 1, none⟩) h0).trans h2, (hb.cell (p := ⟨L, 2, none⟩) h0).trans h3, (hb.cell (p := ⟨L, 3, none⟩) h0).trans h4⟩
theorem PtM.ne {w : World} {L : Nat} {p r c : Int} {v : Value} (h : PtM w L p r c v) : w.heap.size ≠ L := by have := h.1; omega
theorem PtM.fr {w w' : World} {L B E : Nat} {p r c : Int} {v : Value} (h : PtM w L p r c v) (f : Fr B E w w') (hd : L < B ∨ E ≤ L) : PtM w' L p r c v := by
  obtain ⟨h0, h1, h2, h3, h4⟩ := h
  exact ⟨Nat.lt_of_lt_of_le h0 f.2.2.2.1, (f.cell h0 hd).trans h1, (f.cell h0 hd).trans h2, (f.cell h0 hd).trans h3, (f.cell h0 hd).trans h4⟩
theorem PtM.drewN {w : World} {L : Nat} {p r c : Int} {v : Value} (h : PtM w L p r c v) (n : Nat) : PtM (w.drewN n) L p r c v := h
/-! ### Words for a law's walk -/
/-- Equality of lists, the world told by Below. -/
theorem eqL_any {v1 v2 : Value} {zs : List Int} {w : World} (h1 : IntsAt w v1 zs) (h2 : IntsAt w v2 zs) :
    Calls Tryd.prog 32 #[v1, v2] w fun e w' => e = .returned (.bool true) ∧ Below w.heap.size w w' :=
  (eqI_any h1 h2).mono fun e w' ⟨he, n, hn⟩ => ⟨he, by rw [hn]; exact below_drewX (Below.refl _ _) n⟩
theorem heldL_any {v : Value} {n : Nat} {k : Int} {w : World} (h : IntsAt w v (marks k n)) (hk0 : 0 ≤ k) (hk1 : k ≤ 1048576) :
    Calls Tryd.prog 34 #[v, .int .i64 k] w fun e w' => e = .returned (.int .i64 (k + (n : Int))) ∧ Below w.heap.size w w' :=
  (heldI_any h hk0 hk1).mono fun e w' ⟨he, hn⟩ => ⟨he, by rw [← hn]; exact Below.refl _ _⟩
theorem up1 {w w' : World} {o : Obj} (h : Below (w.alloc o).heap.size (w.alloc o) w') : Below w.heap.size w w' := ((Below.refl _ _).alloc (Nat.le_refl _) o).trans (h.mono (by simp))
theorem up2 {w w' : World} {o u : Obj} (h : Below ((w.alloc o).alloc u).heap.size ((w.alloc o).alloc u) w') : Below w.heap.size w w' := up1 (up1 h)
theorem IntsAt.drew {w : World} {v : Value} {zs : List Int} (h : IntsAt w v zs) : IntsAt w.drew v zs := h
theorem undrew {w w' : World} (h : Below w.drew.heap.size w.drew w') : Below w.heap.size w w' := ⟨h.os, h.tape, h.output, h.size, h.block⟩
theorem al1 {w0 w : World} (h : Below w0.heap.size w0 w) (o : Obj) : Below w0.heap.size w0 (w.alloc o) := h.alloc h.size o
theorem PtM.new1 (w : World) (p r c : Int) (v : Value) (t : TypeId) (o : Obj) : PtM ((w.alloc (.cells #[.int .i64 p, .int .i64 r, .int .i64 c, v] t)).alloc o) w.heap.size p r c v := (PtM.new w p r c v t).on ((Below.refl _ _).alloc (Nat.le_refl _) o)
theorem OwnX.of {B C : Nat} {w : World} {v : Value} {zs : List Int} (h : OwnI B w v zs) (hC : C ≤ B) : OwnX C w.heap.size w v zs := OwnX.new (h.mono hC)
end Go.Proofs.YtdihcmohpbgmmaaDoor

namespace Go.Proofs.YtdihcmohpbgmmaaDoor
open Go.RowKit
set_option linter.unusedVariables false

theorem quiet_left {P : Program} {f : FuncId} {args : Array Value} {w : World} {n : Nat} {v : Value}
    (h : Calls P f args (w.drewN n) fun e w' => e = .returned v ∧ w.drewN n = w') : Calls P f args (w.drewN n) fun e w'' => e = .returned v ∧ ∃ m, w'' = w.drewN m :=
  h.mono fun _ _ ⟨he, hm⟩ => ⟨he, n, hm.symm⟩
/-- lo ≤ n ≤ hi, as a Bool. -/
def inB (n lo hi : Int) : Bool := decide (lo ≤ n ∧ n ≤ hi)
theorem inB_yes {n lo hi : Int} (h0 : lo ≤ n) (h1 : n ≤ hi) : inB n lo hi = true := by simp [inB, h0, h1]
theorem inB_no {n lo hi : Int} (h : n < lo ∨ hi < n) : inB n lo hi = false := by simp only [inB, decide_eq_false_iff_not]; omega
theorem l00In_b (n lo hi : Int) (w : World) :
    Calls Tryd.prog 55 #[.int .i64 n, .int .i64 lo, .int .i64 hi] w fun e w' => e = .returned (.bool (inB n lo hi)) ∧ w = w' := by
  by_cases h : lo ≤ n ∧ n ≤ hi
  · rw [inB_yes h.1 h.2]; exact l00In_yes _ _ _ _ h.1 h.2
  · rw [inB_no (by omega)]; exact l00In_no _ _ _ _ (by omega)
/-- p is a prime, as a Bool. -/
noncomputable def prB (p : Int) : Bool := by classical exact decide (IsPr p)
theorem prB_yes {p : Int} (h : IsPr p) : prB p = true := by simp [prB, h]
theorem prB_no {p : Int} (h : ¬ IsPr p) : prB p = false := by simp [prB, h]

theorem l00In_is {n lo hi : Int} {b : Bool} (w : World) (h : inB n lo hi = b) :
    Calls Tryd.prog 55 #[.int .i64 n, .int .i64 lo, .int .i64 hi] w fun e w' => e = .returned (.bool b) ∧ w = w' := by subst h; exact l00In_b n lo hi w

/-! ### A column -/
/-- A list has n numbers modulo p, as a Bool. -/
noncomputable def colB (zs : List Int) (n p : Int) : Bool := by classical exact decide (NumOk p zs ∧ (zs.length : Int) = n)
theorem colB_yes {zs : List Int} {n p : Int} (h : NumOk p zs) (hl : (zs.length : Int) = n) : colB zs n p = true := by simp [colB, h, hl]
theorem colB_no {zs : List Int} {n p : Int} (h : ¬ (NumOk p zs ∧ (zs.length : Int) = n)) : colB zs n p = false := by simp only [colB, decide_eq_false_iff_not]; exact h

/-- A matrix is valid, as a Bool. -/
noncomputable def okB (p r c : Int) (zs : List Int) : Bool := by classical exact decide (MOk p r c zs)
theorem okB_yes {p r c : Int} {zs : List Int} (h : MOk p r c zs) : okB p r c zs = true := by simp [okB, h]
theorem okB_no {p r c : Int} {zs : List Int} (h : ¬ MOk p r c zs) : okB p r c zs = false := by simp [okB, h]
theorem mul_side {r c : Int} (r0 : 0 ≤ r) (r1 : r ≤ 32) (c0 : 0 ≤ c) (c1 : c ≤ 32) : 0 ≤ r * c ∧ r * c ≤ 1024 := by
  have h := Int.mul_le_mul r1 c1 c0 (by omega)
  exact ⟨Int.mul_nonneg r0 c0, by omega⟩

end Go.Proofs.YtdihcmohpbgmmaaDoor

namespace Go.Proofs.YtdihcmohpbgmmaaDoor
open Go.RowKit
set_option linter.unusedVariables false

/-! ### The program's test -/
theorem numCode_has (p : Int) (zs : List Int) : ∃ c, NumCode p zs c ∧ (c == 0) = decide (c = 0) := by
  by_cases hp : IsPr p
  · by_cases hn : NumOk p zs
    · exact ⟨0, .inr (.inr ⟨hp, hn, rfl⟩), rfl⟩
    · exact ⟨2, .inr (.inl ⟨hp, hn, rfl⟩), rfl⟩
  · exact ⟨1, .inl ⟨hp, rfl⟩, rfl⟩
end Go.Proofs.YtdihcmohpbgmmaaDoor

namespace Go.Proofs.YtdihcmohpbgmmaaDoor
open Go.RowKit
set_option linter.unusedVariables false

theorem OwnI.of_row {B g : Nat} {w : World} {zs : List Int} (h : w.rowIs g 2 zs.length (fun t => .int .i64 (zs.getD t 0))) (hB : B ≤ g) (hl : zs.length ≤ 1048576) : OwnI B w (.slice (some ⟨g, 0, none⟩) zs.length zs.length) zs := by
  obtain ⟨c, hc, hn, hi⟩ := h
  refine ⟨by simp [iv_len], .inr ⟨g, zs.length, c, rfl, hB, hc, Nat.le_refl _, by unfold maxLen; omega, by omega, ?_⟩⟩
  refine List.ext_getElem (by simp [iv_len, hn]) fun j h1 h2 => ?_
  have hj : j < zs.length := by simpa [iv_len] using h2
  have := hi j hj
  rw [getElem?_pos c j (by omega)] at this
  injection this with this
  rw [List.getElem_take]
  show c[j] = (iv zs)[j]
  rw [this]
  simp [iv, List.getD, List.getElem?_eq_getElem hj]
theorem gb_set {a w : World} {g o : Nat} (h : a.grownBy w (some g)) (v : Value) : a.grownBy (w.setCell ⟨g, o, none⟩ v) (some g) :=
  ⟨h.os, h.tape, h.output, by simpa [World.setCell] using h.size, fun i hi hne => (Deep.blk_setCell_other _ _ _ _ (fun e => hne (by rw [e]))).trans (h.block i hi hne)⟩
theorem gb_drew {a w : World} {row : Option Nat} (h : a.grownBy w row) : a.grownBy w.drew row := ⟨h.os, h.tape, h.output, h.size, h.block⟩
theorem gb_drewN {a w : World} {row : Option Nat} (h : a.grownBy w row) (n : Nat) : a.grownBy (w.drewN n) row := ⟨h.os, h.tape, h.output, h.size, h.block⟩
theorem gb_alloc {a w : World} {row : Option Nat} (h : a.grownBy w row) (o : Obj) : a.grownBy (w.alloc o) row :=
  ⟨h.os, h.tape, h.output, Nat.le_trans h.size (by simp), fun i hi hne => (Deep.blk_alloc_lt w o i (Nat.lt_of_lt_of_le hi h.size)).trans (h.block i hi hne)⟩
theorem gb_below {a w : World} (h : Below a.heap.size a w) (row : Option Nat) : a.grownBy w row := ⟨h.os, h.tape, h.output, h.size, fun i hi _ => h.block i hi⟩
theorem PtM.gb {a w : World} {L g : Nat} {p r c : Int} {v : Value} (h : PtM a L p r c v) (hg : a.grownBy w (some g)) (hne : L ≠ g) : PtM w L p r c v := by
  have hb : ∀ o, w.cell? ⟨L, o, none⟩ = a.cell? ⟨L, o, none⟩ := fun o => World.cell?_of_block (hg.block L h.1 (fun e => hne (by injection e)))
  obtain ⟨h0, h1, h2, h3, h4⟩ := h
  exact ⟨Nat.lt_of_lt_of_le h0 hg.size, (hb _).trans h1, (hb _).trans h2, (hb _).trans h3, (hb _).trans h4⟩
theorem below_gb {B : Nat} {w0 a w : World} {g : Nat} (h : Below B w0 a) (hg : a.grownBy w (some g)) (hB : B ≤ g) (hs : B ≤ a.heap.size) : Below B w0 w :=
  h.grown hg hs (fun k e => by injection e with e; omega)
theorem rowIs_drewN {w : World} {b : Nat} {t : TypeId} {n : Nat} {f : Nat → Value} (h : w.rowIs b t n f) (k : Nat) : (w.drewN k).rowIs b t n f := h
theorem rowIs_on {w w' : World} {b : Nat} {t : TypeId} {n : Nat} {f : Nat → Value} (h : w.rowIs b t n f) (hb : Below w.heap.size w w') : w'.rowIs b t n f := h.of_block (hb.block b h.lt)
theorem rowIs_gb {a w : World} {b g : Nat} {t : TypeId} {n : Nat} {f : Nat → Value} (h : a.rowIs b t n f) (hg : a.grownBy w (some g)) (hne : b ≠ g) : w.rowIs b t n f := h.of_block (hg.block b h.lt (fun e => hne (by injection e)))
theorem info_i : (Tryd.prog.info? 2).map (fun i => (i.zero, i.size, i.bytes)) = some (some (.int .i64 0), 1, 8) := info2
/-- How a call ends that makes a matrix of zeros of n cells. -/
def RetZ (p r c : Int) (n : Nat) (w : World) (e : Ending) (w' : World) : Prop :=
  ∃ g, e = .returned (.agg #[.int .i64 p, .int .i64 r, .int .i64 c, .slice (some ⟨g, 0, none⟩) n n]) ∧ w.heap.size ≤ g ∧ w'.rowIs g 2 n (fun _ => .int .i64 0) ∧ Below w.heap.size w w'
theorem row_made (w : World) (n : Nat) (o : Obj) : (w.alloc (.cells (madeCells #[.int .i64 0] n) 2)).rowIs w.heap.size 2 n (fun _ => .int .i64 0) := World.rowIs_made w _ n _
theorem rowIs_setO {w : World} {b : Nat} {t : TypeId} {n : Nat} {f : Nat → Value} (h : w.rowIs b t n f) {c o : Nat} (hne : b ≠ c) (v : Value) : (w.setCell ⟨c, o, none⟩ v).rowIs b t n f := h.setOther (a := ⟨c, o, none⟩) hne v
/-- A matrix and a code. -/
def RetMC (P R C : Int) (zs : List Int) (k : Int) (w : World) (e : Ending) (w' : World) : Prop :=
  ∃ v, e = .returned (.tuple #[.agg #[.int .i64 P, .int .i64 R, .int .i64 C, v], .int .i64 k]) ∧ OwnI w.heap.size w' v zs ∧ Below w.heap.size w w'
theorem OwnI.nul (B : Nat) (w : World) : OwnI B w (.slice none 0 0) [] := World.ownsRow_nil _ _ _ _
theorem OwnI.zeros {B g n : Nat} {w : World} (h : w.rowIs g 2 n (fun _ => .int .i64 0)) (hB : B ≤ g) (hl : n ≤ 1048576) : OwnI B w (.slice (some ⟨g, 0, none⟩) n n) (List.replicate n 0) := by
  have e : (List.replicate n (0 : Int)).length = n := by simp
  have := OwnI.of_row (zs := List.replicate n 0) (B := B) (g := g) (w := w) (by rw [e]; exact h.congr fun i hi => by simp [List.getD, hi]) hB (by rw [e]; exact hl)
  rwa [e] at this


/-! ### ZeroMatrix -/
def ZRes (p r c P R C : Int) (zs : List Int) (k : Int) : Prop :=
  (¬ IsPr p ∧ P = 0 ∧ R = 0 ∧ C = 0 ∧ zs = [] ∧ k = 1) ∨ (IsPr p ∧ (inB r 0 32 && inB c 0 32) = false ∧ P = 0 ∧ R = 0 ∧ C = 0 ∧ zs = [] ∧ k = 2) ∨
  (IsPr p ∧ inB r 0 32 = true ∧ inB c 0 32 = true ∧ P = p ∧ R = r ∧ C = c ∧ zs = List.replicate (r * c).toNat 0 ∧ k = 0)
theorem inB_and {n lo hi : Int} : inB n lo hi = true → lo ≤ n ∧ n ≤ hi := by simp [inB]
theorem zRes_has (p r c : Int) : ∃ P R C zs k, ZRes p r c P R C zs k := by
  by_cases hp : IsPr p
  · cases hr : inB r 0 32 with
    | false => exact ⟨_, _, _, _, _, .inr (.inl ⟨hp, by rw [hr]; rfl, rfl, rfl, rfl, rfl, rfl⟩)⟩
    | true =>
      cases hc : inB c 0 32 with
      | false => exact ⟨_, _, _, _, _, .inr (.inl ⟨hp, by rw [hr, hc]; rfl, rfl, rfl, rfl, rfl, rfl⟩)⟩
      | true => exact ⟨_, _, _, _, _, .inr (.inr ⟨hp, hr, hc, rfl, rfl, rfl, rfl, rfl⟩)⟩
  · exact ⟨_, _, _, _, _, .inl ⟨hp, rfl, rfl, rfl, rfl, rfl⟩⟩
theorem ZRes.len {p r c P R C k : Int} {zs : List Int} (h : ZRes p r c P R C zs k) : zs.length ≤ 1048576 := by
  rcases h with ⟨_, _, _, _, rfl, _⟩ | ⟨_, _, _, _, _, rfl, _⟩ | ⟨_, hr, hc, _, _, _, rfl, _⟩
  · simp
  · simp
  · have := mul_side (inB_and hr).1 (inB_and hr).2 (inB_and hc).1 (inB_and hc).2
    rw [List.length_replicate]; omega
end Go.Proofs.YtdihcmohpbgmmaaDoor

namespace Go.Proofs.YtdihcmohpbgmmaaDoor
open Go.RowKit
open Lin
set_option linter.unusedVariables false
set_option linter.unusedSectionVars false

/-- A block that may be written. -/
def Fz (w : World) (L : Nat) : Prop := ∀ o, w.frozen? ⟨L, o, none⟩ = false
theorem Fz.new (w : World) (vs : Array Value) (t : TypeId) : Fz (w.alloc (.cells vs t)) w.heap.size := fun o => World.frozen?_alloc_at _ _ _ _ rfl
theorem Fz.on {w w' : World} {L : Nat} (h : Fz w L) (hL : L < w.heap.size) (hb : Below w.heap.size w w') : Fz w' L := fun o => (hb.frozen (p := ⟨L, o, none⟩) hL).trans (h o)
theorem Fz.gb {a w : World} {L g : Nat} (h : Fz a L) (hL : L < a.heap.size) (hg : a.grownBy w (some g)) (hne : L ≠ g) : Fz w L :=
  fun o => (World.frozen?_of_block (hg.block L hL (fun e => hne (by injection e)))).trans (h o)
theorem getD_flat {zs : List Int} {t : Nat} (h : t < zs.length) : zs.getD t 0 = zs[t] := by simp [List.getD, List.getElem?_eq_getElem h]
theorem Fz.all {w : World} {L : Nat} (h : Fz w L) : w.frozen? ⟨L, 0, none⟩ = false ∧ w.frozen? ⟨L, 1, none⟩ = false ∧ w.frozen? ⟨L, 2, none⟩ = false ∧ w.frozen? ⟨L, 3, none⟩ = false := ⟨h 0, h 1, h 2, h 3⟩
/-- The cells of a row, read as a matrix. -/
theorem OwnI.of_flat {q : Nat} [NeZero q] {B g m n : Nat} {w : World} {A : Mt q} {F : Nat → Value} (h : w.rowIs g 2 (m * n) F) (hB : B ≤ g) (hl : m * n ≤ 1048576) (hF : ∀ i j, i < m → j < n → F (i * n + j) = .int .i64 (fv (A i j))) :
    OwnI B w (.slice (some ⟨g, 0, none⟩) (m * n) (m * n)) (flat m n A) := by
  have e := flat_len m n A
  have := OwnI.of_row (zs := flat m n A) (B := B) (g := g) (w := w) (by
    rw [e]
    refine h.congr fun t ht => ?_
    have hn : 0 < n := by
      rcases Nat.eq_zero_or_pos n with e | e
      · subst e; simp at ht
      · exact e
    have hm : t / n < m := Nat.div_lt_of_lt_mul (by rw [Nat.mul_comm]; exact ht)
    have := hF (t / n) (t % n) hm (Nat.mod_lt _ hn)
    rw [Nat.mul_comm, Nat.div_add_mod] at this
    rw [this, getD_flat (by rw [flat_len]; exact ht), flat_at]) hB (by rw [e]; exact hl)
  rwa [e] at this

/-! ### The model's -/
/-- The unit matrix with its first k ones. -/
def UF (n k t : Nat) : Value := .int .i64 (if t / n = t % n ∧ t / n < k then 1 else 0)
theorem UF_zero (n t : Nat) : UF n 0 t = .int .i64 0 := by simp [UF]
theorem UF_next {n k t : Nat} (hk : k < n) : (if t = k * n + k then Value.int .i64 1 else UF n k t) = UF n (k + 1) t := by
  unfold UF
  by_cases e : t = k * n + k
  · subst e; rw [if_pos rfl, idx_div hk, idx_mod hk, if_pos ⟨rfl, by omega⟩]
  · rw [if_neg e]
    by_cases h : t / n = t % n
    · by_cases h2 : t / n < k
      · rw [if_pos ⟨h, h2⟩, if_pos ⟨h, by omega⟩]
      · rw [if_neg (fun x => h2 x.2), if_neg (fun x => ?_)]
        apply e
        have h3 : t / n = k := by omega
        have := Nat.div_add_mod t n
        rw [← h, h3, Nat.mul_comm] at this
        omega
    · rw [if_neg (fun x => h x.1), if_neg (fun x => h x.1)]
theorem sq_idx {n k : Nat} (hk : k < n) (h : n ≤ 32) : (k : Int) * n + k = ((k * n + k : Nat) : Int) ∧ k * n + k < n * n ∧ n * n ≤ 1024 ∧ (k : Int) * n ≤ 1024 ∧ 0 ≤ (k : Int) * n := by
  have h1 : k * n + k < n * n := idx_lt hk hk
  have h2 : n * n ≤ 32 * 32 := Nat.mul_le_mul h h
  have h3 : ((k * n : Nat) : Int) = (k : Int) * n := Int.natCast_mul _ _
  omega
end Go.Proofs.YtdihcmohpbgmmaaDoor

namespace Go.Proofs.YtdihcmohpbgmmaaDoor
open Go.RowKit
open Lin
set_option linter.unusedVariables false

theorem info_s : (Tryd.prog.info? 40).map (fun i => (i.zero, i.size, i.bytes)) = some (some (.slice none 0 0), 1, 24) := by kernel_rfl
/-- The i-th row of n cells of a slice from g, off on. -/
def rowV (g off n cap i : Nat) : Value := .slice (some ⟨g, off + i * n, none⟩) n (cap - i * n)
/-- How the rows come back: a row of slices, each given by F. -/
def RetRows (m : Nat) (F : Nat → Value) (w : World) (e : Ending) (w' : World) : Prop :=
  ∃ H, e = .returned (.slice (some ⟨H, 0, none⟩) m m) ∧ w.heap.size ≤ H ∧ w'.rowIs H 40 m F ∧ Below w.heap.size w w'
theorem row_next {k : Nat} {F : Nat → Value} {z v : Value} (hv : v = F k) (t : Nat) : (if t = k then v else if t < k then F t else z) = if t < k + 1 then F t else z := by
  by_cases e : t = k
  · subst e; rw [if_pos rfl, if_pos (by omega), hv]
  · rw [if_neg e]
    by_cases h : t < k
    · rw [if_pos h, if_pos (by omega)]
    · rw [if_neg h, if_neg (by omega)]
theorem mul_i {a b : Nat} (h : a ≤ 40) (g : b ≤ 40) : ((a : Int) * b = ((a * b : Nat) : Int)) ∧ a * b ≤ 1600 := ⟨(Int.natCast_mul a b).symm, Nat.mul_le_mul h g⟩
end Go.Proofs.YtdihcmohpbgmmaaDoor

namespace Go.Proofs.YtdihcmohpbgmmaaDoor
open Go.RowKit
set_option linter.unusedVariables false

/-- The numbers of a slice, and that its capacity is right. -/
def IntsC (w : World) (v : Value) (zs : List Int) : Prop :=
  IntsAt w v zs ∧ ∃ a cap, v = .slice a zs.length cap ∧ zs.length ≤ cap ∧ cap ≤ maxLen ∧ ((a = none ∧ cap = 0) ∨ ∃ g off, a = some ⟨g, off, none⟩)
theorem IntsC.on {w w' : World} {v : Value} {zs : List Int} (h : IntsC w v zs) (hb : Below w.heap.size w w') : IntsC w' v zs := ⟨h.1.on hb, h.2⟩
theorem IntsC.drew {w : World} {v : Value} {zs : List Int} (h : IntsC w v zs) : IntsC w.drew v zs := ⟨IntsAt.drew h.1, h.2⟩
theorem OwnI.atC {B : Nat} {w : World} {v : Value} {zs : List Int} (h : OwnI B w v zs) (hl : zs.length ≤ 1048576) : IntsC w v zs := by
  refine ⟨h.at hl, ?_⟩
  obtain ⟨hx, ⟨rfl, hn⟩ | ⟨g, cap, cur, rfl, _, _, h1, h2, _⟩⟩ := h
  · exact ⟨none, 0, by rw [hn], by omega, Nat.zero_le _, .inl ⟨rfl, rfl⟩⟩
  · exact ⟨_, cap, rfl, h1, h2, .inr ⟨g, 0, rfl⟩⟩
theorem OwnX.atC {B E : Nat} {w : World} {v : Value} {zs : List Int} (h : OwnX B E w v zs) (hl : zs.length ≤ 1048576) : IntsC w v zs := h.1.atC hl
end Go.Proofs.YtdihcmohpbgmmaaDoor

namespace Go.Proofs.YtdihcmohpbgmmaaDoor
open Go.RowKit
open Lin
set_option linter.unusedVariables false

/-- The address of the i-th row. -/
def adr (a : Option Addr) (k : Nat) : Option Addr := match a with
  | none => none
  | some p => some ⟨p.block, p.off + k, none⟩
/-- The i-th row of n cells of a slice from a on. -/
def rowW (a : Option Addr) (n cap i : Nat) : Value := .slice (adr a (i * n)) n (cap - i * n)
/-- Rows in memory: m slices of n cells, which read as F. -/
def RowsIn (w : World) (H B m n : Nat) (ar : Nat → Option Addr) (cc : Nat → Nat) (F : Nat → Nat → Int) : Prop :=
  (∀ i, i < m → w.cell? ⟨H, i, none⟩ = some (.slice (ar i) n (cc i))) ∧ ∀ i k, i < m → k < n → ∃ b o, ar i = some ⟨b, o, none⟩ ∧ b < B ∧ w.cell? ⟨b, o + k, none⟩ = some (.int .i64 (F i k))
theorem RowsIn.on {w w' : World} {H B m n : Nat} {ar : Nat → Option Addr} {cc : Nat → Nat} {F : Nat → Nat → Int} (h : RowsIn w H B m n ar cc F) (hH : H < w.heap.size) (hB : B ≤ w.heap.size) (hb : Below w.heap.size w w') : RowsIn w' H B m n ar cc F := by
  refine ⟨fun i hi => (hb.cell (p := ⟨H, i, none⟩) hH).trans (h.1 i hi), fun i k hi hk => ?_⟩
  obtain ⟨b, o, e, hbB, hc⟩ := h.2 i k hi hk
  exact ⟨b, o, e, hbB, (hb.cell (p := ⟨b, o + k, none⟩) (show b < _ by omega)).trans hc⟩
theorem rows_in {q m n : Nat} [NeZero q] {A : Mt q} {a : Option Addr} {cap H B : Nat} {w w' : World} (hv : IntsAt w (.slice a (m * n) cap) (flat m n A)) (hB : w.heap.size ≤ B) (hr : w'.rowIs H 40 m (rowW a n cap)) (hb : Below w.heap.size w w') :
    RowsIn w' H B m n (fun i => adr a (i * n)) (fun i => cap - i * n) (fun i k => fv (A i k)) := by
  refine ⟨fun i hi => hr.cell hi, fun i k hi hk => ?_⟩
  obtain ⟨a', cap', e, hl, h | ⟨b, off, rfl, hbk, hc⟩⟩ := hv
  · exfalso
    have := flat_len m n A
    rw [h] at this
    have := idx_lt hi hk
    simp at *; omega
  · obtain ⟨rfl, _⟩ : a = some ⟨b, off, none⟩ ∧ True := by simp at e; exact ⟨e.1, trivial⟩
    refine ⟨b, off + i * n, rfl, by omega, ?_⟩
    have ht : i * n + k < (flat m n A).length := by rw [flat_len]; exact idx_lt hi hk
    have := hc (i * n + k) ht
    rw [flat_ij m n A hi hk, ← Nat.add_assoc] at this
    exact (hb.cell (p := ⟨b, off + i * n + k, none⟩) hbk).trans this
end Go.Proofs.YtdihcmohpbgmmaaDoor

namespace Go.Proofs.YtdihcmohpbgmmaaDoor
open Go.RowKit
open Lin
set_option linter.unusedVariables false
set_option linter.unusedSectionVars false

/-- A matrix of zeros and the code 0, where its cells lie. -/
def RetZC (p r c : Int) (n : Nat) (w : World) (e : Ending) (w' : World) : Prop :=
  ∃ g, e = .returned (.tuple #[.agg #[.int .i64 p, .int .i64 r, .int .i64 c, .slice (some ⟨g, 0, none⟩) n n], .int .i64 0]) ∧ w.heap.size ≤ g ∧ w'.rowIs g 2 n (fun _ => .int .i64 0) ∧ Below w.heap.size w w'

theorem OwnI.nil_form {B : Nat} {w : World} {v : Value} (h : OwnI B w v []) : ∃ a cap, v = .slice a 0 cap ∧ ((a = none ∧ cap = 0) ∨ ∃ g off, a = some ⟨g, off, none⟩) ∧ cap ≤ maxLen := by
  obtain ⟨_, ⟨rfl, _⟩ | ⟨g, cap, cur, rfl, _, _, _, hm, _⟩⟩ := h
  · exact ⟨none, 0, rfl, .inl ⟨rfl, rfl⟩, by unfold maxLen; omega⟩
  · exact ⟨_, cap, rfl, .inr ⟨g, 0, rfl⟩, hm⟩

/-! ### UnitMatrix -/
def URes (p n P R C : Int) (zs : List Int) (k : Int) : Prop :=
  (¬ IsPr p ∧ P = 0 ∧ R = 0 ∧ C = 0 ∧ zs = [] ∧ k = 1) ∨ (IsPr p ∧ inB n 0 32 = false ∧ P = 0 ∧ R = 0 ∧ C = 0 ∧ zs = [] ∧ k = 2) ∨
  (IsPr p ∧ inB n 0 32 = true ∧ P = p ∧ R = n ∧ C = n ∧ k = 0 ∧ ∃ (q : Nat) (_ : NeZero q) (m : Nat), p = q ∧ n = m ∧ zs = flat m m (unitM : Mt q))
theorem uRes_has (p n : Int) : ∃ P R C zs k, URes p n P R C zs k := by
  by_cases hp : IsPr p
  · cases hr : inB n 0 32 with
    | false => exact ⟨_, _, _, _, _, .inr (.inl ⟨hp, hr, rfl, rfl, rfl, rfl, rfl⟩)⟩
    | true =>
      have h2 := hp.1
      have hn := (inB_and hr).1
      obtain ⟨q, rfl⟩ := Int.eq_ofNat_of_zero_le (show 0 ≤ p by omega)
      obtain ⟨m, rfl⟩ := Int.eq_ofNat_of_zero_le hn
      exact ⟨_, _, _, _, _, .inr (.inr ⟨hp, hr, rfl, rfl, rfl, rfl, q, ⟨by omega⟩, m, rfl, rfl, rfl⟩)⟩
  · exact ⟨_, _, _, _, _, .inl ⟨hp, rfl, rfl, rfl, rfl, rfl⟩⟩
theorem URes.len {p n P R C k : Int} {zs : List Int} (h : URes p n P R C zs k) : zs.length ≤ 1048576 := by
  rcases h with ⟨_, _, _, _, rfl, _⟩ | ⟨_, _, _, _, _, rfl, _⟩ | ⟨_, hr, _, _, _, _, q, _, m, _, rfl, rfl⟩
  · simp
  · simp
  · have := (inB_and hr).2
    have : m * m ≤ 32 * 32 := Nat.mul_le_mul (by omega) (by omega)
    rw [flat_len]; omega
end Go.Proofs.YtdihcmohpbgmmaaDoor

namespace Go.Proofs.YtdihcmohpbgmmaaDoor
open Go.RowKit
set_option linter.unusedVariables false

/-- Two matrices are equal, as a Bool. -/
def sameB (p r c : Int) (xs : List Int) (q s d : Int) (ys : List Int) : Bool := decide (p = q ∧ r = s ∧ c = d ∧ xs = ys)
theorem sameB_no {p r c q s d : Int} {xs ys : List Int} (h : ¬ (p = q ∧ r = s ∧ c = d ∧ xs = ys)) : sameB p r c xs q s d ys = false := by simp only [sameB, decide_eq_false_iff_not]; exact h
theorem sameB_yes (p r c : Int) (xs : List Int) : sameB p r c xs p r c xs = true := by simp [sameB]
/-- Two lists agree in their first k places. -/
def Agree (xs ys : List Int) (k : Nat) : Prop := ∀ j, j < k → xs.getD j 0 = ys.getD j 0
theorem Agree.all {xs ys : List Int} (h : Agree xs ys xs.length) (hl : xs.length = ys.length) : xs = ys := by
  refine List.ext_getElem hl fun j h1 h2 => ?_
  have := h j h1
  simpa [List.getD, List.getElem?_eq_getElem h1, List.getElem?_eq_getElem h2] using this
theorem getD_in {xs : List Int} {j : Nat} (h : j < xs.length) : xs.getD j 0 = xs[j] := by simp [List.getD, List.getElem?_eq_getElem h]

/-! ### The program's -/
theorem equalI_ne (a1 a2 : Option Addr) (n1 n2 c1 c2 : Nat) (w : World) (e : ((n1 : Int) != (n2 : Int)) = true) :
    Calls Tryd.prog 84 #[.slice a1 n1 c1, .slice a2 n2 c2] w fun e w' => e = .returned (.bool false) ∧ ∃ n, w' = w.drewN n := by
  go_enter Tryd.func84, Tryd.ntmps84
  go_wp2
  go_ret
  exact ⟨rfl, 0, rfl⟩
theorem equalI_nil (a1 a2 : Option Addr) (c1 c2 : Nat) (w : World) :
    Calls Tryd.prog 84 #[.slice a1 0 c1, .slice a2 0 c2] w fun e w' => e = .returned (.bool true) ∧ ∃ n, w' = w.drewN n := by
  go_enter Tryd.func84, Tryd.ntmps84
  go_wp2
  refine wp_loop_rounds 1 ?_
  rw [rounds_succ]
  go_wp2
  go_ret
  exact ⟨rfl, 0, rfl⟩
set_option maxHeartbeats 800000 in
theorem equalI_some {b1 o1 c1 b2 o2 c2 : Nat} {xs ys : List Int} {ok : Bool} {w : World} (hl : xs.length = ys.length) (hx : xs.length ≤ 1048576)
    (k1 : ∀ j (h : j < xs.length), w.cell? ⟨b1, o1 + j, none⟩ = some (.int .i64 xs[j])) (k2 : ∀ j (h : j < ys.length), w.cell? ⟨b2, o2 + j, none⟩ = some (.int .i64 ys[j])) (hok : (xs = ys ∧ ok = true) ∨ (xs ≠ ys ∧ ok = false)) :
    Calls Tryd.prog 84 #[.slice (some ⟨b1, o1, none⟩) xs.length c1, .slice (some ⟨b2, o2, none⟩) ys.length c2] w fun e w' => e = .returned (.bool ok) ∧ ∃ n, w' = w.drewN n := by
  have K1 := Lib.hid k1
  have K2 := Lib.hid k2
  have HK := Lib.hid hok
  have e3 : ((xs.length : Int) != (ys.length : Int)) = false := by simp; omega
  have HL := Lib.hid hl
  have hx2 : ys.length ≤ 1048576 := by omega
  clear k1 k2 hok hl
  go_enter Tryd.func84, Tryd.ntmps84
  go_wp2
  go_loopw [13] (fun i wr => ∃ k n : Nat, k ≤ xs.length ∧ i = .int .i64 (k : Int) ∧ Hid (Agree xs ys k) ∧ wr = w.drewN n) (fun i _ => xs.length - (intOf i).toNat)
  case atStart => exact ⟨0, 0, Nat.zero_le _, rfl, fun j hj => absurd hj (Nat.not_lt_zero j), rfl⟩
  case round =>
    obtain ⟨k, n, hk, rfl, HA, rfl⟩ := hrel
    by_cases hlt : k < xs.length
    · have hlt2 : k < ys.length := by have := HL.out; omega
      have g1 := K1.out k hlt
      have g2 := K2.out k hlt2
      obtain ⟨x, hx⟩ : ∃ x, xs[k] = x := ⟨_, rfl⟩
      obtain ⟨y, hy⟩ : ∃ y, ys[k] = y := ⟨_, rfl⟩
      have HX : Hid (xs.getD k 0 = x) := by show _ = _; rw [getD_in hlt]; exact hx
      have HY : Hid (ys.getD k 0 = y) := by show _ = _; rw [getD_in hlt2]; exact hy
      rw [hx] at g1
      rw [hy] at g2
      clear hx hy
      have i0 : 0 ≤ (k : Int) := by omega
      have i1 : (k : Int) < xs.length := by omega
      have i2 : (k : Int) < ys.length := by omega
      by_cases hxy : x = y
      · have HA2 : Hid (Agree xs ys (k + 1)) := by
          intro j hj
          by_cases e : j = k
          · rw [e, HX.out, HY.out, hxy]
          · exact HA.out j (by omega)
        have eb : (x != y) = false := by simpa using hxy
        clear hxy
        go_wp2
        go_quiet (fail)
        go_wp2
        go_roundw
        case rel => exact ⟨k + 1, _, by omega, by go_num, HA2, rfl⟩
        case measure => simp [intOf]; omega
      · have ek : ok = false := by
          rcases HK.out with ⟨h, _⟩ | ⟨_, h⟩
          · exfalso; apply hxy; rw [← HX.out, ← HY.out, h]
          · exact h
        subst ek
        have eb : (x != y) = true := by simpa using hxy
        clear hxy
        go_wp2
        go_quiet (fail)
        go_wp2
        go_ret
        exact ⟨rfl, _, World.drewN_drewN _ _ _⟩
    · have ek : ok = true := by
        rcases HK.out with ⟨_, h⟩ | ⟨h, _⟩
        · exact h
        · exact absurd (Agree.all (fun j hj => HA.out j (by omega)) HL.out) h
      subst ek
      go_wp2
      go_ret
      exact ⟨rfl, _, rfl⟩
/-- Two lists are equal, as a Bool. -/
def eqB (xs ys : List Int) : Bool := decide (xs = ys)
theorem equalI_any {u v : Value} {xs ys : List Int} {w : World} (hu : IntsAt w u xs) (hv : IntsAt w v ys) :
    Calls Tryd.prog 84 #[u, v] w fun e w' => e = .returned (.bool (eqB xs ys)) ∧ ∃ n, w' = w.drewN n := by
  obtain ⟨a1, c1, rfl, hl1, ha1⟩ := hu
  obtain ⟨a2, c2, rfl, hl2, ha2⟩ := hv
  by_cases e3 : xs.length = ys.length
  · by_cases e4 : xs = []
    · subst e4
      obtain rfl : ys = [] := List.eq_nil_of_length_eq_zero (by simpa using e3.symm)
      exact equalI_nil _ _ _ _ _
    · rcases ha1 with h | ⟨b1, o1, rfl, _, k1⟩
      · exact absurd h e4
      rcases ha2 with h | ⟨b2, o2, rfl, _, k2⟩
      · subst h; exact absurd (List.eq_nil_of_length_eq_zero (by simpa using e3)) e4
      refine equalI_some e3 hl1 k1 k2 ?_
      by_cases e5 : xs = ys
      · exact .inl ⟨e5, by simp [eqB, e5]⟩
      · exact .inr ⟨e5, by simp [eqB, e5]⟩
  · have : eqB xs ys = false := by simp only [eqB, decide_eq_false_iff_not]; exact fun h => e3 (by rw [h])
    rw [this]
    exact equalI_ne _ _ _ _ _ _ _ (by simp; omega)
end Go.Proofs.YtdihcmohpbgmmaaDoor

namespace Go.Proofs.YtdihcmohpbgmmaaDoor
open Go.RowKit
set_option linter.unusedVariables false

/-- The code for two matrices and sides that fit. -/
def FitK (p r c : Int) (xs : List Int) (q s d : Int) (ys : List Int) (fit : Bool) (k : Int) : Prop :=
  (¬ (MOk p r c xs ∧ MOk q s d ys) ∧ k = 1) ∨ (MOk p r c xs ∧ MOk q s d ys ∧ ¬ (p = q ∧ fit = true) ∧ k = 6) ∨ (MOk p r c xs ∧ MOk q s d ys ∧ p = q ∧ fit = true ∧ k = 0)
theorem fitK_has (p r c : Int) (xs : List Int) (q s d : Int) (ys : List Int) (fit : Bool) : ∃ k, FitK p r c xs q s d ys fit k := by
  by_cases h : MOk p r c xs ∧ MOk q s d ys
  · by_cases h2 : p = q ∧ fit = true
    · exact ⟨0, .inr (.inr ⟨h.1, h.2, h2.1, h2.2, rfl⟩)⟩
    · exact ⟨6, .inr (.inl ⟨h.1, h.2, h2, rfl⟩)⟩
  · exact ⟨1, .inl ⟨h, rfl⟩⟩
theorem FitK.good {p r c : Int} {xs : List Int} {q s d : Int} {ys : List Int} {fit : Bool} (h : FitK p r c xs q s d ys fit 0) : MOk p r c xs ∧ MOk q s d ys ∧ p = q ∧ fit = true := by
  rcases h with ⟨_, h⟩ | ⟨_, _, _, h⟩ | ⟨a, b, c, d, _⟩
  · exact absurd h (by decide)
  · exact absurd h (by decide)
  · exact ⟨a, b, c, d⟩
theorem FitK.bad {p r c : Int} {xs : List Int} {q s d : Int} {ys : List Int} {fit : Bool} {k : Int} (h : FitK p r c xs q s d ys fit k) (hk : k ≠ 0) : (¬ (MOk p r c xs ∧ MOk q s d ys) ∧ k = 1) ∨ (MOk p r c xs ∧ MOk q s d ys ∧ ¬ (p = q ∧ fit = true) ∧ k = 6) := by
  rcases h with h | h | ⟨_, _, _, _, h⟩
  · exact .inl h
  · exact .inr h
  · exact absurd h hk

/-! ### The model's -/
/-- Both matrices are valid, as a Bool. -/
noncomputable def bothB (p r c : Int) (xs : List Int) (q s d : Int) (ys : List Int) : Bool := okB p r c xs && okB q s d ys
theorem bothB_yes {p r c : Int} {xs : List Int} {q s d : Int} {ys : List Int} (h1 : MOk p r c xs) (h2 : MOk q s d ys) : bothB p r c xs q s d ys = true := by simp [bothB, okB_yes h1, okB_yes h2]
theorem bothB_no {p r c : Int} {xs : List Int} {q s d : Int} {ys : List Int} (h : ¬ (MOk p r c xs ∧ MOk q s d ys)) : bothB p r c xs q s d ys = false := by
  unfold bothB
  by_cases h1 : MOk p r c xs
  · rw [okB_no (fun g => h ⟨h1, g⟩), Bool.and_false]
  · rw [okB_no h1, Bool.false_and]
end Go.Proofs.YtdihcmohpbgmmaaDoor

namespace Go.Proofs.YtdihcmohpbgmmaaDoor
open Go.RowKit
set_option linter.unusedVariables false

theorem prod_bd {a b p : Int} (hp : p ≤ 251) (a0 : 0 ≤ a) (a1 : a < p) (b0 : 0 ≤ b) (b1 : b < p) : 0 ≤ a * b ∧ a * b ≤ 62500 := by
  have h := Int.mul_le_mul (show a ≤ 250 by omega) (show b ≤ 250 by omega) b0 (by omega)
  exact ⟨Int.mul_nonneg a0 b0, by omega⟩
theorem rem_bd (X : Int) {p : Int} (hp : 2 ≤ p) : 0 ≤ X % p ∧ X % p < p := ⟨Int.emod_nonneg _ (by omega), Int.emod_lt_of_pos _ (by omega)⟩

/-! ### Rests -/
theorem tmod_bd (a p : Int) (h : 2 ≤ p) : -p < a.tmod p ∧ a.tmod p < p := ⟨Int.lt_tmod_of_pos a (by omega), Int.tmod_lt_of_pos a (by omega)⟩
theorem tmod_mod (a p : Int) (h : 2 ≤ p) : (a.tmod p) % p = a % p := by
  have e := Int.mul_tdiv_add_tmod a p
  conv => rhs; rw [← e, Int.add_comm, Int.add_mul_emod_self_left]

end Go.Proofs.YtdihcmohpbgmmaaDoor

namespace Go.Proofs.YtdihcmohpbgmmaaDoor
open Go.RowKit
open Lin
set_option linter.unusedVariables false
set_option linter.unusedSectionVars false

/-- The row behind it: from os on, n sums. -/
def AddF {q : Nat} [NeZero q] (F : Nat → Value) (os n : Nat) (X Y : Nat → Fin q) (c : Fin q) (t : Nat) : Value :=
  if os ≤ t ∧ t < os + n then .int .i64 (fv (X (t - os) + Y (t - os) * c)) else F t
theorem addF_zero {q : Nat} [NeZero q] (F : Nat → Value) (os : Nat) (X Y : Nat → Fin q) (c : Fin q) (t : Nat) : AddF F os 0 X Y c t = F t := by unfold AddF; rw [if_neg (by omega)]
theorem addF_next {q : Nat} [NeZero q] {F : Nat → Value} {os k : Nat} {X Y : Nat → Fin q} {c : Fin q} (t : Nat) : (if t = os + k then Value.int .i64 (fv (X k + Y k * c)) else AddF F os k X Y c t) = AddF F os (k + 1) X Y c t := by
  unfold AddF
  by_cases e : t = os + k
  · subst e; rw [if_pos rfl, if_pos (by omega), Nat.add_sub_cancel_left]
  · rw [if_neg e]
    by_cases h : os ≤ t ∧ t < os + k
    · rw [if_pos h, if_pos (by omega)]
    · rw [if_neg h, if_neg (by omega)]
/-- How it ends. -/
def RetAdd (gs N : Nat) (G : Nat → Value) (w : World) (e : Ending) (w' : World) : Prop := e = .returned (.tuple #[]) ∧ w'.rowIs gs 2 N G ∧ w.grownBy w' (some gs)
theorem fv_sum_bd {q : Nat} [NeZero q] (hq : q ≤ 251) (x y c : Fin q) : 0 ≤ fv y * fv c ∧ fv y * fv c ≤ 62500 ∧ 0 ≤ fv x ∧ fv x ≤ 250 := by
  have hx0 := fv_nn x; have hx := fv_lt x; have hy0 := fv_nn y; have hy := fv_lt y; have hc0 := fv_nn c; have hc := fv_lt c
  have h := Int.mul_le_mul (show fv y ≤ 250 by omega) (show fv c ≤ 250 by omega) hc0 (by omega)
  exact ⟨Int.mul_nonneg hy0 hc0, by omega, hx0, by omega⟩
end Go.Proofs.YtdihcmohpbgmmaaDoor

namespace Go.Proofs.YtdihcmohpbgmmaaDoor
open Go.RowKit
open Lin
set_option linter.unusedVariables false
set_option linter.unusedSectionVars false

theorem MOk.form2 {p r c s d : Int} {xs ys : List Int} (h : MOk p r c xs) (g : MOk p s d ys) : ∃ (q : Nat) (_ : NeZero q) (m n : Nat) (A : Mt q) (m' n' : Nat) (B : Mt q), MIs p r c xs q m n A ∧ MIs p s d ys q m' n' B := by
  obtain ⟨q, i1, m, n, A, hA⟩ := h.form
  obtain ⟨q', i2, m', n', B, hB⟩ := g.form
  obtain rfl : q = q' := by have := hA.p; have := hB.p; omega
  exact ⟨q, i1, m, n, A, m', n', B, hA, hB⟩
theorem MIs.q2 {p r c : Int} {zs : List Int} {q : Nat} [NeZero q] {m n : Nat} {A : Mt q} (h : MIs p r c zs q m n A) : 2 ≤ q ∧ q ≤ 251 := by have := h.pr.1; have := h.pr.2.1; omega
theorem side_mul {m n : Nat} (h : m ≤ 32) (g : n ≤ 32) : m * n ≤ 1024 := Nat.mul_le_mul h g
/-- The t-th cell. -/
def cellF {q : Nat} (n : Nat) (A : Mt q) (t : Nat) : Fin q := A (t / n) (t % n)
theorem flat_cells {q : Nat} [NeZero q] {m n : Nat} {A : Mt q} {b o : Nat} {w : World} (h : ∀ j (h : j < (flat m n A).length), w.cell? ⟨b, o + j, none⟩ = some (.int .i64 (flat m n A)[j])) (j : Nat) (hj : j < m * n) : w.cell? ⟨b, o + j, none⟩ = some (.int .i64 (fv (cellF n A j))) := by
  rw [h j (by rw [flat_len]; exact hj), flat_at]; rfl

theorem PtM.new2 (w : World) (p r c : Int) (v : Value) (t : TypeId) (o u : Obj) : PtM (((w.alloc (.cells #[.int .i64 p, .int .i64 r, .int .i64 c, v] t)).alloc o).alloc u) w.heap.size p r c v := (PtM.new1 w p r c v t o).on ((Below.refl _ _).alloc (Nat.le_refl _) u)
theorem up3 {w w' : World} {o u x : Obj} (h : Below (((w.alloc o).alloc u).alloc x).heap.size (((w.alloc o).alloc u).alloc x) w') : Below w.heap.size w w' := up1 (up2 h)

/-! ### AddMatrices -/
def AddMRes (p r c : Int) (xs : List Int) (q s d : Int) (ys : List Int) (P R C : Int) (zs : List Int) (k : Int) : Prop :=
  FitK p r c xs q s d ys (r == s && c == d) k ∧ ((k ≠ 0 ∧ P = 0 ∧ R = 0 ∧ C = 0 ∧ zs = []) ∨ (k = 0 ∧ P = p ∧ R = r ∧ C = c ∧ ∃ (u : Nat) (_ : NeZero u) (m n : Nat) (A B : Mt u), MIs p r c xs u m n A ∧ MIs p r c ys u m n B ∧ zs = flat m n (fun i j => A i j + B i j)))
theorem addMRes_has (p r c : Int) (xs : List Int) (q s d : Int) (ys : List Int) : ∃ P R C zs k, AddMRes p r c xs q s d ys P R C zs k := by
  obtain ⟨k, hk⟩ := fitK_has p r c xs q s d ys (r == s && c == d)
  by_cases h0 : k = 0
  · subst h0
    obtain ⟨h1, h2, e, hf⟩ := hk.good
    obtain ⟨e1, e2⟩ : r = s ∧ c = d := by simpa using hf
    subst e e1 e2
    obtain ⟨u, i, m, n, A, m', n', B, hA, hB⟩ := h1.form2 h2
    obtain rfl : m = m' := by have := hA.r; have := hB.r; omega
    obtain rfl : n = n' := by have := hA.c; have := hB.c; omega
    exact ⟨_, _, _, _, 0, hk, .inr ⟨rfl, rfl, rfl, rfl, u, i, m, n, A, B, hA, hB, rfl⟩⟩
  · exact ⟨_, _, _, _, k, hk, .inl ⟨h0, rfl, rfl, rfl, rfl⟩⟩
theorem AddMRes.len {p r c : Int} {xs : List Int} {q s d : Int} {ys : List Int} {P R C : Int} {zs : List Int} {k : Int} (h : AddMRes p r c xs q s d ys P R C zs k) : zs.length ≤ 1048576 := by
  obtain ⟨_, ⟨_, _, _, _, rfl⟩ | ⟨_, _, _, _, u, _, m, n, A, B, hA, _, rfl⟩⟩ := h
  · simp
  · have := side_mul hA.m32 hA.n32; rw [flat_len]; omega
end Go.Proofs.YtdihcmohpbgmmaaDoor

namespace Go.Proofs.YtdihcmohpbgmmaaDoor
open Go.RowKit
open Lin
set_option linter.unusedVariables false
set_option linter.unusedSectionVars false

/-- The sums of the first k cells. -/
def SumF {q : Nat} [NeZero q] (n : Nat) (A B : Mt q) (k t : Nat) : Value := if t < k then .int .i64 (fv (cellF n A t + cellF n B t)) else .int .i64 0
end Go.Proofs.YtdihcmohpbgmmaaDoor
