/-
  Contracts of the laws' own helpers for matrices: a copy, the count of cells, equality, marks.
-/
import Derived.Test.YtabanmaaagmeaaaOwnX
import Derived.Test.YtabanmaaagmeaaaMod
import Derived.Test.YtabanmaaagmeaaaRow
import Derived.Deep.OwnRows
import Derived.Below
import Derived.Outline
namespace Go.Proofs.Ytabanmaaagmeaaa
open Go.RowKit
set_option linter.unusedVariables false

theorem bcell {W w1 : World} (hb : Below W.heap.size W w1) : (∀ b o, b < W.heap.size → w1.cell? ⟨b, o, none⟩ = W.cell? ⟨b, o, none⟩) ∧ (∀ b o, b < W.heap.size → w1.frozen? ⟨b, o, none⟩ = W.frozen? ⟨b, o, none⟩) :=
  ⟨fun b o h => hb.cell (p := ⟨b, o, none⟩) h, fun b o h => hb.frozen (p := ⟨b, o, none⟩) h⟩
theorem OwnI.slice {B : Nat} {w : World} {v : Value} {zs : List Int} (h : OwnI B w v zs) : ∃ a cap, v = .slice a zs.length cap := by
  rcases h.form with ⟨rfl, rfl⟩ | ⟨g, cap, rfl, _⟩
  · exact ⟨none, 0, rfl⟩
  · exact ⟨_, cap, rfl⟩
theorem OwnI.mono {B C : Nat} {w : World} {v : Value} {zs : List Int} (h : OwnI B w v zs) (hC : C ≤ B) : OwnI C w v zs := by
  obtain ⟨hx, h | ⟨g, cap, cur, e, hB, r⟩⟩ := h
  · exact ⟨hx, .inl h⟩
  · exact ⟨hx, .inr ⟨g, cap, cur, e, Nat.le_trans hC hB, r⟩⟩
/-- A store into a block below those of the row. -/
theorem OwnI.setOut {B : Nat} {w : World} {v : Value} {zs : List Int} (h : OwnI B w v zs) {b o : Nat} (hb : b < B) (x : Value) : OwnI B (w.setCell ⟨b, o, none⟩ x) v zs := by
  obtain ⟨hx, h | ⟨g, cap, cur, e, hB, hcur, r⟩⟩ := h
  · exact ⟨hx, .inl h⟩
  · refine ⟨hx, .inr ⟨g, cap, cur, e, hB, ?_, r⟩⟩
    rw [← hcur]
    exact Deep.blk_setCell_other _ _ _ _ (show g ≠ b by omega)
theorem Below.setC {B : Nat} {a w : World} (h : Below B a w) {b o : Nat} (hb : B ≤ b) (x : Value) : Below B a (w.setCell ⟨b, o, none⟩ x) := h.setCell (p := ⟨b, o, none⟩) hb x
/-- How a call ends that hands back a matrix whose cells are its own. -/
def RetMx (p r c : Int) (zs : List Int) (w : World) (e : Ending) (w' : World) : Prop :=
  ∃ v, e = .returned (.agg #[.int .i64 p, .int .i64 r, .int .i64 c, v]) ∧ OwnI w.heap.size w' v zs ∧ Below w.heap.size w w'
set_option maxRecDepth 100000 in
set_option maxHeartbeats 800000 in
theorem toM_any {v : Value} {zs : List Int} {w : World} (p r c : Int) (hv : IntsAt w v zs) :
    Calls Try.prog 37 #[.agg #[.int .i64 p, .int .i64 r, .int .i64 c, v]] w fun e w' => RetMx p r c zs w e w' := by
  have HV := Lib.hid hv
  obtain ⟨a, cap, rfl, hl, _⟩ := hv
  go_enter Try.func37, Try.ntmps37
  go_wp2_with fail
  refine (toI_any (HV.out.on ((((Below.refl _ _).alloc (Nat.le_refl _) _).alloc (by simp) _).alloc (by simp; omega) _))).mono ?_
  rintro e w1 ⟨v1, rfl, ho, hb⟩
  obtain ⟨hc, hf⟩ := bcell hb
  obtain ⟨a1, cap1, rfl⟩ := ho.slice
  have HO := Lib.hid ho
  have HB := Lib.hid hb
  have hz : w.heap.size + 3 ≤ w1.heap.size := by have := hb.size; simp at this; omega
  clear ho hb
  go_wp2_with fail
  refine bodyPost_ret (v := .agg #[.int .i64 p, .int .i64 r, .int .i64 c, .slice a1 zs.length cap1]) (by simp [results, Try.results37, go_sem, hc]) rfl ⟨_, rfl, ?_, ?_⟩
  · refine OwnI.mono (B := w.heap.size + 1 + 1 + 1) ?_ (by omega)
    repeat (refine OwnI.setOut ?_ (by omega) _)
    simpa using HO.out
  · repeat (refine Below.setC ?_ (by omega) _)
    exact (((Below.refl _ _).alloc (Nat.le_refl _) _).alloc (by simp) _).alloc (by simp; omega) _ |>.trans (HB.out.mono (by simp; omega))

/-! ### The count of cells -/
theorem szI_yes {n : Nat} {left : Int} (a : Option Addr) (cap : Nat) (w : World) (h : left ≤ 1048576) (h1 : (n : Int) ≤ left) :
    Calls Try.prog 80 #[.slice a n cap, .int .i64 left] w fun e w' => e = .returned (.int .i64 (left - n)) ∧ w = w' := by
  go_enter Try.func80, Try.ntmps80
  go_wp2
  go_ret
  exact ⟨rfl, rfl⟩
theorem szI_no {n : Nat} {left : Int} (a : Option Addr) (cap : Nat) (w : World) (h0 : 0 ≤ left) (h : left ≤ 1048576) (hn : n ≤ 9223372036854775807) (h1 : left < (n : Int)) :
    Calls Try.prog 80 #[.slice a n cap, .int .i64 left] w fun e w' => e = .returned (.int .i64 (-1)) ∧ w = w' := by
  go_enter Try.func80, Try.ntmps80
  go_wp2
  go_ret
  exact ⟨rfl, rfl⟩
set_option maxRecDepth 100000 in
theorem szM_yes {n : Nat} {left : Int} (p r c : Int) (a : Option Addr) (cap : Nat) (w : World) (h : left ≤ 1048576) (h1 : (n : Int) ≤ left) :
    Calls Try.prog 35 #[.agg #[.int .i64 p, .int .i64 r, .int .i64 c, .slice a n cap], .int .i64 left] w fun e w' => e = .returned (.int .i64 (left - n)) ∧ Below w.heap.size w w' := by
  go_enter Try.func35, Try.ntmps35
  go_wp2_with fail
  refine (szI_yes a cap _ h h1).mono ?_
  rintro e w1 ⟨rfl, rfl⟩
  go_wp2_with fail
  go_ret
  exact ⟨rfl, (Below.refl _ _).alloc (Nat.le_refl _) _⟩
set_option maxRecDepth 100000 in
theorem szM_no {n : Nat} {left : Int} (p r c : Int) (a : Option Addr) (cap : Nat) (w : World) (h0 : 0 ≤ left) (h : left ≤ 1048576) (hn : n ≤ 9223372036854775807) (h1 : left < (n : Int)) :
    Calls Try.prog 35 #[.agg #[.int .i64 p, .int .i64 r, .int .i64 c, .slice a n cap], .int .i64 left] w fun e w' => e = .returned (.int .i64 (-1)) ∧ Below w.heap.size w w' := by
  go_enter Try.func35, Try.ntmps35
  go_wp2_with fail
  refine (szI_no a cap _ h0 h hn h1).mono ?_
  rintro e w1 ⟨rfl, rfl⟩
  go_wp2_with fail
  go_ret
  exact ⟨rfl, (Below.refl _ _).alloc (Nat.le_refl _) _⟩

/-! ### Equality -/
set_option maxRecDepth 100000 in
theorem eqM_any {v1 v2 : Value} {zs : List Int} {w : World} (p r c : Int) (h1 : IntsAt w v1 zs) (h2 : IntsAt w v2 zs) :
    Calls Try.prog 39 #[.agg #[.int .i64 p, .int .i64 r, .int .i64 c, v1], .agg #[.int .i64 p, .int .i64 r, .int .i64 c, v2]] w fun e w' => e = .returned (.bool true) ∧ Below w.heap.size w w' := by
  have H1 := Lib.hid h1
  have H2 := Lib.hid h2
  obtain ⟨a1, cap1, rfl, hl, _⟩ := h1
  obtain ⟨a2, cap2, rfl, _, _⟩ := h2
  have ep : (p != p) = false := by simp
  have er : (r != r) = false := by simp
  have ec : (c != c) = false := by simp
  go_enter Try.func39, Try.ntmps39
  go_wp2_with fail
  refine (eqI_any (H1.out.on (((Below.refl _ _).alloc (Nat.le_refl _) _).alloc (by simp) _)) (H2.out.on (((Below.refl _ _).alloc (Nat.le_refl _) _).alloc (by simp) _))).mono ?_
  rintro e w1 ⟨rfl, n, rfl⟩
  go_wp2_with fail
  go_ret
  exact ⟨rfl, below_drewX (((Below.refl _ _).alloc (Nat.le_refl _) _).alloc (by simp) _) n⟩

/-! ### Marks -/
theorem Fr.alloc {B E : Nat} {w w' : World} (h : Fr B E w w') (o : Obj) (hE : w.heap.size ≤ w'.heap.size) : Fr B E w (w'.alloc o) :=
  ⟨h.1, h.2.1, h.2.2.1, by simp; omega, fun k hk hd => (Deep.blk_alloc_lt _ _ _ (by omega)).trans (h.2.2.2.2 k hk hd)⟩
theorem Fr.refl (B E : Nat) (w : World) : Fr B E w w := ⟨rfl, rfl, rfl, Nat.le_refl _, fun _ _ _ => rfl⟩
theorem Fr.trans {B E : Nat} {a b c : World} (h : Fr B E a b) (g : Fr B E b c) : Fr B E a c :=
  ⟨g.1.trans h.1, g.2.1.trans h.2.1, g.2.2.1.trans h.2.2.1, Nat.le_trans h.2.2.2.1 g.2.2.2.1, fun k hk hd => (g.2.2.2.2 k (Nat.lt_of_lt_of_le hk h.2.2.2.1) hd).trans (h.2.2.2.2 k hk hd)⟩
theorem Fr.cell {B E : Nat} {w w' : World} (h : Fr B E w w') {b o : Nat} (hb : b < w.heap.size) (hd : b < B ∨ E ≤ b) : w'.cell? ⟨b, o, none⟩ = w.cell? ⟨b, o, none⟩ := World.cell?_of_block (w := w) (h.2.2.2.2 b hb hd)
theorem OwnX.alloc {B E : Nat} {w : World} {v : Value} {zs : List Int} (h : OwnX B E w v zs) (o : Obj) : OwnX B E (w.alloc o) v zs := h.on ((Below.refl _ _).alloc (Nat.le_refl _) o)
set_option maxRecDepth 100000 in
theorem markM_any {B E : Nat} {v : Value} {zs : List Int} (p r c k : Int) {w : World} (h : OwnX B E w v zs) (hl : zs.length ≤ 1048576) (hk0 : 0 ≤ k) (hk1 : k ≤ 1000000000) :
    Calls Try.prog 43 #[.agg #[.int .i64 p, .int .i64 r, .int .i64 c, v], .int .i64 k] w fun e w' => RetMX B E w v zs k e w' := by
  have H := Lib.hid h
  obtain ⟨a, cap, rfl⟩ := h.1.slice
  clear h
  go_enter Try.func43, Try.ntmps43
  go_wp2_with fail
  refine (markX_any k (H.out.alloc _) hl hk0 hk1).mono ?_
  rintro e w1 ⟨rfl, ho, hf⟩
  have HO := Lib.hid ho
  have HF := Lib.hid hf
  clear ho hf
  go_wp2_with fail
  go_ret
  exact ⟨rfl, HO.out, ((Fr.refl B E w).alloc _ (Nat.le_refl _)).trans HF.out⟩
set_option maxRecDepth 100000 in
theorem heldM_any {v : Value} {n : Nat} (p r c k : Int) {w : World} (h : IntsAt w v (marks k n)) (hk0 : 0 ≤ k) (hk1 : k ≤ 1048576) :
    Calls Try.prog 44 #[.agg #[.int .i64 p, .int .i64 r, .int .i64 c, v], .int .i64 k] w fun e w' => e = .returned (.int .i64 (k + (n : Int))) ∧ Below w.heap.size w w' := by
  have H := Lib.hid h
  obtain ⟨a, cap, rfl, hl, _⟩ := h
  rw [marks_len] at hl
  have hl' : (n : Int) ≤ 1048576 := by omega
  go_enter Try.func44, Try.ntmps44
  go_wp2_with fail
  refine (heldI_any (H.out.on ((Below.refl _ _).alloc (Nat.le_refl _) _)) hk0 hk1).mono ?_
  rintro e w1 ⟨rfl, rfl⟩
  go_wp2_with fail
  go_ret
  exact ⟨rfl, (Below.refl _ _).alloc (Nat.le_refl _) _⟩

/-! ### A matrix behind a pointer -/
/-- A block that holds a matrix. -/
def PtM (w : World) (L : Nat) (p r c : Int) (v : Value) : Prop :=
  L < w.heap.size ∧ w.cell? ⟨L, 0, none⟩ = some (.int .i64 p) ∧ w.cell? ⟨L, 1, none⟩ = some (.int .i64 r) ∧ w.cell? ⟨L, 2, none⟩ = some (.int .i64 c) ∧ w.cell? ⟨L, 3, none⟩ = some v
theorem PtM.new (w : World) (p r c : Int) (v : Value) (t : TypeId) : PtM (w.alloc (.cells #[.int .i64 p, .int .i64 r, .int .i64 c, v] t)) w.heap.size p r c v := by
  refine ⟨by simp, ?_, ?_, ?_, ?_⟩ <;> rw [World.cell?_alloc_at _ _ _ _ rfl] <;> rfl
theorem PtM.on {w w' : World} {L : Nat} {p r c : Int} {v : Value} (h : PtM w L p r c v) (hb : Below w.heap.size w w') : PtM w' L p r c v := by
  obtain ⟨h0, h1, h2, h3, h4⟩ := h
  exact ⟨Nat.lt_of_lt_of_le h0 hb.size, (hb.cell (p := ⟨L, 0, none⟩) h0).trans h1, (hb.cell (p := ⟨L, 1, none⟩) h0).trans h2, (hb.cell (p := ⟨L, 2, none⟩) h0).trans h3, (hb.cell (p := ⟨L, 3, none⟩) h0).trans h4⟩
theorem PtM.ne {w : World} {L : Nat} {p r c : Int} {v : Value} (h : PtM w L p r c v) : w.heap.size ≠ L := by have := h.1; omega
theorem PtM.fr {w w' : World} {L B E : Nat} {p r c : Int} {v : Value} (h : PtM w L p r c v) (f : Fr B E w w') (hd : L < B ∨ E ≤ L) : PtM w' L p r c v := by
  obtain ⟨h0, h1, h2, h3, h4⟩ := h
  exact ⟨Nat.lt_of_lt_of_le h0 f.2.2.2.1, (f.cell h0 hd).trans h1, (f.cell h0 hd).trans h2, (f.cell h0 hd).trans h3, (f.cell h0 hd).trans h4⟩
theorem PtM.drewN {w : World} {L : Nat} {p r c : Int} {v : Value} (h : PtM w L p r c v) (n : Nat) : PtM (w.drewN n) L p r c v := h
/-! ### Words for a law's walk -/
/-- Equality of lists, the world told by Below. -/
theorem eqL_any {v1 v2 : Value} {zs : List Int} {w : World} (h1 : IntsAt w v1 zs) (h2 : IntsAt w v2 zs) :
    Calls Try.prog 55 #[v1, v2] w fun e w' => e = .returned (.bool true) ∧ Below w.heap.size w w' :=
  (eqI_any h1 h2).mono fun e w' ⟨he, n, hn⟩ => ⟨he, by rw [hn]; exact below_drewX (Below.refl _ _) n⟩
theorem heldL_any {v : Value} {n : Nat} {k : Int} {w : World} (h : IntsAt w v (marks k n)) (hk0 : 0 ≤ k) (hk1 : k ≤ 1048576) :
    Calls Try.prog 57 #[v, .int .i64 k] w fun e w' => e = .returned (.int .i64 (k + (n : Int))) ∧ Below w.heap.size w w' :=
  (heldI_any h hk0 hk1).mono fun e w' ⟨he, hn⟩ => ⟨he, by rw [← hn]; exact Below.refl _ _⟩
theorem up1 {w w' : World} {o : Obj} (h : Below (w.alloc o).heap.size (w.alloc o) w') : Below w.heap.size w w' := ((Below.refl _ _).alloc (Nat.le_refl _) o).trans (h.mono (by simp))
theorem up2 {w w' : World} {o u : Obj} (h : Below ((w.alloc o).alloc u).heap.size ((w.alloc o).alloc u) w') : Below w.heap.size w w' := up1 (up1 h)
theorem IntsAt.drew {w : World} {v : Value} {zs : List Int} (h : IntsAt w v zs) : IntsAt w.drew v zs := h
theorem undrew {w w' : World} (h : Below w.drew.heap.size w.drew w') : Below w.heap.size w w' := ⟨h.os, h.tape, h.output, h.size, h.block⟩
theorem al1 {w0 w : World} (h : Below w0.heap.size w0 w) (o : Obj) : Below w0.heap.size w0 (w.alloc o) := h.alloc h.size o
theorem PtM.new1 (w : World) (p r c : Int) (v : Value) (t : TypeId) (o : Obj) : PtM ((w.alloc (.cells #[.int .i64 p, .int .i64 r, .int .i64 c, v] t)).alloc o) w.heap.size p r c v := (PtM.new w p r c v t).on ((Below.refl _ _).alloc (Nat.le_refl _) o)
theorem OwnX.of {B C : Nat} {w : World} {v : Value} {zs : List Int} (h : OwnI B w v zs) (hC : C ≤ B) : OwnX C w.heap.size w v zs := OwnX.new (h.mono hC)
end Go.Proofs.Ytabanmaaagmeaaa
