/-
  Contracts of the laws' own helpers for spaces: a copy, equality, marks, the count; a space behind a pointer.
-/
import Derived.Test.YtpimnngomodnhaaSsB
import Derived.Test.YtpimnngomodnhaaPC
import Derived.Test.YtpimnngomodnhaaPB
namespace Go.Proofs.Ytpimnngomodnhaa
open Go.RowKit
set_option linter.unusedVariables false

theorem OwnRI.setOut {B : Nat} {w : World} {v : Value} {zz : List (List Int)} (h : OwnRI B w v zz) {b o : Nat} (hb : b < B) (x : Value) : OwnRI B (w.setCell ⟨b, o, none⟩ x) v zz := by
  obtain ⟨L, h⟩ := h
  refine ⟨L, h.len, ?_, fun i u zs h1 h2 => (h.own i u zs h1 h2).setOut hb x, h.off, h.sep, Nat.le_refl _, fun g hg => ?_, fun i u g h1 h2 => ?_⟩
  · obtain ⟨hx, h | ⟨g, cap, cur, e, hB, hcur, r⟩⟩ := h.row
    · exact ⟨hx, .inl h⟩
    · refine ⟨hx, .inr ⟨g, cap, cur, e, hB, ?_, r⟩⟩
      rw [← hcur]
      exact Deep.blk_setCell_other _ _ _ _ (show g ≠ b by omega)
  · simpa using h.top g hg
  · simpa using h.tops i u g h1 h2
theorem OwnRI.alloc {B : Nat} {w : World} {v : Value} {zz : List (List Int)} (h : OwnRI B w v zz) (o : Obj) : OwnRI B (w.alloc o) v zz := OwnRI.on h ((Below.refl _ _).alloc (Nat.le_refl _) o)
theorem OwnRI.drew {B : Nat} {w : World} {v : Value} {zz : List (List Int)} (h : OwnRI B w v zz) : OwnRI B w.drew v zz := by
  obtain ⟨L, h⟩ := h
  exact ⟨L, h.len, h.row, h.own, h.off, h.sep, h.le, h.top, h.tops⟩
theorem RowsAt.al {w : World} {v : Value} {zz : List (List Int)} {o : Obj} (h : RowsAt w v zz) : RowsAt (w.alloc o) v zz := h.on ((Below.refl _ _).alloc (Nat.le_refl _) o)
/-- A block that holds a space. -/
def PtV (w : World) (L : Nat) (p n : Int) (v : Value) : Prop :=
  L < w.heap.size ∧ w.cell? ⟨L, 0, none⟩ = some (.int .i64 p) ∧ w.cell? ⟨L, 1, none⟩ = some (.int .i64 n) ∧ w.cell? ⟨L, 2, none⟩ = some v
theorem PtV.new (w : World) (p n : Int) (v : Value) (t : TypeId) : PtV (w.alloc (.cells #[.int .i64 p, .int .i64 n, v] t)) w.heap.size p n v := by
  refine ⟨by simp, ?_, ?_, ?_⟩ <;> rw [World.cell?_alloc_at _ _ _ _ rfl] <;> rfl
theorem PtV.on {w w' : World} {L : Nat} {p n : Int} {v : Value} (h : PtV w L p n v) (hb : Below w.heap.size w w') : PtV w' L p n v := by
  obtain ⟨h0, h1, h2, h3⟩ := h
  exact ⟨Nat.lt_of_lt_of_le h0 hb.size, (hb.cell (p := ⟨L, 0, none⟩) h0).trans h1, (hb.cell (p := ⟨L, 1, none⟩) h0).trans h2, (hb.cell (p := ⟨L, 2, none⟩) h0).trans h3⟩
theorem PtV.ne {w : World} {L : Nat} {p n : Int} {v : Value} (h : PtV w L p n v) : w.heap.size ≠ L := by have := h.1; omega
theorem PtV.fr {w w' : World} {L B E : Nat} {p n : Int} {v : Value} (h : PtV w L p n v) (f : Fr B E w w') (hd : L < B ∨ E ≤ L) : PtV w' L p n v := by
  obtain ⟨h0, h1, h2, h3⟩ := h
  exact ⟨Nat.lt_of_lt_of_le h0 f.2.2.2.1, (f.cell h0 hd).trans h1, (f.cell h0 hd).trans h2, (f.cell h0 hd).trans h3⟩
theorem PtV.gb {a w : World} {L g : Nat} {p n : Int} {v : Value} (h : PtV a L p n v) (hg : a.grownBy w (some g)) (hne : L ≠ g) : PtV w L p n v := by
  have hb : ∀ o, w.cell? ⟨L, o, none⟩ = a.cell? ⟨L, o, none⟩ := fun o => World.cell?_of_block (hg.block L h.1 (fun e => hne (by injection e)))
  obtain ⟨h0, h1, h2, h3⟩ := h
  exact ⟨Nat.lt_of_lt_of_le h0 hg.size, (hb _).trans h1, (hb _).trans h2, (hb _).trans h3⟩
theorem PtV.drew {w : World} {L : Nat} {p n : Int} {v : Value} (h : PtV w L p n v) : PtV w.drew L p n v := h
theorem PtV.drewN {w : World} {L : Nat} {p n : Int} {v : Value} (h : PtV w L p n v) (k : Nat) : PtV (w.drewN k) L p n v := h
theorem PtV.new1 (w : World) (p n : Int) (v : Value) (t : TypeId) (o : Obj) : PtV ((w.alloc (.cells #[.int .i64 p, .int .i64 n, v] t)).alloc o) w.heap.size p n v := (PtV.new w p n v t).on ((Below.refl _ _).alloc (Nat.le_refl _) o)
/-- What a space variable's block looks like when its three cells have been written. -/
theorem PtV.set3 {w : World} {L : Nat} {p' n' : Int} {v' : Value} (h : PtV w L p' n' v') (p n : Int) (v : Value) :
    PtV (((w.setCell ⟨L, 0, none⟩ (.int .i64 p)).setCell ⟨L, 1, none⟩ (.int .i64 n)).setCell ⟨L, 2, none⟩ v) L p n v := by
  obtain ⟨h0, h1, h2, h3⟩ := h
  have n01 : ∀ i j : Nat, i ≠ j → (⟨L, i, none⟩ : Addr) ≠ ⟨L, j, none⟩ := by intro i j hij e; exact hij (by injection e)
  refine ⟨by simpa using h0, ?_, ?_, ?_⟩
  · rw [World.cell?_setCell_other _ _ _ _ (n01 2 0 (by omega)), World.cell?_setCell_other _ _ _ _ (n01 1 0 (by omega))]
    exact World.cell?_setCell_same' _ _ _ (by rw [h1]; rfl)
  · rw [World.cell?_setCell_other _ _ _ _ (n01 2 1 (by omega))]
    exact World.cell?_setCell_same' _ _ _ (by rw [World.cell?_setCell_other _ _ _ _ (n01 0 1 (by omega)), h2]; rfl)
  · exact World.cell?_setCell_same' _ _ _ (by rw [World.cell?_setCell_other _ _ _ _ (n01 1 2 (by omega)), World.cell?_setCell_other _ _ _ _ (n01 0 2 (by omega)), h3]; rfl)
/-- What a statement leaves that makes a space variable. -/
def RegV (w0 wx : World) (L B E : Nat) (p n : Int) (v : Value) (zz : List (List Int)) : Prop :=
  PtV wx L p n v ∧ OwnRX B E wx v zz ∧ w0.heap.size ≤ B ∧ (L < B ∨ E ≤ L) ∧ w0.heap.size ≤ L ∧ Below w0.heap.size w0 wx
theorem OwnRX.setOut {B E : Nat} {w : World} {v : Value} {zz : List (List Int)} (h : OwnRX B E w v zz) {b o : Nat} (hb : b < B) (x : Value) : OwnRX B E (w.setCell ⟨b, o, none⟩ x) v zz := by
  obtain ⟨L, h⟩ := h
  refine ⟨L, h.len, ?_, fun i u zs h1 h2 => (h.own i u zs h1 h2).setOut hb x, h.off, h.sep, by simpa using h.le, h.top, h.tops⟩
  obtain ⟨hx, h | ⟨g, cap, cur, e, hB, hcur, r⟩⟩ := h.row
  · exact ⟨hx, .inl h⟩
  · refine ⟨hx, .inr ⟨g, cap, cur, e, hB, ?_, r⟩⟩
    rw [← hcur]
    exact Deep.blk_setCell_other _ _ _ _ (show g ≠ b by omega)
theorem RegV.new {w0 w : World} {B E : Nat} {p n : Int} {v : Value} {zz : List (List Int)} {t : TypeId} (ho : OwnRX B E w v zz) (hB : w0.heap.size ≤ B) (hb : Below w0.heap.size w0 w) :
    RegV w0 (w.alloc (.cells #[.int .i64 p, .int .i64 n, v] t)) w.heap.size B E p n v zz :=
  ⟨PtV.new _ _ _ _ _, ho.alloc _, hB, .inr (own_le ho), hb.size, hb.alloc hb.size _⟩
theorem RegV.set {w0 w : World} {L B E : Nat} {p' n' : Int} {v' : Value} {p n : Int} {v : Value} {zz : List (List Int)} (h : PtV w L p' n' v') (ho : OwnRX B E w v zz) (hB : w0.heap.size ≤ B) (hd : L < B) (hL : w0.heap.size ≤ L) (hb : Below w0.heap.size w0 w) :
    RegV w0 (((w.setCell ⟨L, 0, none⟩ (.int .i64 p)).setCell ⟨L, 1, none⟩ (.int .i64 n)).setCell ⟨L, 2, none⟩ v) L B E p n v zz :=
  ⟨h.set3 p n v, (((ho.setOut hd _).setOut hd _).setOut hd _), hB, .inl hd, hL, Below.setC (Below.setC (Below.setC hb hL _) hL _) hL _⟩
/-- How a call ends that hands back a space whose rows are its own. -/
def RetV (p n : Int) (zz : List (List Int)) (w : World) (e : Ending) (w' : World) : Prop :=
  ∃ v, e = .returned (.agg #[.int .i64 p, .int .i64 n, v]) ∧ OwnRI w.heap.size w' v zz ∧ Below w.heap.size w w'
set_option maxRecDepth 100000 in
set_option maxHeartbeats 800000 in
theorem toV_any {v : Value} {zz : List (List Int)} {w : World} (p n : Int) (hv : RowsAt w v zz) :
    Calls Try.prog 27 #[.agg #[.int .i64 p, .int .i64 n, v]] w fun e w' => RetV p n zz w e w' := by
  have HV := Lib.hid hv
  obtain ⟨a, cap, rfl, hl, _⟩ := hv
  go_enter Try.func27, Try.ntmps27
  go_wp2_with fail
  refine (toR_any (HV.out.on ((((Below.refl _ _).alloc (Nat.le_refl _) _).alloc (by simp) _).alloc (by simp; omega) _))).mono ?_
  rintro e w1 ⟨v1, rfl, ho, hb⟩
  obtain ⟨hc, hf⟩ := bcell hb
  obtain ⟨a1, cap1, rfl⟩ := ho.slice
  have HO := Lib.hid ho
  have HB := Lib.hid hb
  have hz : w.heap.size + 3 ≤ w1.heap.size := by have := hb.size; simp at this; omega
  clear ho hb
  go_wp2_with fail
  refine bodyPost_ret (v := .agg #[.int .i64 p, .int .i64 n, .slice a1 zz.length cap1]) (by simp [results, Try.results27, go_sem, hc]) rfl ⟨_, rfl, ?_, ?_⟩
  · refine OwnRI.mono (B := w.heap.size + 1 + 1 + 1) ?_ (by omega)
    repeat (refine OwnRI.setOut ?_ (by omega) _)
    simpa using HO.out
  · repeat (refine Below.setC ?_ (by omega) _)
    exact (((Below.refl _ _).alloc (Nat.le_refl _) _).alloc (by simp) _).alloc (by simp; omega) _ |>.trans (HB.out.mono (by simp; omega))
set_option maxRecDepth 100000 in
theorem eqV_any {v1 v2 : Value} {zz : List (List Int)} {w : World} (p n : Int) (h1 : RowsAt w v1 zz) (h2 : RowsAt w v2 zz) :
    Calls Try.prog 29 #[.agg #[.int .i64 p, .int .i64 n, v1], .agg #[.int .i64 p, .int .i64 n, v2]] w fun e w' => e = .returned (.bool true) ∧ Below w.heap.size w w' := by
  have H1 := Lib.hid h1
  have H2 := Lib.hid h2
  obtain ⟨a1, cap1, rfl, hl, _⟩ := h1
  obtain ⟨a2, cap2, rfl, _, _⟩ := h2
  have ep : (p != p) = false := by simp
  have en : (n != n) = false := by simp
  go_enter Try.func29, Try.ntmps29
  go_wp2_with fail
  refine (eqR_any (H1.out.on (((Below.refl _ _).alloc (Nat.le_refl _) _).alloc (by simp) _)) (H2.out.on (((Below.refl _ _).alloc (Nat.le_refl _) _).alloc (by simp) _))).mono ?_
  rintro e w1 ⟨rfl, hb⟩
  have HB := Lib.hid (up2 hb)
  clear hb
  go_wp2_with fail
  go_ret
  exact ⟨rfl, HB.out⟩
set_option maxRecDepth 100000 in
theorem szV_yes {v : Value} {zz : List (List Int)} {left : Int} {w : World} (p n : Int) (hv : RowsRaw w v zz) (h : left ≤ 1048576) (h1 : (zz.length : Int) + (tot zz : Int) ≤ left) :
    Calls Try.prog 26 #[.agg #[.int .i64 p, .int .i64 n, v], .int .i64 left] w fun e w' => e = .returned (.int .i64 (left - (zz.length : Int) - (tot zz : Int))) ∧ Below w.heap.size w w' := by
  have H1 := Lib.hid hv
  obtain ⟨a, cap, rfl⟩ := hv.slice
  clear hv
  go_enter Try.func26, Try.ntmps26
  go_wp2_with fail
  refine (szR_yes (H1.out.on ((Below.refl _ _).alloc (Nat.le_refl _) _)) h h1).mono ?_
  rintro e w1 ⟨rfl, hb⟩
  have HB := Lib.hid (up1 hb)
  clear hb
  go_wp2_with fail
  go_ret
  exact ⟨rfl, HB.out⟩
set_option maxRecDepth 100000 in
theorem szV_no {v : Value} {zz : List (List Int)} {left : Int} {w : World} (p n : Int) (hv : RowsRaw w v zz) (h : left ≤ 1048576) (h0 : 0 ≤ left) (h1 : left < (zz.length : Int) + (tot zz : Int)) :
    Calls Try.prog 26 #[.agg #[.int .i64 p, .int .i64 n, v], .int .i64 left] w fun e w' => e = .returned (.int .i64 (-1)) ∧ Below w.heap.size w w' := by
  have H1 := Lib.hid hv
  obtain ⟨a, cap, rfl⟩ := hv.slice
  clear hv
  go_enter Try.func26, Try.ntmps26
  go_wp2_with fail
  refine (szR_no (H1.out.on ((Below.refl _ _).alloc (Nat.le_refl _) _)) h h0 h1).mono ?_
  rintro e w1 ⟨rfl, hb⟩
  have HB := Lib.hid (up1 hb)
  clear hb
  go_wp2_with fail
  go_ret
  exact ⟨rfl, HB.out⟩
set_option maxRecDepth 100000 in
theorem markV_any {B E : Nat} {v : Value} {zz : List (List Int)} (p n k : Int) {w : World} (h : OwnRX B E w v zz) (hf : FitR zz) (hk0 : 0 ≤ k) (hk1 : k ≤ 900000000) :
    Calls Try.prog 32 #[.agg #[.int .i64 p, .int .i64 n, v], .int .i64 k] w fun e w' => RetMR B E w v zz k e w' := by
  have H := Lib.hid h
  obtain ⟨a, cap, rfl⟩ := h.slice
  clear h
  go_enter Try.func32, Try.ntmps32
  go_wp2_with fail
  refine (markR_any k (H.out.alloc _) hf hk0 hk1).mono ?_
  rintro e w1 ⟨rfl, ho, hfr⟩
  have HO := Lib.hid ho
  have HF := Lib.hid hfr
  clear ho hfr
  go_wp2_with fail
  go_ret
  exact ⟨rfl, HO.out, ((Fr.refl B E w).alloc _ (Nat.le_refl _)).trans HF.out⟩
end Go.Proofs.Ytpimnngomodnhaa
