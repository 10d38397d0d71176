/-
  Contracts of the laws' own helpers for complexes: a copy, equality, marks, the count; a complex behind a pointer.
-/
import Derived.Test.YtibdcejglkhcfaaGreatDoorSsB
import Derived.Test.YtibdcejglkhcfaaGreatDoorSsC
namespace Go.Proofs.YtibdcejglkhcfaaGreatDoor
open Go.RowKit
set_option linter.unusedVariables false

/-- A block that holds a complex. -/
def PtC (w : World) (L : Nat) (v : Value) : Prop := L < w.heap.size ∧ w.cell? ⟨L, 0, none⟩ = some v
theorem PtC.new (w : World) (v : Value) (t : TypeId) : PtC (w.alloc (.cells #[v] t)) w.heap.size v := by
  refine ⟨by simp, ?_⟩
  rw [World.cell?_alloc_at _ _ _ _ rfl]; rfl
theorem PtC.on {w w' : World} {L : Nat} {v : Value} (h : PtC w L v) (hb : Below w.heap.size w w') : PtC w' L v := by
  obtain ⟨h0, h1⟩ := h
  exact ⟨Nat.lt_of_lt_of_le h0 hb.size, (hb.cell (p := ⟨L, 0, none⟩) h0).trans h1⟩
theorem PtC.ne {w : World} {L : Nat} {v : Value} (h : PtC w L v) : w.heap.size ≠ L := by have := h.1; omega
theorem PtC.fr {w w' : World} {L B E : Nat} {v : Value} (h : PtC w L v) (f : Fr B E w w') (hd : L < B ∨ E ≤ L) : PtC w' L v := by
  obtain ⟨h0, h1⟩ := h
  exact ⟨Nat.lt_of_lt_of_le h0 f.2.2.2.1, (f.cell h0 hd).trans h1⟩
theorem PtC.drew {w : World} {L : Nat} {v : Value} (h : PtC w L v) : PtC w.drew L v := h
theorem PtC.drewN {w : World} {L : Nat} {v : Value} (h : PtC w L v) (k : Nat) : PtC (w.drewN k) L v := h
theorem PtC.new1 (w : World) (v : Value) (t : TypeId) (o : Obj) : PtC ((w.alloc (.cells #[v] t)).alloc o) w.heap.size v := (PtC.new w v t).on ((Below.refl _ _).alloc (Nat.le_refl _) o)
theorem PtC.set {w : World} {L : Nat} {v' : Value} (h : PtC w L v') (v : Value) : PtC (w.setCell ⟨L, 0, none⟩ v) L v := by
  obtain ⟨h0, h1⟩ := h
  exact ⟨by simpa using h0, World.cell?_setCell_same' _ _ _ (by rw [h1]; rfl)⟩
/-- What a statement leaves that makes a complex variable. -/
def RegC (w0 wx : World) (L B E : Nat) (v : Value) (zz : List (List Int)) : Prop :=
  PtC wx L v ∧ OwnRX B E wx v zz ∧ w0.heap.size ≤ B ∧ (L < B ∨ E ≤ L) ∧ w0.heap.size ≤ L ∧ Below w0.heap.size w0 wx
theorem RegC.new {w0 w : World} {B E : Nat} {v : Value} {zz : List (List Int)} {t : TypeId} (ho : OwnRX B E w v zz) (hB : w0.heap.size ≤ B) (hb : Below w0.heap.size w0 w) :
    RegC w0 (w.alloc (.cells #[v] t)) w.heap.size B E v zz :=
  ⟨PtC.new _ _ _, ho.alloc _, hB, .inr (own_le ho), hb.size, hb.alloc hb.size _⟩
theorem RegC.set {w0 w : World} {L B E : Nat} {v' : Value} {v : Value} {zz : List (List Int)} (h : PtC w L v') (ho : OwnRX B E w v zz) (hB : w0.heap.size ≤ B) (hd : L < B) (hL : w0.heap.size ≤ L) (hb : Below w0.heap.size w0 w) :
    RegC w0 (w.setCell ⟨L, 0, none⟩ v) L B E v zz :=
  ⟨h.set v, ho.setOut hd _, hB, .inl hd, hL, Below.setC hb hL _⟩
/-- How a call ends that hands back a complex whose rows are its own. -/
def RetX (zz : List (List Int)) (w : World) (e : Ending) (w' : World) : Prop :=
  ∃ v, e = .returned (.agg #[v]) ∧ OwnRI w.heap.size w' v zz ∧ Below w.heap.size w w'
set_option maxRecDepth 100000 in
set_option maxHeartbeats 800000 in
theorem toC_any {v : Value} {zz : List (List Int)} {w : World} (hv : RowsAt w v zz) :
    Calls Tryz.prog 10 #[.agg #[v]] w fun e w' => RetX zz w e w' := by
  have HV := Lib.hid hv
  obtain ⟨a, cap, rfl, hl, _⟩ := hv
  go_enter Tryz.func10, Tryz.ntmps10
  go_wp2_with fail
  refine (toR_any (HV.out.on ((((Below.refl _ _).alloc (Nat.le_refl _) _).alloc (by simp) _).alloc (by simp; omega) _))).mono ?_
  rintro e w1 ⟨v1, rfl, ho, hb⟩
  obtain ⟨hc, hf⟩ := bcell hb
  obtain ⟨a1, cap1, rfl⟩ := ho.slice
  have HO := Lib.hid ho
  have HB := Lib.hid hb
  have hz : w.heap.size + 3 ≤ w1.heap.size := by have := hb.size; simp at this; omega
  clear ho hb
  go_wp2_with fail
  refine bodyPost_ret (v := .agg #[.slice a1 zz.length cap1]) (by simp [results, Tryz.results10, go_sem, hc]) rfl ⟨_, rfl, ?_, ?_⟩
  · refine OwnRI.mono (B := w.heap.size + 1 + 1 + 1) ?_ (by omega)
    repeat (refine OwnRI.setOut ?_ (by omega) _)
    simpa using HO.out
  · repeat (refine Below.setC ?_ (by omega) _)
    exact (((Below.refl _ _).alloc (Nat.le_refl _) _).alloc (by simp) _).alloc (by simp; omega) _ |>.trans (HB.out.mono (by simp; omega))
set_option maxRecDepth 100000 in
theorem eqC_any {v1 v2 : Value} {zz : List (List Int)} {w : World} (h1 : RowsAt w v1 zz) (h2 : RowsAt w v2 zz) :
    Calls Tryz.prog 13 #[.agg #[v1], .agg #[v2]] w fun e w' => e = .returned (.bool true) ∧ Below w.heap.size w w' := by
  have H1 := Lib.hid h1
  have H2 := Lib.hid h2
  obtain ⟨a1, cap1, rfl, hl, _⟩ := h1
  obtain ⟨a2, cap2, rfl, _, _⟩ := h2
  go_enter Tryz.func13, Tryz.ntmps13
  go_wp2_with fail
  refine (eqR_any (H1.out.on (((Below.refl _ _).alloc (Nat.le_refl _) _).alloc (by simp) _)) (H2.out.on (((Below.refl _ _).alloc (Nat.le_refl _) _).alloc (by simp) _))).mono ?_
  rintro e w1 ⟨rfl, hb⟩
  have HB := Lib.hid (up2 hb)
  clear hb
  go_wp2_with fail
  go_ret
  exact ⟨rfl, HB.out⟩
set_option maxRecDepth 100000 in
theorem szC_yes {v : Value} {zz : List (List Int)} {left : Int} {w : World} (hv : RowsRaw w v zz) (h : left ≤ 1048576) (h1 : (zz.length : Int) + (tot zz : Int) ≤ left) :
    Calls Tryz.prog 8 #[.agg #[v], .int .i64 left] w fun e w' => e = .returned (.int .i64 (left - (zz.length : Int) - (tot zz : Int))) ∧ Below w.heap.size w w' := by
  have H1 := Lib.hid hv
  obtain ⟨a, cap, rfl⟩ := hv.slice
  clear hv
  go_enter Tryz.func8, Tryz.ntmps8
  go_wp2_with fail
  refine (szR_yes (H1.out.on ((Below.refl _ _).alloc (Nat.le_refl _) _)) h h1).mono ?_
  rintro e w1 ⟨rfl, hb⟩
  have HB := Lib.hid (up1 hb)
  clear hb
  go_wp2_with fail
  go_ret
  exact ⟨rfl, HB.out⟩
set_option maxRecDepth 100000 in
theorem szC_no {v : Value} {zz : List (List Int)} {left : Int} {w : World} (hv : RowsRaw w v zz) (h : left ≤ 1048576) (h0 : 0 ≤ left) (h1 : left < (zz.length : Int) + (tot zz : Int)) :
    Calls Tryz.prog 8 #[.agg #[v], .int .i64 left] w fun e w' => e = .returned (.int .i64 (-1)) ∧ Below w.heap.size w w' := by
  have H1 := Lib.hid hv
  obtain ⟨a, cap, rfl⟩ := hv.slice
  clear hv
  go_enter Tryz.func8, Tryz.ntmps8
  go_wp2_with fail
  refine (szR_no (H1.out.on ((Below.refl _ _).alloc (Nat.le_refl _) _)) h h0 h1).mono ?_
  rintro e w1 ⟨rfl, hb⟩
  have HB := Lib.hid (up1 hb)
  clear hb
  go_wp2_with fail
  go_ret
  exact ⟨rfl, HB.out⟩
set_option maxRecDepth 100000 in
theorem markC_any {B E : Nat} {v : Value} {zz : List (List Int)} (k : Int) {w : World} (h : OwnRX B E w v zz) (hf : FitR zz) (hk0 : 0 ≤ k) (hk1 : k ≤ 900000000) :
    Calls Tryz.prog 15 #[.agg #[v], .int .i64 k] w fun e w' => RetMR B E w v zz k e w' := by
  have H := Lib.hid h
  obtain ⟨a, cap, rfl⟩ := h.slice
  clear h
  go_enter Tryz.func15, Tryz.ntmps15
  go_wp2_with fail
  refine (markR_any k (H.out.alloc _) hf hk0 hk1).mono ?_
  rintro e w1 ⟨rfl, ho, hfr⟩
  have HO := Lib.hid ho
  have HF := Lib.hid hfr
  clear ho hfr
  go_wp2_with fail
  go_ret
  exact ⟨rfl, HO.out, ((Fr.refl B E w).alloc _ (Nat.le_refl _)).trans HF.out⟩
set_option maxRecDepth 100000 in
theorem heldC_any {v : Value} {zz : List (List Int)} (k : Int) {w : World} (h : RowsAt w v (marksR k zz)) (hf : FitR zz) (hk0 : 0 ≤ k) (hk1 : k ≤ 900000000) :
    Calls Tryz.prog 17 #[.agg #[v], .int .i64 k] w fun e w' => e = .returned (.int .i64 (k + (tot zz : Int))) ∧ Below w.heap.size w w' := by
  have H := Lib.hid h
  obtain ⟨a, cap, rfl⟩ := h.slice
  have htt := hf.2
  clear h
  go_enter Tryz.func17, Tryz.ntmps17
  go_wp2_with fail
  refine (heldR_any (H.out.on ((Below.refl _ _).alloc (Nat.le_refl _) _)) hf hk0 hk1).mono ?_
  rintro e w1 ⟨rfl, hb⟩
  have HB := Lib.hid (up1 hb)
  clear hb
  go_wp2_with fail
  go_ret
  exact ⟨rfl, HB.out⟩
end Go.Proofs.YtibdcejglkhcfaaGreatDoor
