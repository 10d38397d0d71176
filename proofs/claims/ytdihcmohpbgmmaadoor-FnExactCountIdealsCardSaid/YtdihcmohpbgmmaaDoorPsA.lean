/-
  Contracts of the laws' own helpers for posets: a copy, equality, marks, the count; a poset behind a pointer.
-/
import Derived.Test.YtdihcmohpbgmmaaDoorSsB
import Derived.Test.YtdihcmohpbgmmaaDoorSsC
namespace Go.Proofs.YtdihcmohpbgmmaaDoor
open Go.RowKit
set_option linter.unusedVariables false

/-- A block that holds a poset. -/
def PtP (w : World) (L : Nat) (s : Int) (v : Value) : Prop := L < w.heap.size ∧ w.cell? ⟨L, 0, none⟩ = some (.int .i64 s) ∧ w.cell? ⟨L, 1, none⟩ = some v
theorem PtP.new (w : World) (s : Int) (v : Value) (t : TypeId) : PtP (w.alloc (.cells #[.int .i64 s, v] t)) w.heap.size s v := by
  refine ⟨by simp, ?_, ?_⟩ <;> rw [World.cell?_alloc_at _ _ _ _ rfl] <;> rfl
theorem PtP.on {w w' : World} {L : Nat} {s : Int} {v : Value} (h : PtP w L s v) (hb : Below w.heap.size w w') : PtP w' L s v := by
  obtain ⟨h0, h1, h2⟩ := h
  exact ⟨Nat.lt_of_lt_of_le h0 hb.size, (hb.cell (p := ⟨L, 0, none⟩) h0).trans h1, (hb.cell (p := ⟨L, 1, none⟩) h0).trans h2⟩
theorem PtP.ne {w : World} {L : Nat} {s : Int} {v : Value} (h : PtP w L s v) : w.heap.size ≠ L := by have := h.1; omega
theorem PtP.fr {w w' : World} {L B E : Nat} {s : Int} {v : Value} (h : PtP w L s v) (f : Fr B E w w') (hd : L < B ∨ E ≤ L) : PtP w' L s v := by
  obtain ⟨h0, h1, h2⟩ := h
  exact ⟨Nat.lt_of_lt_of_le h0 f.2.2.2.1, (f.cell h0 hd).trans h1, (f.cell h0 hd).trans h2⟩
theorem PtP.drew {w : World} {L : Nat} {s : Int} {v : Value} (h : PtP w L s v) : PtP w.drew L s v := h
theorem PtP.drewN {w : World} {L : Nat} {s : Int} {v : Value} (h : PtP w L s v) (k : Nat) : PtP (w.drewN k) L s v := h
theorem PtP.new1 (w : World) (s : Int) (v : Value) (t : TypeId) (o : Obj) : PtP ((w.alloc (.cells #[.int .i64 s, v] t)).alloc o) w.heap.size s v := (PtP.new w s v t).on ((Below.refl _ _).alloc (Nat.le_refl _) o)
theorem PtP.set2 {w : World} {L : Nat} {s' : Int} {v' : Value} (h : PtP w L s' v') (s : Int) (v : Value) : PtP ((w.setCell ⟨L, 0, none⟩ (.int .i64 s)).setCell ⟨L, 1, none⟩ v) L s v := by
  obtain ⟨h0, h1, h2⟩ := h
  have n01 : ∀ i j : Nat, i ≠ j → (⟨L, i, none⟩ : Addr) ≠ ⟨L, j, none⟩ := by intro i j hij e; exact hij (by injection e)
  refine ⟨by simpa using h0, ?_, ?_⟩
  · rw [World.cell?_setCell_other _ _ _ _ (n01 1 0 (by omega))]
    exact World.cell?_setCell_same' _ _ _ (by rw [h1]; rfl)
  · exact World.cell?_setCell_same' _ _ _ (by rw [World.cell?_setCell_other _ _ _ _ (n01 0 1 (by omega)), h2]; rfl)
/-- What a statement leaves that makes a poset variable. -/
def RegP (w0 wx : World) (L B E : Nat) (s : Int) (v : Value) (zz : List (List Int)) : Prop :=
  PtP wx L s v ∧ OwnRX B E wx v zz ∧ w0.heap.size ≤ B ∧ (L < B ∨ E ≤ L) ∧ w0.heap.size ≤ L ∧ Below w0.heap.size w0 wx
theorem RegP.new {w0 w : World} {B E : Nat} {s : Int} {v : Value} {zz : List (List Int)} {t : TypeId} (ho : OwnRX B E w v zz) (hB : w0.heap.size ≤ B) (hb : Below w0.heap.size w0 w) :
    RegP w0 (w.alloc (.cells #[.int .i64 s, v] t)) w.heap.size B E s v zz :=
  ⟨PtP.new _ _ _ _, ho.alloc _, hB, .inr (own_le ho), hb.size, hb.alloc hb.size _⟩
theorem RegP.set {w0 w : World} {L B E : Nat} {s' : Int} {v' : Value} {s : Int} {v : Value} {zz : List (List Int)} (h : PtP w L s' v') (ho : OwnRX B E w v zz) (hB : w0.heap.size ≤ B) (hd : L < B) (hL : w0.heap.size ≤ L) (hb : Below w0.heap.size w0 w) :
    RegP w0 ((w.setCell ⟨L, 0, none⟩ (.int .i64 s)).setCell ⟨L, 1, none⟩ v) L B E s v zz :=
  ⟨h.set2 s v, ((ho.setOut hd _).setOut hd _), hB, .inl hd, hL, Below.setC (Below.setC hb hL _) hL _⟩
/-- How a call ends that hands back a poset whose rows are its own. -/
def RetP (s : Int) (zz : List (List Int)) (w : World) (e : Ending) (w' : World) : Prop :=
  ∃ v, e = .returned (.agg #[.int .i64 s, v]) ∧ OwnRI w.heap.size w' v zz ∧ Below w.heap.size w w'
set_option maxRecDepth 100000 in
set_option maxHeartbeats 800000 in
theorem toP_any {v : Value} {zz : List (List Int)} {w : World} (s : Int) (hv : RowsAt w v zz) :
    Calls Tryd.prog 17 #[.agg #[.int .i64 s, v]] w fun e w' => RetP s zz w e w' := by
  have HV := Lib.hid hv
  obtain ⟨a, cap, rfl, hl, _⟩ := hv
  go_enter Tryd.func17, Tryd.ntmps17
  go_wp2_with fail
  refine (toR_any (HV.out.on ((((Below.refl _ _).alloc (Nat.le_refl _) _).alloc (by simp) _).alloc (by simp; omega) _))).mono ?_
  rintro e w1 ⟨v1, rfl, ho, hb⟩
  obtain ⟨hc, hf⟩ := bcell hb
  obtain ⟨a1, cap1, rfl⟩ := ho.slice
  have HO := Lib.hid ho
  have HB := Lib.hid hb
  have hz : w.heap.size + 3 ≤ w1.heap.size := by have := hb.size; simp at this; omega
  clear ho hb
  go_wp2_with fail
  refine bodyPost_ret (v := .agg #[.int .i64 s, .slice a1 zz.length cap1]) (by simp [results, Tryd.results17, go_sem, hc]) rfl ⟨_, rfl, ?_, ?_⟩
  · refine OwnRI.mono (B := w.heap.size + 1 + 1 + 1) ?_ (by omega)
    repeat (refine OwnRI.setOut ?_ (by omega) _)
    simpa using HO.out
  · repeat (refine Below.setC ?_ (by omega) _)
    exact (((Below.refl _ _).alloc (Nat.le_refl _) _).alloc (by simp) _).alloc (by simp; omega) _ |>.trans (HB.out.mono (by simp; omega))
set_option maxRecDepth 100000 in
theorem eqP_any {v1 v2 : Value} {zz : List (List Int)} {w : World} (s : Int) (h1 : RowsAt w v1 zz) (h2 : RowsAt w v2 zz) :
    Calls Tryd.prog 19 #[.agg #[.int .i64 s, v1], .agg #[.int .i64 s, v2]] w fun e w' => e = .returned (.bool true) ∧ Below w.heap.size w w' := by
  have H1 := Lib.hid h1
  have H2 := Lib.hid h2
  obtain ⟨a1, cap1, rfl, hl, _⟩ := h1
  obtain ⟨a2, cap2, rfl, _, _⟩ := h2
  have ep : (s != s) = false := by simp
  go_enter Tryd.func19, Tryd.ntmps19
  go_wp2_with fail
  refine (eqR_any (H1.out.on (((Below.refl _ _).alloc (Nat.le_refl _) _).alloc (by simp) _)) (H2.out.on (((Below.refl _ _).alloc (Nat.le_refl _) _).alloc (by simp) _))).mono ?_
  rintro e w1 ⟨rfl, hb⟩
  have HB := Lib.hid (up2 hb)
  clear hb
  go_wp2_with fail
  go_ret
  exact ⟨rfl, HB.out⟩
set_option maxRecDepth 100000 in
theorem szP_yes {v : Value} {zz : List (List Int)} {left : Int} {w : World} (s : Int) (hv : RowsRaw w v zz) (h : left ≤ 1048576) (h1 : (zz.length : Int) + (tot zz : Int) ≤ left) :
    Calls Tryd.prog 15 #[.agg #[.int .i64 s, v], .int .i64 left] w fun e w' => e = .returned (.int .i64 (left - (zz.length : Int) - (tot zz : Int))) ∧ Below w.heap.size w w' := by
  have H1 := Lib.hid hv
  obtain ⟨a, cap, rfl⟩ := hv.slice
  clear hv
  go_enter Tryd.func15, Tryd.ntmps15
  go_wp2_with fail
  refine (szR_yes (H1.out.on ((Below.refl _ _).alloc (Nat.le_refl _) _)) h h1).mono ?_
  rintro e w1 ⟨rfl, hb⟩
  have HB := Lib.hid (up1 hb)
  clear hb
  go_wp2_with fail
  go_ret
  exact ⟨rfl, HB.out⟩
set_option maxRecDepth 100000 in
theorem szP_no {v : Value} {zz : List (List Int)} {left : Int} {w : World} (s : Int) (hv : RowsRaw w v zz) (h : left ≤ 1048576) (h0 : 0 ≤ left) (h1 : left < (zz.length : Int) + (tot zz : Int)) :
    Calls Tryd.prog 15 #[.agg #[.int .i64 s, v], .int .i64 left] w fun e w' => e = .returned (.int .i64 (-1)) ∧ Below w.heap.size w w' := by
  have H1 := Lib.hid hv
  obtain ⟨a, cap, rfl⟩ := hv.slice
  clear hv
  go_enter Tryd.func15, Tryd.ntmps15
  go_wp2_with fail
  refine (szR_no (H1.out.on ((Below.refl _ _).alloc (Nat.le_refl _) _)) h h0 h1).mono ?_
  rintro e w1 ⟨rfl, hb⟩
  have HB := Lib.hid (up1 hb)
  clear hb
  go_wp2_with fail
  go_ret
  exact ⟨rfl, HB.out⟩
set_option maxRecDepth 100000 in
theorem markP_any {B E : Nat} {v : Value} {zz : List (List Int)} (s k : Int) {w : World} (h : OwnRX B E w v zz) (hf : FitR zz) (hk0 : 0 ≤ k) (hk1 : k ≤ 900000000) :
    Calls Tryd.prog 26 #[.agg #[.int .i64 s, v], .int .i64 k] w fun e w' => RetMR B E w v zz k e w' := by
  have H := Lib.hid h
  obtain ⟨a, cap, rfl⟩ := h.slice
  clear h
  go_enter Tryd.func26, Tryd.ntmps26
  go_wp2_with fail
  refine (markR_any k (H.out.alloc _) hf hk0 hk1).mono ?_
  rintro e w1 ⟨rfl, ho, hfr⟩
  have HO := Lib.hid ho
  have HF := Lib.hid hfr
  clear ho hfr
  go_wp2_with fail
  go_ret
  exact ⟨rfl, HO.out, ((Fr.refl B E w).alloc _ (Nat.le_refl _)).trans HF.out⟩
set_option maxRecDepth 100000 in
theorem heldP_any {v : Value} {zz : List (List Int)} (s k : Int) {w : World} (h : RowsAt w v (marksR k zz)) (hf : FitR zz) (hk0 : 0 ≤ k) (hk1 : k ≤ 900000000) :
    Calls Tryd.prog 27 #[.agg #[.int .i64 s, v], .int .i64 k] w fun e w' => e = .returned (.int .i64 (k + (tot zz : Int))) ∧ Below w.heap.size w w' := by
  have H := Lib.hid h
  obtain ⟨a, cap, rfl⟩ := h.slice
  have htt := hf.2
  clear h
  go_enter Tryd.func27, Tryd.ntmps27
  go_wp2_with fail
  refine (heldR_any (H.out.on ((Below.refl _ _).alloc (Nat.le_refl _) _)) hf hk0 hk1).mono ?_
  rintro e w1 ⟨rfl, hb⟩
  have HB := Lib.hid (up1 hb)
  clear hb
  go_wp2_with fail
  go_ret
  exact ⟨rfl, HB.out⟩
end Go.Proofs.YtdihcmohpbgmmaaDoor
