/-
  The program's order: orderBy.
-/
import Derived.Test.YtdihcmohpbgmmaaDoorPsF
import Derived.Test.YtdihcmohpbgmmaaDoorCxU
import Derived.Deep.RegionHeld3
import Derived.Deep.RegionLaw
import Derived.Deep.MidRow
import Derived.StillTactics
namespace Go.Proofs.YtdihcmohpbgmmaaDoor
open Go.RowKit
set_option linter.unusedVariables false
set_option linter.unusedSimpArgs false

theorem Rch.gt {es : List (Nat × Nat)} {n : Nat} (hes : ∀ e ∈ es, e.1 < n ∧ e.2 < n) {a b : Nat} (h : Rch es a b) (hb : b < n) : a < n := by
  induction h with
  | refl => exact hb
  | step _ he ih => exact ih (hes _ he).1
/-- What the program's order holds. -/
structure OrdIs (es : List (Nat × Nat)) (N : Nat) (lo up : Nat → Nat) : Prop where
  lo : ∀ j, j < N → MaskIs (fun i => Rch es i j) (lo j)
  up : ∀ j, j < N → MaskIs (fun i => Rch es j i) (up j)
theorem OrdIs.ltL {es : List (Nat × Nat)} {N : Nat} {lo up : Nat → Nat} (h : OrdIs es N lo up) (hes : ∀ e ∈ es, e.1 < N ∧ e.2 < N) (hN : N ≤ 12) {j : Nat} (hj : j < N) : lo j < 4096 :=
  Nat.lt_of_lt_of_le ((h.lo j hj).lt fun i hi => hi.gt hes hj) (Nat.pow_le_pow_right (n := 2) (by omega) hN)
theorem OrdIs.ltU {es : List (Nat × Nat)} {N : Nat} {lo up : Nat → Nat} (h : OrdIs es N lo up) (hes : ∀ e ∈ es, e.1 < N ∧ e.2 < N) (hN : N ≤ 12) {j : Nat} (hj : j < N) : up j < 4096 :=
  Nat.lt_of_lt_of_le ((h.up j hj).lt fun i hi => hi.lt hes hj) (Nat.pow_le_pow_right (n := 2) (by omega) hN)
def RetO (es : List (Nat × Nat)) (N : Nat) (w : World) (e : Ending) (w' : World) : Prop := ∃ lo up, e = .returned (ordV N lo up) ∧ OrdIs es N lo up ∧ Below w.heap.size w w'
/-- The variable of an order and that of the result. -/
structure OrW (w wr : World) (N : Nat) (lo up : Nat → Nat) : Prop where
  res : PtO wr w.heap.size 0 (fun _ => 0) (fun _ => 0)
  fres : Fz wr w.heap.size
  ord : PtO wr (w.heap.size + 1) N lo up
  ford : Fz wr (w.heap.size + 1)
  below : Below w.heap.size w wr
theorem OrW.on {w wr w' : World} {N : Nat} {lo up : Nat → Nat} (h : OrW w wr N lo up) (hb : Below wr.heap.size wr w') : OrW w w' N lo up :=
  ⟨h.res.on hb, h.fres.on h.res.1 hb, h.ord.on hb, h.ford.on h.ord.1 hb, h.below.trans (hb.mono h.below.size)⟩
theorem OrW.congr {w wr : World} {N : Nat} {lo up lo' up' : Nat → Nat} (h : OrW w wr N lo up) (e : ∀ j, j < 12 → lo j = lo' j) (e' : ∀ j, j < 12 → up j = up' j) : OrW w wr N lo' up' :=
  ⟨h.res, h.fres, ⟨h.ord.1, h.ord.2.1, fun j hj => by rw [← e j hj]; exact h.ord.2.2.1 j hj, fun j hj => by rw [← e' j hj]; exact h.ord.2.2.2 j hj⟩, h.ford, h.below⟩
theorem PtO.far {w : World} {L B o N : Nat} {lo up : Nat → Nat} (h : PtO w L N lo up) (hne : B ≠ L) (x : Value) : PtO (w.setCell ⟨B, o, none⟩ x) L N lo up := by
  have ne : ∀ i : Nat, (⟨B, o, none⟩ : Addr) ≠ ⟨L, i, none⟩ := fun i e => hne (by injection e)
  refine ⟨by simpa using h.1, ?_, fun j hj => ?_, fun j hj => ?_⟩
  · rw [World.cell?_setCell_other _ _ _ _ (ne _)]; exact h.2.1
  · rw [World.cell?_setCell_other _ _ _ _ (ne _)]; exact h.2.2.1 j hj
  · rw [World.cell?_setCell_other _ _ _ _ (ne _)]; exact h.2.2.2 j hj
theorem PtO.setLo {w : World} {L N : Nat} {lo up : Nat → Nat} (h : PtO w L N lo up) {a : Nat} (ha : a < 12) (x : Nat) : PtO (w.setCell ⟨L, 1 + a, none⟩ (.int .u16 (x : Int))) L N (fun j => if j = a then x else lo j) up := by
  have ne : ∀ i : Nat, i ≠ 1 + a → (⟨L, 1 + a, none⟩ : Addr) ≠ ⟨L, i, none⟩ := fun i hi e => hi (by injection e with _ e; exact e.symm)
  refine ⟨by simpa using h.1, ?_, fun j hj => ?_, fun j hj => ?_⟩
  · rw [World.cell?_setCell_other _ _ _ _ (ne _ (by omega))]; exact h.2.1
  · dsimp only
    by_cases e : j = a
    · subst e
      rw [if_pos rfl]
      exact World.cell?_setCell_same' _ _ _ (by rw [h.2.2.1 j hj]; rfl)
    · rw [if_neg e, World.cell?_setCell_other _ _ _ _ (ne _ (by omega))]; exact h.2.2.1 j hj
  · rw [World.cell?_setCell_other _ _ _ _ (ne _ (by omega))]; exact h.2.2.2 j hj
theorem PtO.setUp {w : World} {L N : Nat} {lo up : Nat → Nat} (h : PtO w L N lo up) {a : Nat} (ha : a < 12) (x : Nat) : PtO (w.setCell ⟨L, 13 + a, none⟩ (.int .u16 (x : Int))) L N lo (fun j => if j = a then x else up j) := by
  have ne : ∀ i : Nat, i ≠ 13 + a → (⟨L, 13 + a, none⟩ : Addr) ≠ ⟨L, i, none⟩ := fun i hi e => hi (by injection e with _ e; exact e.symm)
  refine ⟨by simpa using h.1, ?_, fun j hj => ?_, fun j hj => ?_⟩
  · rw [World.cell?_setCell_other _ _ _ _ (ne _ (by omega))]; exact h.2.1
  · rw [World.cell?_setCell_other _ _ _ _ (ne _ (by omega))]; exact h.2.2.1 j hj
  · dsimp only
    by_cases e : j = a
    · subst e
      rw [if_pos rfl]
      exact World.cell?_setCell_same' _ _ _ (by rw [h.2.2.2 j hj]; rfl)
    · rw [if_neg e, World.cell?_setCell_other _ _ _ _ (ne _ (by omega))]; exact h.2.2.2 j hj
theorem Fz.setP {w : World} {L B o : Nat} {x : Value} (h : Fz w L) : Fz (w.setCell ⟨B, o, none⟩ x) L := fun k => (World.frozen?_setCell _ _ _ _).trans (h k)
theorem OrW.setLo {w wr : World} {N : Nat} {lo up : Nat → Nat} (h : OrW w wr N lo up) {a : Nat} (ha : a < 12) (x : Nat) : OrW w (wr.setCell ⟨w.heap.size + 1, 1 + a, none⟩ (.int .u16 (x : Int))) N (fun j => if j = a then x else lo j) up :=
  ⟨h.res.far (by omega) _, h.fres.setP, h.ord.setLo ha x, h.ford.setP, h.below.setCell (p := ⟨w.heap.size + 1, 1 + a, none⟩) (by simp) _⟩
theorem OrW.setUp {w wr : World} {N : Nat} {lo up : Nat → Nat} (h : OrW w wr N lo up) {a : Nat} (ha : a < 12) (x : Nat) : OrW w (wr.setCell ⟨w.heap.size + 1, 13 + a, none⟩ (.int .u16 (x : Int))) N lo (fun j => if j = a then x else up j) :=
  ⟨h.res.far (by omega) _, h.fres.setP, h.ord.setUp ha x, h.ford.setP, h.below.setCell (p := ⟨w.heap.size + 1, 13 + a, none⟩) (by simp) _⟩
theorem OrW.start (w : World) (N : Nat) (t t' : TypeId) : OrW w ((w.alloc (.cells (ordC 0 (fun _ => 0) (fun _ => 0)).toArray t)).alloc (.cells (ordC N (fun _ => 0) (fun _ => 0)).toArray t')) N (fun _ => 0) (fun _ => 0) := by
  have hb := (Below.refl w.heap.size w).alloc (Nat.le_refl _) (.cells (ordC 0 (fun _ => 0) (fun _ => 0)).toArray t)
  have h2 := PtO.new (w.alloc (.cells (ordC 0 (fun _ => 0) (fun _ => 0)).toArray t)) N (fun _ => 0) (fun _ => 0) t'
  have f2 := Fz.new (w.alloc (.cells (ordC 0 (fun _ => 0) (fun _ => 0)).toArray t)) (ordC N (fun _ => 0) (fun _ => 0)).toArray t'
  rw [World.size_alloc] at h2 f2
  exact ⟨(PtO.new w 0 _ _ t).on ((Below.refl _ _).alloc (Nat.le_refl _) _), (Fz.new w _ t).on (by simp) ((Below.refl _ _).alloc (Nat.le_refl _) _), h2, f2, hb.alloc (by simp) _⟩
theorem ordC_one (N : Nat) (lo up : Nat → Nat) : ∀ v ∈ ordC N lo up, v.oneCell' = true := fun v hv => by
  unfold ordC at hv
  rw [List.mem_cons, List.mem_append, List.mem_map, List.mem_map] at hv
  rcases hv with rfl | ⟨_, _, rfl⟩ | ⟨_, _, rfl⟩ <;> rfl
theorem infoO : (Tryd.prog.info? 64).map (·.size) = some 25 := by kernel_rfl
theorem PtO.of {w : World} {L N : Nat} {lo up : Nat → Nat} (hL : L < w.heap.size) (h : w.rangeAt L 0 (ordC N lo up)) : PtO w L N lo up :=
  ⟨hL, by have := h 0 _ (ordC_zero N lo up); simpa using this, fun j hj => by have := h (1 + j) _ (ordC_lo hj); rw [Nat.zero_add] at this; exact this, fun j hj => by have := h (13 + j) _ (ordC_up hj); rw [Nat.zero_add] at this; exact this⟩
theorem PtO.there {w : World} {L N : Nat} {lo up : Nat → Nat} (h : PtO w L N lo up) (f : Fz w L) : w.there L 0 25 := fun j hj => by
  have h2 := h.range
  obtain ⟨v, hv⟩ : ∃ v, (ordC N lo up)[j]? = some v := ⟨_, List.getElem?_eq_getElem (by rw [ordC_len]; exact hj)⟩
  exact ⟨by rw [h2 j v hv]; rfl, f _⟩
theorem PtO.onL {w w' : World} {B L N : Nat} {lo up : Nat → Nat} (h : PtO w L N lo up) (hL : L < B) (hb : Below B w w') : PtO w' L N lo up :=
  ⟨Nat.lt_of_lt_of_le h.1 hb.size, (hb.cell (p := ⟨L, 0, none⟩) hL).trans h.2.1, fun j hj => (hb.cell (p := ⟨L, 1 + j, none⟩) hL).trans (h.2.2.1 j hj), fun j hj => (hb.cell (p := ⟨L, 13 + j, none⟩) hL).trans (h.2.2.2 j hj)⟩
theorem OrW.store {w wr : World} {M : Nat} {l u : Nat → Nat} (h : OrW w wr M l u) (N : Nat) (lo up : Nat → Nat) : OrW w (wr.setCells (w.heap.size + 1) 0 (ordC N lo up)) N lo up := by
  have hb : Below (w.heap.size + 1) wr (wr.setCells (w.heap.size + 1) 0 (ordC N lo up)) := below_setCells _ _ _ _ (Nat.le_refl _) (Below.refl _ _)
  refine ⟨h.res.onL (by omega) hb, fun o => (World.frozen?_setCells _ _ _ _ _).trans (h.fres o), PtO.of (Nat.lt_of_lt_of_le h.ord.1 hb.size) (World.rangeAt_setCells_same _ _ _ _ ?_), fun o => (World.frozen?_setCells _ _ _ _ _).trans (h.ford o), h.below.trans (hb.mono (by omega))⟩
  rw [ordC_len]; exact h.ord.there h.ford
theorem mem_bit {m j : Nat} (hj : j < 12) : (j : Int) ∈ membL m ↔ m.testBit j = true := by
  rw [mem_membL]
  constructor
  · rintro ⟨_, _, h⟩; exact h
  · intro h; exact ⟨by omega, by omega, h⟩
theorem OrdIs.next {es : List (Nat × Nat)} {N x y : Nat} {lo up : Nat → Nat} (h : OrdIs es N lo up) (hN : N ≤ 12) (hx : x < N) (hy : y < N) :
    OrdIs (es ++ [(x, y)]) N (fun j => if (j : Int) ∈ membL (up y) then lo j ||| lo x else lo j) (fun j => if (j : Int) ∈ membL (lo x) then up j ||| up y else up j) := by
  constructor
  · intro j hj
    by_cases e : (j : Int) ∈ membL (up y)
    · rw [if_pos e]
      exact low_snoc (h.lo j hj) (h.lo x hx) ((h.up y hy j).1 ((mem_bit (by omega)).1 e))
    · rw [if_neg e]
      exact low_same (h.lo j hj) fun g => e ((mem_bit (by omega)).2 ((h.up y hy j).2 g))
  · intro j hj
    by_cases e : (j : Int) ∈ membL (lo x)
    · rw [if_pos e]
      exact up_snoc (h.up j hj) (h.up y hy) ((h.lo x hx j).1 ((mem_bit (by omega)).1 e))
    · rw [if_neg e]
      exact up_same (h.up j hj) fun g => e ((mem_bit (by omega)).2 ((h.lo x hx j).2 g))
theorem OrdIs.nil (N : Nat) : OrdIs [] N (fun j => if j < N then 1 <<< j else 0) (fun j => if j < N then 1 <<< j else 0) := by
  constructor
  · intro j hj
    rw [if_pos hj]
    exact (MaskIs.bit j).congr fun i => rch_nil.symm
  · intro j hj
    rw [if_pos hj]
    exact (MaskIs.bit j).congr fun i => eq_comm.trans rch_nil.symm
/-- The next element of a set. -/
theorem memb_at {m i : Nat} (hi : i < (membL m).length) : ∃ a : Nat, (membL m)[i] = (a : Int) ∧ m.testBit a = true ∧ (a : Int) ∉ (membL m).take i ∧ ∀ j : Nat, ((j : Int) ∈ (membL m).take (i + 1) ↔ (j : Int) ∈ (membL m).take i ∨ j = a) := by
  obtain ⟨h0, _, hb⟩ := mem_membL.1 (List.getElem_mem hi)
  refine ⟨((membL m)[i]).toNat, (Int.toNat_of_nonneg h0).symm, hb, ?_, fun j => ?_⟩
  · rw [Int.toNat_of_nonneg h0]
    intro h
    obtain ⟨k, hk, e⟩ := List.getElem_of_mem h
    rw [List.length_take] at hk
    rw [List.getElem_take] at e
    have := List.pairwise_iff_getElem.1 (membL_rise m) k i (by omega) hi (by omega)
    omega
  · rw [List.take_succ_eq_append_getElem hi, List.mem_append, List.mem_singleton]
    refine or_congr Iff.rfl ⟨fun e => by omega, fun e => by omega⟩
set_option maxRecDepth 100000 in
set_option maxHeartbeats 6400000 in
theorem orderBy_any {N : Nat} {v : Value} {zz : List (List Int)} {w : World} (hTz : Tz w) (hN : N ≤ 12) (hv : RowsAt w v zz) (hp : PairsIn (N : Int) zz) :
    Calls Tryd.prog 61 #[.int .i64 (N : Int), v] w fun e w' => RetO (esP zz) N w e w' := by
  obtain ⟨a, c, rfl, hl, k1⟩ := hv.anyP
  have K1 := Lib.hid k1
  have HP := Lib.hid hp
  have TZ := Lib.hid hTz
  have A0 : OrW w ((w.alloc (.cells #[.int .i64 0, .int .u16 0, .int .u16 0, .int .u16 0, .int .u16 0, .int .u16 0, .int .u16 0, .int .u16 0, .int .u16 0, .int .u16 0, .int .u16 0, .int .u16 0, .int .u16 0, .int .u16 0, .int .u16 0, .int .u16 0, .int .u16 0, .int .u16 0, .int .u16 0, .int .u16 0, .int .u16 0, .int .u16 0, .int .u16 0, .int .u16 0, .int .u16 0] 64)).alloc (.cells #[.int .i64 0, .int .u16 0, .int .u16 0, .int .u16 0, .int .u16 0, .int .u16 0, .int .u16 0, .int .u16 0, .int .u16 0, .int .u16 0, .int .u16 0, .int .u16 0, .int .u16 0, .int .u16 0, .int .u16 0, .int .u16 0, .int .u16 0, .int .u16 0, .int .u16 0, .int .u16 0, .int .u16 0, .int .u16 0, .int .u16 0, .int .u16 0, .int .u16 0] 64)) 0 (fun _ => 0) (fun _ => 0) := OrW.start w 0 64 64
  have HTH : Hid (World.there ((w.alloc (.cells #[.int .i64 0, .int .u16 0, .int .u16 0, .int .u16 0, .int .u16 0, .int .u16 0, .int .u16 0, .int .u16 0, .int .u16 0, .int .u16 0, .int .u16 0, .int .u16 0, .int .u16 0, .int .u16 0, .int .u16 0, .int .u16 0, .int .u16 0, .int .u16 0, .int .u16 0, .int .u16 0, .int .u16 0, .int .u16 0, .int .u16 0, .int .u16 0, .int .u16 0] 64)).alloc (.cells #[.int .i64 0, .int .u16 0, .int .u16 0, .int .u16 0, .int .u16 0, .int .u16 0, .int .u16 0, .int .u16 0, .int .u16 0, .int .u16 0, .int .u16 0, .int .u16 0, .int .u16 0, .int .u16 0, .int .u16 0, .int .u16 0, .int .u16 0, .int .u16 0, .int .u16 0, .int .u16 0, .int .u16 0, .int .u16 0, .int .u16 0, .int .u16 0, .int .u16 0] 64)) (w.heap.size + 1) 0 25) := A0.ord.there A0.ford
  have S0 : Hid (OrW w (((w.alloc (.cells #[.int .i64 0, .int .u16 0, .int .u16 0, .int .u16 0, .int .u16 0, .int .u16 0, .int .u16 0, .int .u16 0, .int .u16 0, .int .u16 0, .int .u16 0, .int .u16 0, .int .u16 0, .int .u16 0, .int .u16 0, .int .u16 0, .int .u16 0, .int .u16 0, .int .u16 0, .int .u16 0, .int .u16 0, .int .u16 0, .int .u16 0, .int .u16 0, .int .u16 0] 64)).alloc (.cells #[.int .i64 0, .int .u16 0, .int .u16 0, .int .u16 0, .int .u16 0, .int .u16 0, .int .u16 0, .int .u16 0, .int .u16 0, .int .u16 0, .int .u16 0, .int .u16 0, .int .u16 0, .int .u16 0, .int .u16 0, .int .u16 0, .int .u16 0, .int .u16 0, .int .u16 0, .int .u16 0, .int .u16 0, .int .u16 0, .int .u16 0, .int .u16 0, .int .u16 0] 64)).setCells (w.heap.size + 1) 0 [.int .i64 (N : Int), .int .u16 0, .int .u16 0, .int .u16 0, .int .u16 0, .int .u16 0, .int .u16 0, .int .u16 0, .int .u16 0, .int .u16 0, .int .u16 0, .int .u16 0, .int .u16 0, .int .u16 0, .int .u16 0, .int .u16 0, .int .u16 0, .int .u16 0, .int .u16 0, .int .u16 0, .int .u16 0, .int .u16 0, .int .u16 0, .int .u16 0, .int .u16 0]) N (fun _ => 0) (fun _ => 0)) := A0.store N (fun _ => 0) (fun _ => 0)
  have HIO := Lib.hid infoO
  have H1C : Hid ((#[.int .i64 (N : Int), .int .u16 0, .int .u16 0, .int .u16 0, .int .u16 0, .int .u16 0, .int .u16 0, .int .u16 0, .int .u16 0, .int .u16 0, .int .u16 0, .int .u16 0, .int .u16 0, .int .u16 0, .int .u16 0, .int .u16 0, .int .u16 0, .int .u16 0, .int .u16 0, .int .u16 0, .int .u16 0, .int .u16 0, .int .u16 0, .int .u16 0, .int .u16 0] : Array Value).all (·.oneCell') = true) := all_oneCell_toArray (ordC_one N (fun _ => 0) (fun _ => 0))
  clear A0
  clear k1 hv hp hTz
  go_enter Tryd.func61, Tryd.ntmps61
  go_wp2_with (refine wpList_store_mid rfl 64 (.tmp 5) (.tmp 16) rfl (w.heap.size + 1) 0 #[.int .i64 (N : Int), .int .u16 0, .int .u16 0, .int .u16 0, .int .u16 0, .int .u16 0, .int .u16 0, .int .u16 0, .int .u16 0, .int .u16 0, .int .u16 0, .int .u16 0, .int .u16 0, .int .u16 0, .int .u16 0, .int .u16 0, .int .u16 0, .int .u16 0, .int .u16 0, .int .u16 0, .int .u16 0, .int .u16 0, .int .u16 0, .int .u16 0, .int .u16 0] rfl rfl HTH.out HIO.out H1C.out ?_)
  generalize (#[.int .i64 (N : Int), .int .u16 0, .int .u16 0, .int .u16 0, .int .u16 0, .int .u16 0, .int .u16 0, .int .u16 0, .int .u16 0, .int .u16 0, .int .u16 0, .int .u16 0, .int .u16 0, .int .u16 0, .int .u16 0, .int .u16 0, .int .u16 0, .int .u16 0, .int .u16 0, .int .u16 0, .int .u16 0, .int .u16 0, .int .u16 0, .int .u16 0, .int .u16 0] : Array Value) = cN
  generalize ((w.alloc (.cells #[.int .i64 0, .int .u16 0, .int .u16 0, .int .u16 0, .int .u16 0, .int .u16 0, .int .u16 0, .int .u16 0, .int .u16 0, .int .u16 0, .int .u16 0, .int .u16 0, .int .u16 0, .int .u16 0, .int .u16 0, .int .u16 0, .int .u16 0, .int .u16 0, .int .u16 0, .int .u16 0, .int .u16 0, .int .u16 0, .int .u16 0, .int .u16 0, .int .u16 0] 64)).alloc (.cells #[.int .i64 0, .int .u16 0, .int .u16 0, .int .u16 0, .int .u16 0, .int .u16 0, .int .u16 0, .int .u16 0, .int .u16 0, .int .u16 0, .int .u16 0, .int .u16 0, .int .u16 0, .int .u16 0, .int .u16 0, .int .u16 0, .int .u16 0, .int .u16 0, .int .u16 0, .int .u16 0, .int .u16 0, .int .u16 0, .int .u16 0, .int .u16 0, .int .u16 0] 64)).setCells (w.heap.size + 1) 0 [.int .i64 (N : Int), .int .u16 0, .int .u16 0, .int .u16 0, .int .u16 0, .int .u16 0, .int .u16 0, .int .u16 0, .int .u16 0, .int .u16 0, .int .u16 0, .int .u16 0, .int .u16 0, .int .u16 0, .int .u16 0, .int .u16 0, .int .u16 0, .int .u16 0, .int .u16 0, .int .u16 0, .int .u16 0, .int .u16 0, .int .u16 0, .int .u16 0, .int .u16 0] = W0 at S0 ⊢
  have S1 : Hid (OrW w W0 N (fun j => if j < 0 then 1 <<< j else 0) (fun j => if j < 0 then 1 <<< j else 0)) := S0.out.congr (fun j _ => by rw [if_neg (by omega)]) (fun j _ => by rw [if_neg (by omega)])
  clear HTH H1C S0
  go_loopw [18] (fun si wr => ∃ (n : Nat), n ≤ N ∧ si = .int .i64 (n : Int) ∧ Hid (OrW w wr N (fun j => if j < n then 1 <<< j else 0) (fun j => if j < n then 1 <<< j else 0))) (fun i _ => N - (intOf i).toNat)
  case atStart => exact ⟨0, Nat.zero_le _, rfl, S1⟩
  case round =>
    clear S1
    obtain ⟨n, hn, rfl, HS⟩ := hrel
    have n0 : 0 ≤ (n : Int) := by omega
    by_cases hlt : n < N
    · have n1 : (n : Int) < (N : Int) := by omega
      have n2 : (n : Int) < 12 := by omega
      have hmo : maskOf [(n : Int)] = 1 <<< n := by simp [maskOf]
      have HM := Lib.hid hmo
      clear hmo
      obtain ⟨l5, -, q1, q2⟩ := HS.out.ord
      have g1 := q1 n (by omega)
      have g2 := q2 n (by omega)
      have f1 := HS.out.ford (1 + n)
      have f2 := HS.out.ford (13 + n)
      clear q1 q2
      go_wp2_with fail
      obtain ⟨ob, hob⟩ : ∃ o : Obj, o = .cells #[.int .i64 (n : Int)] 2 := ⟨_, rfl⟩
      have HX : Hid (OrW w ((((wr.setCell ⟨w.heap.size + 1, 1 + n, none⟩ (.int .u16 (maskOf [(n : Int)] : Int))).setCell ⟨w.heap.size + 1, 13 + n, none⟩ (.int .u16 (maskOf [(n : Int)] : Int))).alloc (.cells #[.int .i64 (n : Int)] 2)).alloc (.cells #[.int .i64 (n : Int)] 2)).drew N (fun j => if j < n + 1 then 1 <<< j else 0) (fun j => if j < n + 1 then 1 <<< j else 0)) := by
        have h1 := (HS.out.setLo (a := n) (by omega) (maskOf [(n : Int)])).setUp (a := n) (by omega) (maskOf [(n : Int)])
        have h2 := h1.on (al1 (al1 (Below.refl _ _) (.cells #[.int .i64 (n : Int)] 2)) (.cells #[.int .i64 (n : Int)] 2))
        have h3 := h2.on (Below.refl _ _).drew
        have e : ∀ j, j < 12 → (if j = n then maskOf [(n : Int)] else if j < n then 1 <<< j else 0) = (if j < n + 1 then 1 <<< j else 0) := fun j _ => by
          by_cases e1 : j = n
          · subst e1; rw [if_pos rfl, HM.out, if_pos (by omega)]
          · rw [if_neg e1]
            by_cases e2 : j < n
            · rw [if_pos e2, if_pos (by omega)]
            · rw [if_neg e2, if_neg (by omega)]
        exact h3.congr e e
      have c1a : (wr.alloc (.cells #[.int .i64 (n : Int)] 2)).cell? ⟨wr.heap.size, 0, none⟩ = some (.int .i64 (n : Int)) := by rw [World.cell?_alloc_at _ _ _ _ rfl]; rfl
      have c2a : ((wr.alloc (.cells #[.int .i64 (n : Int)] 2)).alloc (.cells #[.int .i64 (n : Int)] 2)).cell? ⟨wr.heap.size, 0, none⟩ = some (.int .i64 (n : Int)) := by rw [World.cell?_alloc_lt _ _ _ (by simp)]; exact c1a
      have c2b : ((wr.alloc (.cells #[.int .i64 (n : Int)] 2)).alloc (.cells #[.int .i64 (n : Int)] 2)).cell? ⟨wr.heap.size + 1, 0, none⟩ = some (.int .i64 (n : Int)) := by rw [World.cell?_alloc_at _ _ _ _ (by simp)]; rfl
      clear hob
      have AB1 : Below wr.heap.size wr (wr.alloc (.cells #[.int .i64 (n : Int)] 2)) := al1 (Below.refl _ _) _
      have AB2 : Below wr.heap.size wr ((wr.alloc (.cells #[.int .i64 (n : Int)] 2)).alloc (.cells #[.int .i64 (n : Int)] 2)) := al1 (al1 (Below.refl _ _) _) _
      have f1a := (AB1.frozen (p := ⟨w.heap.size + 1, 1 + n, none⟩) l5).trans f1
      have f1b := (AB2.frozen (p := ⟨w.heap.size + 1, 1 + n, none⟩) l5).trans f1
      have f2a := (AB1.frozen (p := ⟨w.heap.size + 1, 13 + n, none⟩) l5).trans f2
      have f2b := (AB2.frozen (p := ⟨w.heap.size + 1, 13 + n, none⟩) l5).trans f2
      have r0 := HS.out.res.2.1
      have lr : w.heap.size < wr.heap.size := by omega
      have ne1 : wr.heap.size ≠ w.heap.size + 1 := by omega
      have ne4 : ¬ w.heap.size + 1 = w.heap.size := by omega
      have ne5 : ¬ wr.heap.size + 1 = w.heap.size := by omega
      have ne6 : ¬ w.heap.size = wr.heap.size := by omega
      have ne7 : ¬ w.heap.size = wr.heap.size + 1 := by omega
      have ne8 : ¬ w.heap.size + 1 = wr.heap.size := by omega
      have ne9 : ¬ w.heap.size + 1 = wr.heap.size + 1 := by omega
      have ne2 : ¬ wr.heap.size + 1 = w.heap.size + 1 := by omega
      have ne3 : ¬ wr.heap.size = w.heap.size := by omega
      go_region_held3 (fun w' => True) (go_keep) (first | (go_at_call 70; (refine (setOf_gen (l := [(n : Int)]) (by simp) (by intro v hv; simp at hv; subst hv; exact ⟨n0, by omega⟩) (by intro j h; obtain rfl : j = 0 := by { simp at h; omega }; first | exact c1a | exact c2a | exact c2b)).mono ?_); rintro e w5 ⟨rfl, rfl⟩))
      all_goals
        clear f1a f1b f2a f2b ne1 ne2 ne3 ne4 ne5 ne6 ne7 ne8 ne9 c1a c2a c2b g1 g2 f1 f2 AB1 AB2
        go_wp2_with fail
        go_roundw
        case rel => exact ⟨n + 1, by omega, by go_num, HX⟩
        case measure => simp [intOf]; omega
    · have hnN : n = N := by omega
      have S2 : Hid (OrW w wr N (fun j => if j < N then 1 <<< j else 0) (fun j => if j < N then 1 <<< j else 0)) := by
        have h := HS.out
        rw [hnN] at h
        exact h
      have O2 : Hid (OrdIs (esP (zz.take 0)) N (fun j => if j < N then 1 <<< j else 0) (fun j => if j < N then 1 <<< j else 0)) := OrdIs.nil N
      obtain ⟨kt, hkt⟩ : ∃ kt : Int, kt = (n : Int) := ⟨_, rfl⟩
      have hk10 : ¬ kt < (N : Int) := by omega
      rw [← hkt]
      clear HS n0 hlt hkt hn hnN n
      go_wp2_with fail
      go_loopw [36] (fun si wr => ∃ (k : Nat) (lo up : Nat → Nat), k ≤ zz.length ∧ si = .int .i64 (k : Int) ∧ Hid (OrdIs (esP (zz.take k)) N lo up) ∧ Hid (OrW w wr N lo up)) (fun i _ => zz.length - (intOf i).toNat)
      case atStart => exact ⟨0, _, _, Nat.zero_le _, rfl, O2, S2⟩
      case round =>
        clear S2 O2
        obtain ⟨k, lo, up, hk, rfl, HO, HS⟩ := hrel
        have k0 : 0 ≤ (k : Int) := by omega
        by_cases hlk : k < zz.length
        · have k1 : (k : Int) < (zz.length : Int) := by omega
          obtain ⟨x, y, hzk, hed, hx, hy⟩ := HP.out.at hlk
          obtain ⟨b, o, u, rfl, hb, c1', i1'⟩ := K1.out k hlk
          have HB := HS.out.below
          have c1 := (HB.cell (p := ⟨b, o + k, none⟩) hb).trans c1'
          rw [hzk] at i1'
          obtain ⟨tb, tq, tc, rfl, htb, kt⟩ := (i1'.on HB).atP (by simp)
          have t0 := kt 0 (by simp)
          have t1 := kt 1 (by simp)
          simp only [List.getElem_cons_zero, List.getElem_cons_succ, Nat.add_zero, List.length_cons, List.length_nil, Nat.zero_add, Nat.reduceAdd] at t0 t1 c1
          have hxN : x < N := by omega
          have hyN : y < N := by omega
          have hes : ∀ e ∈ esP (zz.take k), e.1 < N ∧ e.2 < N := fun e he => HP.out.lt e (by
            unfold esP at he ⊢
            exact List.mem_map.2 (by obtain ⟨p, h1, h2⟩ := List.mem_map.1 he; exact ⟨p, List.mem_of_mem_take h1, h2⟩))
          have HES := Lib.hid hes
          have ml4 := HO.out.ltL hes hN hxN
          have mu4 := HO.out.ltU hes hN hyN
          have q1 := HS.out.ord.2.2.1 x (by omega)
          have q2 := HS.out.ord.2.2.2 y (by omega)
          have HNX : Hid (OrdIs (esP (zz.take (k + 1))) N (fun j => if (j : Int) ∈ membL (up y) then lo j ||| lo x else lo j) (fun j => if (j : Int) ∈ membL (lo x) then up j ||| up y else up j)) := by
            show OrdIs _ _ _ _
            rw [esP_take hlk, hed]
            exact HO.out.next hN hxN hyN
          have HLX : Hid (∀ a, (lo x).testBit a = true → a < N) := fun a ha => ((HO.out.lo x hxN a).1 ha).gt hes hxN
          have HUY : Hid (∀ a, (up y).testBit a = true → a < N) := fun a ha => ((HO.out.up y hyN a).1 ha).lt hes hyN
          have HUL : Hid (∀ a, a < N → up a < 65536) := fun a ha => by have := HO.out.ltU hes hN ha; omega
          have HLL : Hid (∀ a, a < N → lo a < 65536) := fun a ha => by have := HO.out.ltL hes hN ha; omega
          have x0 : 0 ≤ (x : Int) := by omega
          have x1 : (x : Int) < 12 := by omega
          have y0 : 0 ≤ (y : Int) := by omega
          have y1 : (y : Int) < 12 := by omega
          obtain ⟨ml, hml⟩ : ∃ m, lo x = m := ⟨_, rfl⟩
          obtain ⟨mu, hmu⟩ : ∃ m, up y = m := ⟨_, rfl⟩
          rw [hml] at q1 ml4 HNX HLX
          rw [hmu] at q2 mu4 HNX HUY
          clear c1' i1' kt hzk hed hes HO hml hmu
          go_wp2_with fail
          go_quiet (fail)
          have hnq := below_drewP (Below.refl wr.heap.size wr) nq
          generalize wr.drewN nq = W1 at hnq ⊢
          have HS1 := Lib.hid (HS.out.on hnq)
          clear hnq q1 q2 t0 t1 c1 HS HB
          go_wp2_with fail
          refine (members16_any ml4 (TZ.out.on HS1.out.below)).mono ?_
          rintro e w3 ⟨v3, rfl, ho3, hb3⟩
          have HM3 := Lib.hid ho3
          obtain ⟨ma, mc, rfl⟩ := ho3.slice
          have HS3 : Hid (OrW w w3 N lo (fun j => if (j : Int) ∈ (membL ml).take 0 then up j ||| mu else up j)) := (HS1.out.on hb3).congr (fun j _ => rfl) (fun j _ => by simp)
          have hB3 : w.heap.size + 1 < W1.heap.size := HS1.out.ord.1
          have hml16 := membL_len ml
          clear ho3 hb3
          go_wp2_with fail
          go_loopw [55] (fun si wr => ∃ (i : Nat), i ≤ (membL ml).length ∧ si = .int .i64 (i : Int) ∧ Hid (OwnI W1.heap.size wr (.slice ma (membL ml).length mc) (membL ml)) ∧ Hid (OrW w wr N lo (fun j => if (j : Int) ∈ (membL ml).take i then up j ||| mu else up j))) (fun i _ => (membL ml).length - (intOf i).toNat)
          case atStart => exact ⟨0, Nat.zero_le _, rfl, HM3, HS3⟩
          case round =>
            clear HM3 HS3
            obtain ⟨i, hi, rfl, HM, HS⟩ := hrel
            have i0 : 0 ≤ (i : Int) := by omega
            by_cases hli : i < (membL ml).length
            · have i1 : (i : Int) < ((membL ml).length : Int) := by omega
              obtain ⟨a, hae, hab, hat, hnx⟩ := memb_at hli
              have haN := HLX.out a hab
              obtain ⟨gb, gq, gc, e, hgb, gk⟩ := (HM.out.at (by omega)).atP (by omega)
              injection e with e1 e2 e3
              subst e1
              have g1 := gk i hli
              rw [hae] at g1
              have g2 := HS.out.ord.2.2.2 a (by omega)
              have f2 := HS.out.ford (13 + a)
              dsimp only at g2
              rw [if_neg hat] at g2
              have hor := or_u16n (HUL.out a haN) (show mu < 65536 by omega)
              have HX : Hid (OrW w (wr.setCell ⟨w.heap.size + 1, 13 + a, none⟩ (.int .u16 ((up a ||| mu : Nat) : Int))) N lo (fun j => if (j : Int) ∈ (membL ml).take (i + 1) then up j ||| mu else up j)) :=
                (HS.out.setUp (a := a) (by omega) (up a ||| mu)).congr (fun _ _ => rfl) (fun j _ => by
                  by_cases e : j = a
                  · subst e; rw [if_pos rfl, if_pos ((hnx j).2 (.inr rfl))]
                  · rw [if_neg e]
                    by_cases e2 : (j : Int) ∈ (membL ml).take i
                    · rw [if_pos e2, if_pos ((hnx j).2 (.inl e2))]
                    · rw [if_neg e2, if_neg (fun h => ((hnx j).1 h).elim e2 e)])
              have HM' : Hid (OwnI W1.heap.size (wr.setCell ⟨w.heap.size + 1, 13 + a, none⟩ (.int .u16 ((up a ||| mu : Nat) : Int))) (.slice (some ⟨gb, gq, none⟩) (membL ml).length mc) (membL ml)) := OwnI.setOut HM.out (by omega) _
              have a0 : 0 ≤ (a : Int) := by omega
              have a1 : (a : Int) < 12 := by omega
              clear gk e2 e3 hae hat hnx HS HM
              generalize up a = ua at g2 hor HX HM'
              go_wp2_with fail
              go_roundw
              case rel => exact ⟨i + 1, by omega, by go_num, HM', HX⟩
              case measure => simp [intOf]; omega
            · have HS4 : Hid (OrW w wr N lo (fun j => if (j : Int) ∈ membL ml then up j ||| mu else up j)) := by
                have h := HS.out
                rw [List.take_of_length_le (show (membL ml).length ≤ i by omega)] at h
                exact h
              obtain ⟨kt, hkt⟩ : ∃ kt : Int, kt = (i : Int) := ⟨_, rfl⟩
              have hk11 : ¬ kt < ((membL ml).length : Int) := by omega
              rw [← hkt]
              clear HS HM i0 hli hkt hi i
              go_wp2_with fail
              refine (members16_any mu4 (TZ.out.on HS4.out.below)).mono ?_
              rintro e w5 ⟨v5, rfl, ho5, hb5⟩
              have HM5 := Lib.hid ho5
              obtain ⟨na, nc, rfl⟩ := ho5.slice
              have HS5 : Hid (OrW w w5 N (fun j => if (j : Int) ∈ (membL mu).take 0 then lo j ||| ml else lo j) (fun j => if (j : Int) ∈ membL ml then up j ||| mu else up j)) := (HS4.out.on hb5).congr (fun j _ => by simp) (fun j _ => rfl)
              have hB5 : w.heap.size + 1 < wr.heap.size := HS4.out.ord.1
              have hmu16 := membL_len mu
              obtain ⟨W4, hW4⟩ : ∃ W, wr = W := ⟨_, rfl⟩
              rw [hW4] at HM5 hB5
              clear ho5 hb5 HS4 hW4
              go_wp2_with fail
              go_loopw [71] (fun si wr => ∃ (i : Nat), i ≤ (membL mu).length ∧ si = .int .i64 (i : Int) ∧ Hid (OwnI W4.heap.size wr (.slice na (membL mu).length nc) (membL mu)) ∧ Hid (OrW w wr N (fun j => if (j : Int) ∈ (membL mu).take i then lo j ||| ml else lo j) (fun j => if (j : Int) ∈ membL ml then up j ||| mu else up j))) (fun i _ => (membL mu).length - (intOf i).toNat)
              case atStart => exact ⟨0, Nat.zero_le _, rfl, HM5, HS5⟩
              case round =>
                clear HM5 HS5
                obtain ⟨i, hi, rfl, HM, HS⟩ := hrel
                have i0 : 0 ≤ (i : Int) := by omega
                by_cases hli : i < (membL mu).length
                · have i1 : (i : Int) < ((membL mu).length : Int) := by omega
                  obtain ⟨a, hae, hab, hat, hnx⟩ := memb_at hli
                  have haN := HUY.out a hab
                  obtain ⟨gb, gq, gc, e, hgb, gk⟩ := (HM.out.at (by omega)).atP (by omega)
                  injection e with e1 e2 e3
                  subst e1
                  have g1 := gk i hli
                  rw [hae] at g1
                  have g2 := HS.out.ord.2.2.1 a (by omega)
                  have f2 := HS.out.ford (1 + a)
                  dsimp only at g2
                  rw [if_neg hat] at g2
                  have hor := or_u16n (HLL.out a haN) (show ml < 65536 by omega)
                  have HX : Hid (OrW w (wr.setCell ⟨w.heap.size + 1, 1 + a, none⟩ (.int .u16 ((lo a ||| ml : Nat) : Int))) N (fun j => if (j : Int) ∈ (membL mu).take (i + 1) then lo j ||| ml else lo j) (fun j => if (j : Int) ∈ membL ml then up j ||| mu else up j)) :=
                    (HS.out.setLo (a := a) (by omega) (lo a ||| ml)).congr (fun j _ => by
                      by_cases e : j = a
                      · subst e; rw [if_pos rfl, if_pos ((hnx j).2 (.inr rfl))]
                      · rw [if_neg e]
                        by_cases e2 : (j : Int) ∈ (membL mu).take i
                        · rw [if_pos e2, if_pos ((hnx j).2 (.inl e2))]
                        · rw [if_neg e2, if_neg (fun h => ((hnx j).1 h).elim e2 e)]) (fun _ _ => rfl)
                  have HM' : Hid (OwnI W4.heap.size (wr.setCell ⟨w.heap.size + 1, 1 + a, none⟩ (.int .u16 ((lo a ||| ml : Nat) : Int))) (.slice (some ⟨gb, gq, none⟩) (membL mu).length nc) (membL mu)) := OwnI.setOut HM.out (by omega) _
                  have a0 : 0 ≤ (a : Int) := by omega
                  have a1 : (a : Int) < 12 := by omega
                  clear gk e2 e3 hae hat hnx HS HM
                  generalize lo a = la at g2 hor HX HM'
                  go_wp2_with fail
                  go_roundw
                  case rel => exact ⟨i + 1, by omega, by go_num, HM', HX⟩
                  case measure => simp [intOf]; omega
                · have HS6 : Hid (OrW w wr N (fun j => if (j : Int) ∈ membL mu then lo j ||| ml else lo j) (fun j => if (j : Int) ∈ membL ml then up j ||| mu else up j)) := by
                    have h := HS.out
                    rw [List.take_of_length_le (show (membL mu).length ≤ i by omega)] at h
                    exact h
                  obtain ⟨kt2, hkt⟩ : ∃ kt : Int, kt = (i : Int) := ⟨_, rfl⟩
                  have hk12 : ¬ kt2 < ((membL mu).length : Int) := by omega
                  rw [← hkt]
                  clear HS HM i0 hli hkt hi i
                  go_wp2_with fail
                  go_roundw
                  case rel => exact ⟨k + 1, _, _, by omega, by go_num, HNX, HS6⟩
                  case measure => simp [intOf]; omega
        · have hke : k = zz.length := by omega
          have HO6 : Hid (OrdIs (esP zz) N lo up) := by
            have h := HO.out
            rw [hke, List.take_length] at h
            exact h
          have HTR : Hid (wr.there w.heap.size 0 25) := HS.out.res.there HS.out.fres
          have hsz : (ordC N lo up).toArray.size = 25 := by rw [List.size_toArray, ordC_len]
          have HTR2 : Hid (wr.there w.heap.size 0 (ordC N lo up).toArray.size) := by show World.there _ _ _ _; rw [hsz]; exact HTR.out
          have HIO2 : Hid ((Tryd.prog.info? 64).map (·.size) = some (ordC N lo up).toArray.size) := by show _ = _; rw [hsz]; exact HIO.out
          clear hsz
          have HS7 : Hid (Below w.heap.size w (wr.setCells w.heap.size 0 (ordC N lo up))) := below_setCells _ _ _ _ (Nat.le_refl _) HS.out.below
          have HRG : Hid ((wr.setCells w.heap.size 0 (ordC N lo up)).rangeAt w.heap.size 0 (ordC N lo up)) := World.rangeAt_setCells_same _ _ _ _ (by rw [ordC_len]; exact HTR.out)
          obtain ⟨kt, hkt⟩ : ∃ kt : Int, kt = (k : Int) := ⟨_, rfl⟩
          have hk10 : ¬ kt < (zz.length : Int) := by omega
          rw [← hkt]
          clear HO k0 hlk hkt hk hke k
          go_wp2_with (first | (refine wpList_load_mid rfl 64 (.tmp 5) rfl (w.heap.size + 1) 0 rfl (ordC N lo up) _ HS.out.ord.range Tryd.underlying64 rfl (by rw [ordC_len]; exact HIO.out) ?_) | (refine wpList_store_mid rfl 64 (.tmp 4) (.tmp 85) rfl w.heap.size 0 (ordC N lo up).toArray rfl rfl HTR2.out HIO2.out (all_oneCell_toArray (ordC_one N lo up)) ?_))
          refine bodyPost_ret (v := ordV N lo up) ?_ rfl ⟨lo, up, rfl, HO6.out, ?_⟩
          · have hld := run_loadVar_mid (P := Tryd.prog) _ _ _ 64 (ordC N lo up) _ HRG.out Tryd.underlying64 rfl (by rw [ordC_len]; exact HIO.out)
            simp [results, Tryd.results61, asAddr, hld, ordV]
          · exact HS7.out
end Go.Proofs.YtdihcmohpbgmmaaDoor
