/-
  Rows of a call's own, in the order that the library's sort leaves them.
  The library's sort of a call's own rows by the order of simplices.
-/
import Derived.Test.YtibdcejglkhcfaaGreatDoorCxP
import Derived.Test.YtibdcejglkhcfaaGreatDoorSsC
import Derived.Shelf.SlSortCmp.QuietGrown
import Derived.Shelf.GgSortFunc.Small
namespace Go.Proofs.YtibdcejglkhcfaaGreatDoor
open Go.RowKit Go.Sort Go.Shelf
set_option linter.unusedVariables false
set_option linter.unusedSimpArgs false

section
variable {α : Type} [Inhabited α] {enc : α → Value}
theorem heap_put {w : World} {g n : Nat} {os : Array Obj} {cur : Array Value} {e : TypeId} {fr : Nat × Nat} (d : Array α) (hb : w.heap[g]? = some (.cells cur e fr)) :
    (grow (putRow enc (Sort.ahead w n) g 0 d) os).heap[g]? = some (.cells (putCells enc 0 d cur) e fr) := by
  have hg : g < w.heap.size := (Array.getElem?_eq_some_iff.1 hb).1
  rw [heap_grow_old _ _ (by simpa using hg)]
  simp [putRow, mapBlock, Sort.ahead, Array.getElem?_modify, hb, onCells]
theorem grownBy_put {w : World} {g n : Nat} {os : Array Obj} (d : Array α) : w.grownBy (grow (putRow enc (Sort.ahead w n) g 0 d) os) (some g) := by
  refine ⟨rfl, rfl, rfl, by simp, fun k hk hne => ?_⟩
  rw [heap_grow_old _ _ (by simpa using hk)]
  have : g ≠ k := fun e => hne (by rw [e])
  simp [putRow, mapBlock, Sort.ahead, Array.getElem?_modify, this]
theorem take_put (cur : Array Value) (d : Array α) (h : d.size ≤ cur.size) : (putCells enc 0 d cur).toList.take d.size = d.toList.map enc := by
  apply List.ext_getElem?
  intro j
  by_cases hj : j < d.size
  · rw [List.getElem?_take_of_lt hj, Array.getElem?_toList]
    simp [putCells, hj, show j < cur.size by omega]
  · rw [List.getElem?_take_eq_none (by omega), List.getElem?_eq_none (by simp; omega)]
theorem ownsRow_put {w : World} {base g cap n N : Nat} {e : TypeId} {os : Array Obj} {L : List Value} (d : Array α) (h : w.ownsRow base e 1 (.slice (some ⟨g, 0, none⟩) N cap) N L) (hd : d.size = N) :
    (grow (putRow enc (Sort.ahead w n) g 0 d) os).ownsRow base e 1 (.slice (some ⟨g, 0, none⟩) N cap) N (d.toList.map enc) := by
  obtain ⟨hx, ⟨h0, _⟩ | ⟨g', cap', cur, h1, hbase, hcur, hnc, hcm, hcs, htake⟩⟩ := h
  · cases h0
  · simp only [Value.slice.injEq, Option.some.injEq, Addr.mk.injEq, true_and, and_true] at h1
    obtain ⟨rfl, rfl⟩ := h1
    refine ⟨by simp [hd], .inr ⟨g, cap, _, rfl, hbase, heap_put d hcur, hnc, hcm, by simp [putCells, hcs], ?_⟩⟩
    rw [Nat.mul_one, ← hd]
    exact take_put cur d (by omega)
end
/-- A row that can be read: a value and the numbers behind it, in another block than g. -/
def RowOk (w : World) (g : Nat) (p : Value × List Int) : Prop :=
  ∃ b c, p.1 = .slice (some ⟨b, 0, none⟩) p.2.length c ∧ b ≠ g ∧ b < w.heap.size ∧ p.2.length ≤ 1048576 ∧ ∀ j (h : j < p.2.length), w.cell? ⟨b, j, none⟩ = some (.int .i64 p.2[j])
def encR {w : World} {g : Nat} (p : { p : Value × List Int // RowOk w g p }) : Value := p.1.1
def ltR {w : World} {g : Nat} (p q : { p : Value × List Int // RowOk w g p }) : Bool := befB p.1.2 q.1.2
theorem encR_one {w : World} {g : Nat} (p : { p : Value × List Int // RowOk w g p }) : (encR p).oneCell' = true := by
  obtain ⟨p, b, c, h, _⟩ := p
  show p.1.oneCell' = true
  rw [h]; rfl
theorem swo_R {w : World} {g : Nat} : SWO (ltR (w := w) (g := g)) := by
  refine ⟨fun p => befB_irr _, fun p q r h k => befB_trans h k, fun p q r h k => ?_⟩
  show befB p.1.2 r.1.2 = false
  have h' : befB p.1.2 q.1.2 = false := h
  have k' : befB q.1.2 r.1.2 = false := k
  cases e : befB p.1.2 r.1.2 with
  | false => rfl
  | true =>
    cases e1 : befB q.1.2 p.1.2 with
    | true => have := befB_trans e1 e; rw [k'] at this; cases this
    | false => rw [befB_total h' e1] at e; rw [k'] at e; cases e
theorem sw_kb {α : Type} [Inhabited α] {enc : α → Value} {w0 W : World} {blk off : Nat} {d : Array α} (S : SW enc w0 blk off d W) : KB blk w0 W := by
  obtain ⟨n, os, rfl⟩ := S
  exact kb_world _ _ _ _ _ _ _
set_option maxRecDepth 1000000 in
set_option maxHeartbeats 1600000 in
theorem less_any {w : World} {g cap Bl : Nat} [Inhabited { p : Value × List Int // RowOk w g p }] {d0 d : Array { p : Value × List Int // RowOk w g p }} {W : World} (hH : Holds encR w g 0 d0) (hg : g < w.heap.size) (hB : w.cell? ⟨Bl, 0, none⟩ = some (.slice (some ⟨g, 0, none⟩) d0.size cap)) (hne : Bl ≠ g) (hl : Bl < w.heap.size) (hz : d0.size < 4611686018427387904)
    (S : SW encR w g 0 d W) (hd : d.size = d0.size) (i j : Nat) (hi : i < d0.size) (hj : j < d0.size) :
    Calls Tryz.prog 92 (#[.int .i64 (i : Int), .int .i64 (j : Int)] ++ #[.pointer (some ⟨Bl, 0, none⟩)]) W fun e w' => e = .returned (.bool (ltR d[i]! d[j]!)) ∧ SW encR w g 0 d w' ∧ KB g W w' := by
  have kb := sw_kb S
  have hh := S.holds hg hH hd
  have q0 := (kb.cell Bl 0 hne hl).trans hB
  have q1 := (hh i (by omega)).1
  have q2 := (hh j (by omega)).1
  obtain ⟨p, hp⟩ : ∃ p, d[i]! = p := ⟨_, rfl⟩
  obtain ⟨q, hq⟩ : ∃ q, d[j]! = q := ⟨_, rfl⟩
  rw [hp] at q1 ⊢
  rw [hq] at q2 ⊢
  clear hp hq hh
  obtain ⟨⟨v1, xs⟩, b1, c1, e1, n1, l1, m1, k1⟩ := p
  obtain ⟨⟨v2, ys⟩, b2, c2, e2, n2, l2, m2, k2⟩ := q
  simp only at e1 e2 m1 m2 k1 k2
  have q1' : W.cell? ⟨g, 0 + i, none⟩ = some (.slice (some ⟨b1, 0, none⟩) xs.length c1) := by rw [q1]; exact congrArg some e1
  have q2' : W.cell? ⟨g, 0 + j, none⟩ = some (.slice (some ⟨b2, 0, none⟩) ys.length c2) := by rw [q2]; exact congrArg some e2
  rw [Nat.zero_add] at q1' q2'
  have hgW : g < W.heap.size := S.lt hg
  have hlW : Bl < W.heap.size := Nat.lt_of_lt_of_le hl kb.le
  have r0 := fun n os => cell_grown (a := ⟨Bl, 0, none⟩) hlW q0 n os
  have r1 := fun n os => cell_grown (a := ⟨g, i, none⟩) hgW q1' n os
  have r2 := fun n os => cell_grown (a := ⟨g, j, none⟩) hgW q2' n os
  have KX : Hid (∀ n os (t : Nat) (h : t < xs.length), (grow (W.drewN n) os).cell? ⟨b1, 0 + t, none⟩ = some (.int .i64 xs[t])) := fun n os t h => by
    rw [Nat.zero_add]; exact cell_grown (a := ⟨b1, t, none⟩) (Nat.lt_of_lt_of_le l1 kb.le) ((kb.cell b1 t n1 l1).trans (k1 t h)) n os
  have KY : Hid (∀ n os (t : Nat) (h : t < ys.length), (grow (W.drewN n) os).cell? ⟨b2, 0 + t, none⟩ = some (.int .i64 ys[t])) := fun n os t h => by
    rw [Nat.zero_add]; exact cell_grown (a := ⟨b2, t, none⟩) (Nat.lt_of_lt_of_le l2 kb.le) ((kb.cell b2 t n2 l2).trans (k2 t h)) n os
  show Calls Tryz.prog 92 #[.int .i64 (i : Int), .int .i64 (j : Int), .pointer (some ⟨Bl, 0, none⟩)] W fun e w' => e = .returned (.bool (befB xs ys)) ∧ SW encR w g 0 d w' ∧ KB g W w'
  obtain ⟨T, hT⟩ : ∃ T, befB xs ys = T := ⟨_, rfl⟩
  rw [hT]
  have HT := Lib.hid hT
  have HS := Lib.hid S
  obtain ⟨N, hN⟩ : ∃ N, d0.size = N := ⟨_, rfl⟩
  rw [hN] at hi hj r0 hz
  have i0 : 0 ≤ (i : Int) := by omega
  have i1 : (i : Int) < (N : Int) := by omega
  have j0 : 0 ≤ (j : Int) := by omega
  have j1 : (j : Int) < (N : Int) := by omega
  have mixed : Tryz.prog.follows .mixedOrders = true := by kernel_rfl
  clear q0 q1 q2 q1' q2' kb hT S hH hB hd hN hgW hlW e1 e2 k1 k2 n1 n2 l1 l2
  go_enter Tryz.func92, Tryz.ntmps92
  go_wp2_with fail
  go_quiet_grown (first | (go_at_call 93; exact Calls.grown_of (comesBefore_is m1 m2 (KX.out _ _) (KY.out _ _) HT.out)))
  go_wp2_with fail
  go_ret
  exact ⟨rfl, HS.out.grown nq osq, below_kb g (GR.below ⟨nq, osq, rfl⟩)⟩
end Go.Proofs.YtibdcejglkhcfaaGreatDoor

namespace Go.Proofs.YtibdcejglkhcfaaGreatDoor
open Go.RowKit Go.Sort Go.Shelf Go.Lib
set_option linter.unusedVariables false
set_option linter.unusedSimpArgs false

noncomputable def siT : TypeInfo := (Tryz.prog.info? 22).get (by kernel_rfl)
noncomputable def siE : TypeInfo := (Tryz.prog.info? 25).get (by kernel_rfl)
theorem siK (n : Nat) (h2 : 2 ≤ n) : Lib.swapperK n siE 23 = 9 := by
  have a : siE.hasPointers = true := by kernel_rfl
  have b : siE.bytes = 24 := by kernel_rfl
  have c : (n == 0) = false := by simp; omega
  have d : (n == 1) = false := by simp; omega
  simp [Lib.swapperK, a, b, c, d]
theorem siK0 : Lib.swapperK 0 siE 23 = 1 := rfl
theorem siK1 : Lib.swapperK 1 siE 23 = 2 := rfl
set_option maxRecDepth 1000000 in
set_option maxHeartbeats 1600000 in
theorem sortSlice_any {w : World} {g cap Bl : Nat} [Inhabited { p : Value × List Int // RowOk w g p }] {d : Array { p : Value × List Int // RowOk w g p }} (h2 : 2 ≤ d.size) (hH : Holds encR w g 0 d) (hg : g < w.heap.size) (hB : w.cell? ⟨Bl, 0, none⟩ = some (.slice (some ⟨g, 0, none⟩) d.size cap)) (hne : Bl ≠ g) (hl : Bl < w.heap.size) (hz : d.size ≤ 1048576) :
    Calls Tryz.prog 91 #[.iface 22 (.slice (some ⟨g, 0, none⟩) d.size cap), .func (.func 92) #[] #[.pointer (some ⟨Bl, 0, none⟩)]] w fun e w' =>
      e = .returned (.tuple #[]) ∧ ∃ n os d', PermIn 0 d.size d d' ∧ SortedIn ltR 0 d.size d' ∧ w' = sortWorld encR w g 0 n d' os := by
  have X : Cx encR ltR 92 #[.pointer (some ⟨Bl, 0, none⟩)] 174 #[.slice (some ⟨g, 0, none⟩) d.size cap, typeHandle Tryz.prog 25] g 0 d.size w :=
    { eg := enters_of Tryz.func92 (by kernel_rfl) rfl
      less := fun dk W S hs i j hi hj => less_any hH hg hB hne hl (by omega) S hs i j hi hj
      swap := swapSwaps_of_literal false 174 (fun args W => run_callFunc_extern Tryz.func174 (by kernel_rfl) (by kernel_rfl) (by kernel_rfl) (e := Extern.ReflectliteSwapper.swap false) (by kernel_rfl) args W) 25 siE (by kernel_rfl) (by kernel_rfl) (fun _ => by kernel_rfl) encR encR_one g 0 d.size cap
      hb := hg
      d0 := ⟨d, hH, rfl⟩
      sz := by omega }
  have hbl : Lib.bitLen d.size < 4611686018427387904 := Nat.lt_of_le_of_lt (Lib.bitLen_le d.size 62 (by omega) (by omega)) (by omega)
  have S0 : SW encR w g 0 d w := SW.start hH
  have hp := pdq_any X swo_R (d.size + 1) 0 d.size (Lib.bitLen d.size) d (sliceWorld Tryz.prog Tryz.laysGg6_ren 22 (some ⟨g, 0, none⟩) d.size cap w) (by omega) ((S0.alloc _).alloc _) rfl (Nat.zero_le _) (Nat.le_refl _) hbl (Or.inl rfl)
  have hB9 : sliceBound Tryz.prog 25 siE 23 (some ⟨g, 0, none⟩) d.size cap = #[.slice (some ⟨g, 0, none⟩) d.size cap, typeHandle Tryz.prog 25] := by
    unfold sliceBound; rw [if_neg (swapperK_gt _ _ _ h2)]
  have h := Any.sort_Slice_of_pdq Tryz.laysGg6 22 25 siT siE (by kernel_rfl) (by kernel_rfl) (by kernel_rfl) (by kernel_rfl) 23 (fun _ => by kernel_rfl) (some ⟨g, 0, none⟩) d.size cap (by omega) 174 (by rw [siK _ h2]; kernel_rfl)
    (.func 92) #[] #[.pointer (some ⟨Bl, 0, none⟩)] w (fun w' => ∃ n os d', PermIn 0 d.size d d' ∧ SortedIn ltR 0 d.size d' ∧ w' = sortWorld encR w g 0 n d' os) (by
      rw [hB9]
      refine hp.mono ?_
      rintro e w' ⟨rfl, ⟨n, os, rfl⟩, _⟩
      have hs := pdq_sorts ltR swo_R d 0 d.size (Lib.bitLen d.size) true true (Nat.zero_le _) (Nat.le_refl _) (Or.inl rfl)
      exact ⟨rfl, n, os, _, hs.1, hs.2, rfl⟩)
  exact h
set_option maxRecDepth 1000000 in
theorem sortSlice_tiny {w : World} {p : Option Addr} {n cap Bl : Nat} (h1 : n ≤ 1) :
    Calls Tryz.prog 91 #[.iface 22 (.slice p n cap), .func (.func 92) #[] #[.pointer (some ⟨Bl, 0, none⟩)]] w fun e w' => e = .returned (.tuple #[]) ∧ ∃ os, w' = grow w os := by
  have h01 : n = 0 ∨ n = 1 := by omega
  rcases h01 with rfl | rfl
  · exact Any.sort_Slice_tiny Tryz.laysGg6 22 25 siT siE (by kernel_rfl) (by kernel_rfl) (by kernel_rfl) (by kernel_rfl) 23 (fun _ => by kernel_rfl) p 0 cap (by omega) 166 (by rw [siK0]; kernel_rfl) (.func 92) #[] #[.pointer (some ⟨Bl, 0, none⟩)] w
  · exact Any.sort_Slice_tiny Tryz.laysGg6 22 25 siT siE (by kernel_rfl) (by kernel_rfl) (by kernel_rfl) (by kernel_rfl) 23 (fun _ => by kernel_rfl) p 1 cap (by omega) 167 (by rw [siK1]; kernel_rfl) (.func 92) #[] #[.pointer (some ⟨Bl, 0, none⟩)] w
end Go.Proofs.YtibdcejglkhcfaaGreatDoor
