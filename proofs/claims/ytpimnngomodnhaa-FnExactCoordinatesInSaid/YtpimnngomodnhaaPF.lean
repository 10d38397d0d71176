/-
  Rows in memory of their own: copied, exchange.
  clearColumn of the program.
  The search for a pivot of the program.
  addPivot of the program.
  reduce of the program.
  reduce of the program at any size.
-/
import Derived.Test.YtpimnngomodnhaaPE
import Derived.Test.YtpimnngomodnhaaPB
import Derived.Test.YtpimnngomodnhaaPC
import Derived.StillTailTactics
import Derived.Deep.RegionLaw
namespace Go.Proofs.Ytpimnngomodnhaa
open Go.RowKit
open Lin
set_option linter.unusedVariables false
set_option linter.unusedSectionVars false

/-- k of m rows of N cells, each in a block of its own from B on, which read as A. -/
structure RwK {q : Nat} (B : Nat) (w : World) (H m N k : Nat) (G C : Nat → Nat) (A : Mt q) : Prop where
  list : w.rowIs H 24 m (fun i => if i < k then .slice (some ⟨G i, 0, none⟩) N (C i) else .slice none 0 0)
  cap : ∀ i, i < k → N ≤ C i ∧ C i ≤ maxLen
  own : ∀ i, i < k → B ≤ G i ∧ G i ≠ H
  row : ∀ i, i < k → ∃ F, w.rowIs (G i) 2 (C i) F ∧ ∀ j, j < N → F j = .int .i64 (fv (A i j))
  dis : ∀ i j, i < k → j < k → i ≠ j → G i ≠ G j
theorem RwK.on {q : Nat} {B : Nat} {w w' : World} {H m N k : Nat} {G C : Nat → Nat} {A : Mt q} (h : RwK B w H m N k G C A) (hb : Below w.heap.size w w') : RwK B w' H m N k G C A where
  list := rowIs_on h.list hb
  cap := h.cap
  own := h.own
  row := fun i hi => by obtain ⟨F, h1, h2⟩ := h.row i hi; exact ⟨F, rowIs_on h1 hb, h2⟩
  dis := h.dis
theorem RwK.next {q : Nat} {B : Nat} {w w' : World} {H m N k g c : Nat} {G C : Nat → Nat} {A : Mt q} {F : Nat → Value} (h : RwK B w H m N k G C A) (hb : Below w.heap.size w w') (hg : w.heap.size ≤ g) (hB : B ≤ w.heap.size) (hc : N ≤ c ∧ c ≤ maxLen) (hr : w'.rowIs g 2 c F) (hF : ∀ j, j < N → F j = .int .i64 (fv (A k j))) :
    RwK B (w'.setCell ⟨H, k, none⟩ (.slice (some ⟨g, 0, none⟩) N c)) H m N (k + 1) (fun i => if i = k then g else G i) (fun i => if i = k then c else C i) A where
  list := ((rowIs_on h.list hb).set k _).congr fun t _ => by
    by_cases e : t = k
    · subst e; rw [if_pos rfl, if_pos (by omega)]; simp
    · rw [if_neg e]
      by_cases h : t < k
      · rw [if_pos h, if_pos (by omega)]; simp [e]
      · rw [if_neg h, if_neg (by omega)]
  cap := fun i hi => by
    by_cases e : i = k
    · simp only [e, if_true]; exact hc
    · simp only [e, if_false]; exact h.cap i (by omega)
  own := fun i hi => by
    have hH := h.list.lt
    by_cases e : i = k
    · simp only [e, if_true]; exact ⟨by omega, by omega⟩
    · simp only [e, if_false]; exact h.own i (by omega)
  row := fun i hi => by
    have hH := h.list.lt
    by_cases e : i = k
    · subst e; simp only [if_true]; exact ⟨F, rowIs_setO hr (by omega) _, hF⟩
    · simp only [e, if_false]
      obtain ⟨F', h1, h2⟩ := h.row i (by omega)
      exact ⟨F', rowIs_setO (rowIs_on h1 hb) (h.own i (by omega)).2 _, h2⟩
  dis := fun i j hi hj hij => by
    have lt : ∀ i, i < k → G i < w.heap.size := fun i hi => by obtain ⟨F', h1, _⟩ := h.row i hi; exact h1.lt
    by_cases e : i = k
    · by_cases e2 : j = k
      · omega
      · simp only [e, e2, if_true, if_false]; have := lt j (by omega); omega
    · by_cases e2 : j = k
      · simp only [e, e2, if_true, if_false]; have := lt i (by omega); omega
      · simp only [e, e2, if_false]; exact h.dis i j (by omega) (by omega) hij
theorem own_some {w : World} {B n : Nat} {v : Value} {xs : List Value} (h : w.ownsRow B 2 1 v n xs) (hv : v ≠ .slice none 0 0) : ∃ g cap, v = .slice (some ⟨g, 0, none⟩) n cap ∧ B ≤ g ∧ n ≤ cap ∧ cap ≤ maxLen ∧ ∃ F, w.rowIs g 2 cap F ∧ ∀ j u, xs[j]? = some u → F j = u := by
  obtain ⟨hx, ⟨rfl, _⟩ | ⟨g, cap, cur, rfl, hg, hcur, h1, h2, h3, h4⟩⟩ := h
  · exact absurd rfl hv
  · refine ⟨g, cap, rfl, hg, h1, h2, fun i => cur.getD i undef, ⟨cur, hcur, by omega, fun i hi => ?_⟩, fun j u hj => ?_⟩
    · rw [Array.getElem?_eq_getElem (by omega)]
      simp [Array.getD, show i < cur.size by omega]
    · rw [← h4] at hj
      have hjn : j < n * 1 := by
        have := (List.getElem?_eq_some_iff.1 hj).1
        simp at this; omega
      rw [List.getElem?_take_of_lt hjn] at hj
      simp only [Array.getElem?_toList] at hj
      simp [Array.getD_eq_getD_getElem?, hj]
set_option maxRecDepth 100000 in
set_option maxHeartbeats 3200000 in
theorem copied_any {q m N : Nat} [NeZero q] {A : Mt q} {v : Value} {w : World} (hv : RowsC w v m (rowL N A)) (hm : m ≤ 1048576) (hN : N ≤ 64) (hN0 : 0 < N) :
    Calls Try.prog 113 #[v] w fun e w' => ∃ H G C, e = .returned (.slice (some ⟨H, 0, none⟩) m m) ∧ w.heap.size ≤ H ∧ RwK (H + 1) w' H m N m G C A ∧ Below w.heap.size w w' := by
  have hmk := run_make_row' (P := Try.prog) 70 24 (.slice none 0 0) 24 Try.underlying70 info_s rfl .i64 .i64 m (by omega) (by omega)
  have HV := Lib.hid hv
  obtain ⟨a1, k1, rfl, -, -⟩ := hv
  go_enter Try.func113, Try.ntmps113
  go_wp2_with fail
  have hrow := World.rowIs_made w (.slice none 0 0) m 24
  have bb := (Below.refl w.heap.size w).alloc (Nat.le_refl _) (.cells (madeCells #[.slice none 0 0] m) 24)
  generalize hW : World.alloc w (.cells (madeCells #[.slice none 0 0] m) 24) = W1 at hrow bb ⊢
  obtain ⟨H, hH⟩ : ∃ H, w.heap.size = H := ⟨_, rfl⟩
  rw [hH] at hrow ⊢
  have HB := Lib.hid bb
  have HR := Lib.hid hrow
  have hs1 : H + 1 ≤ W1.heap.size := by rw [← hW, ← hH]; simp
  clear hrow bb hW hmk
  go_loopw [10] (fun i wr => ∃ (k : Nat) (G C : Nat → Nat), k ≤ m ∧ i = .int .i64 (k : Int) ∧ Hid (RwK (H + 1) wr H m N k G C A) ∧ Hid (W1.grownBy wr (some H))) (fun i _ => m - (intOf i).toNat)
  case atStart => exact ⟨0, fun _ => 0, fun _ => 0, Nat.zero_le _, rfl, ⟨HR.out.congr fun t _ => by rw [if_neg (by omega)], fun i h => by omega, fun i h => by omega, fun i h => by omega, fun i j h => by omega⟩, grown_refl _ _⟩
  case round =>
    obtain ⟨k, G, C, hk, rfl, HX, HG⟩ := hrel
    by_cases hlt : k < m
    · have HBW := Lib.hid (below_gb HB.out HG.out (by omega) (by omega))
      have hsz := HG.out.size
      obtain ⟨_, _, e, _, h0 | ⟨Ha, oa, e2, hHa, hca⟩⟩ := HV.out
      · omega
      simp only [Value.slice.injEq, true_and] at e
      obtain ⟨rfl, rfl⟩ := e
      subst e2
      have hHa' : Ha < w.heap.size := by omega
      obtain ⟨u1, hu1, i1⟩ := hca k hlt
      have d1 := (HBW.out.cell (p := ⟨Ha, oa + k, none⟩) hHa').trans hu1
      have hS := (i1.on HBW.out).src (by rw [rowL_len]; omega)
      obtain ⟨⟨ax, cx, rfl, -, hi2⟩, -⟩ := i1
      have hax : ∃ b o, ax = some ⟨b, o, none⟩ := by
        rcases hi2 with h | ⟨b, o, rfl, _⟩
        · have := congrArg List.length h; rw [rowL_len] at this; simp at this; omega
        · exact ⟨b, o, rfl⟩
      obtain ⟨b, o, rfl⟩ := hax
      simp only [rowL_len] at d1 hS
      have HS := Lib.hid hS
      have d3 := HX.out.list.cell hlt
      have d4 := HX.out.list.frozen k
      rw [if_neg (Nat.lt_irrefl _)] at d3
      have k0 : (0 : Int) ≤ (k : Int) := by omega
      have k3 : (k : Int) < (m : Int) := by omega
      clear hca hu1 hi2 hS
      go_wp2_with fail
      refine (cloneI_some (xs := iv (rowL N A k)) _ HS.out (by rw [iv_len, rowL_len]) iv_one).mono ?_
      rintro e wc ⟨vc, rfl, hoc, hnn, hbc⟩
      obtain ⟨g, cp, rfl, hg, hc1, hc2, F, hF, hFv⟩ := own_some hoc hnn
      have hFF : ∀ j, j < N → F j = .int .i64 (fv (A k j)) := fun j hj => by
        have hl : j < (rowL N A k).length := by rw [rowL_len]; exact hj
        exact hFv j _ (by rw [iv_at _ j hl, rowL_at])
      have HX2 := Lib.hid (HX.out.next hbc hg (by omega) ⟨hc1, hc2⟩ hF hFF)
      have HG2 : Hid (W1.grownBy (wc.setCell ⟨H, k, none⟩ (.slice (some ⟨g, 0, none⟩) N cp)) (some H)) := gb_set (gb_trans HG.out (gb_below hbc (some H))) _
      have d5 := (rowIs_on HX.out.list hbc).cell hlt
      have d6 := (rowIs_on HX.out.list hbc).frozen k
      rw [if_neg (Nat.lt_irrefl _)] at d5
      clear HX HG hoc hnn hF hFv hFF d3 d4 hbc
      go_wp2
      go_roundw
      case rel => exact ⟨k + 1, _, _, by omega, by go_num, HX2.out, HG2.out⟩
      case measure => simp [intOf]; omega
    · obtain rfl : k = m := by omega
      go_wp2
      go_ret
      exact ⟨_, _, _, rfl, by omega, HX.out, below_gb HB.out HG.out (by omega) (by omega)⟩
/-- Two values exchanged. -/
def sw {α : Type} (f : Nat → α) (a b i : Nat) : α := if i = a then f b else if i = b then f a else f i
theorem sw_swapR {q : Nat} [NeZero q] (A : Mt q) (a b i j : Nat) : swapR A a b i j = sw (fun i => A i j) a b i := rfl
theorem sw_of {α : Type} {f : Nat → α} {a b m : Nat} (P : Nat → α → Prop) (ha : a < m) (hb : b < m) (h : ∀ i, i < m → P i (f i)) (i : Nat) (hi : i < m) : ∃ j, j < m ∧ sw f a b i = f j := by
  unfold sw
  by_cases e : i = a
  · exact ⟨b, hb, by rw [if_pos e]⟩
  · by_cases e2 : i = b
    · exact ⟨a, ha, by rw [if_neg e, if_pos e2]⟩
    · exact ⟨i, hi, by rw [if_neg e, if_neg e2]⟩
/-- The place that an exchange brings to place i. -/
def swi (a b i : Nat) : Nat := if i = a then b else if i = b then a else i
theorem swi_lt {a b i m : Nat} (ha : a < m) (hb : b < m) (hi : i < m) : swi a b i < m := by unfold swi; grind
theorem swi_inj {a b i j : Nat} (h : swi a b i = swi a b j) : i = j := by unfold swi at h; grind
theorem sw_is {α : Type} (f : Nat → α) (a b i : Nat) : sw f a b i = f (swi a b i) := by unfold sw swi; grind
theorem RwK.swap {q : Nat} [NeZero q] {B : Nat} {w : World} {H m N a b : Nat} {G C : Nat → Nat} {A : Mt q} (h : RwK B w H m N m G C A) (ha : a < m) (hb : b < m) (hab : a ≠ b) :
    RwK B ((w.setCell ⟨H, a, none⟩ (.slice (some ⟨G b, 0, none⟩) N (C b))).setCell ⟨H, b, none⟩ (.slice (some ⟨G a, 0, none⟩) N (C a))) H m N m (fun i => G (swi a b i)) (fun i => C (swi a b i)) (swapR A a b) where
  list := ((h.list.set a _).set b _).congr fun t ht => by
    unfold swi
    grind
  cap := fun i hi => h.cap _ (swi_lt ha hb hi)
  own := fun i hi => h.own _ (swi_lt ha hb hi)
  row := fun i hi => by
    obtain ⟨F, h1, h2⟩ := h.row _ (swi_lt ha hb hi)
    refine ⟨F, rowIs_setO (rowIs_setO h1 (h.own _ (swi_lt ha hb hi)).2 _) (h.own _ (swi_lt ha hb hi)).2 _, fun j hj => ?_⟩
    rw [h2 j hj, sw_swapR, sw_is]
  dis := fun i j hi hj hij => h.dis _ _ (swi_lt ha hb hi) (swi_lt ha hb hj) (fun e => hij (swi_inj e))
theorem RwK.drew {q : Nat} {B : Nat} {w : World} {H m N k : Nat} {G C : Nat → Nat} {A : Mt q} (h : RwK B w H m N k G C A) : RwK B w.drew H m N k G C A := ⟨h.list, h.cap, h.own, h.row, h.dis⟩
set_option maxRecDepth 100000 in
set_option maxHeartbeats 1600000 in
theorem exchange_any {q m N a b B H : Nat} [NeZero q] {A : Mt q} {G C : Nat → Nat} {w : World} (h : RwK B w H m N m G C A) (hm : m ≤ 1048576) (ha : a < m) (hb : b < m) (hab : a ≠ b) :
    Calls Try.prog 130 #[.slice (some ⟨H, 0, none⟩) m m, .int .i64 (a : Int), .int .i64 (b : Int)] w fun e w' => e = .returned (.tuple #[]) ∧ RwK B w' H m N m (fun i => G (swi a b i)) (fun i => C (swi a b i)) (swapR A a b) ∧ w.grownBy w' (some H) := by
  have d1 := h.list.cell ha
  have d2 := h.list.cell hb
  have f1 := h.list.frozen a
  have f2 := h.list.frozen b
  rw [if_pos ha] at d1
  rw [if_pos hb] at d2
  have a0 : (0 : Int) ≤ (a : Int) := by omega
  have a1 : (a : Int) < (m : Int) := by omega
  have b0 : (0 : Int) ≤ (b : Int) := by omega
  have b1 : (b : Int) < (m : Int) := by omega
  have n1 : ¬ a = b := hab
  have n2 : ¬ b = a := fun e => hab e.symm
  have HS := Lib.hid (h.swap ha hb hab)
  have HG : Hid (w.grownBy ((w.setCell ⟨H, a, none⟩ (.slice (some ⟨G b, 0, none⟩) N (C b))).setCell ⟨H, b, none⟩ (.slice (some ⟨G a, 0, none⟩) N (C a))) (some H)) := gb_set (gb_set (grown_refl _ _) _) _
  clear h
  obtain ⟨ga, hga⟩ : ∃ g, G a = g := ⟨_, rfl⟩
  obtain ⟨gb, hgb⟩ : ∃ g, G b = g := ⟨_, rfl⟩
  obtain ⟨ca, hca⟩ : ∃ g, C a = g := ⟨_, rfl⟩
  obtain ⟨cb, hcb⟩ : ∃ g, C b = g := ⟨_, rfl⟩
  rw [hga, hca] at d1 HS HG
  rw [hgb, hcb] at d2 HS HG
  clear hga hgb hca hcb
  go_enter Try.func130, Try.ntmps130
  go_wp2
  go_region
  go_wp2
  go_end0
  exact ⟨rfl, HS.out.drew, gb_drew HG.out⟩
end Go.Proofs.Ytpimnngomodnhaa

namespace Go.Proofs.Ytpimnngomodnhaa
open Go.RowKit
open Lin
set_option linter.unusedVariables false
set_option linter.unusedSectionVars false

/-- The block of a reduction: its rows' list, its prime, the inverses, the pivots, the factor. -/
structure PtR (w : World) (L H m : Nat) (q : Int) (zs : List Int) (piv : Value) (d : Int) : Prop where
  lt : L < w.heap.size
  rows : w.cell? ⟨L, 0, none⟩ = some (.slice (some ⟨H, 0, none⟩) m m)
  prime : w.cell? ⟨L, 1, none⟩ = some (.int .i64 q)
  inv : ∀ a, a < 251 → w.cell? ⟨L, 2 + a, none⟩ = some (.int .i64 (zs.getD a 0))
  piv : w.cell? ⟨L, 253, none⟩ = some piv
  fac : w.cell? ⟨L, 254, none⟩ = some (.int .i64 d)
  fz : Fz w L
theorem PtR.blk {w w' : World} {L H m : Nat} {q d : Int} {zs : List Int} {piv : Value} (h : PtR w L H m q zs piv d) (hs : w.heap.size ≤ w'.heap.size) (hb : w'.heap[L]? = w.heap[L]?) : PtR w' L H m q zs piv d :=
  have e : ∀ o, w'.cell? ⟨L, o, none⟩ = w.cell? ⟨L, o, none⟩ := fun o => World.cell?_of_block (w := w) hb
  ⟨Nat.lt_of_lt_of_le h.lt hs, (e _).trans h.rows, (e _).trans h.prime, fun a ha => (e _).trans (h.inv a ha), (e _).trans h.piv, (e _).trans h.fac, fun o => (World.frozen?_of_block (w := w) hb).trans (h.fz o)⟩
theorem PtR.on {w w' : World} {L H m : Nat} {q d : Int} {zs : List Int} {piv : Value} (h : PtR w L H m q zs piv d) (hb : Below w.heap.size w w') : PtR w' L H m q zs piv d := h.blk hb.size (hb.block L h.lt)
theorem PtR.gb {w w' : World} {L H m g : Nat} {q d : Int} {zs : List Int} {piv : Value} (h : PtR w L H m q zs piv d) (hg : w.grownBy w' (some g)) (hne : L ≠ g) : PtR w' L H m q zs piv d := h.blk hg.size (hg.block L h.lt (fun e => hne (by injection e)))
theorem PtR.drew {w : World} {L H m : Nat} {q d : Int} {zs : List Int} {piv : Value} (h : PtR w L H m q zs piv d) : PtR w.drew L H m q zs piv d := ⟨h.lt, h.rows, h.prime, h.inv, h.piv, h.fac, h.fz⟩
theorem PtR.setFac {w : World} {L H m : Nat} {q d : Int} {zs : List Int} {piv : Value} (h : PtR w L H m q zs piv d) (d' : Int) : PtR (w.setCell ⟨L, 254, none⟩ (.int .i64 d')) L H m q zs piv d' := by
  have e : ∀ o, o ≠ 254 → (w.setCell ⟨L, 254, none⟩ (.int .i64 d')).cell? ⟨L, o, none⟩ = w.cell? ⟨L, o, none⟩ := fun o ho => World.cell?_setCell_other _ _ _ _ (by intro k; exact ho (by injection k with _ k _; exact k.symm))
  exact ⟨by simpa using h.lt, (e _ (by omega)).trans h.rows, (e _ (by omega)).trans h.prime, fun a ha => (e _ (by omega)).trans (h.inv a ha), (e _ (by omega)).trans h.piv, World.cell?_setCell_same' _ _ _ (by rw [h.fac]; rfl), fun o => (World.frozen?_setCell _ _ _ _).trans (h.fz o)⟩
theorem PtR.setPiv {w : World} {L H m : Nat} {q d : Int} {zs : List Int} {piv : Value} (h : PtR w L H m q zs piv d) (v : Value) : PtR (w.setCell ⟨L, 253, none⟩ v) L H m q zs v d := by
  have e : ∀ o, o ≠ 253 → (w.setCell ⟨L, 253, none⟩ v).cell? ⟨L, o, none⟩ = w.cell? ⟨L, o, none⟩ := fun o ho => World.cell?_setCell_other _ _ _ _ (by intro k; exact ho (by injection k with _ k _; exact k.symm))
  exact ⟨by simpa using h.lt, (e _ (by omega)).trans h.rows, (e _ (by omega)).trans h.prime, fun a ha => (e _ (by omega)).trans (h.inv a ha), World.cell?_setCell_same' _ _ _ (by rw [h.piv]; rfl), (e _ (by omega)).trans h.fac, fun o => (World.frozen?_setCell _ _ _ _).trans (h.fz o)⟩
theorem RwK.gb {q : Nat} {B : Nat} {w w' : World} {H m N k g : Nat} {G C : Nat → Nat} {A : Mt q} (h : RwK B w H m N k G C A) (hg : w.grownBy w' (some g)) (h1 : H ≠ g) (h2 : ∀ i, i < k → G i ≠ g) : RwK B w' H m N k G C A where
  list := rowIs_gb h.list hg h1
  cap := h.cap
  own := h.own
  row := fun i hi => by obtain ⟨F, r1, r2⟩ := h.row i hi; exact ⟨F, rowIs_gb r1 hg (h2 i hi), r2⟩
  dis := h.dis
/-- One row turned into another. -/
theorem RwK.turn {q : Nat} {B : Nat} {w w' : World} {H m N t : Nat} {G C : Nat → Nat} {A A' : Mt q} {F : Nat → Value} (h : RwK B w H m N m G C A) (ht : t < m) (hg : w.grownBy w' (some (G t))) (hr : w'.rowIs (G t) 2 (C t) F) (hF : ∀ j, j < N → F j = .int .i64 (fv (A' t j))) (ho : ∀ i j, i < m → i ≠ t → j < N → A' i j = A i j) : RwK B w' H m N m G C A' where
  list := rowIs_gb h.list hg (fun e => (h.own t ht).2 e.symm)
  cap := h.cap
  own := h.own
  row := fun i hi => by
    by_cases e : i = t
    · subst e; exact ⟨F, hr, hF⟩
    · obtain ⟨F', r1, r2⟩ := h.row i hi
      exact ⟨F', rowIs_gb r1 hg (h.dis i t hi ht e), fun j hj => by rw [ho i j hi e hj]; exact r2 j hj⟩
  dis := h.dis
theorem RwK.congr {q : Nat} {B : Nat} {w : World} {H m N k : Nat} {G C : Nat → Nat} {A A' : Mt q} (h : RwK B w H m N k G C A) (e : ∀ i j, i < k → j < N → A' i j = A i j) : RwK B w H m N k G C A' :=
  ⟨h.list, h.cap, h.own, fun i hi => by obtain ⟨F, r1, r2⟩ := h.row i hi; exact ⟨F, r1, fun j hj => by rw [e i j hi hj]; exact r2 j hj⟩, h.dis⟩
/-- What lies beyond block L is as it was. -/
def Hi (L : Nat) (a w : World) : Prop := a.heap.size ≤ w.heap.size ∧ ∀ b, L < b → b < a.heap.size → w.heap[b]? = a.heap[b]?
theorem Hi.refl (L : Nat) (a : World) : Hi L a a := ⟨Nat.le_refl _, fun _ _ _ => rfl⟩
theorem Hi.gb {L g : Nat} {a w w' : World} (h : Hi L a w) (hg : w.grownBy w' (some g)) (hl : g ≤ L) : Hi L a w' := ⟨Nat.le_trans h.1 hg.size, fun b h1 h2 => (hg.block b (Nat.lt_of_lt_of_le h2 h.1) (fun e => by injection e; omega)).trans (h.2 b h1 h2)⟩
theorem Hi.trans {L : Nat} {a b c : World} (h : Hi L a b) (k : Hi L b c) : Hi L a c := ⟨Nat.le_trans h.1 k.1, fun i h1 h2 => (k.2 i h1 (Nat.lt_of_lt_of_le h2 h.1)).trans (h.2 i h1 h2)⟩
theorem Hi.below {L : Nat} {a w : World} (h : Below a.heap.size a w) : Hi L a w := ⟨h.size, fun b _ h2 => h.block b h2⟩
theorem OwnI.hi {L : Nat} {a w : World} {v : Value} {zs : List Int} (h : OwnI (L + 1) a v zs) (k : Hi L a w) : OwnI (L + 1) w v zs := by
  obtain ⟨hx, ⟨rfl, hn⟩ | ⟨g, cap, cur, rfl, hg, hcur, r⟩⟩ := h
  · exact ⟨hx, .inl ⟨rfl, hn⟩⟩
  · exact ⟨hx, .inr ⟨g, cap, cur, rfl, hg, (k.2 g (by omega) (Array.getElem?_eq_some_iff.1 hcur).1).trans hcur, r⟩⟩
/-- The pivot's row, t cells scaled. -/
def ScR {q : Nat} [NeZero q] (x : Fin q) (a : Nat → Fin q) (F : Nat → Value) (t j : Nat) : Value := if j < t then .int .i64 (fv (a j * x)) else F j
theorem scR_next {q : Nat} [NeZero q] (x : Fin q) (a : Nat → Fin q) (F : Nat → Value) (t j : Nat) : (if j = t then .int .i64 (fv (a t * x)) else ScR x a F t j) = ScR x a F (t + 1) j := by
  unfold ScR
  by_cases e : j = t
  · subst e; rw [if_pos rfl, if_pos (by omega)]
  · rw [if_neg e]
    by_cases h : j < t
    · rw [if_pos h, if_pos (by omega)]
    · rw [if_neg h, if_neg (by omega)]
set_option maxRecDepth 100000 in
set_option maxHeartbeats 1600000 in
theorem clear_any {q m N top k B L H : Nat} [NeZero q] {A : Mt q} {G C : Nat → Nat} {zs : List Int} {piv : Value} {d x : Fin q} {w : World} (hP : PtR w L H m q zs piv (fv d)) (hR : RwK B w H m N m G C A) (hq2 : 2 ≤ q) (hq : q ≤ 251) (hm : m ≤ 1048576) (hN : N ≤ 64) (ht : top < m) (hk : k < N)
    (hx : zs.getD (A top k).val 0 = fv x) (hGL : ∀ i, i < m → G i < L) (hHL : H < L) (hBL : B ≤ L) :
    Calls Try.prog 131 #[.pointer (some ⟨L, 0, none⟩), .int .i64 (top : Int), .int .i64 (k : Int)] w fun e w' => e = .returned (.tuple #[]) ∧ PtR w' L H m q zs piv (fv (d * A top k)) ∧ RwK B w' H m N m G C (addR (scaleR A top x) top (fun i => A i k)) ∧ Below B w w' ∧ Hi L w w' := by
  have hLG : ∀ i, i < m → G i ≠ L := fun i hi => Nat.ne_of_lt (hGL i hi)
  have hLH : H ≠ L := Nat.ne_of_lt hHL
  have kz : ¬ (q : Int) = 0 := by omega
  have kz2 : ¬ q = 0 := by omega
  obtain ⟨F, hr, hF⟩ := hR.row top ht
  have hc := hR.cap top ht
  have ho := hR.own top ht
  have d1 := hR.list.cell ht
  rw [if_pos ht] at d1
  have d2 := hr.cell (i := k) (by omega)
  rw [hF k hk] at d2
  have p0 := hP.rows
  have p1 := hP.prime
  have p4 := hP.fac
  have pf := hP.fz 254
  have t0 : (0 : Int) ≤ (top : Int) := by omega
  have t1 : (top : Int) < (m : Int) := by omega
  have c0 : (0 : Int) ≤ (k : Int) := by omega
  have c1 : (k : Int) < (N : Int) := by omega
  have pv2 : (A top k).val < q := (A top k).isLt
  have hfm : fv d * fv (A top k) % q = fv (d * A top k) := fv_mul d (A top k)
  have hpe : fv (A top k) = ((A top k).val : Int) := rfl
  obtain ⟨pv, hpv⟩ : ∃ pv : Nat, (A top k).val = pv := ⟨_, rfl⟩
  rw [hpv] at hpe pv2 hx
  rw [hpe] at d2 hfm
  have pi := hP.inv pv (by omega)
  rw [hx] at pi
  have b0 := fv_nn d
  have b1 := fv_lt d
  have m0 : 0 ≤ fv d * (pv : Int) := Int.mul_nonneg b0 (by omega)
  have m1 : fv d * (pv : Int) ≤ 251 * 251 := Int.mul_le_mul (by omega) (by omega) (by omega) (by omega)
  obtain ⟨Z, hZ⟩ : ∃ Z, fv d * (pv : Int) = Z := ⟨_, rfl⟩
  rw [hZ] at m0 m1 hfm
  have m2 : IntKind.i64.wrap (fv d * (pv : Int)) = Z := by rw [hZ]; exact IntWalk.i64_in _ (by omega)
  have m3 : Z.tmod q = fv (d * A top k) := by rw [Int.tmod_eq_emod_of_nonneg m0]; exact hfm
  obtain ⟨D, hD⟩ : ∃ D, fv (d * A top k) = D := ⟨_, rfl⟩
  rw [hD] at m3 ⊢
  have v0 : (0 : Int) ≤ (pv : Int) := by omega
  have v1 : (pv : Int) < 251 := by omega
  have HP := Lib.hid hP
  have HR := Lib.hid hR
  have HF := Lib.hid hF
  have HW := Lib.hid hr
  have gT : Hid (G top = G top) := rfl
  have HXV := Lib.hid hx
  clear hP hR hr hx hZ hfm hpe hpv hD
  go_enter Try.func131, Try.ntmps131
  go_wp2_with fail
  go_still_tail 14, (by kernel_rfl)
  change wpList _ _ _ _ _ w.drew
  go_wp2_with fail
  have hg1 : w.grownBy (w.setCell ⟨L, 254, none⟩ (.int .i64 D)).drew (some L) := gb_drew (gb_set (grown_refl _ _) _)
  have hb1 : Below B w (w.setCell ⟨L, 254, none⟩ (.int .i64 D)).drew := drew_below (Below.setC (Below.refl _ _) hBL _)
  have hp1 := (HP.out.setFac D).drew
  generalize hW1 : (w.setCell ⟨L, 254, none⟩ (.int .i64 D)).drew = W1 at hg1 hb1 hp1 ⊢
  have HP1 := Lib.hid hp1
  have HR1 := Lib.hid (HR.out.gb hg1 hLH hLG)
  have HB1 := Lib.hid hb1
  have HI1 := Lib.hid ((Hi.refl L w).gb hg1 (Nat.le_refl _))
  have HW1 := Lib.hid (rowIs_gb HW.out hg1 (hLG top ht))
  clear hW1 hg1 hb1 hp1 d1 d2 p0 p1 p4 pf pi
  go_loopw [39] (fun s wr => ∃ t : Nat, t ≤ N ∧ s = .int .i64 (t : Int) ∧ Hid (wr.rowIs (G top) 2 (C top) (ScR x (A top) F t)) ∧ Hid (W1.grownBy wr (some (G top)))) (fun s _ => N - (intOf s).toNat)
  case atStart => exact ⟨0, Nat.zero_le _, rfl, HW1.out.congr fun j _ => by unfold ScR; rw [if_neg (by omega)], grown_refl _ _⟩
  case round =>
    obtain ⟨t, ht', rfl, HX, HG⟩ := hrel
    by_cases hlt : t < N
    · have e1 := HX.out.cell (i := t) (by omega)
      have e2 := HX.out.frozen t
      rw [show ScR x (A top) F t t = .int .i64 (fv (A top t)) by unfold ScR; rw [if_neg (Nat.lt_irrefl _)]; exact HF.out t hlt] at e1
      have hP := HP1.out.gb HG.out (fun e => hLG top ht e.symm)
      have p1 := hP.prime
      have pi := hP.inv pv (by omega)
      rw [HXV.out] at pi
      have k0 : (0 : Int) ≤ (t : Int) := by omega
      have k1 : (t : Int) < (N : Int) := by omega
      have y0 := fv_nn (A top t)
      have y1 := fv_lt (A top t)
      have x0 := fv_nn x
      have x1 := fv_lt x
      have hyx := fv_mul (A top t) x
      have HN := Lib.hid (fun j => scR_next x (A top) F t j)
      obtain ⟨y, hy⟩ : ∃ y, fv (A top t) = y := ⟨_, rfl⟩
      rw [hy] at e1 y0 y1 hyx
      obtain ⟨xv, hxv⟩ : ∃ y, fv x = y := ⟨_, rfl⟩
      have xy0 : 0 ≤ y * xv := by rw [← hxv]; exact Int.mul_nonneg y0 x0
      have xy1 : y * xv ≤ 251 * 251 := by rw [← hxv]; exact Int.mul_le_mul (by omega) (by omega) x0 (by omega)
      rw [hxv] at hyx pi x0 x1
      obtain ⟨Z2, hZ2⟩ : ∃ Z, y * xv = Z := ⟨_, rfl⟩
      rw [hZ2] at hyx xy0 xy1
      have z1 : IntKind.i64.wrap (y * xv) = Z2 := by rw [hZ2]; exact IntWalk.i64_in _ (by omega)
      have z2 : Z2.tmod q = fv (A top t * x) := by rw [Int.tmod_eq_emod_of_nonneg xy0]; exact hyx
      obtain ⟨V, hV⟩ : ∃ V, fv (A top t * x) = V := ⟨_, rfl⟩
      rw [hV] at z2 HN
      have HX2 : Hid ((wr.setCell ⟨G top, t, none⟩ (.int .i64 V)).drew.rowIs (G top) 2 (C top) (ScR x (A top) F (t + 1))) := ((HX.out.set t _).congr fun j _ => HN.out j).drew
      have HG2 : Hid (W1.grownBy (wr.setCell ⟨G top, t, none⟩ (.int .i64 V)).drew (some (G top))) := gb_drew (gb_set HG.out _)
      clear hP hy hxv hyx hZ2 hV HN HX HG
      go_wp2_with fail
      go_still_tail 16, (by kernel_rfl)
      change wpList _ _ _ _ _ wr.drew
      go_wp2
      go_roundw
      case rel => exact ⟨t + 1, by omega, by go_num, HX2.out, HG2.out⟩
      case measure => simp [intOf]; omega
    · obtain rfl : N = t := by omega
      have hP2 := HP1.out.gb HG.out (fun e => hLG top ht e.symm)
      have hR2 := HR1.out.turn (A' := scaleR A top x) ht HG.out HX.out (fun j hj => by unfold ScR scaleR; rw [if_pos hj, if_pos rfl]) (fun i j hi he hj => by unfold scaleR; rw [if_neg he])
      have hB2 : Below B w wr := HB1.out.trans ⟨HG.out.os, HG.out.tape, HG.out.output, by have := HB1.out.size; have := HG.out.size; omega, fun b hb => HG.out.block b (by have := HP1.out.lt; omega) (fun e => by injection e; omega)⟩
      have p0 := hP2.rows
      have HPa := Lib.hid hP2
      have HRa := Lib.hid hR2
      have HBa := Lib.hid hB2
      have HIa := Lib.hid (HI1.out.gb HG.out (Nat.le_of_lt (hGL top ht)))
      have HA0 : Hid (∀ i j, addL (scaleR A top x) top (fun i => A i k) 0 i j = scaleR A top x i j) := by
        show ∀ i j, _
        intro i j; unfold addL
        by_cases e : i = top
        · rw [if_pos e]
        · rw [if_neg e, if_neg (by omega)]
      clear hP2 hR2 hB2 HX HG HP1 HR1 HB1 HW1
      go_wp2_with fail
      go_loopw [66] (fun s wz => ∃ i : Nat, i ≤ m ∧ s = .int .i64 (i : Int) ∧ Hid (RwK B wz H m N m G C (addL (scaleR A top x) top (fun i => A i k) i)) ∧ Hid (PtR wz L H m q zs piv D) ∧ Hid (Below B w wz) ∧ Hid (Hi L w wz)) (fun s _ => m - (intOf s).toNat)
      case atStart => exact ⟨0, Nat.zero_le _, rfl, HRa.out.congr fun i j _ _ => HA0.out i j, HPa.out, HBa.out, HIa.out⟩
      case round =>
        obtain ⟨i, hi, rfl, HX, HQ, HBB, HII⟩ := hrel
        by_cases hlt : i < m
        · have d1 := HX.out.list.cell hlt
          rw [if_pos hlt] at d1
          have i0 : (0 : Int) ≤ (i : Int) := by omega
          have i1 : (i : Int) < (m : Int) := by omega
          by_cases e : i = top
          · have et : ((i : Int) != (top : Int)) = false := by subst e; simp
            have e' : top = i := e.symm
            subst e'
            have HX2 : Hid (RwK B wr H m N m G C (addL (scaleR A top x) top (fun i => A i k) (top + 1))) := HX.out.congr fun i' j _ _ => by
              unfold addL
              by_cases e1 : i' = top
              · rw [if_pos e1, if_pos e1]
              · rw [if_neg e1, if_neg e1]
                by_cases e2 : i' < top
                · rw [if_pos e2, if_pos (by omega)]
                · rw [if_neg e2, if_neg (by omega)]
            clear HX
            go_wp2
            go_roundw
            case rel => exact ⟨top + 1, by omega, by go_num, HX2.out, HQ.out, HBB.out, HII.out⟩
            case measure => simp [intOf]; omega
          · have et : ((i : Int) != (top : Int)) = true := by simp; omega
            obtain ⟨Fi, ri, hFi⟩ := HX.out.row i hlt
            obtain ⟨Ft, rt, hFt⟩ := HX.out.row top ht
            have ci := HX.out.cap i hlt
            have ne := HX.out.dis top i ht hlt (fun h => e h.symm)
            have hAi : ∀ j, addL (scaleR A top x) top (fun i => A i k) i i j = A i j := fun j => by
              unfold addL scaleR
              rw [if_neg e, if_neg (Nat.lt_irrefl _), if_neg e]
            have hAt : ∀ j, addL (scaleR A top x) top (fun i => A i k) i top j = A top j * x := fun j => by
              unfold addL scaleR
              rw [if_pos rfl, if_pos rfl]
            have d2 := ri.cell (i := k) (by omega)
            rw [hFi k hk, hAi] at d2
            have p1 := HQ.out.prime
            have y0 := fv_nn (A i k)
            have y1 := fv_lt (A i k)
            have hneg : fv (-(A i k)) = (-fv (A i k)) % q := (fv_neg (A i k)).symm
            obtain ⟨y, hy⟩ : ∃ y, fv (A i k) = y := ⟨_, rfl⟩
            rw [hy] at d2 y0 y1 hneg
            have n1 : IntKind.i64.wrap (-y) = -y := IntWalk.i64_in _ (by omega)
            have HRI := Lib.hid ri.drew
            have HFX : Hid (∀ j, j < N → Fi (0 + j) = .int .i64 (fv (A i j))) := by
              show ∀ j, _
              intro j hj; rw [Nat.zero_add, hFi j hj, hAi]
            have HFY : Hid (∀ j, j < N → ∃ b o, some (⟨G top, 0, none⟩ : Addr) = some ⟨b, o, none⟩ ∧ b ≠ G i ∧ b < wr.drew.heap.size ∧ wr.drew.cell? ⟨b, o + j, none⟩ = some (.int .i64 (fv (A top j * x)))) := by
              show ∀ j, _
              intro j hj
              refine ⟨G top, 0, rfl, ne, rt.lt, ?_⟩
              have := rt.drew.cell (i := j) (by omega)
              rw [hFt j hj, hAt] at this
              rw [Nat.zero_add]; exact this
            have hcc := (implMod_any (-y) (q : Int) wr.drew (by omega) (by omega)).mono (fun e w' (h : e = .returned (.int .i64 ((-y) % q)) ∧ wr.drew = w') => (⟨h.1, h.2.symm⟩ : e = .returned (.int .i64 ((-y) % q)) ∧ w' = wr.drew))
            obtain ⟨Y, hY⟩ : ∃ Y, (-y) % (q : Int) = Y := ⟨_, rfl⟩
            rw [hY] at hcc hneg
            have HCC := Lib.hid hcc
            have HFI := Lib.hid hFi
            clear hcc hY hFi hFt rt ri
            go_wp2_with fail
            go_still_tail 16, (by kernel_rfl)
            still_call HCC.out
            repeat still_step
            refine wpStill_nil ?_
            change wpList _ _ _ _ _ wr.drew
            go_wp2_with fail
            refine (addMul_at (os := 0) (X := fun j => A i j) (Y := fun j => A top j * x) (c := -(A i k)) hneg hq2 hq (by omega) HRI.out (by omega) (Nat.le_refl _) (by unfold maxLen; omega) HFX.out HFY.out).mono ?_
            rintro e w' ⟨rfl, hr2, hg2'⟩
            have hg2 := gb_undrew hg2'
            have HX2 : Hid (RwK B w' H m N m G C (addL (scaleR A top x) top (fun i => A i k) (i + 1))) := HX.out.turn hlt hg2 hr2 (fun j hj => by
                unfold AddF
                rw [if_pos (by omega), Nat.sub_zero]
                unfold addL scaleR
                rw [if_neg e, if_pos (by omega), if_neg e, if_pos rfl]
                congr 2
                grind) (fun i' j hi' hne hj => by
                unfold addL
                by_cases e1 : i' = top
                · rw [if_pos e1, if_pos e1]
                · rw [if_neg e1, if_neg e1]
                  by_cases e2 : i' < i
                  · rw [if_pos e2, if_pos (by omega)]
                  · rw [if_neg e2, if_neg (by omega)])
            have HQ2 := Lib.hid (HQ.out.gb hg2 (fun h => hLG i hlt h.symm))
            have oi := HX.out.own i hlt
            have HB2 : Hid (Below B w w') := HBB.out.trans ⟨hg2.os, hg2.tape, hg2.output, by have := HQ.out.lt; have := hg2.size; omega, fun b hb => hg2.block b (by have := HQ.out.lt; omega) (fun e => by injection e; omega)⟩
            have HI2 := Lib.hid (HII.out.gb hg2 (Nat.le_of_lt (hGL i hlt)))
            clear hr2 hg2 hg2' HX HQ HBB HII
            go_wp2
            go_roundw
            case rel => exact ⟨i + 1, by omega, by go_num, HX2.out, HQ2.out, HB2.out, HI2.out⟩
            case measure => simp [intOf]; omega
        · obtain rfl : i = m := by omega
          go_wp2
          go_end0
          refine ⟨rfl, HQ.out, HX.out.congr fun i' j hi' _ => ?_, HBB.out, HII.out⟩
          unfold addR addL scaleR
          by_cases e1 : i' = top
          · simp [e1]
          · simp [e1, hi']
end Go.Proofs.Ytpimnngomodnhaa

namespace Go.Proofs.Ytpimnngomodnhaa
open Go.RowKit
open Lin
set_option linter.unusedVariables false
set_option linter.unusedSectionVars false

set_option maxRecDepth 100000 in
set_option maxHeartbeats 1600000 in
theorem hasPiv_any {g N c k Kb : Nat} {y : Int} {b : Bool} {w : World} (hK : w.cell? ⟨Kb, 0, none⟩ = some (.int .i64 (k : Int))) (hc : w.cell? ⟨g, k, none⟩ = some (.int .i64 y)) (hk : k < N) (hb : (y != 0) = b) :
    Calls Try.prog 129 #[.slice (some ⟨g, 0, none⟩) N c, .pointer (some ⟨Kb, 0, none⟩)] w fun e w' => e = .returned (.bool b) ∧ w = w' := by
  have c0 : (0 : Int) ≤ (k : Int) := by omega
  have c1 : (k : Int) < (N : Int) := by omega
  go_enter Try.func129, Try.ntmps129
  go_wp2
  go_ret
  exact ⟨rfl, rfl⟩
set_option maxRecDepth 100000 in
set_option maxHeartbeats 1600000 in
theorem search_nil {a : Option Addr} {c : Nat} {fv' : Value} (w : World) :
    Calls Try.prog 128 #[.slice a 0 c, fv'] w fun e w' => e = .returned (.int .i64 (-1)) ∧ w = w' := by
  go_enter Try.func128, Try.ntmps128
  go_wp2
  refine wp_loop_rounds 1 ?_
  rw [rounds_succ]
  go_wp2
  go_ret
  exact ⟨rfl, rfl⟩
set_option maxRecDepth 100000 in
set_option maxHeartbeats 3200000 in
theorem search_some {q m N top k B H Kb x n c : Nat} [NeZero q] {A : Mt q} {G C : Nat → Nat} {w : World} (hR : RwK B w H m N m G C A) (hK : w.cell? ⟨Kb, 0, none⟩ = some (.int .i64 (k : Int))) (hk : k < N) (hm : m ≤ 1048576) (hn : top + n = m) (hs : IsSeek A k m top x) :
    Calls Try.prog 128 #[.slice (some ⟨H, top, none⟩) n c, .func (.func 129) #[] #[.pointer (some ⟨Kb, 0, none⟩)]] w fun e w' => e = .returned (.int .i64 (if x < m then ((x - top : Nat) : Int) else -1)) ∧ w = w' := by
  obtain ⟨h1, h2, h3, h4⟩ := hs
  have HR := Lib.hid hR
  have H3 := Lib.hid h3
  have H4 := Lib.hid h4
  clear hR h3 h4
  go_enter Try.func128, Try.ntmps128
  go_wp2_with fail
  go_loopw [8] (fun s wr => ∃ i : Nat, i ≤ n ∧ top + i ≤ x ∧ s = .int .i64 (i : Int) ∧ w = wr) (fun s _ => n - (intOf s).toNat)
  case atStart => exact ⟨0, Nat.zero_le _, by omega, rfl, rfl⟩
  case round =>
    obtain ⟨i, hi, hx, rfl, rfl⟩ := hrel
    by_cases hlt : i < n
    · have hl : top + i < m := by omega
      have d1 := HR.out.list.cell hl
      rw [if_pos hl] at d1
      obtain ⟨F, r1, r2⟩ := HR.out.row (top + i) hl
      have ci := HR.out.cap (top + i) hl
      have d2 := r1.cell (i := k) (by omega)
      rw [r2 k hk] at d2
      have i0 : (0 : Int) ≤ (i : Int) := by omega
      have i1 : (i : Int) < (n : Int) := by omega
      clear r1 r2
      by_cases hz : A (top + i) k = 0
      · have hb : (fv (A (top + i) k) != 0) = false := by rw [hz, fv_zero]; rfl
        have hne : top + i ≠ x := fun e => by
          have := H4.out (by omega)
          rw [← e] at this
          exact this hz
        go_wp2_with fail
        refine (hasPiv_any hK d2 hk hb).mono ?_
        rintro e w' ⟨rfl, rfl⟩
        go_wp2
        go_roundw
        case rel => exact ⟨i + 1, by omega, by omega, by go_num, by first | rfl | trivial⟩
        case measure => simp [intOf]; omega
      · have hb : (fv (A (top + i) k) != 0) = true := by
          have : fv (A (top + i) k) ≠ 0 := fun e => hz (fv_eq_zero.1 e)
          simpa using this
        have hxe : x = top + i := by
          rcases Nat.lt_or_ge (top + i) x with h | h
          · exact absurd (H3.out (top + i) (by omega) h) hz
          · omega
        have hxi : x - top = i := by omega
        have hxm : x < m := by omega
        go_wp2_with fail
        refine (hasPiv_any hK d2 hk hb).mono ?_
        rintro e w' ⟨rfl, rfl⟩
        go_wp2
        go_ret
        exact ⟨by first | rfl | (rw [if_pos hxm, hxi]; rfl) | (rw [hxi]; rfl), rfl⟩
    · obtain rfl : i = n := by omega
      have hxm : ¬ x < m := by omega
      go_wp2
      go_ret
      exact ⟨by first | rfl | (rw [if_neg hxm]; rfl), rfl⟩
end Go.Proofs.Ytpimnngomodnhaa

namespace Go.Proofs.Ytpimnngomodnhaa
open Go.RowKit
open Lin
set_option linter.unusedVariables false
set_option linter.unusedSectionVars false

/-- Pivots as numbers. -/
def pivI (l : List Nat) : List Int := l.map fun (t : Nat) => (t : Int)
theorem pivI_len (l : List Nat) : (pivI l).length = l.length := by simp [pivI]
/-- What a reduction holds: its block, its rows, its pivots. -/
structure RedS {q : Nat} [NeZero q] (B : Nat) (w : World) (L H m N : Nat) (zs : List Int) (s : St q) : Prop where
  ex : ∃ (G C : Nat → Nat) (pv : Value), PtR w L H m q zs pv (fv s.d) ∧ RwK B w H m N m G C s.A ∧ OwnI (L + 1) w pv (pivI s.piv) ∧ ∀ i, i < m → G i < L
theorem one_src (w : World) (k : Nat) : SrcAt (w.alloc (.cells #[.int .i64 (k : Int)] 2)) (.slice (some ⟨w.heap.size, 0, none⟩) 1 1) (iv [(k : Int)]) := by
  refine ⟨_, 1, rfl, by simp [iv], .inr ⟨w.heap.size, 0, rfl, .inr (by simp), fun j u hj => ?_⟩⟩
  have hj0 : j = 0 := by
    have := (List.getElem?_eq_some_iff.1 hj).1
    simpa [iv] using this
  subst hj0
  rw [World.cell?_alloc_at _ _ _ _ rfl]
  simpa [iv] using hj
theorem RwK.blk {q : Nat} {B : Nat} {w w' : World} {H m N k : Nat} {G C : Nat → Nat} {A : Mt q} (h : RwK B w H m N k G C A) (hs : w.heap.size ≤ w'.heap.size) (hH : w'.heap[H]? = w.heap[H]?) (hG : ∀ i, i < k → w'.heap[G i]? = w.heap[G i]?) : RwK B w' H m N k G C A where
  list := h.list.of_block hH
  cap := h.cap
  own := h.own
  row := fun i hi => by obtain ⟨F, r1, r2⟩ := h.row i hi; exact ⟨F, r1.of_block (hG i hi), r2⟩
  dis := h.dis
theorem stepK_none {q : Nat} [NeZero q] {s : St q} {m k x : Nat} (hx : IsSeek s.A k m s.top x) (hle : s.top ≤ m) (h : ¬ x < m) : stepK m k s = s := by
  have := IsSeek.one hx (seek_is s.A k m (m - s.top) s.top (by omega))
  unfold stepK
  rw [← this, if_neg h]
theorem stepK_some {q : Nat} [NeZero q] {s : St q} {m k x : Nat} (hx : IsSeek s.A k m s.top x) (hle : s.top ≤ m) (h : x < m) : stepK m k s = pivot s k x := by
  have := IsSeek.one hx (seek_is s.A k m (m - s.top) s.top (by omega))
  unfold stepK
  rw [← this, if_pos h]
set_option maxRecDepth 100000 in
set_option maxHeartbeats 1600000 in
theorem addPivot_full {q m N k T B L H : Nat} [NeZero q] {s : St q} {zs : List Int} {w : World} (hS : RedS B w L H m N zs s) (hT : s.top = T) (hTl : s.piv.length = T) (hm0 : T = m) (hz : ∀ a : Fin q, a ≠ 0 → zs.getD a.val 0 = fv (finv a)) (hq2 : 2 ≤ q) (hq : q ≤ 251) (hm : m ≤ 1048576) (hN : N ≤ 64) (hk : k < N) (hHL : H < L) (hBH : B ≤ H) :
    Calls Try.prog 115 #[.pointer (some ⟨L, 0, none⟩), .int .i64 (k : Int)] w fun e w' => e = .returned (.tuple #[]) ∧ RedS B w' L H m N zs (s) ∧ Below B w w' := by
  obtain ⟨G, C, pv, hP0, hR0, hO0, hGL⟩ := hS.ex
  obtain ⟨ap, cp, hpv⟩ := hO0.slice
  rw [pivI_len, hTl] at hpv
  subst hpv
  have bx := (Below.refl w.heap.size w).alloc (Nat.le_refl _) (.cells #[.int .i64 (k : Int)] 2)
  have hP := hP0.on bx
  have hR := hR0.on bx
  have hO := hO0.on bx
  have hK : (w.alloc (.cells #[.int .i64 (k : Int)] 2)).cell? ⟨w.heap.size, 0, none⟩ = some (.int .i64 (k : Int)) := by rw [World.cell?_alloc_at _ _ _ _ rfl]; rfl
  have lLw := hP0.lt
  have hBw : Below B w (w.alloc (.cells #[.int .i64 (k : Int)] 2)) := bx.mono (by omega)
  clear hP0 hR0 hO0 hS bx
  have p0 := hP.rows
  have p3 := hP.piv
  have T0 : (0 : Int) ≤ (T : Int) := by omega
  have T1 : (T : Int) ≤ (m : Int) := by omega
  have HP := Lib.hid hP
  have HR := Lib.hid hR
  have HO := Lib.hid hO
  have HBW := Lib.hid hBw
  have HZ := Lib.hid hz
  have HGL := Lib.hid hGL
  clear hP hR hO hBw hz hGL
  go_enter Try.func115, Try.ntmps115
  go_wp2_with fail
  have hs0 : m - T = 0 := by omega
  refine (search_nil _).mono ?_
  rintro e w' ⟨rfl, rfl⟩
  go_wp2
  refine bodyPost_ret (results_none rfl _ _ _) rfl ?_
  exact ⟨rfl, ⟨G, C, _, HP.out, HR.out, HO.out, HGL.out⟩, HBW.out⟩
set_option maxRecDepth 100000 in
set_option maxHeartbeats 1600000 in
theorem addPivot_none {q m N k T x B L H : Nat} [NeZero q] {s : St q} {zs : List Int} {w : World} (hS : RedS B w L H m N zs s) (hT : s.top = T) (hTl : s.piv.length = T) (hTm : T < m) (hx : IsSeek s.A k m T x) (hxm : ¬ x < m) (hz : ∀ a : Fin q, a ≠ 0 → zs.getD a.val 0 = fv (finv a)) (hq2 : 2 ≤ q) (hq : q ≤ 251) (hm : m ≤ 1048576) (hN : N ≤ 64) (hk : k < N) (hHL : H < L) (hBH : B ≤ H) :
    Calls Try.prog 115 #[.pointer (some ⟨L, 0, none⟩), .int .i64 (k : Int)] w fun e w' => e = .returned (.tuple #[]) ∧ RedS B w' L H m N zs (s) ∧ Below B w w' := by
  obtain ⟨G, C, pv, hP0, hR0, hO0, hGL⟩ := hS.ex
  obtain ⟨ap, cp, hpv⟩ := hO0.slice
  rw [pivI_len, hTl] at hpv
  subst hpv
  have bx := (Below.refl w.heap.size w).alloc (Nat.le_refl _) (.cells #[.int .i64 (k : Int)] 2)
  have hP := hP0.on bx
  have hR := hR0.on bx
  have hO := hO0.on bx
  have hK : (w.alloc (.cells #[.int .i64 (k : Int)] 2)).cell? ⟨w.heap.size, 0, none⟩ = some (.int .i64 (k : Int)) := by rw [World.cell?_alloc_at _ _ _ _ rfl]; rfl
  have lLw := hP0.lt
  have hBw : Below B w (w.alloc (.cells #[.int .i64 (k : Int)] 2)) := bx.mono (by omega)
  clear hP0 hR0 hO0 hS bx
  have p0 := hP.rows
  have p3 := hP.piv
  have T0 : (0 : Int) ≤ (T : Int) := by omega
  have T1 : (T : Int) ≤ (m : Int) := by omega
  have HP := Lib.hid hP
  have HR := Lib.hid hR
  have HO := Lib.hid hO
  have HBW := Lib.hid hBw
  have HZ := Lib.hid hz
  have HGL := Lib.hid hGL
  clear hP hR hO hBw hz hGL
  go_enter Try.func115, Try.ntmps115
  go_wp2_with fail
  have hs := search_some HR.out hK hk hm (by omega : T + (m - T) = m) hx (c := m - T)
  rw [if_neg hxm] at hs
  refine hs.mono ?_
  rintro e w' ⟨rfl, rfl⟩
  go_wp2
  refine bodyPost_ret (results_none rfl _ _ _) rfl ?_
  exact ⟨rfl, ⟨G, C, _, HP.out, HR.out, HO.out, HGL.out⟩, HBW.out⟩
set_option maxRecDepth 100000 in
set_option maxHeartbeats 3200000 in
theorem addPivot_swap {q m N k T x B L H : Nat} [NeZero q] {s : St q} {zs : List Int} {w : World} (hS : RedS B w L H m N zs s) (hT : s.top = T) (hTl : s.piv.length = T) (hTm : T < m) (hx : IsSeek s.A k m T x) (hxm : x < m) (hne : T < x) (hz : ∀ a : Fin q, a ≠ 0 → zs.getD a.val 0 = fv (finv a)) (hq2 : 2 ≤ q) (hq : q ≤ 251) (hm : m ≤ 1048576) (hN : N ≤ 64) (hk : k < N) (hHL : H < L) (hBH : B ≤ H) :
    Calls Try.prog 115 #[.pointer (some ⟨L, 0, none⟩), .int .i64 (k : Int)] w fun e w' => e = .returned (.tuple #[]) ∧ RedS B w' L H m N zs (pivot s k x) ∧ Below B w w' := by
  obtain ⟨G, C, pv, hP0, hR0, hO0, hGL⟩ := hS.ex
  obtain ⟨ap, cp, hpv⟩ := hO0.slice
  rw [pivI_len, hTl] at hpv
  subst hpv
  have bx := (Below.refl w.heap.size w).alloc (Nat.le_refl _) (.cells #[.int .i64 (k : Int)] 2)
  have hP := hP0.on bx
  have hR := hR0.on bx
  have hO := hO0.on bx
  have hK : (w.alloc (.cells #[.int .i64 (k : Int)] 2)).cell? ⟨w.heap.size, 0, none⟩ = some (.int .i64 (k : Int)) := by rw [World.cell?_alloc_at _ _ _ _ rfl]; rfl
  have lLw := hP0.lt
  have hBw : Below B w (w.alloc (.cells #[.int .i64 (k : Int)] 2)) := bx.mono (by omega)
  clear hP0 hR0 hO0 hS bx
  have p0 := hP.rows
  have p3 := hP.piv
  have T0 : (0 : Int) ≤ (T : Int) := by omega
  have T1 : (T : Int) ≤ (m : Int) := by omega
  have HP := Lib.hid hP
  have HR := Lib.hid hR
  have HO := Lib.hid hO
  have HBW := Lib.hid hBw
  have HZ := Lib.hid hz
  have HGL := Lib.hid hGL
  clear hP hR hO hBw hz hGL
  go_enter Try.func115, Try.ntmps115
  go_wp2_with fail
  have hs := search_some HR.out hK hk hm (by omega : T + (m - T) = m) hx (c := m - T)
  rw [if_pos hxm] at hs
  have hxk : s.A x k ≠ 0 := hx.2.2.2 hxm
  obtain ⟨i0, hi0, hz0, hz1, hz2⟩ := info_parts info2
  obtain ⟨f, hf⟩ : ∃ f, x - T = f := ⟨_, rfl⟩
  rw [hf] at hs
  have hTx : T + f = x := by omega
  have f0 : ¬ ((f : Int) < 0) := by omega
  have f1 : (f : Int) > 0 := by omega
  have wTf : IntKind.i64.wrap ((T : Int) + (f : Int)) = ((x : Nat) : Int) := by rw [← Int.natCast_add, hTx]; exact IntWalk.i64_in _ (by omega)
  refine hs.mono ?_
  rintro e w' ⟨rfl, rfl⟩
  obtain ⟨Kb, hKb⟩ : ∃ b, w.heap.size = b := ⟨_, rfl⟩
  have hKl : Kb < (w.alloc (.cells #[.int .i64 (k : Int)] 2)).heap.size := by rw [← hKb]; simp
  generalize hw1 : w.alloc (.cells #[.int .i64 (k : Int)] 2) = w1 at HP HR HO HBW hK p0 p3 hKl ⊢
  rw [hKb] at hK lLw ⊢
  clear hs hw1 hf
  go_wp2_with fail
  refine (exchange_any HR.out hm hTm hxm (by omega)).mono ?_
  rintro e w2 ⟨rfl, hR2, hg2⟩
  have hP2 := HP.out.gb hg2 (by omega)
  have hI2 : Hi L w1 w2 := (Hi.refl L w1).gb hg2 (by omega)
  have hO2 := HO.out.hi hI2
  have hK2 := (gb_cell hg2 (b := Kb) (o := 0) hKl (by omega)).trans hK
  have hGL2 : ∀ i, i < m → G (swi T x i) < L := fun i hi => HGL.out _ (swi_lt hTm hxm hi)
  have p1 := hP2.prime
  have p4 := hP2.fac
  have pf := hP2.fz 254
  have d0 := fv_nn s.d
  have d1 := fv_lt s.d
  have hneg : fv (-s.d) = (-fv s.d) % q := (fv_neg s.d).symm
  obtain ⟨y, hy⟩ : ∃ y, fv s.d = y := ⟨_, rfl⟩
  rw [hy] at p4 d0 d1 hneg
  have n1 : IntKind.i64.wrap (-y) = -y := IntWalk.i64_in _ (by omega)
  have hcc := (implMod_any (-y) (q : Int) w2.drew (by omega) (by omega)).mono (fun e w' (h : e = .returned (.int .i64 ((-y) % q)) ∧ w2.drew = w') => (⟨h.1, h.2.symm⟩ : e = .returned (.int .i64 ((-y) % q)) ∧ w' = w2.drew))
  obtain ⟨Y, hY⟩ : ∃ Y, (-y) % (q : Int) = Y := ⟨_, rfl⟩
  rw [hY] at hcc hneg
  have HCC := Lib.hid hcc
  have l2 := hI2.1
  have HP2 := Lib.hid hP2
  have HR2 := Lib.hid hR2
  have HO2 := Lib.hid hO2
  have HG2 := Lib.hid hg2
  clear hcc hY p0 p3 hK hP2 hR2 hO2 hg2
  go_wp2_with fail
  go_still_tail 13, (by kernel_rfl)
  still_call HCC.out
  repeat still_step
  refine wpStill_nil ?_
  change wpList _ _ _ _ _ w2.drew
  have hK2' : (w2.setCell ⟨L, 254, none⟩ (.int .i64 Y)).drew.cell? ⟨Kb, 0, none⟩ = some (.int .i64 (k : Int)) := (World.cell?_of_block (w := w2) (Deep.blk_setCell_other _ _ _ _ (by show Kb ≠ L; omega))).trans hK2
  go_wp2_with fail
  have hPc := (HP2.out.setFac Y).drew
  have hgs : w2.grownBy (w2.setCell ⟨L, 254, none⟩ (.int .i64 Y)).drew (some L) := gb_drew (gb_set (grown_refl _ _) _)
  have hRc := HR2.out.gb hgs (by omega) (fun i hi => by have := hGL2 i hi; omega)
  have hOc := HO2.out.hi ((Hi.refl L w2).gb hgs (Nat.le_refl _))
  have hIc : Hi L w1 (w2.setCell ⟨L, 254, none⟩ (.int .i64 Y)).drew := hI2.gb hgs (Nat.le_refl _)
  have hBc : Below B w1 (w2.setCell ⟨L, 254, none⟩ (.int .i64 Y)).drew := by
    refine drew_below (Below.setC ?_ (by omega) _)
    exact (Below.refl B w1).trans ⟨HG2.out.os, HG2.out.tape, HG2.out.output, HG2.out.size, fun b hb => HG2.out.block b (by omega) (fun e => by injection e; omega)⟩
  have hKc := hK2'
  generalize hwc : (w2.setCell ⟨L, 254, none⟩ (.int .i64 Y)).drew = wc at hPc hRc hOc hIc hBc hKc ⊢
  have lKc := hIc.1
  rw [← hneg] at hPc
  have hAk : (swapR s.A T x) T k = s.A x k := by unfold swapR; rw [if_pos rfl]
  have hGc := hGL2
  clear hK2 hK2' hwc HP2 HR2 HO2 hgs HCC
  refine (clear_any (d := -s.d) (x := finv (s.A x k)) hPc hRc hq2 hq hm hN hTm hk (by rw [hAk]; exact HZ.out _ hxk) hGc hHL (by omega)).mono ?_
  rintro e w3 ⟨rfl, hP3, hR3, hB3, hI3⟩
  have hO3 := hOc.hi hI3
  have lK3 := hI3.1
  have hK3 : w3.cell? ⟨Kb, 0, none⟩ = some (.int .i64 (k : Int)) := (World.cell?_of_block (w := wc) (hI3.2 Kb (by omega) (by omega))).trans hKc
  have p3 := hP3.piv
  have pf := hP3.fz 253
  have HP3 := Lib.hid hP3
  have HR3 := Lib.hid hR3
  have HO3 := Lib.hid hO3
  have HB3 := Lib.hid hB3
  have lL3 := hP3.lt
  have hown : w3.ownsRow (L + 1) 2 1 (.slice ap T cp) T (iv (pivI s.piv)) := by
    have h := hO3.out
    rw [pivI_len, hTl] at h
    exact h
  have HW3 := Lib.hid hown
  have nLs := own_ne hO3 (show L < L + 1 by omega)
  clear hP3 hR3 hO3 hB3 hI3 hown hPc hRc hOc hKc
  go_wp2_with fail
  have hpA : (pivot s k x).A = addR (scaleR (swapR s.A T x) T (finv (s.A x k))) T (fun i => (swapR s.A T x) i k) := by unfold pivot; rw [hT]
  have hpd : (pivot s k x).d = (-s.d) * (swapR s.A T x) T k := by unfold pivot; show (if x = s.top then s.d else -s.d) * s.A x k = _; rw [hT, if_neg (by omega), hAk]
  have hpp : pivI (pivot s k x).piv = pivI s.piv ++ [(k : Int)] := by simp [pivot, pivI]
  have bx3 := (Below.refl w3.heap.size w3).alloc (Nat.le_refl _) (.cells #[.int .i64 (k : Int)] 2)
  have HBX := Lib.hid bx3
  clear bx3
  go_region_law (
    refine step_append_src (by rfl) _ _ _ (by rfl) (L + 1) 2 i0 (.int .i64 0) 8 Try.underlying24 hi0 hz0 hz1 hz2 (by rfl) _ T (iv (pivI s.piv)) (by rfl) (HW3.out.alloc _).drew _ (iv [(k : Int)]) (by rfl) (one_src w3 k).drew iv_one (by omega) (by omega) (by show L + 1 ≤ (w3.alloc _).heap.size; simp; omega) ?_
    intro v4 w4 hv4 hg4
    have hlow : ∀ b, b < L + 1 → w4.heap[b]? = w3.heap[b]? := fun b hb => (hg4.block b (by show b < (w3.alloc _).heap.size; simp; omega) (fun e => by have := (HW3.out.lt b e.symm).1; omega)).trans (HBX.out.block b (by omega))
    have hsz4 : w3.heap.size ≤ w4.heap.size := Nat.le_trans HBX.out.size hg4.size
    have hP4 := HP3.out.blk hsz4 (hlow L (by omega))
    have hO4 : OwnI (L + 1) w4 v4 (pivI s.piv ++ [(k : Int)]) := by
      unfold OwnI
      rw [iv_app, List.length_append, pivI_len, hTl]
      exact hv4
    have hB4 : Below (L + 1) w3 w4 := ⟨hg4.os, hg4.tape, hg4.output, hsz4, hlow⟩
    obtain ⟨a4, c4, hv4e⟩ := hO4.slice
    rw [List.length_append, pivI_len, hTl, List.length_singleton] at hv4e
    subst hv4e
    have p35 := hP4.piv
    have pf5 := hP4.fz 253)
  all_goals (
    have HP4 := Lib.hid (hP4.setPiv (.slice a4 (T + 1) c4))
    have hgf : w4.grownBy (w4.setCell ⟨L, 253, none⟩ (.slice a4 (T + 1) c4)) (some L) := gb_set (grown_refl _ _) _
    have hR4 := HR3.out.blk hsz4 (hlow H (by omega)) (fun i hi => hlow _ (by have := hGc i hi; omega))
    have HR4 := Lib.hid (hR4.gb hgf (by omega) (fun i hi => by have := hGc i hi; omega))
    have HO4 := Lib.hid (hO4.hi ((Hi.refl L w4).gb hgf (Nat.le_refl _)))
    have HB4 : Hid (Below B w (w4.setCell ⟨L, 253, none⟩ (.slice a4 (T + 1) c4))) := Below.setC (((HBW.out.trans hBc).trans HB3.out).trans (hB4.mono (by omega))) (by omega) _
    clear hP4 hgf hR4 hO4 hB4 hlow hv4 hg4 p35 pf5 p3 pf
    go_wp2
    go_end0
    refine ⟨rfl, ⟨fun i => G (swi T x i), fun i => C (swi T x i), .slice a4 (T + 1) c4, ?_, ?_, ?_, hGc⟩, HB4.out⟩
    · rw [hpd]; exact HP4.out
    · rw [hpA]; exact HR4.out
    · rw [hpp]; exact HO4.out)
set_option maxRecDepth 100000 in
set_option maxHeartbeats 3200000 in
theorem addPivot_same {q m N k T x B L H : Nat} [NeZero q] {s : St q} {zs : List Int} {w : World} (hS : RedS B w L H m N zs s) (hT : s.top = T) (hTl : s.piv.length = T) (hTm : T < m) (hx : IsSeek s.A k m T x) (hxm : x < m) (hxT : x = T) (hz : ∀ a : Fin q, a ≠ 0 → zs.getD a.val 0 = fv (finv a)) (hq2 : 2 ≤ q) (hq : q ≤ 251) (hm : m ≤ 1048576) (hN : N ≤ 64) (hk : k < N) (hHL : H < L) (hBH : B ≤ H) :
    Calls Try.prog 115 #[.pointer (some ⟨L, 0, none⟩), .int .i64 (k : Int)] w fun e w' => e = .returned (.tuple #[]) ∧ RedS B w' L H m N zs (pivot s k x) ∧ Below B w w' := by
  obtain ⟨G, C, pv, hP0, hR0, hO0, hGL⟩ := hS.ex
  obtain ⟨ap, cp, hpv⟩ := hO0.slice
  rw [pivI_len, hTl] at hpv
  subst hpv
  have bx := (Below.refl w.heap.size w).alloc (Nat.le_refl _) (.cells #[.int .i64 (k : Int)] 2)
  have hP := hP0.on bx
  have hR := hR0.on bx
  have hO := hO0.on bx
  have hK : (w.alloc (.cells #[.int .i64 (k : Int)] 2)).cell? ⟨w.heap.size, 0, none⟩ = some (.int .i64 (k : Int)) := by rw [World.cell?_alloc_at _ _ _ _ rfl]; rfl
  have lLw := hP0.lt
  have hBw : Below B w (w.alloc (.cells #[.int .i64 (k : Int)] 2)) := bx.mono (by omega)
  clear hP0 hR0 hO0 hS bx
  have p0 := hP.rows
  have p3 := hP.piv
  have T0 : (0 : Int) ≤ (T : Int) := by omega
  have T1 : (T : Int) ≤ (m : Int) := by omega
  have HP := Lib.hid hP
  have HR := Lib.hid hR
  have HO := Lib.hid hO
  have HBW := Lib.hid hBw
  have HZ := Lib.hid hz
  have HGL := Lib.hid hGL
  clear hP hR hO hBw hz hGL
  go_enter Try.func115, Try.ntmps115
  go_wp2_with fail
  have hs := search_some HR.out hK hk hm (by omega : T + (m - T) = m) hx (c := m - T)
  rw [if_pos hxm] at hs
  have hxk : s.A x k ≠ 0 := hx.2.2.2 hxm
  obtain ⟨i0, hi0, hz0, hz1, hz2⟩ := info_parts info2
  have hf : x - T = 0 := by omega
  rw [hf] at hs
  refine hs.mono ?_
  rintro e w' ⟨rfl, rfl⟩
  obtain ⟨Kb, hKb⟩ : ∃ b, w.heap.size = b := ⟨_, rfl⟩
  have hKl : Kb < (w.alloc (.cells #[.int .i64 (k : Int)] 2)).heap.size := by rw [← hKb]; simp
  generalize hw1 : w.alloc (.cells #[.int .i64 (k : Int)] 2) = w1 at HP HR HO HBW hK p0 p3 hKl ⊢
  rw [hKb] at hK lLw ⊢
  have hPc := HP.out
  have hRc := HR.out
  have hOc := HO.out
  have hBc : Below B w1 w1 := Below.refl _ _
  have hKc := hK
  have lKc : w1.heap.size ≤ w1.heap.size := Nat.le_refl _
  have hAk : s.A T k = s.A x k := by rw [hxT]
  have hGc := HGL.out
  clear hs hw1 hf hK p0 p3
  go_wp2_with fail
  refine (clear_any (d := s.d) (x := finv (s.A x k)) hPc hRc hq2 hq hm hN hTm hk (by rw [hAk]; exact HZ.out _ hxk) hGc hHL (by omega)).mono ?_
  rintro e w3 ⟨rfl, hP3, hR3, hB3, hI3⟩
  have hO3 := hOc.hi hI3
  have lK3 := hI3.1
  have hK3 : w3.cell? ⟨Kb, 0, none⟩ = some (.int .i64 (k : Int)) := (World.cell?_of_block (w := w1) (hI3.2 Kb (by omega) (by omega))).trans hKc
  have p3 := hP3.piv
  have pf := hP3.fz 253
  have HP3 := Lib.hid hP3
  have HR3 := Lib.hid hR3
  have HO3 := Lib.hid hO3
  have HB3 := Lib.hid hB3
  have lL3 := hP3.lt
  have hown : w3.ownsRow (L + 1) 2 1 (.slice ap T cp) T (iv (pivI s.piv)) := by
    have h := hO3.out
    rw [pivI_len, hTl] at h
    exact h
  have HW3 := Lib.hid hown
  have nLs := own_ne hO3 (show L < L + 1 by omega)
  clear hP3 hR3 hO3 hB3 hI3 hown hPc hRc hOc hKc
  go_wp2_with fail
  have hpA : (pivot s k x).A = addR (scaleR (s.A) T (finv (s.A x k))) T (fun i => (s.A) i k) := by subst hxT; unfold pivot; rw [hT, swap_id]
  have hpd : (pivot s k x).d = (s.d) * (s.A) T k := by show (if x = s.top then s.d else -s.d) * s.A x k = _; rw [hT, if_pos hxT, hAk]
  have hpp : pivI (pivot s k x).piv = pivI s.piv ++ [(k : Int)] := by simp [pivot, pivI]
  have bx3 := (Below.refl w3.heap.size w3).alloc (Nat.le_refl _) (.cells #[.int .i64 (k : Int)] 2)
  have HBX := Lib.hid bx3
  clear bx3
  go_region_law (
    refine step_append_src (by rfl) _ _ _ (by rfl) (L + 1) 2 i0 (.int .i64 0) 8 Try.underlying24 hi0 hz0 hz1 hz2 (by rfl) _ T (iv (pivI s.piv)) (by rfl) (HW3.out.alloc _).drew _ (iv [(k : Int)]) (by rfl) (one_src w3 k).drew iv_one (by omega) (by omega) (by show L + 1 ≤ (w3.alloc _).heap.size; simp; omega) ?_
    intro v4 w4 hv4 hg4
    have hlow : ∀ b, b < L + 1 → w4.heap[b]? = w3.heap[b]? := fun b hb => (hg4.block b (by show b < (w3.alloc _).heap.size; simp; omega) (fun e => by have := (HW3.out.lt b e.symm).1; omega)).trans (HBX.out.block b (by omega))
    have hsz4 : w3.heap.size ≤ w4.heap.size := Nat.le_trans HBX.out.size hg4.size
    have hP4 := HP3.out.blk hsz4 (hlow L (by omega))
    have hO4 : OwnI (L + 1) w4 v4 (pivI s.piv ++ [(k : Int)]) := by
      unfold OwnI
      rw [iv_app, List.length_append, pivI_len, hTl]
      exact hv4
    have hB4 : Below (L + 1) w3 w4 := ⟨hg4.os, hg4.tape, hg4.output, hsz4, hlow⟩
    obtain ⟨a4, c4, hv4e⟩ := hO4.slice
    rw [List.length_append, pivI_len, hTl, List.length_singleton] at hv4e
    subst hv4e
    have p35 := hP4.piv
    have pf5 := hP4.fz 253)
  all_goals (
    have HP4 := Lib.hid (hP4.setPiv (.slice a4 (T + 1) c4))
    have hgf : w4.grownBy (w4.setCell ⟨L, 253, none⟩ (.slice a4 (T + 1) c4)) (some L) := gb_set (grown_refl _ _) _
    have hR4 := HR3.out.blk hsz4 (hlow H (by omega)) (fun i hi => hlow _ (by have := hGc i hi; omega))
    have HR4 := Lib.hid (hR4.gb hgf (by omega) (fun i hi => by have := hGc i hi; omega))
    have HO4 := Lib.hid (hO4.hi ((Hi.refl L w4).gb hgf (Nat.le_refl _)))
    have HB4 : Hid (Below B w (w4.setCell ⟨L, 253, none⟩ (.slice a4 (T + 1) c4))) := Below.setC (((HBW.out.trans hBc).trans HB3.out).trans (hB4.mono (by omega))) (by omega) _
    clear hP4 hgf hR4 hO4 hB4 hlow hv4 hg4 p35 pf5 p3 pf
    go_wp2
    go_end0
    refine ⟨rfl, ⟨G, C, .slice a4 (T + 1) c4, ?_, ?_, ?_, hGc⟩, HB4.out⟩
    · rw [hpd]; exact HP4.out
    · rw [hpA]; exact HR4.out
    · rw [hpp]; exact HO4.out)
theorem addPivot_any {q m N k B L H : Nat} [NeZero q] {s : St q} {zs : List Int} {w : World} (hS : RedS B w L H m N zs s) (hTl : s.piv.length = s.top) (hle : s.top ≤ m) (hz : ∀ a : Fin q, a ≠ 0 → zs.getD a.val 0 = fv (finv a)) (hq2 : 2 ≤ q) (hq : q ≤ 251) (hm : m ≤ 1048576) (hN : N ≤ 64) (hk : k < N) (hHL : H < L) (hBH : B ≤ H) :
    Calls Try.prog 115 #[.pointer (some ⟨L, 0, none⟩), .int .i64 (k : Int)] w fun e w' => e = .returned (.tuple #[]) ∧ RedS B w' L H m N zs (stepK m k s) ∧ Below B w w' := by
  obtain ⟨x, hxe⟩ : ∃ x, seek s.A k (m - s.top) s.top = x := ⟨_, rfl⟩
  have hx := seek_is s.A k m (m - s.top) s.top (by omega)
  rw [hxe] at hx
  have h1 := hx.1
  have h2 := hx.2.1
  by_cases hxm : x < m
  · rw [stepK_some hx hle hxm]
    by_cases hxT : x = s.top
    · exact addPivot_same hS rfl hTl (by omega) hx hxm hxT hz hq2 hq hm hN hk hHL hBH
    · exact addPivot_swap hS rfl hTl (by omega) hx hxm (by omega) hz hq2 hq hm hN hk hHL hBH
  · rw [stepK_none hx hle hxm]
    by_cases hTm : s.top = m
    · exact addPivot_full hS rfl hTl hTm hz hq2 hq hm hN hk hHL hBH
    · exact addPivot_none hS rfl hTl (by omega) hx hxm hz hq2 hq hm hN hk hHL hBH
end Go.Proofs.Ytpimnngomodnhaa

namespace Go.Proofs.Ytpimnngomodnhaa
open Go.RowKit
open Lin
set_option linter.unusedVariables false
set_option linter.unusedSectionVars false

theorem RwK.low {q : Nat} {B B' : Nat} {w : World} {H m N k : Nat} {G C : Nat → Nat} {A : Mt q} (h : RwK B w H m N k G C A) (hB : B' ≤ B) : RwK B' w H m N k G C A :=
  ⟨h.list, h.cap, fun i hi => ⟨Nat.le_trans hB (h.own i hi).1, (h.own i hi).2⟩, h.row, h.dis⟩
theorem foldSet : ∀ (l : List Value) (st : Nat) (a : Array Value), ((l.zipIdx st).foldl (fun cs x => cs.setIfInBounds (2 + x.snd) x.fst) a).size = a.size ∧
    ∀ j, ((l.zipIdx st).foldl (fun cs x => cs.setIfInBounds (2 + x.snd) x.fst) a)[j]? = if 2 + st ≤ j ∧ j < 2 + st + l.length ∧ j < a.size then l[j - (2 + st)]? else a[j]?
  | [], st, a => ⟨rfl, fun j => by rw [if_neg (by simp; omega)]; rfl⟩
  | v :: l, st, a => by
    obtain ⟨h1, h2⟩ := foldSet l (st + 1) (a.setIfInBounds (2 + st) v)
    refine ⟨by simpa using h1, fun j => ?_⟩
    show ((l.zipIdx (st + 1)).foldl _ (a.setIfInBounds (2 + st) v))[j]? = _
    rw [h2 j]
    simp only [Array.size_setIfInBounds, List.length_cons]
    by_cases e : j = 2 + st
    · subst e
      rw [if_neg (by omega)]
      by_cases hl : 2 + st < a.size
      · rw [if_pos (by omega)]; simp [hl]
      · rw [if_neg (by omega)]; simp [hl]
    · by_cases h : 2 + (st + 1) ≤ j ∧ j < 2 + (st + 1) + l.length ∧ j < a.size
      · rw [if_pos h, if_pos (by omega)]
        rw [show j - (2 + st) = (j - (2 + (st + 1))) + 1 by omega, List.getElem?_cons_succ]
      · rw [if_neg h, if_neg (by omega)]
        rw [Array.getElem?_setIfInBounds_ne (by omega)]
/-- The cells of a new reduction. -/
noncomputable def redCells (H m : Nat) (q : Int) (zs : List Int) : Array Value :=
  ((List.map (Value.int IntKind.i64) zs).zipIdx.foldl (fun cs x => cs.setIfInBounds (2 + x.snd) x.fst) ((Try.zeroCells118.setIfInBounds 0 (.slice (some ⟨H, 0, none⟩) m m)).setIfInBounds 1 (.int .i64 q))).setIfInBounds 254 (.int .i64 1)
theorem zc_size : Try.zeroCells118.size = 255 := by kernel_rfl
theorem zc_piv : Try.zeroCells118[253]? = some (.slice none 0 0) := by kernel_rfl
theorem redBlock (w : World) (H m : Nat) (q : Int) (zs : List Int) (hz : zs.length = 251) : PtR (w.alloc (.cells (redCells H m q zs) 118)) w.heap.size H m q zs (.slice none 0 0) 1 := by
  obtain ⟨h1, h2⟩ := foldSet (List.map (Value.int IntKind.i64) zs) 0 ((Try.zeroCells118.setIfInBounds 0 (.slice (some ⟨H, 0, none⟩) m m)).setIfInBounds 1 (.int .i64 q))
  simp only [Array.size_setIfInBounds, zc_size, List.length_map, hz, Nat.add_zero] at h1 h2
  have c : ∀ o, (w.alloc (.cells (redCells H m q zs) 118)).cell? ⟨w.heap.size, o, none⟩ = (redCells H m q zs)[o]? := fun o => World.cell?_alloc_at _ _ _ _ rfl
  have g : ∀ o, o ≠ 254 → (redCells H m q zs)[o]? = ((List.map (Value.int IntKind.i64) zs).zipIdx.foldl (fun cs x => cs.setIfInBounds (2 + x.snd) x.fst) ((Try.zeroCells118.setIfInBounds 0 (.slice (some ⟨H, 0, none⟩) m m)).setIfInBounds 1 (.int .i64 q)))[o]? := fun o ho => Array.getElem?_setIfInBounds_ne (fun e => ho e.symm)
  refine ⟨by simp, ?_, ?_, fun a ha => ?_, ?_, ?_, fun o => World.frozen?_alloc_at _ _ _ _ rfl⟩
  · rw [c, g 0 (by omega), h2 0, if_neg (by omega), Array.getElem?_setIfInBounds_ne (by omega)]
    simp
  · rw [c, g 1 (by omega), h2 1, if_neg (by omega)]
    simp
  · rw [c, g (2 + a) (by omega), h2 (2 + a), if_pos (by omega)]
    simp [List.getD, show a < zs.length by omega]
  · rw [c, g 253 (by omega), h2 253, if_neg (by omega), Array.getElem?_setIfInBounds_ne (by omega), Array.getElem?_setIfInBounds_ne (by omega)]
    exact zc_piv
  · rw [c]
    unfold redCells
    rw [Array.getElem?_setIfInBounds_self_of_lt (by rw [h1]; omega)]

set_option maxRecDepth 100000 in
set_option maxHeartbeats 3200000 in
theorem reduce_some {q m N c : Nat} [NeZero q] {A : Mt q} {v : Value} {w : World} (hv : RowsC w v m (rowL N A)) (hq : IsPr (q : Int)) (hm : m ≤ 1048576) (hN : N ≤ 64) (hN0 : 0 < N) (hc : c ≤ N) :
    Calls Try.prog 82 #[v, .int .i64 (c : Int), .int .i64 (q : Int)] w fun e w' => ∃ L H zs, e = .returned (.pointer (some ⟨L, 0, none⟩)) ∧ w.heap.size ≤ H ∧ H < L ∧ RedS w.heap.size w' L H m N zs (red m A c) ∧ Below w.heap.size w w' := by
  have hq2 : 2 ≤ q := by have := hq.1; omega
  have hq3 : q ≤ 251 := by have := hq.2.1; omega
  have HV := Lib.hid hv
  obtain ⟨a1, k1, rfl, -, -⟩ := hv
  go_enter Try.func82, Try.ntmps82
  go_wp2_with fail
  refine (copied_any HV.out hm hN hN0).mono ?_
  rintro e w1 ⟨H, G, C, rfl, hH, hR, hb⟩
  have HR := Lib.hid hR
  have HB := Lib.hid hb
  have hHl := hR.list.lt
  clear hR hb
  go_wp2_with fail
  refine (invs_any (q : Int) w1 hq).mono ?_
  rintro e w2 ⟨xs, n, rfl, hpn, hT, hb⟩
  obtain ⟨zs, hzl, rfl, hzi⟩ := hT
  have HR := Lib.hid (HR.out.on hb)
  have HB := Lib.hid (HB.out.trans (hb.mono HB.out.size))
  have hs2 := hb.size
  clear hb
  have hfs : ¬ (List.foldl (fun cs x => cs.setIfInBounds (2 + x.snd) x.fst) ((Try.zeroCells118.setIfInBounds 0 (.slice (some ⟨H, 0, none⟩) m m)).setIfInBounds 1 (.int .i64 (q : Int))) (List.map (Value.int IntKind.i64) zs).zipIdx).size < 255 := by
    rw [(foldSet _ 0 _).1, Array.size_setIfInBounds, Array.size_setIfInBounds, zc_size]
    omega
  go_wp2_with fail
  have hzz : ∀ a : Fin q, a ≠ 0 → zs.getD a.val 0 = fv (finv a) := fun a ha => by
    have h1 : 1 ≤ a.val := by
      rcases Nat.eq_zero_or_pos a.val with h | h
      · exact absurd (Fin.ext (by rw [h]; rfl)) ha
      · exact h
    have h2 := a.isLt
    exact finv_of hq2 (hzi a.val h1 (by omega))
  have hP := redBlock w2 H m (q : Int) zs hzl
  obtain ⟨L, hL⟩ : ∃ L, w2.heap.size = L := ⟨_, rfl⟩
  have hbx := (Below.refl w2.heap.size w2).alloc (Nat.le_refl _) (.cells (redCells H m (q : Int) zs) 118)
  have HZ := Lib.hid hzz
  have hf := fd_of hq
  clear hzz hzi
  change Code.wp _ _ _ _ (w2.alloc (.cells (redCells H m (q : Int) zs) 118))
  have hS0 : RedS w.heap.size (w2.alloc (.cells (redCells H m (q : Int) zs) 118)) L H m N zs (red m A 0) := by
    refine ⟨G, C, .slice none 0 0, ?_, (HR.out.on hbx).low (by omega), OwnI.nul _ _, fun i hi => ?_⟩
    · rw [← hL]
      have e : fv (1 : Fin q) = 1 := fv_one hq2
      show PtR _ _ _ _ _ _ _ (fv (1 : Fin q))
      rw [e]; exact hP
    · obtain ⟨F, r1, _⟩ := HR.out.row i hi
      have := r1.lt
      omega
  have hB0 := HB.out.trans (hbx.mono HB.out.size)
  have hHL : H < L := by omega
  generalize w2.alloc (.cells (redCells H m (q : Int) zs) 118) = w3 at hS0 hB0 ⊢
  have HS0 := Lib.hid hS0
  have HB0 := Lib.hid hB0
  rw [hL]
  clear hS0 hB0 hP hbx HR HB hL hs2
  go_loopw [17] (fun s wr => ∃ k : Nat, k ≤ c ∧ s = .int .i64 (k : Int) ∧ Hid (RedS w.heap.size wr L H m N zs (red m A k)) ∧ Hid (Below w.heap.size w wr)) (fun s _ => c - (intOf s).toNat)
  case atStart => exact ⟨0, Nat.zero_le _, rfl, HS0.out, HB0.out⟩
  case round =>
    obtain ⟨k, hk, rfl, HX, HBB⟩ := hrel
    by_cases hlt : k < c
    · have hi := red_inv hf m A k
      have i0 : (0 : Int) ≤ (k : Int) := by omega
      have i1 : (k : Int) < (c : Int) := by omega
      go_wp2_with fail
      refine (addPivot_any HX.out hi.len hi.le HZ.out hq2 hq3 hm hN (by omega) hHL hH).mono ?_
      rintro e w4 ⟨rfl, hS4, hB4⟩
      have HX2 : Hid (RedS w.heap.size w4 L H m N zs (red m A (k + 1))) := hS4
      have HB2 := Lib.hid (HBB.out.trans hB4)
      clear HX HBB hS4 hB4
      go_wp2
      go_roundw
      case rel => exact ⟨k + 1, by omega, by go_num, HX2.out, HB2.out⟩
      case measure => simp [intOf]; omega
    · obtain rfl : k = c := by omega
      go_wp2
      go_ret
      exact ⟨_, _, _, rfl, hH, hHL, HX.out, HBB.out⟩
theorem reduce_any {q m N c : Nat} [NeZero q] {A : Mt q} {v : Value} {w : World} (hv : RowsC w v m (rowL N A)) (hq : IsPr (q : Int)) (hm : m ≤ 32) (hN : N ≤ 64) (hN0 : 0 < N) (hc : c ≤ N) :
    Calls Try.prog 82 #[v, .int .i64 (c : Int), .int .i64 (q : Int)] w fun e w' => ∃ L H zs, e = .returned (.pointer (some ⟨L, 0, none⟩)) ∧ w.heap.size ≤ H ∧ H < L ∧ RedS w.heap.size w' L H m N zs (red m A c) ∧ Below w.heap.size w w' :=
  reduce_some hv hq (by omega) hN hN0 hc
end Go.Proofs.Ytpimnngomodnhaa

namespace Go.Proofs.Ytpimnngomodnhaa
open Go.RowKit
open Lin
set_option linter.unusedVariables false
set_option linter.unusedSectionVars false

theorem cloneI_zero {u : Value} {w : World} (h : IntsC w u []) : Calls Try.prog 109 #[u] w fun e w' => RetL [] w e w' := by
  have hs := h.src (by simp)
  obtain ⟨_, a, cap, rfl, _, _, ⟨rfl, rfl⟩ | ⟨g, off, rfl⟩⟩ := h
  · exact cloneI_nil w
  · refine (cloneI_some (xs := iv []) w hs rfl (by simp [iv])).mono ?_
    rintro e w' ⟨v, rfl, ho, _, hb⟩
    exact ⟨v, rfl, ho, hb⟩
set_option maxRecDepth 100000 in
set_option maxHeartbeats 3200000 in
theorem copied_zero {m : Nat} {v : Value} {w : World} (hv : RowsC w v m (fun _ => [])) (hm : m ≤ 1048576) :
    Calls Try.prog 113 #[v] w fun e w' => ∃ H, e = .returned (.slice (some ⟨H, 0, none⟩) m m) ∧ w.heap.size ≤ H ∧ MadeR (H + 1) w' H m m (fun _ => []) ∧ Below w.heap.size w w' := by
  have hmk := run_make_row' (P := Try.prog) 70 24 (.slice none 0 0) 24 Try.underlying70 info_s rfl .i64 .i64 m (by omega) (by omega)
  have HV := Lib.hid hv
  obtain ⟨a1, k1, rfl, -, -⟩ := hv
  go_enter Try.func113, Try.ntmps113
  go_wp2_with fail
  have hrow := World.rowIs_made w (.slice none 0 0) m 24
  have bb := (Below.refl w.heap.size w).alloc (Nat.le_refl _) (.cells (madeCells #[.slice none 0 0] m) 24)
  generalize hW : World.alloc w (.cells (madeCells #[.slice none 0 0] m) 24) = W1 at hrow bb ⊢
  obtain ⟨H, hH⟩ : ∃ H, w.heap.size = H := ⟨_, rfl⟩
  rw [hH] at hrow ⊢
  have HB := Lib.hid bb
  have HR := Lib.hid hrow
  have hs1 : H + 1 ≤ W1.heap.size := by rw [← hW, ← hH]; simp
  clear hrow bb hW hmk
  go_loopw [10] (fun i wr => ∃ k : Nat, k ≤ m ∧ i = .int .i64 (k : Int) ∧ Hid (MadeR (H + 1) wr H m k (fun _ => [])) ∧ Hid (W1.grownBy wr (some H))) (fun i _ => m - (intOf i).toNat)
  case atStart => exact ⟨0, Nat.zero_le _, rfl, MadeR.zero HR.out, grown_refl _ _⟩
  case round =>
    obtain ⟨k, hk, rfl, HX, HG⟩ := hrel
    by_cases hlt : k < m
    · have HBW := Lib.hid (below_gb HB.out HG.out (by omega) (by omega))
      have hsz := HG.out.size
      obtain ⟨_, _, e, _, h0 | ⟨Ha, oa, e2, hHa, hca⟩⟩ := HV.out
      · omega
      simp only [Value.slice.injEq, true_and] at e
      obtain ⟨rfl, rfl⟩ := e
      subst e2
      have hHa' : Ha < w.heap.size := by omega
      obtain ⟨u1, hu1, i1⟩ := hca k hlt
      have d1 := (HBW.out.cell (p := ⟨Ha, oa + k, none⟩) hHa').trans hu1
      have HI := Lib.hid (i1.on HBW.out)
      obtain ⟨V, hr, hV⟩ := HX.out
      have HRW := Lib.hid hr
      have d3 := hr.cell hlt
      have d4 := hr.frozen k
      rw [if_neg (Nat.lt_irrefl _)] at d3
      obtain ⟨⟨ax, cx, rfl, -, -⟩, -⟩ := i1
      have k0 : (0 : Int) ≤ (k : Int) := by omega
      have k3 : (k : Int) < (m : Int) := by omega
      clear hca hu1 hr hV
      go_wp2_with fail
      refine (cloneI_zero HI.out).mono ?_
      rintro e wc ⟨vc, rfl, hoc, hbc⟩
      obtain ⟨vca, vcc, rfl⟩ := hoc.slice
      have HX2 := Lib.hid (HX.out.next (v := .slice vca ([] : List Int).length vcc) hbc (hoc.mono (by omega)) (by omega))
      have HG2 : Hid (W1.grownBy (wc.setCell ⟨H, k, none⟩ (.slice vca ([] : List Int).length vcc)) (some H)) := gb_set (gb_trans HG.out (gb_below hbc (some H))) _
      have d5 := (rowIs_on HRW.out hbc).cell hlt
      have d6 := (rowIs_on HRW.out hbc).frozen k
      rw [if_neg (Nat.lt_irrefl _)] at d5
      clear HX HG hoc d3 d4 hbc HRW
      go_wp2
      go_roundw
      case rel => exact ⟨k + 1, by omega, by go_num, HX2.out, HG2.out⟩
      case measure => simp [intOf]; omega
    · obtain rfl : k = m := by omega
      go_wp2
      go_ret
      exact ⟨_, rfl, by omega, HX.out, below_gb HB.out HG.out (by omega) (by omega)⟩
/-- What reduce hands back. -/
def RedT {q : Nat} [NeZero q] (B : Nat) (w : World) (L m N : Nat) (s : St q) : Prop :=
  ∃ H zs pv, PtR w L H m q zs pv (fv s.d) ∧ RowsC w (.slice (some ⟨H, 0, none⟩) m m) m (rowL N s.A) ∧ OwnI B w pv (pivI s.piv)
theorem RedS.tell {q : Nat} [NeZero q] {B w L H m N zs} {s : St q} (h : RedS B w L H m N zs s) (hm : m ≤ 1048576) (hN : N ≤ 64) (hB : B ≤ L + 1) : RedT B w L m N s := by
  obtain ⟨G, C, pv, hP, hR, hO, _⟩ := h.ex
  refine ⟨H, zs, pv, hP, ⟨_, m, rfl, by omega, .inr ⟨H, 0, rfl, .inr hR.list.lt, fun i hi => ?_⟩⟩, hO.mono hB⟩
  obtain ⟨F, r1, r2⟩ := hR.row i hi
  have hc := hR.cap i hi
  refine ⟨.slice (some ⟨G i, 0, none⟩) N (C i), by rw [Nat.zero_add, hR.list.cell hi, if_pos hi], ⟨_, C i, by rw [rowL_len], by rw [rowL_len]; omega, .inr ⟨G i, 0, rfl, r1.lt, fun j hj => ?_⟩⟩, _, C i, by rw [rowL_len], by rw [rowL_len]; exact hc.1, hc.2, .inr ⟨_, _, rfl⟩⟩
  have hj' : j < N := by rw [rowL_len] at hj; exact hj
  rw [Nat.zero_add, r1.cell (by omega), r2 j hj', rowL_at]
set_option maxRecDepth 100000 in
set_option maxHeartbeats 3200000 in
theorem reduce_zero {q m : Nat} [NeZero q] {A : Mt q} {v : Value} {w : World} (hv : RowsC w v m (rowL 0 A)) (hq : IsPr (q : Int)) (hm : m ≤ 1048576) :
    Calls Try.prog 82 #[v, .int .i64 (0 : Int), .int .i64 (q : Int)] w fun e w' => ∃ L, e = .returned (.pointer (some ⟨L, 0, none⟩)) ∧ w.heap.size ≤ L ∧ RedT w.heap.size w' L m 0 (red m A 0) ∧ Below w.heap.size w w' := by
  have hq2 : 2 ≤ q := by have := hq.1; omega
  have hq3 : q ≤ 251 := by have := hq.2.1; omega
  have HV := Lib.hid hv
  have e0 : rowL 0 A = fun _ => [] := by funext i; simp [rowL]
  obtain ⟨a1, k1, rfl, -, -⟩ := hv
  go_enter Try.func82, Try.ntmps82
  go_wp2_with fail
  refine (copied_zero (by have h := HV.out; rw [e0] at h; exact h) hm).mono ?_
  rintro e w1 ⟨H, rfl, hH, hR0, hb⟩
  have hR : RowsC w1 (.slice (some ⟨H, 0, none⟩) m m) m (rowL 0 A) := by rw [e0]; exact hR0.rows (by omega) (fun i _ => by simp)
  have HR := Lib.hid hR
  have HB := Lib.hid hb
  obtain ⟨V0, hV0, _⟩ := hR0
  have hHl := hV0.lt
  clear hR hb hV0
  go_wp2_with fail
  refine (invs_any (q : Int) w1 hq).mono ?_
  rintro e w2 ⟨xs, n, rfl, hpn, hT, hb⟩
  obtain ⟨zs, hzl, rfl, hzi⟩ := hT
  have HR := Lib.hid (HR.out.on hb)
  have HB := Lib.hid (HB.out.trans (hb.mono HB.out.size))
  have hs2 := hb.size
  clear hb
  have hfs : ¬ (List.foldl (fun cs x => cs.setIfInBounds (2 + x.snd) x.fst) ((Try.zeroCells118.setIfInBounds 0 (.slice (some ⟨H, 0, none⟩) m m)).setIfInBounds 1 (.int .i64 (q : Int))) (List.map (Value.int IntKind.i64) zs).zipIdx).size < 255 := by
    rw [(foldSet _ 0 _).1, Array.size_setIfInBounds, Array.size_setIfInBounds, zc_size]
    omega
  go_wp2_with fail
  have hzz : ∀ a : Fin q, a ≠ 0 → zs.getD a.val 0 = fv (finv a) := fun a ha => by
    have h1 : 1 ≤ a.val := by
      rcases Nat.eq_zero_or_pos a.val with h | h
      · exact absurd (Fin.ext (by rw [h]; rfl)) ha
      · exact h
    have h2 := a.isLt
    exact finv_of hq2 (hzi a.val h1 (by omega))
  have hP := redBlock w2 H m (q : Int) zs hzl
  obtain ⟨L, hL⟩ : ∃ L, w2.heap.size = L := ⟨_, rfl⟩
  have hbx := (Below.refl w2.heap.size w2).alloc (Nat.le_refl _) (.cells (redCells H m (q : Int) zs) 118)
  have HZ := Lib.hid hzz
  have hf := fd_of hq
  clear hzz hzi
  change Code.wp _ _ _ _ (w2.alloc (.cells (redCells H m (q : Int) zs) 118))
  have hS0 : RedT w.heap.size (w2.alloc (.cells (redCells H m (q : Int) zs) 118)) L m 0 (red m A 0) := by
    refine ⟨H, zs, .slice none 0 0, ?_, HR.out.on hbx, OwnI.nul _ _⟩
    rw [← hL]
    have e : fv (1 : Fin q) = 1 := fv_one hq2
    show PtR _ _ _ _ _ _ _ (fv (1 : Fin q))
    rw [e]; exact hP
  have hB0 := HB.out.trans (hbx.mono HB.out.size)
  have hHL : H < L := by omega
  generalize w2.alloc (.cells (redCells H m (q : Int) zs) 118) = w3 at hS0 hB0 ⊢
  have HS0 := Lib.hid hS0
  have HB0 := Lib.hid hB0
  rw [hL]
  clear hS0 hB0 hP hbx HR HB hL hs2
  refine wp_loop_rounds 1 ?_
  rw [rounds_succ]
  go_wp2
  go_ret
  exact ⟨_, rfl, by omega, HS0.out, HB0.out⟩
theorem reduce_big {q m N c : Nat} [NeZero q] {A : Mt q} {v : Value} {w : World} (hv : RowsC w v m (rowL N A)) (hq : IsPr (q : Int)) (hm : m ≤ 1048576) (hN : N ≤ 64) (hc : c ≤ N) :
    Calls Try.prog 82 #[v, .int .i64 (c : Int), .int .i64 (q : Int)] w fun e w' => ∃ L, e = .returned (.pointer (some ⟨L, 0, none⟩)) ∧ w.heap.size ≤ L ∧ RedT w.heap.size w' L m N (red m A c) ∧ Below w.heap.size w w' := by
  by_cases hN0 : N = 0
  · subst hN0
    obtain rfl : c = 0 := by omega
    exact reduce_zero hv hq hm
  · refine (reduce_some hv hq hm hN (by omega) hc).mono ?_
    rintro e w' ⟨L, H, zs, rfl, hH, hL, hS, hb⟩
    exact ⟨L, rfl, by omega, hS.tell hm hN (by omega), hb⟩
theorem reduce_all {q m N c : Nat} [NeZero q] {A : Mt q} {v : Value} {w : World} (hv : RowsC w v m (rowL N A)) (hq : IsPr (q : Int)) (hm : m ≤ 32) (hN : N ≤ 64) (hc : c ≤ N) :
    Calls Try.prog 82 #[v, .int .i64 (c : Int), .int .i64 (q : Int)] w fun e w' => ∃ L, e = .returned (.pointer (some ⟨L, 0, none⟩)) ∧ w.heap.size ≤ L ∧ RedT w.heap.size w' L m N (red m A c) ∧ Below w.heap.size w w' :=
  reduce_big hv hq (by omega) hN hc
end Go.Proofs.Ytpimnngomodnhaa
