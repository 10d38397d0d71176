/-
  Slices of int64: what they read as, and contracts of the laws' own helpers: equality, a copy, marks. Lengths up to 1048576.
  What a call made lies between two marks of the heap: such rows stay as they are while others are written.
  
  Plain mathematics of numbers modulo a prime up to 251: inverses, powers, orders, generators, logarithms, roots.
  Contracts of the small comparisons: the model's l00In, the program's within at int64, int and byte; no condition beyond the side that is told.
  Contracts of the tests for a prime and of the model's arithmetic modulo one; the number is whatever fits, the prime as it is tried out.
  Contracts of the codes for a prime and a list of numbers, as the program finds them.
  Numbers modulo a prime as they lie in memory, and the cells of a matrix. Plain mathematics.
  A slice of numbers that came in, by what its reading says.
-/
import Derived.Test.YtdihcmohpbgmmaaDoorProg
import Derived.WalkKit
import Derived.ProofKit
import Derived.Lib.Hide
import Derived.Laws.OwnMore
import Derived.Deep.QuietTactic
import Derived.BigQuiet
import Derived.IntWalk
namespace Go.Proofs.YtdihcmohpbgmmaaDoor
open Go.RowKit
set_option linter.unusedVariables false

def iv (zs : List Int) : List Value := zs.map (Value.int .i64)
theorem iv_len (zs : List Int) : (iv zs).length = zs.length := by simp [iv]
theorem iv_at (zs : List Int) (j : Nat) (h : j < zs.length) : (iv zs)[j]? = some (.int .i64 zs[j]) := by simp [iv, List.getElem?_eq_getElem h]
theorem info2 : (Tryd.prog.info? 2).map (fun i => (i.zero, i.size, i.bytes)) = some (some (.int .i64 0), 1, 8) := by kernel_rfl

/-- A slice that reads as the numbers zs. -/
def IntsAt (w : World) (v : Value) (zs : List Int) : Prop :=
  ∃ a cap, v = .slice a zs.length cap ∧ zs.length ≤ 1048576 ∧ (zs = [] ∨ ∃ b off, a = some ⟨b, off, none⟩ ∧ b < w.heap.size ∧ ∀ j (h : j < zs.length), w.cell? ⟨b, off + j, none⟩ = some (.int .i64 zs[j]))
theorem IntsAt.on {w w' : World} {v : Value} {zs : List Int} (h : IntsAt w v zs) (hb : Below w.heap.size w w') : IntsAt w' v zs := by
  obtain ⟨a, cap, rfl, hl, rfl | ⟨b, off, rfl, hbk, hc⟩⟩ := h
  · exact ⟨a, cap, rfl, hl, .inl rfl⟩
  · exact ⟨_, cap, rfl, hl, .inr ⟨b, off, rfl, Nat.lt_of_lt_of_le hbk hb.size, fun j hj => (hb.cell (p := ⟨b, off + j, none⟩) hbk).trans (hc j hj)⟩⟩
/-- A slice of int64 in a row of the call's own, from block B on. -/
def OwnI (B : Nat) (w : World) (v : Value) (zs : List Int) : Prop := w.ownsRow B 2 1 v zs.length (iv zs)
theorem OwnI.out {B : Nat} {w : World} {v : Value} {zs : List Int} (h : OwnI B w v zs) : w.ownsRow B 2 1 v zs.length (iv zs) := h
theorem OwnI.form {B : Nat} {w : World} {v : Value} {zs : List Int} (h : OwnI B w v zs) : zs = [] ∧ v = .slice none 0 0 ∨
    ∃ g cap, v = .slice (some ⟨g, 0, none⟩) zs.length cap ∧ B ≤ g ∧ g < w.heap.size ∧ (∀ j (h : j < zs.length), w.cell? ⟨g, j, none⟩ = some (.int .i64 zs[j])) ∧ ∀ j, w.frozen? ⟨g, j, none⟩ = false := by
  have h' := h
  obtain ⟨hx, ⟨rfl, hn⟩ | ⟨g, cap, cur, rfl, hg, hcur, _⟩⟩ := h
  · exact .inl ⟨List.eq_nil_of_length_eq_zero hn, rfl⟩
  · have hl := h'.out.lt g rfl
    refine .inr ⟨g, cap, rfl, hl.1, hl.2, fun j hj => ?_, fun j => h'.out.frozenAt j⟩
    rw [h'.out.cellAt j (by omega), iv_at zs j hj]
theorem OwnI.at {B : Nat} {w : World} {v : Value} {zs : List Int} (h : OwnI B w v zs) (hl : zs.length ≤ 1048576) : IntsAt w v zs := by
  rcases h.form with ⟨rfl, rfl⟩ | ⟨g, cap, rfl, _, hg, hc, _⟩
  · exact ⟨none, 0, rfl, hl, .inl rfl⟩
  · exact ⟨_, cap, rfl, hl, .inr ⟨g, 0, rfl, hg, fun j hj => by rw [Nat.zero_add]; exact hc j hj⟩⟩
theorem OwnI.on {B : Nat} {w w' : World} {v : Value} {zs : List Int} (h : OwnI B w v zs) (hb : Below w.heap.size w w') : OwnI B w' v zs := by
  obtain ⟨hx, ⟨rfl, hn⟩ | ⟨g, cap, cur, rfl, hg, hcur, r⟩⟩ := h
  · exact ⟨hx, .inl ⟨rfl, hn⟩⟩
  · refine ⟨hx, .inr ⟨g, cap, cur, rfl, hg, ?_, r⟩⟩
    have : g < w.heap.size := by
      rcases Nat.lt_or_ge g w.heap.size with h | h
      · exact h
      · simp [Array.getElem?_eq_none h] at hcur
    rw [hb.block g this]; exact hcur

/-! ### Equality -/
set_option maxHeartbeats 400000 in
theorem eqI_some (b1 o1 c1 b2 o2 c2 : Nat) (zs : List Int) (w : World) (hl : zs.length ≤ 1048576)
    (h1 : ∀ j (h : j < zs.length), w.cell? ⟨b1, o1 + j, none⟩ = some (.int .i64 zs[j])) (h2 : ∀ j (h : j < zs.length), w.cell? ⟨b2, o2 + j, none⟩ = some (.int .i64 zs[j])) :
    Calls Tryd.prog 32 #[.slice (some ⟨b1, o1, none⟩) zs.length c1, .slice (some ⟨b2, o2, none⟩) zs.length c2] w fun e w' => e = .returned (.bool true) ∧ ∃ n, w' = w.drewN n := by
  have H1 := Lib.hid h1
  have H2 := Lib.hid h2
  clear h1 h2
  go_enter Tryd.func32, Tryd.ntmps32
  go_wp2
  go_loopw [5] (fun i wr => ∃ k n : Nat, k ≤ zs.length ∧ i = .int .i64 (k : Int) ∧ wr = w.drewN n) (fun i _ => zs.length - (intOf i).toNat)
  case atStart => exact ⟨0, 0, Nat.zero_le _, rfl, rfl⟩
  case round =>
    obtain ⟨k, n, hk, rfl, rfl⟩ := hrel
    by_cases hlt : k < zs.length
    · obtain ⟨z, hz⟩ : ∃ z, zs[k] = z := ⟨_, rfl⟩
      have c1 := H1.out k hlt
      have c2 := H2.out k hlt
      rw [hz] at c1 c2
      clear hz
      have i0 : 0 ≤ (k : Int) := by omega
      have i1 : (k : Int) < zs.length := by omega
      have eb : (z != z) = false := by simp
      go_wp2
      go_quiet (fail)
      go_wp2
      go_roundw
      case rel => exact ⟨k + 1, _, by omega, by go_num, rfl⟩
      case measure => simp [intOf]; omega
    · go_wp2
      go_ret
      exact ⟨rfl, _, rfl⟩

theorem eqI_none (a1 a2 : Option Addr) (c1 c2 : Nat) (w : World) :
    Calls Tryd.prog 32 #[.slice a1 0 c1, .slice a2 0 c2] w fun e w' => e = .returned (.bool true) ∧ ∃ n, w' = w.drewN n := by
  go_enter Tryd.func32, Tryd.ntmps32
  go_wp2
  refine wp_loop_rounds 1 ?_
  rw [rounds_succ]
  go_wp2
  go_ret
  exact ⟨rfl, 0, rfl⟩
theorem eqI_any {v1 v2 : Value} {zs : List Int} {w : World} (h1 : IntsAt w v1 zs) (h2 : IntsAt w v2 zs) :
    Calls Tryd.prog 32 #[v1, v2] w fun e w' => e = .returned (.bool true) ∧ ∃ n, w' = w.drewN n := by
  obtain ⟨a1, c1, rfl, hl, h1⟩ := h1
  obtain ⟨a2, c2, rfl, _, h2⟩ := h2
  by_cases hz : zs = []
  · subst hz
    exact eqI_none a1 a2 c1 c2 w
  · rcases h1 with rfl | ⟨b1, o1, rfl, _, h1⟩
    · exact absurd rfl hz
    rcases h2 with rfl | ⟨b2, o2, rfl, _, h2⟩
    · exact absurd rfl hz
    exact eqI_some b1 o1 c1 b2 o2 c2 zs w hl h1 h2

/-! ### A copy -/
/-- How a call ends that hands back a slice of its own. -/
def RetI (w : World) (zs : List Int) (e : Ending) (w' : World) : Prop := ∃ v, e = .returned v ∧ OwnI w.heap.size w' v zs ∧ Below w.heap.size w w'
theorem copy_step {zs : List Int} {xs : List Value} {k : Nat} (h : xs.take k = iv (zs.take k)) (hx : xs.length = zs.length) (hk : k < zs.length) : (xs.set k (.int .i64 zs[k])).take (k + 1) = iv (zs.take (k + 1)) := by
  rw [List.take_succ_eq_append_getElem (by simp; omega), List.take_set_of_le (Nat.le_refl k), h, List.getElem_set_self, List.take_succ_eq_append_getElem hk]
  unfold iv
  rw [List.map_append]
  rfl
theorem copy_end {zs : List Int} {xs : List Value} (h : xs.take zs.length = iv (zs.take zs.length)) (hx : xs.length = zs.length) : xs = iv zs := by
  rwa [List.take_length, List.take_of_length_le (by omega)] at h
set_option maxHeartbeats 400000 in
set_option maxRecDepth 100000 in
theorem toI_some (b off cap : Nat) (zs : List Int) (w : World) (hl : zs.length ≤ 1048576) (hb : b < w.heap.size) (h1 : ∀ j (h : j < zs.length), w.cell? ⟨b, off + j, none⟩ = some (.int .i64 zs[j])) :
    Calls Tryd.prog 40 #[.slice (some ⟨b, off, none⟩) zs.length cap] w fun e w' => RetI w zs e w' := by
  obtain ⟨i0, hi, hz0, hz1, hz2⟩ := info_parts info2
  have H1 := Lib.hid h1
  clear h1
  go_enter Tryd.func40, Tryd.ntmps40
  go_wp2_with (at_make; refine wpList_make_full _ rfl _ _ 40 rfl w.heap.size 2 i0 (.int .i64 0) 1 Tryd.underlying40 hi hz0 hz1 _ _ _ _ zs.length rfl rfl rfl rfl ?ah1 ?ah2 ?ah3 ?_)
  case ah1 => rw [hz2]; omega
  case ah2 => unfold maxLen; omega
  case ah3 => exact Nat.le_refl _
  intro w1 hown hgrow
  have hb1 := (Below.refl w.heap.size w).grown hgrow (Nat.le_refl _) (fun k hk => by cases hk)
  have hr : ∃ xs : List Value, xs.length = zs.length ∧ w1.ownsRow w.heap.size 2 1 (.slice (some ⟨w.heap.size, 0, none⟩) zs.length zs.length) zs.length xs := ⟨_, by have := hown.1; simpa using this, hown⟩
  clear hown hgrow
  obtain ⟨xs0, hx0, hown0⟩ := hr
  go_wp2
  go_loopw [4] (fun i wr => ∃ (k : Nat) (xs : List Value), k ≤ zs.length ∧ i = .int .i64 (k : Int) ∧ Hid (xs.take k = iv (zs.take k)) ∧ xs.length = zs.length ∧ wr.ownsRow w.heap.size 2 1 (.slice (some ⟨w.heap.size, 0, none⟩) zs.length zs.length) zs.length xs ∧ Below w.heap.size w wr) (fun i _ => zs.length - (intOf i).toNat)
  case atStart => exact ⟨0, xs0, Nat.zero_le _, rfl, rfl, hx0, hown0, hb1⟩
  case round =>
    obtain ⟨k, xs, hk, rfl, ht, hx, hown, hbw⟩ := hrel
    by_cases hlt : k < zs.length
    · have c1 : wr.cell? ⟨b, off + k, none⟩ = some (.int .i64 zs[k]) := (hbw.cell (p := ⟨b, off + k, none⟩) hb).trans (H1.out k hlt)
      have HT := Lib.hid (copy_step ht.out hx hlt)
      obtain ⟨z, hz⟩ : ∃ z, zs[k] = z := ⟨_, rfl⟩
      rw [hz] at c1 HT
      obtain ⟨y, hy⟩ : ∃ y, xs[k]? = some y := ⟨xs[k], List.getElem?_eq_getElem (by omega)⟩
      have c2 : wr.cell? ⟨w.heap.size, k, none⟩ = some y := by rw [hown.cellAt k (by omega)]; exact hy
      have c3 : wr.frozen? ⟨w.heap.size, k, none⟩ = false := hown.frozenAt k
      have HO := Lib.hid (hown.stored k (.int .i64 z)).1
      have HB : Hid (Below w.heap.size w (wr.setCell ⟨w.heap.size, k, none⟩ (.int .i64 z))) := hbw.setCell (p := ⟨w.heap.size, k, none⟩) (Nat.le_refl _) _
      have HX : Hid ((xs.set k (.int .i64 z)).length = zs.length) := by show _ = _; rw [List.length_set]; exact hx
      clear hz hy ht hown hbw hx
      go_wp2
      go_roundw
      case rel => exact ⟨k + 1, _, by omega, by go_num, HT, HX.out, HO.out, HB.out⟩
      case measure => simp [intOf]; omega
    · obtain rfl : k = zs.length := by omega
      have e := copy_end ht.out hx
      subst e
      have HO : Hid (OwnI w.heap.size wr (.slice (some ⟨w.heap.size, 0, none⟩) zs.length zs.length) zs) := hown
      have HB := Lib.hid hbw
      clear hown hbw ht hx
      go_wp2
      go_ret
      exact ⟨_, rfl, HO.out, HB.out⟩
set_option maxRecDepth 100000 in
theorem toI_none (a : Option Addr) (cap : Nat) (w : World) :
    Calls Tryd.prog 40 #[.slice a 0 cap] w fun e w' => RetI w [] e w' := by
  have hmk : ∀ w : World, (Instr.makeSlice 40 (.int .i64 0) (.int .i64 0)).run Tryd.prog w = .ok (.slice (some ⟨w.heap.size, 0, none⟩) 0 0) (w.alloc (.cells #[] 2)) := fun _ => by kernel_rfl
  go_enter Tryd.func40, Tryd.ntmps40
  go_wp2
  refine wp_loop_rounds 1 ?_
  rw [rounds_succ]
  go_wp2
  go_ret
  exact ⟨_, rfl, World.ownsRow_made w #[] 0 (Nat.le_refl _) (by unfold maxLen; omega) rfl, (Below.refl _ _).alloc (Nat.le_refl _) _⟩
theorem toI_any {v : Value} {zs : List Int} {w : World} (h : IntsAt w v zs) :
    Calls Tryd.prog 40 #[v] w fun e w' => RetI w zs e w' := by
  obtain ⟨a, c, rfl, hl, h⟩ := h
  rcases h with rfl | ⟨b, off, rfl, hb, h⟩
  · exact toI_none a c w
  · exact toI_some b off c zs w hl hb h

/-! ### Marks -/
/-- The marks k, k + 1, .. -/
def marks (k : Int) (n : Nat) : List Int := (List.range n).map fun (j : Nat) => k + (j : Int)
theorem marks_len (k : Int) (n : Nat) : (marks k n).length = n := by simp [marks]
theorem marks_at (k : Int) (n j : Nat) (h : j < n) : (marks k n)[j]? = some (k + (j : Int)) := by simp [marks, h]
/-- A row in which the first marks are laid. -/
def Marked (zs : List Int) (k : Int) (n : Nat) : List Int := marks k n ++ zs.drop n
theorem marked_zero (zs : List Int) (k : Int) : Marked zs k 0 = zs := by simp [Marked, marks]
theorem marked_all (zs : List Int) (k : Int) : Marked zs k zs.length = marks k zs.length := by simp [Marked]
theorem marked_len (zs : List Int) (k : Int) (n : Nat) (h : n ≤ zs.length) : (Marked zs k n).length = zs.length := by simp [Marked, marks_len]; omega
theorem marked_next (zs : List Int) (k : Int) (n : Nat) (h : n < zs.length) : (Marked zs k n).set n (k + (n : Int)) = Marked zs k (n + 1) := by
  unfold Marked
  rw [List.set_append_right _ _ (by rw [marks_len]; exact Nat.le_refl _), marks_len, Nat.sub_self, List.drop_eq_getElem_cons h]
  have : marks k (n + 1) = marks k n ++ [k + (n : Int)] := by unfold marks; rw [List.range_succ, List.map_append]; rfl
  rw [this, List.set_cons_zero, List.append_assoc]
  rfl
theorem iv_set (zs : List Int) (n : Nat) (x : Int) : (iv zs).set n (.int .i64 x) = iv (zs.set n x) := by unfold iv; rw [List.map_set]
/-- How the marking ends: the next mark, and the slice that holds the marks; of what else was there nothing turns. -/
def RetM (B : Nat) (w : World) (v : Value) (zs : List Int) (k : Int) (e : Ending) (w' : World) : Prop :=
  e = .returned (.int .i64 (k + (zs.length : Int))) ∧ OwnI B w' v (marks k zs.length) ∧ Below B w w' ∧ w.grownBy w' v.ownBlock
theorem grown_refl (w : World) (r : Option Nat) : w.grownBy w r := ⟨rfl, rfl, rfl, Nat.le_refl _, fun _ _ _ => rfl⟩
theorem grown_trans {a b c : World} {r : Option Nat} (h : a.grownBy b r) (g : b.grownBy c r) : a.grownBy c r :=
  ⟨g.os.trans h.os, g.tape.trans h.tape, g.output.trans h.output, Nat.le_trans h.size g.size, fun k hk hr => (g.block k (Nat.lt_of_lt_of_le hk h.size) hr).trans (h.block k hk hr)⟩
set_option maxHeartbeats 400000 in
set_option maxRecDepth 100000 in
theorem markI_some (B g cap : Nat) (zs : List Int) (k : Int) (w : World) (hl : zs.length ≤ 1048576) (hk0 : 0 ≤ k) (hk1 : k ≤ 1048576) (hB : B ≤ g) (hown0 : OwnI B w (.slice (some ⟨g, 0, none⟩) zs.length cap) zs) :
    Calls Tryd.prog 33 #[.slice (some ⟨g, 0, none⟩) zs.length cap, .int .i64 k] w fun e w' => RetM B w (.slice (some ⟨g, 0, none⟩) zs.length cap) zs k e w' := by
  go_enter Tryd.func33, Tryd.ntmps33
  go_wp2
  go_loopw [1, 5] (fun m i wr => ∃ n : Nat, n ≤ zs.length ∧ i = .int .i64 (n : Int) ∧ m = .int .i64 (k + (n : Int)) ∧ wr.ownsRow B 2 1 (.slice (some ⟨g, 0, none⟩) zs.length cap) zs.length (iv (Marked zs k n)) ∧ Below B w wr ∧ w.grownBy wr (some g)) (fun _ i _ => zs.length - (intOf i).toNat)
  case atStart => exact ⟨0, Nat.zero_le _, rfl, by simp, by rw [marked_zero]; exact hown0, Below.refl _ _, grown_refl _ _⟩
  case round =>
    obtain ⟨n, hn, rfl, rfl, hown, hbw, hgw⟩ := hrel
    by_cases hlt : n < zs.length
    · obtain ⟨y, hy⟩ : ∃ y, (iv (Marked zs k n))[n]? = some y := ⟨_, iv_at _ n (by rw [marked_len zs k n hn]; exact hlt)⟩
      have c2 : wr.cell? ⟨g, n, none⟩ = some y := by rw [hown.cellAt n (by omega)]; exact hy
      have c3 : wr.frozen? ⟨g, n, none⟩ = false := hown.frozenAt n
      have hst := hown.stored n (.int .i64 (k + (n : Int)))
      have HO : Hid ((wr.setCell ⟨g, n, none⟩ (.int .i64 (k + (n : Int)))).ownsRow B 2 1 (.slice (some ⟨g, 0, none⟩) zs.length cap) zs.length (iv (Marked zs k (n + 1)))) := by
        rw [← marked_next zs k n hlt, ← iv_set]; exact hst.1
      have HB : Hid (Below B w (wr.setCell ⟨g, n, none⟩ (.int .i64 (k + (n : Int))))) := hbw.setCell (p := ⟨g, n, none⟩) hB _
      have HG : Hid (w.grownBy (wr.setCell ⟨g, n, none⟩ (.int .i64 (k + (n : Int)))) (some g)) := grown_trans hgw hst.2
      clear hy hown hbw hgw hst hown0
      go_wp2
      go_roundw
      case rel => exact ⟨n + 1, by omega, by go_num, by go_num, HO.out, HB.out, HG.out⟩
      case measure => simp [intOf]; omega
    · obtain rfl : n = zs.length := by omega
      rw [marked_all] at hown
      have HO : Hid (OwnI B wr (.slice (some ⟨g, 0, none⟩) zs.length cap) (marks k zs.length)) := by unfold OwnI; rw [marks_len]; exact hown
      have HB := Lib.hid hbw
      have HG := Lib.hid hgw
      clear hown hbw hgw hown0
      go_wp2
      go_ret
      exact ⟨rfl, HO.out, HB.out, HG.out⟩
theorem markI_none (B : Nat) (k : Int) (w : World) :
    Calls Tryd.prog 33 #[.slice none 0 0, .int .i64 k] w fun e w' => RetM B w (.slice none 0 0) [] k e w' := by
  go_enter Tryd.func33, Tryd.ntmps33
  go_wp2
  refine wp_loop_rounds 1 ?_
  rw [rounds_succ]
  go_wp2
  go_ret
  exact ⟨by simp, World.ownsRow_nil _ _ _ _, Below.refl _ _, grown_refl _ _⟩
theorem markI_any {B : Nat} {v : Value} {zs : List Int} (k : Int) {w : World} (h : OwnI B w v zs) (hl : zs.length ≤ 1048576) (hk0 : 0 ≤ k) (hk1 : k ≤ 1048576) :
    Calls Tryd.prog 33 #[v, .int .i64 k] w fun e w' => RetM B w v zs k e w' := by
  rcases h.form with ⟨rfl, rfl⟩ | ⟨g, cap, rfl, hB, _⟩
  · exact markI_none B k w
  · exact markI_some B g cap zs k w hl hk0 hk1 hB h

set_option maxHeartbeats 400000 in
theorem heldI_some (b off cap n : Nat) (k : Int) (w : World) (hl : n ≤ 1048576) (hk0 : 0 ≤ k) (hk1 : k ≤ 1048576) (h1 : ∀ j, j < n → w.cell? ⟨b, off + j, none⟩ = some (.int .i64 (k + (j : Int)))) :
    Calls Tryd.prog 34 #[.slice (some ⟨b, off, none⟩) n cap, .int .i64 k] w fun e w' => e = .returned (.int .i64 (k + (n : Int))) ∧ w = w' := by
  have H1 := Lib.hid h1
  clear h1
  go_enter Tryd.func34, Tryd.ntmps34
  go_wp2
  go_loop [1, 5] (fun m i => ∃ j : Nat, j ≤ n ∧ i = .int .i64 (j : Int) ∧ m = .int .i64 (k + (j : Int))) (fun _ i => n - (intOf i).toNat)
  case atStart => exact ⟨0, Nat.zero_le _, rfl, by simp⟩
  case round =>
    obtain ⟨j, hj, rfl, rfl⟩ := hrel
    by_cases hlt : j < n
    · have c1 := H1.out j hlt
      have eb : (k + (j : Int) != k + (j : Int)) = false := by simp
      go_wp2
      go_round
      case rel => exact ⟨j + 1, by omega, by go_num, by go_num⟩
      case measure => simp [intOf]; omega
    · obtain rfl : j = n := by omega
      go_wp2
      go_ret
      exact ⟨rfl, rfl⟩
theorem heldI_none (a : Option Addr) (cap : Nat) (k : Int) (w : World) :
    Calls Tryd.prog 34 #[.slice a 0 cap, .int .i64 k] w fun e w' => e = .returned (.int .i64 k) ∧ w = w' := by
  go_enter Tryd.func34, Tryd.ntmps34
  go_wp2
  refine wp_loop_rounds 1 ?_
  rw [rounds_succ]
  go_wp2
  go_ret
  exact ⟨rfl, rfl⟩
theorem heldI_any {v : Value} {n : Nat} {k : Int} {w : World} (h : IntsAt w v (marks k n)) (hk0 : 0 ≤ k) (hk1 : k ≤ 1048576) :
    Calls Tryd.prog 34 #[v, .int .i64 k] w fun e w' => e = .returned (.int .i64 (k + (n : Int))) ∧ w = w' := by
  obtain ⟨a, c, rfl, hl, h⟩ := h
  rw [marks_len] at hl ⊢
  rcases h with h | ⟨b, off, rfl, _, h⟩
  · have : n = 0 := by have := congrArg List.length h; rw [marks_len] at this; simpa using this
    subst this
    exact (heldI_none a c k w).mono fun e w' ⟨he, hw⟩ => ⟨by rw [he]; simp, hw⟩
  · refine heldI_some b off c n k w hl hk0 hk1 (fun j hj => ?_)
    have hj' : j < (marks k n).length := by rw [marks_len]; exact hj
    rw [h j hj']
    have := marks_at k n j hj
    rw [List.getElem?_eq_getElem hj'] at this
    injection this with this
    rw [this]
end Go.Proofs.YtdihcmohpbgmmaaDoor

namespace Go.Proofs.YtdihcmohpbgmmaaDoor
open Go.RowKit
set_option linter.unusedVariables false

/-- Only what lies between B and E may have turned. -/
def Fr (B E : Nat) (w w' : World) : Prop :=
  w'.os = w.os ∧ w'.tape = w.tape ∧ w'.output = w.output ∧ w.heap.size ≤ w'.heap.size ∧ ∀ k, k < w.heap.size → (k < B ∨ E ≤ k) → w'.heap[k]? = w.heap[k]?
theorem Fr.below {B E : Nat} {w w' : World} (h : Fr B E w w') (hB : B ≤ w.heap.size) : Below B w w' :=
  ⟨h.1, h.2.1, h.2.2.1, h.2.2.2.1, fun k hk => h.2.2.2.2 k (by omega) (.inl hk)⟩
/-- A slice of numbers of the call's own, in a block from B on and before E. -/
def OwnX (B E : Nat) (w : World) (v : Value) (zs : List Int) : Prop := OwnI B w v zs ∧ E ≤ w.heap.size ∧ ∀ g, v.ownBlock = some g → g < E
theorem OwnX.new {B : Nat} {w : World} {v : Value} {zs : List Int} (h : OwnI B w v zs) : OwnX B w.heap.size w v zs := ⟨h, Nat.le_refl _, fun g hg => (h.out.lt g hg).2⟩
theorem OwnX.at {B E : Nat} {w : World} {v : Value} {zs : List Int} (h : OwnX B E w v zs) (hl : zs.length ≤ 1048576) : IntsAt w v zs := h.1.at hl
theorem OwnX.on {B E : Nat} {w w' : World} {v : Value} {zs : List Int} (h : OwnX B E w v zs) (hb : Below w.heap.size w w') : OwnX B E w' v zs := ⟨h.1.on hb, Nat.le_trans h.2.1 hb.size, h.2.2⟩
theorem OwnX.fr {B E B' E' : Nat} {w w' : World} {v : Value} {zs : List Int} (h : OwnX B E w v zs) (f : Fr B' E' w w') (hd : E ≤ B' ∨ E' ≤ B) : OwnX B E w' v zs := by
  obtain ⟨ho, he, hg⟩ := h
  refine ⟨?_, Nat.le_trans he f.2.2.2.1, hg⟩
  obtain ⟨hx, ⟨rfl, hn⟩ | ⟨g, cap, cur, rfl, hB, hcur, r⟩⟩ := ho
  · exact ⟨hx, .inl ⟨rfl, hn⟩⟩
  · refine ⟨hx, .inr ⟨g, cap, cur, rfl, hB, ?_, r⟩⟩
    have := hg g rfl
    rw [f.2.2.2.2 g (by omega) (by omega)]; exact hcur
theorem OwnX.drewN {B E : Nat} {w : World} {v : Value} {zs : List Int} (h : OwnX B E w v zs) (n : Nat) : OwnX B E (w.drewN n) v zs := h
theorem below_drewX {B : Nat} {a w : World} (h : Below B a w) (n : Nat) : Below B a (w.drewN n) := ⟨h.os, h.tape, h.output, h.size, h.block⟩
set_option maxHeartbeats 400000 in
set_option maxRecDepth 100000 in
theorem markW_some (B g cap : Nat) (zs : List Int) (k : Int) (w : World) (hl : zs.length ≤ 1048576) (hk0 : 0 ≤ k) (hk1 : k ≤ 1000000000) (hB : B ≤ g) (hown0 : OwnI B w (.slice (some ⟨g, 0, none⟩) zs.length cap) zs) :
    Calls Tryd.prog 33 #[.slice (some ⟨g, 0, none⟩) zs.length cap, .int .i64 k] w fun e w' => RetM B w (.slice (some ⟨g, 0, none⟩) zs.length cap) zs k e w' := by
  go_enter Tryd.func33, Tryd.ntmps33
  go_wp2
  go_loopw [1, 5] (fun m i wr => ∃ n : Nat, n ≤ zs.length ∧ i = .int .i64 (n : Int) ∧ m = .int .i64 (k + (n : Int)) ∧ wr.ownsRow B 2 1 (.slice (some ⟨g, 0, none⟩) zs.length cap) zs.length (iv (Marked zs k n)) ∧ Below B w wr ∧ w.grownBy wr (some g)) (fun _ i _ => zs.length - (intOf i).toNat)
  case atStart => exact ⟨0, Nat.zero_le _, rfl, by simp, by rw [marked_zero]; exact hown0, Below.refl _ _, grown_refl _ _⟩
  case round =>
    obtain ⟨n, hn, rfl, rfl, hown, hbw, hgw⟩ := hrel
    by_cases hlt : n < zs.length
    · obtain ⟨y, hy⟩ : ∃ y, (iv (Marked zs k n))[n]? = some y := ⟨_, iv_at _ n (by rw [marked_len zs k n hn]; exact hlt)⟩
      have c2 : wr.cell? ⟨g, n, none⟩ = some y := by rw [hown.cellAt n (by omega)]; exact hy
      have c3 : wr.frozen? ⟨g, n, none⟩ = false := hown.frozenAt n
      have hst := hown.stored n (.int .i64 (k + (n : Int)))
      have HO : Hid ((wr.setCell ⟨g, n, none⟩ (.int .i64 (k + (n : Int)))).ownsRow B 2 1 (.slice (some ⟨g, 0, none⟩) zs.length cap) zs.length (iv (Marked zs k (n + 1)))) := by
        rw [← marked_next zs k n hlt, ← iv_set]; exact hst.1
      have HB : Hid (Below B w (wr.setCell ⟨g, n, none⟩ (.int .i64 (k + (n : Int))))) := hbw.setCell (p := ⟨g, n, none⟩) hB _
      have HG : Hid (w.grownBy (wr.setCell ⟨g, n, none⟩ (.int .i64 (k + (n : Int)))) (some g)) := grown_trans hgw hst.2
      clear hy hown hbw hgw hst hown0
      go_wp2
      go_roundw
      case rel => exact ⟨n + 1, by omega, by go_num, by go_num, HO.out, HB.out, HG.out⟩
      case measure => simp [intOf]; omega
    · obtain rfl : n = zs.length := by omega
      rw [marked_all] at hown
      have HO : Hid (OwnI B wr (.slice (some ⟨g, 0, none⟩) zs.length cap) (marks k zs.length)) := by unfold OwnI; rw [marks_len]; exact hown
      have HB := Lib.hid hbw
      have HG := Lib.hid hgw
      clear hown hbw hgw hown0
      go_wp2
      go_ret
      exact ⟨rfl, HO.out, HB.out, HG.out⟩
theorem markW_none (B : Nat) (k : Int) (w : World) :
    Calls Tryd.prog 33 #[.slice none 0 0, .int .i64 k] w fun e w' => RetM B w (.slice none 0 0) [] k e w' := by
  go_enter Tryd.func33, Tryd.ntmps33
  go_wp2
  refine wp_loop_rounds 1 ?_
  rw [rounds_succ]
  go_wp2
  go_ret
  exact ⟨by simp, World.ownsRow_nil _ _ _ _, Below.refl _ _, grown_refl _ _⟩
theorem markW_any {B : Nat} {v : Value} {zs : List Int} (k : Int) {w : World} (h : OwnI B w v zs) (hl : zs.length ≤ 1048576) (hk0 : 0 ≤ k) (hk1 : k ≤ 1000000000) :
    Calls Tryd.prog 33 #[v, .int .i64 k] w fun e w' => RetM B w v zs k e w' := by
  rcases h.form with ⟨rfl, rfl⟩ | ⟨g, cap, rfl, hB, _⟩
  · exact markW_none B k w
  · exact markW_some B g cap zs k w hl hk0 hk1 hB h

/-- How the marking ends. -/
def RetMX (B E : Nat) (w : World) (v : Value) (zs : List Int) (k : Int) (e : Ending) (w' : World) : Prop :=
  e = .returned (.int .i64 (k + (zs.length : Int))) ∧ OwnX B E w' v (marks k zs.length) ∧ Fr B E w w'
theorem markX_any {B E : Nat} {v : Value} {zs : List Int} (k : Int) {w : World} (h : OwnX B E w v zs) (hl : zs.length ≤ 1048576) (hk0 : 0 ≤ k) (hk1 : k ≤ 1000000000) :
    Calls Tryd.prog 33 #[v, .int .i64 k] w fun e w' => RetMX B E w v zs k e w' := by
  refine (markW_any k h.1 hl hk0 hk1).mono ?_
  rintro e w' ⟨he, ho, hb, hg⟩
  refine ⟨he, ⟨ho, Nat.le_trans h.2.1 hg.size, h.2.2⟩, hg.os, hg.tape, hg.output, hg.size, fun k hk hd => hg.block k hk fun e => ?_⟩
  have h1 := h.2.2 k e.symm
  have h2 := (h.1.out.lt k e.symm).1
  omega
end Go.Proofs.YtdihcmohpbgmmaaDoor

/-
  Linear algebra over the numbers modulo a prime (Fin p, where each number but 0 has an inverse): determinants, kernels, the reduction by rows, ranks, inverses. Plain mathematics.
-/
namespace Go.Proofs.YtdihcmohpbgmmaaDoor.Lin
set_option linter.unusedVariables false
set_option linter.unusedSectionVars false
variable {p : Nat} [NeZero p]

/-- The sum of the first n numbers. -/
def sm : Nat → (Nat → Fin p) → Fin p
  | 0, _ => 0
  | n + 1, f => sm n f + f n
theorem sm_congr {n : Nat} {f g : Nat → Fin p} (h : ∀ i, i < n → f i = g i) : sm n f = sm n g := by
  induction n with
  | zero => rfl
  | succ n ih => simp only [sm]; rw [ih fun i hi => h i (by omega), h n (by omega)]
theorem sm_add (n : Nat) (f g : Nat → Fin p) : sm n (fun i => f i + g i) = sm n f + sm n g := by
  induction n with
  | zero => simp [sm]
  | succ n ih => simp only [sm]; rw [ih]; grind
theorem sm_mul (n : Nat) (c : Fin p) (f : Nat → Fin p) : sm n (fun i => c * f i) = c * sm n f := by
  induction n with
  | zero => simp only [sm]; grind
  | succ n ih => simp only [sm]; rw [ih]; grind
theorem sm_neg (n : Nat) (f : Nat → Fin p) : sm n (fun i => - f i) = - sm n f := by
  induction n with
  | zero => simp only [sm]; grind
  | succ n ih => simp only [sm]; rw [ih]; grind
theorem sm_zero (n : Nat) (f : Nat → Fin p) (h : ∀ i, i < n → f i = 0) : sm n f = 0 := by
  induction n with
  | zero => rfl
  | succ n ih => simp only [sm]; rw [ih fun i hi => h i (by omega), h n (by omega)]; grind
theorem sm_one (n k : Nat) (f : Nat → Fin p) (hk : k < n) (h : ∀ i, i < n → i ≠ k → f i = 0) : sm n f = f k := by
  induction n with
  | zero => omega
  | succ n ih =>
    simp only [sm]
    by_cases e : k = n
    · subst e; rw [sm_zero k f fun i hi => h i (by omega) (by omega)]; grind
    · rw [ih (by omega) fun i hi hne => h i (by omega) hne, h n (by omega) (by omega)]; grind
theorem sm_two (n a b : Nat) (f : Nat → Fin p) (ha : a < b) (hb : b < n) (h : ∀ i, i < n → i ≠ a → i ≠ b → f i = 0) : sm n f = f a + f b := by
  induction n with
  | zero => omega
  | succ n ih =>
    simp only [sm]
    by_cases e : b = n
    · subst e; rw [sm_one b a f ha fun i hi hne => h i (by omega) hne (by omega)]
    · rw [ih (by omega) fun i hi h1 h2 => h i (by omega) h1 h2, h n (by omega) (by omega) (by omega)]; grind
theorem sm_comm (m n : Nat) (f : Nat → Nat → Fin p) : sm m (fun i => sm n (fun j => f i j)) = sm n (fun j => sm m (fun i => f i j)) := by
  induction m with
  | zero => simp only [sm]; rw [sm_zero]; intros; rfl
  | succ m ih => simp only [sm]; rw [ih, sm_add]
theorem sm_split (m n : Nat) (f : Nat → Fin p) : sm (m + n) f = sm m f + sm n (fun i => f (m + i)) := by
  induction n with
  | zero => simp only [sm, Nat.add_zero]; grind
  | succ n ih => rw [← Nat.add_assoc]; simp only [sm]; rw [ih]; grind

/-! ### The determinant, along the first column -/
abbrev Mt (p : Nat) := Nat → Nat → Fin p
def skip (i r : Nat) : Nat := if r < i then r else r + 1
theorem skip_ne (i r : Nat) : skip i r ≠ i := by unfold skip; split <;> omega
def sgn (i : Nat) : Fin p := if i % 2 = 0 then 1 else -1
theorem sgn_succ (i : Nat) : (sgn (i + 1) : Fin p) = - sgn i := by
  unfold sgn
  by_cases h : i % 2 = 0
  · rw [if_pos h, if_neg (by omega)]
  · rw [if_neg h, if_pos (by omega)]; grind
def det : Nat → Mt p → Fin p
  | 0, _ => 1
  | n + 1, A => sm (n + 1) (fun i => sgn i * A i 0 * det n (fun r c => A (skip i r) (c + 1)))
theorem skip_lt {n i r : Nat} (hr : r < n) : skip i r < n + 1 := by unfold skip; split <;> omega
theorem det_congr : ∀ (n : Nat) (A B : Mt p), (∀ i j, i < n → j < n → A i j = B i j) → det n A = det n B
  | 0, _, _, _ => rfl
  | n + 1, A, B, h => by
    simp only [det]
    refine sm_congr fun i hi => ?_
    rw [h i 0 hi (by omega), det_congr n (fun r c => A (skip i r) (c + 1)) (fun r c => B (skip i r) (c + 1)) fun r c hr hc => h _ _ (skip_lt hr) (by omega)]
/-- The row among those that are left. -/
def back (i t : Nat) : Nat := if t < i then t else t - 1
theorem skip_back {i t : Nat} (h : t ≠ i) : skip i (back i t) = t := by
  unfold skip back
  by_cases h1 : t < i
  · rw [if_pos h1, if_pos h1]
  · rw [if_neg h1, if_neg (by omega)]; omega
theorem back_skip {i r t : Nat} (h : skip i r = t) : r = back i t := by unfold skip back at *; split at h <;> split <;> omega
theorem back_lt {n i t : Nat} (hi : i < n + 1) (ht : t < n + 1) (h : t ≠ i) : back i t < n := by unfold back; split <;> omega
theorem det_lin : ∀ (n t : Nat) (x : Fin p) (A B C : Mt p), t < n → (∀ i j, i ≠ t → A i j = C i j) → (∀ i j, i ≠ t → B i j = C i j) → (∀ j, C t j = A t j + x * B t j) → det n C = det n A + x * det n B
  | 0, t, _, _, _, _, h, _, _, _ => absurd h (Nat.not_lt_zero t)
  | n + 1, t, x, A, B, C, ht, hA, hB, hC => by
    simp only [det]
    rw [← sm_mul, ← sm_add]
    refine sm_congr fun i hi => ?_
    by_cases e : i = t
    · subst e
      have e1 : (fun r c => C (skip i r) (c + 1)) = (fun r c => A (skip i r) (c + 1)) := by funext r c; exact (hA _ _ (skip_ne i r)).symm
      have e2 : (fun r c => B (skip i r) (c + 1)) = (fun r c => A (skip i r) (c + 1)) := by funext r c; rw [hB _ _ (skip_ne i r), hA _ _ (skip_ne i r)]
      rw [e1, e2, hC]
      grind
    · have ih := det_lin n (back i t) x (fun r c => A (skip i r) (c + 1)) (fun r c => B (skip i r) (c + 1)) (fun r c => C (skip i r) (c + 1)) (back_lt hi ht (Ne.symm e))
        (fun r c hr => hA _ _ fun h => hr (back_skip h)) (fun r c hr => hB _ _ fun h => hr (back_skip h)) (fun c => by
          simp only [skip_back (Ne.symm e)]; exact hC _)
      rw [ih, hA i 0 e, hB i 0 e]
      grind
theorem det_adj : ∀ (n t : Nat) (A : Mt p), t + 1 < n → (∀ j, A t j = A (t + 1) j) → det n A = 0
  | 0, t, _, h, _ => absurd h (Nat.not_lt_zero _)
  | n + 1, t, A, ht, h => by
    simp only [det]
    rw [sm_two (n + 1) t (t + 1) _ (by omega) ht]
    · have e : (fun r c => A (skip t r) (c + 1)) = (fun r c => A (skip (t + 1) r) (c + 1)) := by
        funext r c
        unfold skip
        by_cases h1 : r < t
        · rw [if_pos h1, if_pos (by omega)]
        · by_cases h2 : r = t
          · subst h2; rw [if_neg (by omega), if_pos (by omega)]; exact (h _).symm
          · rw [if_neg (by omega), if_neg (by omega)]
      rw [e, sgn_succ, h 0]
      grind
    · intro i hi h1 h2
      have : det n (fun r c => A (skip i r) (c + 1)) = 0 := by
        by_cases hlt : i < t
        · refine det_adj n (t - 1) _ (by omega) fun j => ?_
          have e1 : skip i (t - 1) = t := by unfold skip; rw [if_neg (by omega)]; omega
          have e2 : skip i (t - 1 + 1) = t + 1 := by unfold skip; rw [if_neg (by omega)]; omega
          rw [e1, e2]; exact h _
        · refine det_adj n t _ (by omega) fun j => ?_
          have e1 : skip i t = t := by unfold skip; rw [if_pos (by omega)]
          have e2 : skip i (t + 1) = t + 1 := by unfold skip; rw [if_pos (by omega)]
          rw [e1, e2]; exact h _
      rw [this]; grind
/-- A with one row laid anew. -/
def row (A : Mt p) (t : Nat) (x : Nat → Fin p) : Mt p := fun i j => if i = t then x j else A i j
theorem row_at (A : Mt p) (t j : Nat) (x : Nat → Fin p) : row A t x t j = x j := by simp [row]
theorem row_ne (A : Mt p) {t i : Nat} (j : Nat) (x : Nat → Fin p) (h : i ≠ t) : row A t x i j = A i j := by simp [row, h]
theorem det_row (n t : Nat) (A : Mt p) (x y : Nat → Fin p) (c : Fin p) (ht : t < n) : det n (row A t fun j => x j + c * y j) = det n (row A t x) + c * det n (row A t y) :=
  det_lin n t c _ _ _ ht (fun i j h => by rw [row_ne _ _ _ h, row_ne _ _ _ h]) (fun i j h => by rw [row_ne _ _ _ h, row_ne _ _ _ h]) (fun j => by rw [row_at, row_at, row_at])
theorem row_row (A : Mt p) (t : Nat) (x y : Nat → Fin p) : row (row A t x) t y = row A t y := by funext i j; unfold row; split <;> rfl
theorem row_self (A : Mt p) (t : Nat) : row A t (A t) = A := by funext i j; unfold row; split <;> simp_all
theorem row_comm (A : Mt p) (a b : Nat) (x y : Nat → Fin p) (h : a ≠ b) : row (row A a x) b y = row (row A b y) a x := by
  funext i j; unfold row
  by_cases h1 : i = a
  · subst h1; simp [h]
  · by_cases h2 : i = b
    · subst h2; simp [h1]
    · simp [h1, h2]
/-- If two equal rows give 0, two rows change the sign when they change places. -/
theorem det_two (n a b : Nat) (A : Mt p) (x y : Nat → Fin p) (hab : a ≠ b) (ha : a < n) (hb : b < n) (h0 : ∀ z : Nat → Fin p, det n (row (row A a z) b z) = 0) :
    det n (row (row A a x) b y) = - det n (row (row A a y) b x) := by
  have h1 := h0 fun j => x j + 1 * y j
  rw [det_row n b _ _ _ _ hb, row_comm _ _ _ _ _ hab, row_comm _ _ _ _ _ hab, det_row n a _ _ _ _ ha, det_row n a _ _ _ _ ha] at h1
  rw [row_comm _ _ _ _ _ (Ne.symm hab), row_comm _ _ _ _ _ (Ne.symm hab), row_comm _ _ _ _ _ (Ne.symm hab), row_comm _ _ _ _ _ (Ne.symm hab), h0 x, h0 y] at h1
  grind
theorem det_eq_rows (n : Nat) : ∀ (d a : Nat) (A : Mt p), a + d + 1 < n → (∀ j, A a j = A (a + d + 1) j) → det n A = 0
  | 0, a, A, h, e => det_adj n a A h e
  | d + 1, a, A, h, e => by
    have h0 : ∀ z : Nat → Fin p, det n (row (row A (a + d + 1) z) (a + d + 2) z) = 0 := fun z =>
      det_adj n (a + d + 1) _ (by omega) fun j => by rw [row_ne _ _ _ (by omega), row_at, row_at]
    have h1 := det_two n (a + d + 1) (a + d + 2) A (A (a + d + 1)) (A (a + d + 2)) (by omega) (by omega) (by omega) h0
    rw [row_self, row_self] at h1
    rw [h1, det_eq_rows n d a _ (by omega) (fun j => ?_)]
    · grind
    · rw [row_ne _ _ _ (by omega), row_ne _ _ _ (by omega), row_ne _ _ _ (by omega), row_at]; exact e j
theorem det_same (n a b : Nat) (A : Mt p) (h : a < b) (hb : b < n) (e : ∀ j, A a j = A b j) : det n A = 0 := by
  obtain ⟨d, rfl⟩ : ∃ d, b = a + d + 1 := ⟨b - a - 1, by omega⟩
  exact det_eq_rows n d a A hb e
theorem det_same' (n a b : Nat) (A : Mt p) (h : a ≠ b) (ha : a < n) (hb : b < n) (e : ∀ j, A a j = A b j) : det n A = 0 := by
  rcases Nat.lt_or_gt_of_ne h with h | h
  · exact det_same n a b A h hb e
  · exact det_same n b a A h ha fun j => (e j).symm

/-! ### The three steps -/
def swapR (A : Mt p) (a b : Nat) : Mt p := fun i j => if i = a then A b j else if i = b then A a j else A i j
def scaleR (A : Mt p) (t : Nat) (c : Fin p) : Mt p := fun i j => if i = t then A i j * c else A i j
def addR (A : Mt p) (t : Nat) (c : Nat → Fin p) : Mt p := fun i j => if i = t then A i j else A i j - c i * A t j
theorem swap_row (A : Mt p) (a b : Nat) (h : a ≠ b) : swapR A a b = row (row A a (A b)) b (A a) := by
  funext i j; unfold swapR row
  by_cases h1 : i = a
  · subst h1; simp [h]
  · simp [h1]
theorem det_swap (n a b : Nat) (A : Mt p) (h : a ≠ b) (ha : a < n) (hb : b < n) : det n (swapR A a b) = - det n A := by
  rw [swap_row A a b h, det_two n a b A _ _ h ha hb, row_self, row_self]
  intro z
  exact det_same' n a b _ h ha hb fun j => by rw [row_ne _ _ _ h, row_at, row_at]
theorem det_scale (n t : Nat) (A : Mt p) (c : Fin p) (h : t < n) : det n (scaleR A t c) = c * det n A := by
  have h1 := det_lin n t (c - 1) A A (scaleR A t c) h (fun i j hi => by simp [scaleR, hi]) (fun i j hi => by simp [scaleR, hi]) (fun j => by simp only [scaleR, if_true]; grind)
  rw [h1]; grind
theorem det_zero_row (n t : Nat) (A : Mt p) (h : t < n) (e : ∀ j, A t j = 0) : det n A = 0 := by
  have h1 := det_lin n t (-1) A A A h (fun i j _ => rfl) (fun i j _ => rfl) (fun j => by rw [e]; grind)
  grind
/-- Of the rows the first l are done. -/
def addL (A : Mt p) (t : Nat) (c : Nat → Fin p) (l : Nat) : Mt p := fun i j => if i = t then A i j else if i < l then A i j - c i * A t j else A i j
theorem det_addL (n t : Nat) (A : Mt p) (c : Nat → Fin p) (h : t < n) : ∀ l, l ≤ n → det n (addL A t c l) = det n A
  | 0, _ => by
    congr 1; funext i j; unfold addL; split <;> simp
  | l + 1, hl => by
    have ih := det_addL n t A c h l (by omega)
    by_cases e : l = t
    · subst e
      rw [← ih]; congr 1; funext i j; unfold addL
      by_cases h1 : i = l
      · simp [h1]
      · simp only [h1, if_false]
        by_cases h2 : i < l
        · rw [if_pos (by omega), if_pos h2]
        · rw [if_neg (by omega), if_neg h2]
    · have h1 := det_lin n l (- c l) (addL A t c l) (row (addL A t c l) l (A t)) (addL A t c (l + 1)) (by omega)
        (fun i j hi => by
          unfold addL
          by_cases h1 : i = t
          · simp [h1]
          · simp only [h1, if_false]
            by_cases h2 : i < l
            · rw [if_pos h2, if_pos (by omega)]
            · rw [if_neg h2, if_neg (by omega)])
        (fun i j hi => by
          rw [row_ne _ _ _ hi]
          unfold addL
          by_cases h1 : i = t
          · simp [h1]
          · simp only [h1, if_false]
            by_cases h2 : i < l
            · rw [if_pos h2, if_pos (by omega)]
            · rw [if_neg h2, if_neg (by omega)])
        (fun j => by
          rw [row_at]; unfold addL
          rw [if_neg e, if_pos (by omega), if_neg e, if_neg (by omega)]; grind)
      rw [h1, ih, det_same' n l t (row (addL A t c l) l (A t)) e (by omega) h (fun j => by rw [row_at, row_ne _ _ _ (Ne.symm e)]; simp [addL])]
      grind
theorem det_add (n t : Nat) (A : Mt p) (c : Nat → Fin p) (h : t < n) : det n (addR A t c) = det n A := by
  rw [← det_addL n t A c h n (Nat.le_refl _)]
  refine det_congr n _ _ fun i j hi hj => ?_
  unfold addR addL
  by_cases h1 : i = t
  · simp [h1]
  · simp [h1, hi]
def unitM : Mt p := fun i j => if i = j then 1 else 0
theorem det_unit : ∀ n, det n (unitM : Mt p) = 1
  | 0 => rfl
  | n + 1 => by
    simp only [det]
    rw [sm_one (n + 1) 0 _ (by omega) fun i hi hne => by rw [show (unitM i 0 : Fin p) = 0 by simp [unitM, hne]]; grind]
    have e : (fun r c => (unitM (skip 0 r) (c + 1) : Fin p)) = unitM := by funext r c; simp [unitM, skip]
    rw [e, det_unit n]
    rw [show (sgn 0 : Fin p) = 1 by simp [sgn], show (unitM 0 0 : Fin p) = 1 by simp [unitM]]; grind
/-! ### Products and row operations -/
def mul (n : Nat) (A B : Mt p) : Mt p := fun i j => sm n (fun l => A i l * B l j)
theorem mul_swap (n : Nat) (A B : Mt p) (a b : Nat) : mul n (swapR A a b) B = swapR (mul n A B) a b := by
  funext i j; unfold mul swapR
  by_cases h1 : i = a
  · simp [h1]
  · by_cases h2 : i = b
    · simp only [h1, if_false, if_pos h2]
    · simp [h1, h2]
theorem mul_scale (n : Nat) (A B : Mt p) (t : Nat) (c : Fin p) : mul n (scaleR A t c) B = scaleR (mul n A B) t c := by
  funext i j; unfold mul scaleR
  by_cases h1 : i = t
  · simp only [h1, if_true]
    rw [show sm n (fun l => A t l * B l j) * c = c * sm n (fun l => A t l * B l j) by grind, ← sm_mul]
    exact sm_congr fun l _ => by grind
  · simp [h1]
theorem mul_addR (n : Nat) (A B : Mt p) (t : Nat) (c : Nat → Fin p) : mul n (addR A t c) B = addR (mul n A B) t c := by
  funext i j; unfold mul addR
  by_cases h1 : i = t
  · simp [h1]
  · simp only [h1, if_false]
    rw [show sm n (fun l => A i l * B l j) - c i * sm n (fun l => A t l * B l j) = sm n (fun l => A i l * B l j) + (- c i) * sm n (fun l => A t l * B l j) by grind, ← sm_mul, ← sm_add]
    exact sm_congr fun l _ => by grind
theorem mul_unit (n : Nat) (A : Mt p) (i j : Nat) (hi : i < n) : mul n unitM A i j = A i j := by
  unfold mul
  rw [sm_one n i _ hi fun l _ hne => by rw [show (unitM i l : Fin p) = 0 by simp [unitM, Ne.symm hne]]; grind]
  rw [show (unitM i i : Fin p) = 1 by simp [unitM]]; grind
theorem swap_id (A : Mt p) (a : Nat) : swapR A a a = A := by
  funext i j; unfold swapR
  by_cases h : i = a
  · simp [h]
  · simp [h]

/-! ### Kernels -/
/-- The first n numbers of v are led to 0 by the first m rows. -/
def Ker (m n : Nat) (A : Mt p) (v : Nat → Fin p) : Prop := ∀ i, i < m → sm n (fun j => A i j * v j) = 0
theorem ker_swap {m n a b : Nat} {A : Mt p} {v : Nat → Fin p} (ha : a < m) (hb : b < m) : Ker m n (swapR A a b) v ↔ Ker m n A v := by
  have one : ∀ A : Mt p, Ker m n A v → Ker m n (swapR A a b) v := fun A h i hi => by
    unfold swapR
    by_cases h1 : i = a
    · simp only [h1, if_true]; exact h b hb
    · by_cases h2 : i = b
      · subst h2; simp only [h1, if_false, if_true]; exact h a ha
      · simp only [h1, h2, if_false]; exact h i hi
  refine ⟨fun h => ?_, one A⟩
  have := one _ h
  have e : swapR (swapR A a b) a b = A := by
    funext i j; unfold swapR
    by_cases h1 : i = a
    · subst h1
      by_cases h3 : b = i <;> simp [h3]
    · by_cases h2 : i = b
      · subst h2; simp [h1]
      · simp [h1, h2]
  rwa [e] at this
theorem ker_scale {m n t : Nat} {A : Mt p} {v : Nat → Fin p} {c d : Fin p} (hcd : c * d = 1) : Ker m n (scaleR A t c) v ↔ Ker m n A v := by
  have e : ∀ i, sm n (fun j => scaleR A t c i j * v j) = if i = t then c * sm n (fun j => A i j * v j) else sm n (fun j => A i j * v j) := fun i => by
    unfold scaleR
    by_cases h1 : i = t
    · simp only [h1, if_true]; rw [← sm_mul]; exact sm_congr fun j _ => by grind
    · simp only [h1, if_false]
  constructor
  · intro h i hi
    have := h i hi
    rw [e] at this
    split at this
    · have h2 : d * (c * sm n (fun j => A i j * v j)) = 0 := by rw [this]; grind
      grind
    · exact this
  · intro h i hi
    rw [e, h i hi]; split <;> grind
theorem ker_add {m n t : Nat} {A : Mt p} {v : Nat → Fin p} {c : Nat → Fin p} (ht : t < m) : Ker m n (addR A t c) v ↔ Ker m n A v := by
  have e : ∀ i, sm n (fun j => addR A t c i j * v j) = if i = t then sm n (fun j => A i j * v j) else sm n (fun j => A i j * v j) - c i * sm n (fun j => A t j * v j) := fun i => by
    unfold addR
    by_cases h1 : i = t
    · simp only [h1, if_true]
    · simp only [h1, if_false]
      rw [show sm n (fun j => A i j * v j) - c i * sm n (fun j => A t j * v j) = sm n (fun j => A i j * v j) + (- c i) * sm n (fun j => A t j * v j) by grind, ← sm_mul, ← sm_add]
      exact sm_congr fun j _ => by grind
  constructor
  · intro h i hi
    have ht' := h t ht
    rw [e, if_pos rfl] at ht'
    have := h i hi
    rw [e, ht'] at this
    split at this
    · exact this
    · grind
  · intro h i hi
    rw [e, h i hi, h t ht]; split <;> grind

/-! ### The reduction -/
/-- The first row from x on, among c rows, whose cell in the column k is not 0. -/
def seek (A : Mt p) (k : Nat) : Nat → Nat → Nat
  | 0, x => x
  | c + 1, x => if A x k = 0 then seek A k c (x + 1) else x
/-- x is the first row from top on whose cell in the column k is not 0, or m if there is none. -/
def IsSeek (A : Mt p) (k m top x : Nat) : Prop := top ≤ x ∧ x ≤ m ∧ (∀ i, top ≤ i → i < x → A i k = 0) ∧ (x < m → A x k ≠ 0)
theorem seek_is (A : Mt p) (k m : Nat) : ∀ (c top : Nat), top + c = m → IsSeek A k m top (seek A k c top)
  | 0, top, h => ⟨Nat.le_refl _, by simp only [seek]; omega, fun i h1 h2 => by simp only [seek] at h2; omega, fun h => by simp only [seek] at h; omega⟩
  | c + 1, top, h => by
    simp only [seek]
    by_cases e : A top k = 0
    · rw [if_pos e]
      obtain ⟨h1, h2, h3, h4⟩ := seek_is A k m c (top + 1) (by omega)
      refine ⟨by omega, h2, fun i a b => ?_, h4⟩
      by_cases hi : i = top
      · subst hi; exact e
      · exact h3 i (by omega) b
    · rw [if_neg e]
      exact ⟨Nat.le_refl _, by omega, fun i a b => by omega, fun _ => e⟩
theorem IsSeek.one {A : Mt p} {k m top x y : Nat} (h : IsSeek A k m top x) (g : IsSeek A k m top y) : x = y := by
  obtain ⟨a1, a2, a3, a4⟩ := h
  obtain ⟨b1, b2, b3, b4⟩ := g
  rcases Nat.lt_trichotomy x y with e | e | e
  · exact absurd (b3 x a1 e) (a4 (by omega))
  · exact e
  · exact absurd (a3 y b1 e) (b4 (by omega))
/-- All numbers but 0 have an inverse. -/
def FldP (p : Nat) [NeZero p] : Prop := (0 : Fin p) ≠ 1 ∧ ∀ a : Fin p, a ≠ 0 → ∃ b, a * b = 1
open Classical in
noncomputable def finv (a : Fin p) : Fin p := if h : ∃ b, a * b = 1 then Classical.choose h else 0
theorem finv_mul (h : FldP p) {a : Fin p} (ha : a ≠ 0) : a * finv a = 1 := by
  have h1 := h.2 a ha
  unfold finv
  rw [dif_pos h1]
  exact Classical.choose_spec h1
theorem finv_one {a b : Fin p} (h : a * b = 1) : b = finv a := by
  have h1 : ∃ b, a * b = 1 := ⟨b, h⟩
  have h2 : a * finv a = 1 := by unfold finv; rw [dif_pos h1]; exact Classical.choose_spec h1
  have : b * (a * finv a) = (a * b) * finv a := by grind
  rw [h2, h] at this
  grind
structure St (p : Nat) where
  A : Mt p
  top : Nat
  piv : List Nat
  d : Fin p
/-- The step at a row x whose cell in the column k is not 0. -/
noncomputable def pivot (s : St p) (k x : Nat) : St p :=
  ⟨addR (scaleR (swapR s.A s.top x) s.top (finv (s.A x k))) s.top (fun i => swapR s.A s.top x i k), s.top + 1, s.piv ++ [k], (if x = s.top then s.d else - s.d) * s.A x k⟩
noncomputable def stepK (m k : Nat) (s : St p) : St p :=
  if seek s.A k (m - s.top) s.top < m then pivot s k (seek s.A k (m - s.top) s.top) else s
noncomputable def red (m : Nat) (A : Mt p) : Nat → St p
  | 0 => ⟨A, 0, [], 1⟩
  | k + 1 => stepK m k (red m A k)

/-- What holds before the column k. -/
structure Inv (m k : Nat) (A : Mt p) (s : St p) : Prop where
  le : s.top ≤ m
  len : s.piv.length = s.top
  small : ∀ t (h : t < s.piv.length), s.piv[t] < k
  mono : ∀ t u (h : t < u) (hu : u < s.piv.length), s.piv[t] < s.piv[u]
  unit : ∀ t (h : t < s.piv.length), ∀ i, i < m → s.A i s.piv[t] = if i = t then 1 else 0
  ech : ∀ t (h : t < s.piv.length), ∀ j, j < s.piv[t] → s.A t j = 0
  zero : ∀ i, s.top ≤ i → i < m → ∀ j, j < k → s.A i j = 0
  ker : ∀ n v, Ker m n s.A v ↔ Ker m n A v
  det : det m A = s.d * det m s.A
  dmul : ∀ n B, Lin.det m (mul n A B) = s.d * Lin.det m (mul n s.A B)
  nz : s.d ≠ 0
theorem inv_zero (hf : FldP p) (m : Nat) (A : Mt p) : Inv m 0 A (red m A 0) where
  le := Nat.zero_le _
  len := rfl
  small := fun t h => absurd h (Nat.not_lt_zero _)
  mono := fun t u _ h => absurd h (Nat.not_lt_zero _)
  unit := fun t h => absurd h (Nat.not_lt_zero _)
  ech := fun t h => absurd h (Nat.not_lt_zero _)
  zero := fun _ _ _ j h => absurd h (Nat.not_lt_zero _)
  ker := fun _ _ => Iff.rfl
  det := by simp only [red]; grind
  dmul := fun n B => by simp only [red]; grind
  nz := fun h => hf.1 h.symm
theorem fd_mul (hf : FldP p) {a b : Fin p} (ha : a ≠ 0) (hb : b ≠ 0) : a * b ≠ 0 := by
  intro h
  obtain ⟨c, hc⟩ := hf.2 a ha
  apply hb
  have : c * (a * b) = (a * c) * b := by grind
  rw [h, hc] at this
  grind
/-- The cells after a step. -/
theorem pivot_cell (s : St p) (k x i j : Nat) : (pivot s k x).A i j = if i = s.top then s.A x j * finv (s.A x k) else swapR s.A s.top x i j - swapR s.A s.top x i k * (s.A x j * finv (s.A x k)) := by
  unfold pivot addR scaleR
  by_cases h : i = s.top
  · subst h; simp [swapR]
  · simp [h, swapR]
theorem inv_pivot (hf : FldP p) {m k x : Nat} {A : Mt p} {s : St p} (h : Inv m k A s) (hx : s.top ≤ x) (hx2 : x < m) (hn : s.A x k ≠ 0) : Inv m (k + 1) A (pivot s k x) := by
  have hfi := finv_mul hf hn
  have htm : s.top < m := by omega
  have hrow : ∀ j, j < k → s.A x j = 0 := fun j hj => h.zero x hx hx2 j hj
  have hsw : ∀ i j, s.top < i → i < m → j < k → swapR s.A s.top x i j = 0 := fun i j hi hi2 hj => by
    unfold swapR
    rw [if_neg (by omega)]
    split
    · exact h.zero _ (Nat.le_refl _) htm j hj
    · exact h.zero i (by omega) hi2 j hj
  have hold : ∀ i j, i < s.top → swapR s.A s.top x i j = s.A i j := fun i j hi => by unfold swapR; rw [if_neg (by omega), if_neg (by omega)]
  have hsmall : ∀ i j, i < m → j < k → (pivot s k x).A i j = if i < s.top then s.A i j else 0 := fun i j hi hj => by
    rw [pivot_cell, hrow j hj]
    by_cases e : i = s.top
    · rw [if_pos e, if_neg (by omega)]; grind
    · rw [if_neg e]
      by_cases e2 : i < s.top
      · rw [if_pos e2, hold i j e2]; grind
      · rw [if_neg e2, hsw i j (by omega) hi hj]; grind
  have hcol : ∀ i, i < m → (pivot s k x).A i k = if i = s.top then 1 else 0 := fun i hi => by
    rw [pivot_cell]
    by_cases e : i = s.top
    · rw [if_pos e, if_pos e]; exact hfi
    · rw [if_neg e, if_neg e, hfi]; grind
  have htop : (pivot s k x).top = s.top + 1 := rfl
  have hpiv : (pivot s k x).piv = s.piv ++ [k] := rfl
  have hdd : (pivot s k x).d = (if x = s.top then s.d else - s.d) * s.A x k := rfl
  refine ⟨by rw [htop]; omega, by rw [htop, hpiv, List.length_append, h.len]; rfl, ?_, ?_, ?_, ?_, ?_, ?_, ?_, ?_, ?_⟩
  · intro t ht
    simp only [hpiv] at ht ⊢
    rw [List.getElem_append]
    split
    · have := h.small t (by assumption); omega
    · simp
  · intro t u htu hu
    simp only [hpiv] at hu ⊢
    rw [List.length_append] at hu
    simp only [List.length_singleton] at hu
    by_cases e : u < s.piv.length
    · rw [List.getElem_append_left (by omega), List.getElem_append_left e]; exact h.mono t u htu e
    · rw [List.getElem_append_left (by omega), List.getElem_append_right (by omega)]
      have := h.small t (by omega)
      simpa using this
  · intro t ht i hi
    simp only [hpiv] at ht ⊢
    rw [List.length_append] at ht
    simp only [List.length_singleton] at ht
    by_cases e : t < s.piv.length
    · rw [List.getElem_append_left e, hsmall i _ hi (h.small t e)]
      have hl := h.len
      by_cases e2 : i < s.top
      · rw [if_pos e2]; exact h.unit t e i hi
      · rw [if_neg e2, if_neg (by omega)]
    · have et : t = s.piv.length := by omega
      have hl := h.len
      rw [List.getElem_append_right (by omega)]
      simp only [et, Nat.sub_self, List.getElem_cons_zero]
      rw [hcol i hi, hl]
  · intro t ht j hj
    simp only [hpiv] at ht hj
    rw [List.length_append] at ht
    simp only [List.length_singleton] at ht
    have hl := h.len
    by_cases e : t < s.piv.length
    · rw [List.getElem_append_left e] at hj
      have := h.small t e
      rw [hsmall t j (by omega) (by omega), if_pos (by omega)]
      exact h.ech t e j hj
    · have et : t = s.piv.length := by omega
      rw [List.getElem_append_right (by omega)] at hj
      simp only [et, Nat.sub_self, List.getElem_cons_zero] at hj
      rw [hsmall t j (by omega) hj, if_neg (by omega)]
  · intro i hi hi2 j hj
    rw [htop] at hi
    by_cases e : j = k
    · subst e; rw [hcol i hi2, if_neg (by omega)]
    · rw [hsmall i j hi2 (by omega), if_neg (by omega)]
  · intro n v
    rw [← h.ker]
    exact (ker_add htm).trans ((ker_scale (d := s.A x k) (by grind)).trans (ker_swap htm hx2))
  · rw [h.det, hdd]
    have e : Lin.det m (pivot s k x).A = finv (s.A x k) * Lin.det m (swapR s.A s.top x) := by
      show Lin.det m (addR _ _ _) = _
      rw [det_add m _ _ _ htm, det_scale m _ _ _ htm]
    rw [e]
    by_cases ex : x = s.top
    · subst ex; rw [swap_id, if_pos rfl]; grind
    · rw [det_swap m _ _ _ (Ne.symm ex) htm hx2, if_neg ex]; grind
  · intro n B
    rw [h.dmul, hdd]
    have e : Lin.det m (mul n (pivot s k x).A B) = finv (s.A x k) * Lin.det m (swapR (mul n s.A B) s.top x) := by
      show Lin.det m (mul n (addR _ _ _) B) = _
      rw [mul_addR, mul_scale, mul_swap, det_add m _ _ _ htm, det_scale m _ _ _ htm]
    rw [e]
    by_cases ex : x = s.top
    · subst ex; rw [swap_id, if_pos rfl]; grind
    · rw [det_swap m _ _ _ (Ne.symm ex) htm hx2, if_neg ex]; grind
  · rw [hdd]
    refine fd_mul hf ?_ hn
    split
    · exact h.nz
    · intro e; apply h.nz; grind
theorem inv_next (hf : FldP p) {m k : Nat} {A : Mt p} {s : St p} (h : Inv m k A s) : Inv m (k + 1) A (stepK m k s) := by
  unfold stepK
  obtain ⟨h1, h2, h3, h4⟩ := seek_is s.A k m (m - s.top) s.top (by have := h.le; omega)
  split
  · rename_i hlt
    exact inv_pivot hf h h1 hlt (h4 hlt)
  · rename_i hlt
    refine ⟨h.le, h.len, fun t ht => by have := h.small t ht; omega, h.mono, h.unit, h.ech, fun i hi hi2 j hj => ?_, h.ker, h.det, h.dmul, h.nz⟩
    by_cases e : j = k
    · subst e; exact h3 i hi (by omega)
    · exact h.zero i hi hi2 j (by omega)
theorem red_inv (hf : FldP p) (m : Nat) (A : Mt p) : ∀ k, Inv m k A (red m A k)
  | 0 => inv_zero hf m A
  | k + 1 => inv_next hf (red_inv hf m A k)

/-! ### Pivots by kernels -/
/-- The column k is no sum of multiples of the ones before it. -/
def Piv (A : Mt p) (m k : Nat) : Prop := ∀ v : Nat → Fin p, Ker m (k + 1) A v → v k = 0
/-- The vector of a column: what a reduced form says of it. -/
def colV (R : Mt p) (piv : List Nat) (j : Nat) : Nat → Fin p := fun l => (if l = j then 1 else 0) - sm piv.length (fun t => if piv.getD t 0 = l then R t j else 0)
theorem getD_at (l : List Nat) (t : Nat) (h : t < l.length) : l.getD t 0 = l[t] := by simp [List.getD, List.getElem?_eq_getElem h]
/-- A sum over the columns of a product with such a vector. -/
theorem sm_col (R : Mt p) (B : Mt p) (piv : List Nat) (n i j : Nat) (hj : j < n) (hs : ∀ t (h : t < piv.length), piv[t] < n) :
    sm n (fun l => B i l * colV R piv j l) = B i j - sm piv.length (fun t => B i (piv.getD t 0) * R t j) := by
  have e1 : sm n (fun l => B i l * colV R piv j l) = sm n (fun l => B i l * (if l = j then 1 else 0)) + sm n (fun l => - sm piv.length (fun t => if piv.getD t 0 = l then B i l * R t j else 0)) := by
    rw [← sm_add]
    refine sm_congr fun l hl => ?_
    unfold colV
    have : sm piv.length (fun t => if piv.getD t 0 = l then B i l * R t j else 0) = B i l * sm piv.length (fun t => if piv.getD t 0 = l then R t j else 0) := by
      rw [← sm_mul]
      refine sm_congr fun t ht => ?_
      split
      · rfl
      · grind
    rw [this]; grind
  rw [e1, sm_one n j _ hj (fun l hl hne => by rw [if_neg hne]; grind), if_pos rfl, sm_neg, sm_comm]
  have e2 : sm piv.length (fun t => sm n (fun l => if piv.getD t 0 = l then B i l * R t j else 0)) = sm piv.length (fun t => B i (piv.getD t 0) * R t j) := by
    refine sm_congr fun t ht => ?_
    rw [sm_one n (piv.getD t 0) _ (by rw [getD_at _ _ ht]; exact hs t ht) (fun l hl hne => by rw [if_neg (Ne.symm hne)]), if_pos rfl]
  rw [e2]; grind
theorem Inv.dot {m k : Nat} {A : Mt p} {s : St p} (h : Inv m k A s) (i j : Nat) (hi : i < m) (hz : s.top ≤ i → s.A i j = 0) : sm s.piv.length (fun t => s.A i (s.piv.getD t 0) * s.A t j) = s.A i j := by
  have hl := h.len
  by_cases e : i < s.top
  · rw [sm_one _ i _ (by omega) (fun t ht hne => by rw [getD_at _ _ ht, h.unit t ht i hi, if_neg (Ne.symm hne)]; grind), getD_at _ _ (by omega), h.unit i (by omega) i hi, if_pos rfl]
    grind
  · rw [hz (by omega), sm_zero]
    intro t ht
    rw [getD_at _ _ ht, h.unit t ht i hi, if_neg (by omega)]; grind
/-- The vector of a column lies in the kernel, if the rows without a pivot have a 0 there. -/
theorem Inv.col_ker {m k n j : Nat} {A : Mt p} {s : St p} (h : Inv m k A s) (hj : j < n) (hkn : k ≤ n) (hz : ∀ i, s.top ≤ i → i < m → s.A i j = 0) : Ker m n A (colV s.A s.piv j) := by
  rw [← h.ker]
  intro i hi
  rw [sm_col s.A s.A s.piv n i j hj (fun t ht => by have := h.small t ht; omega), h.dot i j hi (fun e => hz i e hi)]
  grind
theorem colV_self {m k : Nat} {A : Mt p} {s : St p} (h : Inv m k A s) (j : Nat) (hj : k ≤ j) : colV s.A s.piv j j = 1 := by
  unfold colV
  rw [if_pos rfl, sm_zero]
  · grind
  · intro t ht
    rw [getD_at _ _ ht, if_neg (by have := h.small t ht; omega)]
/-- A pivot's column leads no vector that ends in it to 0. -/
theorem Inv.piv_yes {m k : Nat} {A : Mt p} {s : St p} (h : Inv m k A s) (t : Nat) (ht : t < s.piv.length) : Piv A m s.piv[t] := by
  intro v hv
  rw [← h.ker] at hv
  have hl := h.len
  have hle := h.le
  have h1 := hv t (by omega)
  rw [sm_one _ s.piv[t] _ (by omega) (fun j hj hne => by rw [h.ech t ht j (by omega)]; grind), h.unit t ht t (by omega), if_pos rfl] at h1
  grind
open Classical in
theorem red_piv (hf : FldP p) (m : Nat) (A : Mt p) : ∀ n, (red m A n).piv = (List.range n).filter (fun k => decide (Piv A m k))
  | 0 => rfl
  | k + 1 => by
    have hI := red_inv hf m A k
    rw [List.range_succ, List.filter_append, ← red_piv hf m A k]
    show (stepK m k (red m A k)).piv = _
    obtain ⟨h1, h2, h3, h4⟩ := seek_is (red m A k).A k m (m - (red m A k).top) (red m A k).top (by have := hI.le; omega)
    unfold stepK
    split
    · rename_i hlt
      have hp := inv_pivot hf hI h1 hlt (h4 hlt)
      have hlen : (red m A k).piv.length < (pivot (red m A k) k (seek (red m A k).A k (m - (red m A k).top) (red m A k).top)).piv.length := by
        show _ < ((red m A k).piv ++ [k]).length
        simp
      have := hp.piv_yes _ hlen
      have e : (pivot (red m A k) k (seek (red m A k).A k (m - (red m A k).top) (red m A k).top)).piv[(red m A k).piv.length] = k := by
        show ((red m A k).piv ++ [k])[(red m A k).piv.length]'(by simp) = k
        simp
      rw [e] at this
      show (red m A k).piv ++ [k] = _
      simp [this]
    · rename_i hlt
      have : ¬ Piv A m k := fun hP => by
        have := hP _ (hI.col_ker (n := k + 1) (j := k) (by omega) (by omega) (fun i hi hi2 => h3 i hi (by omega)))
        rw [colV_self hI k (Nat.le_refl _)] at this
        exact hf.1 this.symm
      simp [this]
open Classical in
theorem piv_congr {A B : Mt p} {m m' : Nat} {n : Nat} (hf : FldP p) (h : ∀ k, k < n → (Piv A m k ↔ Piv B m' k)) : (red m A n).piv = (red m' B n).piv := by
  rw [red_piv hf, red_piv hf]
  refine List.filter_congr fun k hk => ?_
  rw [decide_eq_decide]
  exact h k (by simpa using hk)
theorem piv_of_ker {A B : Mt p} {m m' k : Nat} (h : ∀ v, Ker m (k + 1) A v ↔ Ker m' (k + 1) B v) : Piv A m k ↔ Piv B m' k :=
  ⟨fun hp v hv => hp v ((h v).2 hv), fun hp v hv => hp v ((h v).1 hv)⟩
theorem piv_le_cols (hf : FldP p) (m n : Nat) (A : Mt p) : (red m A n).piv.length ≤ n := by
  classical
  rw [red_piv hf]
  have := List.length_filter_le (fun k => decide (Piv A m k)) (List.range n)
  simpa using this
theorem piv_le_rows (hf : FldP p) (m n : Nat) (A : Mt p) : (red m A n).piv.length ≤ m := by
  have h := red_inv hf m A n
  rw [h.len]; exact h.le
/-- If there are more columns than rows, a vector other than 0 is led to 0. -/
theorem ker_wide (hf : FldP p) (m n : Nat) (A : Mt p) (h : m < n) : ∃ k, k < n ∧ ∃ v, Ker m (k + 1) A v ∧ v k ≠ 0 := by
  classical
  have h1 := piv_le_rows hf m n A
  rw [red_piv hf] at h1
  have h2 : ¬ ∀ k ∈ List.range n, decide (Piv A m k) = true := fun hall => by
    rw [List.filter_eq_self.2 hall] at h1
    simp at h1; omega
  have h3 : ∃ k, k < n ∧ ¬ Piv A m k := by
    refine Classical.byContradiction fun hc => h2 fun k hk => ?_
    have : Piv A m k := Classical.byContradiction fun hn => hc ⟨k, by simpa using hk, hn⟩
    simpa using this
  obtain ⟨k, hk, hn⟩ := h3
  refine ⟨k, hk, Classical.byContradiction fun hc => hn fun v hv => Classical.byContradiction fun hz => hc ⟨v, hv, hz⟩⟩

/-! ### The reduced form of a reduced form -/
theorem red_zero {m n : Nat} (hf : FldP p) (A : Mt p) (i j : Nat) (hi : (red m A n).top ≤ i) (him : i < m) (hj : j < n) : (red m A n).A i j = 0 := (red_inv hf m A n).zero i hi him j hj
theorem red_twice (hf : FldP p) (m n : Nat) (A : Mt p) : (red m (red m A n).A n).piv = (red m A n).piv ∧ ∀ i j, i < m → j < n → (red m (red m A n).A n).A i j = (red m A n).A i j := by
  have hI := red_inv hf m A n
  have hJ := red_inv hf m (red m A n).A n
  have hp : (red m (red m A n).A n).piv = (red m A n).piv := piv_congr hf fun k hk => piv_of_ker fun v => hI.ker (k + 1) v
  refine ⟨hp, fun i j hi hj => ?_⟩
  have hk : Ker m n (red m (red m A n).A n).A (colV (red m A n).A (red m A n).piv j) := by
    rw [hJ.ker, hI.ker]
    exact hI.col_ker hj (Nat.le_refl _) fun i a b => red_zero hf A i j a b hj
  have h1 := hk i hi
  rw [sm_col _ _ _ n i j hj (fun t ht => hI.small t ht)] at h1
  have hlI := hI.len
  have hlJ := hJ.len
  have h2 : sm (red m A n).piv.length (fun t => (red m (red m A n).A n).A i ((red m A n).piv.getD t 0) * (red m A n).A t j) = sm (red m A n).piv.length (fun t => (red m A n).A i ((red m A n).piv.getD t 0) * (red m A n).A t j) := by
    refine sm_congr fun t ht => ?_
    rw [getD_at _ _ ht, hI.unit t ht i hi]
    have := hJ.unit t (by rw [hp]; exact ht) i hi
    simp only [hp] at this
    rw [this]
  rw [h2, hI.dot i j hi (fun e => red_zero hf A i j e hi hj)] at h1
  grind

/-! ### The rank of the transposed matrix -/
def turn (A : Mt p) : Mt p := fun i j => A j i
theorem factor (hf : FldP p) (m n : Nat) (A : Mt p) (i j : Nat) (hi : i < m) (hj : j < n) : A i j = sm (red m A n).piv.length (fun t => A i ((red m A n).piv.getD t 0) * (red m A n).A t j) := by
  have hI := red_inv hf m A n
  have h1 := hI.col_ker hj (Nat.le_refl _) (fun i a b => red_zero hf A i j a b hj) i hi
  rw [sm_col _ _ _ n i j hj (fun t ht => hI.small t ht)] at h1
  grind
theorem rank_turn_le (hf : FldP p) (m n : Nat) (A : Mt p) : (red n (turn A) m).piv.length ≤ (red m A n).piv.length := by
  refine Classical.byContradiction fun hlt => ?_
  have hlt : (red m A n).piv.length < (red n (turn A) m).piv.length := by omega
  obtain ⟨k, hk, v, hv, hv0⟩ := ker_wide hf (red m A n).piv.length (red n (turn A) m).piv.length (fun t u => A ((red n (turn A) m).piv.getD u 0) ((red m A n).piv.getD t 0)) hlt
  have hT := red_inv hf n (turn A) m
  have hp := hT.piv_yes k hk
  have hq : ∀ u, u < (red n (turn A) m).piv.length → (red n (turn A) m).piv.getD u 0 < m := fun u hu => by rw [getD_at _ _ hu]; exact hT.small u hu
  -- the coefficients of the rows
  let c : Nat → Fin p := fun i => sm (k + 1) (fun u => if (red n (turn A) m).piv.getD u 0 = i then v u else 0)
  have hle : ∀ u, u < k + 1 → (red n (turn A) m).piv.getD u 0 ≤ (red n (turn A) m).piv[k] := fun u hu => by
    rw [getD_at _ _ (by omega)]
    by_cases e : u = k
    · subst e; exact Nat.le_refl _
    · have := hT.mono u k (by omega) hk; omega
  have hc0 : c (red n (turn A) m).piv[k] = v k := by
    show sm (k + 1) _ = _
    rw [sm_one _ k _ (by omega) (fun u hu hne => by
      rw [getD_at _ _ (by omega), if_neg]
      have := hT.mono u k (by omega) hk; omega)]
    rw [getD_at _ _ hk, if_pos rfl]
  have hck : Ker n ((red n (turn A) m).piv[k] + 1) (turn A) c := by
    intro j hj
    have e1 : sm ((red n (turn A) m).piv[k] + 1) (fun i => turn A j i * c i) = sm (k + 1) (fun u => A ((red n (turn A) m).piv.getD u 0) j * v u) := by
      have e2 : sm ((red n (turn A) m).piv[k] + 1) (fun i => turn A j i * c i) = sm ((red n (turn A) m).piv[k] + 1) (fun i => sm (k + 1) (fun u => if (red n (turn A) m).piv.getD u 0 = i then A i j * v u else 0)) := by
        refine sm_congr fun i hi => ?_
        show A i j * sm (k + 1) _ = _
        rw [← sm_mul]
        refine sm_congr fun u hu => ?_
        split
        · rfl
        · grind
      rw [e2, sm_comm]
      refine sm_congr fun u hu => ?_
      rw [sm_one _ ((red n (turn A) m).piv.getD u 0) _ (by have := hle u hu; omega) (fun i hi hne => by rw [if_neg (Ne.symm hne)]), if_pos rfl]
    rw [e1]
    have e3 : sm (k + 1) (fun u => A ((red n (turn A) m).piv.getD u 0) j * v u) = sm (k + 1) (fun u => sm (red m A n).piv.length (fun t => (red m A n).A t j * (A ((red n (turn A) m).piv.getD u 0) ((red m A n).piv.getD t 0) * v u))) := by
      refine sm_congr fun u hu => ?_
      rw [factor hf m n A _ j (hq u (by omega)) hj]
      rw [show sm (red m A n).piv.length (fun t => A ((red n (turn A) m).piv.getD u 0) ((red m A n).piv.getD t 0) * (red m A n).A t j) * v u = v u * sm (red m A n).piv.length (fun t => A ((red n (turn A) m).piv.getD u 0) ((red m A n).piv.getD t 0) * (red m A n).A t j) by grind, ← sm_mul]
      exact sm_congr fun t ht => by grind
    rw [e3, sm_comm, sm_zero]
    intro t ht
    rw [sm_mul, hv t ht]
    grind
  have := hp c hck
  rw [hc0] at this
  exact hv0 this
theorem rank_turn (hf : FldP p) (m n : Nat) (A : Mt p) : (red n (turn A) m).piv.length = (red m A n).piv.length :=
  Nat.le_antisymm (rank_turn_le hf m n A) (rank_turn_le hf n m (turn A))

/-! ### Stacking and joining -/
def stack (m : Nat) (A B : Mt p) : Mt p := fun i j => if i < m then A i j else B (i - m) j
def join (n : Nat) (A B : Mt p) : Mt p := fun i j => if j < n then A i j else B i (j - n)
theorem rank_stack (hf : FldP p) (m n : Nat) (A : Mt p) : (red (m + m) (stack m A A) n).piv = (red m A n).piv := by
  refine piv_congr hf fun k hk => piv_of_ker fun v => ⟨fun h i hi => ?_, fun h i hi => ?_⟩
  · have := h i (by omega)
    unfold stack at this
    simp only [hi, if_true] at this
    exact this
  · unfold stack
    by_cases e : i < m
    · simp only [e, if_true]; exact h i e
    · simp only [e, if_false]; exact h (i - m) (by omega)
theorem ker_join {m n k : Nat} (A B : Mt p) (hk : k ≤ n) (v : Nat → Fin p) : Ker m k (join n A B) v ↔ Ker m k A v := by
  have e : ∀ i, sm k (fun j => join n A B i j * v j) = sm k (fun j => A i j * v j) := fun i => sm_congr fun j hj => by unfold join; rw [if_pos (by omega)]
  unfold Ker
  simp only [e]
theorem piv_join (hf : FldP p) (m n : Nat) (A B : Mt p) : (red m (join n A B) n).piv = (red m A n).piv :=
  piv_congr hf fun k hk => piv_of_ker fun v => ker_join A B (by omega) v
theorem rank_join (hf : FldP p) (m n : Nat) (A : Mt p) : (red m (join n A A) (n + n)).piv = (red m A n).piv := by
  classical
  have key : ∀ d, d ≤ n → (red m (join n A A) (n + d)).piv = (red m (join n A A) n).piv := by
    intro d
    induction d with
    | zero => intro _; rfl
    | succ d ih =>
      intro hd
      rw [← ih (by omega), ← Nat.add_assoc, red_piv hf, red_piv hf, List.range_succ, List.filter_append]
      have : ¬ Piv (join n A A) m (n + d) := fun hP => by
        have := hP (fun j => if j = n + d then 1 else if j = d then -1 else 0) (fun i hi => by
          rw [sm_two (n + d + 1) d (n + d) _ (by omega) (by omega) (fun j hj h1 h2 => by dsimp only; rw [if_neg h2, if_neg h1]; grind)]
          dsimp only
          rw [if_neg (by omega), if_pos rfl, if_pos rfl]
          unfold join
          rw [if_pos (by omega), if_neg (by omega), Nat.add_sub_cancel_left]
          grind)
        rw [if_pos rfl] at this
        exact hf.1 this.symm
      simp [this]
  rw [key n (Nat.le_refl _), piv_join hf]

/-! ### Regular matrices -/
/-- With a pivot in each of n rows, after n columns, the reduced form is the unit matrix. -/
theorem piv_all (hf : FldP p) (n : Nat) (A : Mt p) (h : (red n A n).piv.length = n) : (red n A n).piv = List.range n := by
  classical
  rw [red_piv hf] at h ⊢
  refine List.filter_eq_self.2 fun k hk => ?_
  exact (List.length_filter_eq_length_iff.1 (by rw [h]; simp)) k hk
theorem red_unit (hf : FldP p) (n : Nat) (A : Mt p) (h : (red n A n).piv.length = n) (i j : Nat) (hi : i < n) (hj : j < n) : (red n A n).A i j = unitM i j := by
  have hI := red_inv hf n A n
  have := hI.unit j (by omega) i hi
  simp only [piv_all hf n A h, List.getElem_range] at this
  exact this
/-- The determinant by the reduction. -/
noncomputable def rdet (n : Nat) (A : Mt p) : Fin p := if (red n A n).piv.length = n then (red n A n).d else 0
theorem rdet_det (hf : FldP p) (n : Nat) (A : Mt p) : rdet n A = det n A := by
  have hI := red_inv hf n A n
  unfold rdet
  split
  · rename_i h
    rw [hI.det, det_congr n _ unitM (fun i j hi hj => red_unit hf n A h i j hi hj), det_unit]
    grind
  · rename_i h
    have hl := hI.len
    have hle := hI.le
    rw [hI.det, det_congr n (red n A n).A (fun i j => if i = n - 1 then 0 else (red n A n).A i j) (fun i j hi hj => by
      split
      · rename_i e; subst e; exact hI.zero _ (by omega) hi j hj
      · rfl), det_zero_row n (n - 1) _ (by omega) (fun j => by simp)]
    grind
theorem det_mul (hf : FldP p) (n : Nat) (A B : Mt p) : det n (mul n A B) = det n A * det n B := by
  have hI := red_inv hf n A n
  by_cases h : (red n A n).piv.length = n
  · have e : det n A = (red n A n).d := by rw [← rdet_det hf, rdet, if_pos h]
    rw [hI.dmul, e, det_congr n (mul n (red n A n).A B) B]
    intro i j hi hj
    rw [← mul_unit n B i j hi]
    exact sm_congr fun l hl => by rw [red_unit hf n A h i l hi hl]
  · have e : det n A = 0 := by rw [← rdet_det hf, rdet, if_neg h]
    have hl := hI.len
    have hle := hI.le
    rw [hI.dmul, e, det_congr n (mul n (red n A n).A B) (fun i j => if i = n - 1 then 0 else mul n (red n A n).A B i j) (fun i j hi hj => by
      split
      · rename_i e; subst e
        exact sm_zero _ _ fun l hl => by rw [hI.zero _ (by omega) hi l hl]; grind
      · rfl), det_zero_row n (n - 1) _ (by omega) (fun j => by simp)]
    grind
theorem rdet_ne (hf : FldP p) (n : Nat) (A : Mt p) : rdet n A ≠ 0 ↔ (red n A n).piv.length = n := by
  unfold rdet
  split
  · rename_i h; exact ⟨fun _ => h, fun _ => (red_inv hf n A n).nz⟩
  · rename_i h; exact ⟨fun h2 => absurd rfl h2, fun h2 => absurd h2 h⟩

/-! ### The inverse -/
/-- The right half of the reduced form of A and the unit matrix. -/
noncomputable def inverse (n : Nat) (A : Mt p) : Mt p := fun i j => (red n (join n A unitM) n).A i (n + j)
theorem ker_joined (n : Nat) (A B : Mt p) (v : Nat → Fin p) (i : Nat) : sm (n + n) (fun j => join n A B i j * v j) = sm n (fun j => A i j * v j) + sm n (fun j => B i j * v (n + j)) := by
  rw [sm_split]
  congr 1
  · exact sm_congr fun j hj => by unfold join; rw [if_pos hj]
  · exact sm_congr fun j hj => by unfold join; rw [if_neg (by omega), Nat.add_sub_cancel_left]
theorem inverse_ker (hf : FldP p) (n : Nat) (A : Mt p) (h : (red n A n).piv.length = n) (v : Nat → Fin p) :
    (∀ i, i < n → sm n (fun j => A i j * v j) + v (n + i) = 0) ↔ ∀ i, i < n → v i + sm n (fun j => inverse n A i j * v (n + j)) = 0 := by
  have hI := red_inv hf n (join n A unitM) n
  have hp : (red n (join n A unitM) n).piv.length = n := by rw [piv_join hf]; exact h
  have hk := hI.ker (n + n) v
  have e1 : ∀ i, i < n → sm n (fun j => (unitM i j : Fin p) * v (n + j)) = v (n + i) := fun i hi => mul_unit n (fun a _ => v (n + a)) i 0 hi
  have e2 : ∀ i, i < n → sm n (fun j => (unitM i j : Fin p) * v j) = v i := fun i hi => mul_unit n (fun a _ => v a) i 0 hi
  constructor
  · intro hA i hi
    have hK := hk.2 (fun i hi => by rw [ker_joined, e1 i hi]; exact hA i hi) i hi
    rw [sm_split] at hK
    rw [show sm n (fun j => (red n (join n A unitM) n).A i j * v j) = v i from (sm_congr fun j hj => by rw [red_unit hf n _ hp i j hi hj]).trans (e2 i hi)] at hK
    exact hK
  · intro hB i hi
    have hK := hk.1 (fun i hi => by
      rw [sm_split, show sm n (fun j => (red n (join n A unitM) n).A i j * v j) = v i from (sm_congr fun j hj => by rw [red_unit hf n _ hp i j hi hj]).trans (e2 i hi)]
      exact hB i hi) i hi
    rw [ker_joined, e1 i hi] at hK
    exact hK
theorem mul_inverse (hf : FldP p) (n : Nat) (A : Mt p) (h : (red n A n).piv.length = n) (i j : Nat) (hi : i < n) (hj : j < n) : mul n A (inverse n A) i j = unitM i j := by
  have h1 := (inverse_ker hf n A h (fun l => if l < n then - inverse n A l j else if l = n + j then 1 else 0)).2 (fun i hi => by
    rw [if_pos hi, sm_one n j _ hj (fun l hl hne => by rw [if_neg (by omega), if_neg (by omega)]; grind), if_neg (by omega), if_pos rfl]
    grind) i hi
  rw [show sm n (fun l => A i l * if l < n then - inverse n A l j else if l = n + j then 1 else 0) = - mul n A (inverse n A) i j by
    unfold mul; rw [← sm_neg]; exact sm_congr fun l hl => by rw [if_pos hl]; grind, if_neg (by omega)] at h1
  unfold unitM
  by_cases e : i = j
  · subst e; rw [if_pos rfl] at h1; rw [if_pos rfl]; grind
  · rw [if_neg (by omega)] at h1; rw [if_neg e]; grind
theorem inverse_mul (hf : FldP p) (n : Nat) (A : Mt p) (h : (red n A n).piv.length = n) (i j : Nat) (hi : i < n) (hj : j < n) : mul n (inverse n A) A i j = unitM i j := by
  have h1 := (inverse_ker hf n A h (fun l => if l < n then (if l = j then 1 else 0) else - A (l - n) j)).1 (fun i hi => by
    rw [sm_one n j _ hj (fun l hl hne => by rw [if_pos hl, if_neg hne]; grind), if_pos hj, if_pos rfl, if_neg (by omega), Nat.add_sub_cancel_left]
    grind) i hi
  rw [if_pos hi, show sm n (fun l => inverse n A i l * if n + l < n then (if n + l = j then 1 else 0) else - A (n + l - n) j) = - mul n (inverse n A) A i j by
    unfold mul; rw [← sm_neg]; exact sm_congr fun l hl => by rw [if_neg (by omega), Nat.add_sub_cancel_left]; grind] at h1
  unfold unitM
  split at h1 <;> grind
theorem det_inverse (hf : FldP p) (n : Nat) (A : Mt p) (h : (red n A n).piv.length = n) : det n (inverse n A) * det n A = 1 := by
  rw [← det_mul hf, det_congr n _ unitM (fun i j hi hj => inverse_mul hf n A h i j hi hj), det_unit]
/-- When all rows have their pivots, further columns find none. -/
theorem red_full (hf : FldP p) (n : Nat) (A : Mt p) (k : Nat) (h : (red n A k).piv.length = n) : ∀ d, red n A (k + d) = red n A k
  | 0 => rfl
  | d + 1 => by
    show stepK n (k + d) (red n A (k + d)) = _
    rw [red_full hf n A k h d]
    have hI := red_inv hf n A k
    unfold stepK
    have hs := seek_is (red n A k).A (k + d) n (n - (red n A k).top) (red n A k).top (by have := hI.le; omega)
    rw [if_neg (by have := hI.len; have := hs.1; omega)]
end Go.Proofs.YtdihcmohpbgmmaaDoor.Lin

namespace Go.Proofs.YtdihcmohpbgmmaaDoor
set_option linter.unusedVariables false

/-- A prime up to 251, as it is tried out. -/
def IsPr (p : Int) : Prop := 2 ≤ p ∧ p ≤ 251 ∧ ∀ k : Int, 2 ≤ k → k * k ≤ p → p % k ≠ 0

def primeTab : List Nat := [2, 3, 5, 7, 11, 13, 17, 19, 23, 29, 31, 37, 41, 43, 47, 53, 59, 61, 67, 71, 73, 79, 83, 89, 97, 101, 103, 107, 109, 113, 127, 131, 137, 139, 149, 151, 157, 163, 167, 173, 179, 181, 191, 193, 197, 199, 211, 223, 227, 229, 233, 239, 241, 251]
theorem tab_bool : ((List.range 252).all fun n => decide (n < 2) || !((List.range 16).all fun k => decide (k < 2) || decide (n < k * k) || n % k != 0) || decide (n ∈ primeTab)) = true := by decide +kernel
theorem tab_all (n : Nat) (h0 : n < 252) (h1 : 2 ≤ n) (h : ∀ k : Nat, k < 16 → 2 ≤ k → k * k ≤ n → n % k ≠ 0) : n ∈ primeTab := by
  have e := List.all_eq_true.1 tab_bool n (List.mem_range.2 h0)
  have e2 : ((List.range 16).all fun k => decide (k < 2) || decide (n < k * k) || n % k != 0) = true := by
    rw [List.all_eq_true]
    intro k hk
    have hk := List.mem_range.1 hk
    by_cases c : k < 2
    · simp [c]
    · by_cases d : n < k * k
      · simp [d]
      · simp [h k hk (by omega) (by omega)]
  rw [e2] at e
  have c : decide (n < 2) = false := by simp; omega
  rw [c] at e
  simpa using e
theorem IsPr.nat {p : Int} (h : IsPr p) : ∃ n : Nat, p = n ∧ n ∈ primeTab := by
  obtain ⟨h0, h1, h2⟩ := h
  obtain ⟨n, rfl⟩ := Int.eq_ofNat_of_zero_le (show 0 ≤ p by omega)
  refine ⟨n, rfl, tab_all n (by omega) (by omega) ?_⟩
  intro k hk k2 kk e
  refine h2 (k : Int) (by omega) (by exact_mod_cast kk) ?_
  exact_mod_cast e
theorem inv_tab : primeTab.all (fun p => (List.range p).all fun a => a == 0 || a ^ (p - 2) % p * a % p == 1) = true := by decide +kernel
theorem fer_tab : primeTab.all (fun p => (List.range p).all fun a => a == 0 || a ^ (p - 1) % p == 1) = true := by decide +kernel
theorem div_tab : primeTab.all (fun p => (List.range p).all fun a => decide (a < 2) || p % a != 0) = true := by decide +kernel
/-- No power below the last one is 1: walked by products. -/
def ordFull (p g : Nat) : Nat → Nat → Bool
  | _, 0 => true
  | x, n + 1 => x != 1 && ordFull p g (x * g % p) n
def hasGen (p : Nat) : Bool := (List.range p).any fun g => g != 0 && ordFull p g (g % p) (p - 2)
theorem gen_tab : primeTab.all hasGen = true := by decide +kernel

theorem tab_at {f : Nat → Nat → Bool} {p : Int} (t : primeTab.all (fun p => (List.range p).all (f p)) = true) (h : IsPr p) {a : Int} (h0 : 0 ≤ a) (h1 : a < p) : f p.toNat a.toNat = true := by
  obtain ⟨n, rfl, hn⟩ := h.nat
  have := List.all_eq_true.1 (List.all_eq_true.1 t n hn) a.toNat (List.mem_range.2 (by omega))
  exact this
/-- A prime has no divisor below it but 1. -/
theorem IsPr.nodiv {p : Int} (h : IsPr p) {n : Int} (h0 : 2 ≤ n) (h1 : n < p) : p % n ≠ 0 := by
  have e := tab_at div_tab h (show 0 ≤ n by omega) h1
  have c : decide (n.toNat < 2) = false := by simp; omega
  rw [c] at e
  have e : p.toNat % n.toNat ≠ 0 := by simpa using e
  intro hz
  apply e
  have h2 := h.1
  have : ((p.toNat % n.toNat : Nat) : Int) = 0 := by rw [Int.natCast_emod, Int.toNat_of_nonneg (by omega), Int.toNat_of_nonneg (by omega)]; exact hz
  omega

theorem mm (a b p : Int) : a % p * b % p = a * b % p := by rw [Int.mul_emod, Int.emod_emod, ← Int.mul_emod]
/-! ### Powers -/
/-- The power of a with the exponent n, modulo p. -/
def pw (a p : Int) (n : Nat) : Int := a ^ n % p
theorem pw_bd (a : Int) {p : Int} (h : 2 ≤ p) (n : Nat) : 0 ≤ pw a p n ∧ pw a p n < p := ⟨Int.emod_nonneg _ (by omega), Int.emod_lt_of_pos _ (by omega)⟩
theorem pw_zero (a : Int) {p : Int} (h : 2 ≤ p) : pw a p 0 = 1 := by unfold pw; rw [Int.pow_zero]; exact Int.emod_eq_of_lt (by omega) (by omega)
theorem pw_one {a p : Int} (h0 : 0 ≤ a) (h : a < p) : pw a p 1 = a := by unfold pw; rw [Int.pow_succ, Int.pow_zero, Int.one_mul]; exact Int.emod_eq_of_lt h0 h
theorem pw_succ (a p : Int) (n : Nat) : pw a p n * a % p = pw a p (n + 1) := by unfold pw; rw [Int.pow_succ, mm]
theorem pow_mod (a p : Int) (n : Nat) : (a % p) ^ n % p = a ^ n % p := by
  induction n with
  | zero => rw [Int.pow_zero, Int.pow_zero]
  | succ n ih => rw [Int.pow_succ, Int.pow_succ, Int.mul_emod, ih, Int.emod_emod, ← Int.mul_emod]
/-- A round of squaring and multiplying. -/
theorem sq_odd (o a p : Int) (n : Nat) (h : n % 2 = 1) : (o * a % p) * (a * a % p) ^ (n / 2) % p = o * a ^ n % p := by
  have e : a ^ n = a * (a * a) ^ (n / 2) := by
    conv => lhs; rw [show n = 2 * (n / 2) + 1 by omega]
    rw [Int.pow_succ, Int.pow_mul, show a ^ 2 = a * a by rw [Int.pow_succ, Int.pow_succ, Int.pow_zero, Int.one_mul], Int.mul_comm]
  rw [mm, Int.mul_emod, pow_mod, ← Int.mul_emod, e, Int.mul_assoc]
theorem sq_even (o a p : Int) (n : Nat) (h : n % 2 = 0) : o * (a * a % p) ^ (n / 2) % p = o * a ^ n % p := by
  have e : a ^ n = (a * a) ^ (n / 2) := by
    conv => lhs; rw [show n = 2 * (n / 2) by omega]
    rw [Int.pow_mul, show a ^ 2 = a * a by rw [Int.pow_succ, Int.pow_succ, Int.pow_zero, Int.one_mul]]
  rw [Int.mul_emod, pow_mod, ← Int.mul_emod, e]

/-! ### Inverses -/
def IsInv (p a x : Int) : Prop := 0 ≤ x ∧ x < p ∧ x * a % p = 1
theorem inv_uniq {p a x y : Int} (hx : IsInv p a x) (hy : IsInv p a y) : x = y := by
  obtain ⟨x0, x1, x2⟩ := hx
  obtain ⟨y0, y1, y2⟩ := hy
  have e1 : x * a * y % p = y % p := by rw [Int.mul_emod, x2, Int.mul_emod, Int.emod_emod, ← Int.mul_emod, Int.one_mul]
  have e2 : x * a * y % p = x % p := by
    rw [show x * a * y = x * (y * a) by rw [Int.mul_assoc, Int.mul_comm a y], Int.mul_emod, y2, Int.mul_emod, Int.emod_emod, ← Int.mul_emod, Int.mul_one]
  rw [e1, Int.emod_eq_of_lt y0 y1, Int.emod_eq_of_lt x0 x1] at e2
  exact e2.symm
theorem cast_pw (a p n : Nat) : ((a ^ n % p : Nat) : Int) = pw (a : Int) (p : Int) n := by unfold pw; rw [Int.natCast_emod, Int.natCast_pow]
/-- The power with the exponent p - 2 is the inverse. -/
theorem inv_pw {p a : Int} (h : IsPr p) (h0 : 1 ≤ a) (h1 : a < p) : IsInv p a (pw a p (p - 2).toNat) := by
  have e := tab_at inv_tab h (show 0 ≤ a by omega) h1
  have c : (a.toNat == 0) = false := by simp; omega
  simp only [c, Bool.false_or, beq_iff_eq] at e
  refine ⟨(pw_bd a h.1 _).1, (pw_bd a h.1 _).2, ?_⟩
  have e := congrArg (Nat.cast (R := Int)) e
  rw [Int.natCast_emod, Int.natCast_mul, cast_pw, Int.toNat_of_nonneg (by omega), Int.toNat_of_nonneg (by have := h.1; omega), show p.toNat - 2 = (p - 2).toNat by omega] at e
  exact e
theorem fermat {p a : Int} (h : IsPr p) (h0 : 1 ≤ a) (h1 : a < p) : pw a p (p - 1).toNat = 1 := by
  have e := tab_at fer_tab h (show 0 ≤ a by omega) h1
  have c : (a.toNat == 0) = false := by simp; omega
  simp only [c, Bool.false_or, beq_iff_eq] at e
  have e := congrArg (Nat.cast (R := Int)) e
  rw [cast_pw, Int.toNat_of_nonneg (by omega), Int.toNat_of_nonneg (by have := h.1; omega), show p.toNat - 1 = (p - 1).toNat by omega] at e
  exact e
theorem inv_ne {p a x : Int} (h : IsInv p a x) : 1 ≤ x := by
  obtain ⟨h0, h1, h2⟩ := h
  by_cases e : x = 0
  · rw [e] at h2; simp at h2
  · omega
/-- The inverse of a power is the power of the inverse. -/
theorem inv_pow {p a x : Int} (hp : 2 ≤ p) (h : IsInv p a x) (n : Nat) : IsInv p (pw a p n) (pw x p n) := by
  refine ⟨(pw_bd x hp n).1, (pw_bd x hp n).2, ?_⟩
  unfold pw
  rw [← Int.mul_emod, ← Int.mul_pow, ← pow_mod, h.2.2, Int.one_pow]
  exact Int.emod_eq_of_lt (by omega) (by omega)
/-- A round of the table of inverses: the rest of p has an inverse already. -/
theorem inv_step {p n y : Int} (hp : IsPr p) (h0 : 2 ≤ n) (h1 : n < p) (hy : IsInv p (p % n) y) : IsInv p n ((-(p / n) * y) % p) := by
  have hp2 := hp.1
  refine ⟨Int.emod_nonneg _ (by omega), Int.emod_lt_of_pos _ (by omega), ?_⟩
  have hd := Int.mul_ediv_add_emod p n
  rw [mm]
  have e : -(p / n) * y * n = y * (p % n) + p * (-y) := by
    have : n * (p / n) = p - p % n := by omega
    rw [Int.mul_assoc, Int.mul_comm y n, ← Int.mul_assoc, Int.neg_mul, Int.mul_comm (p / n) n, this, Int.neg_sub, Int.sub_mul, Int.mul_comm (p % n) y, Int.mul_neg, Int.sub_eq_add_neg]
  rw [e, Int.add_mul_emod_self_left]
  exact hy.2.2

/-! ### Orders, logarithms, generators, roots -/
theorem least_of {P : Nat → Prop} : ∀ {n : Nat}, P n → ∃ m, m ≤ n ∧ P m ∧ ∀ k, k < m → ¬ P k := by
  intro n
  induction n using Nat.strongRecOn with
  | ind n ih =>
    intro h
    by_cases c : ∃ k, k < n ∧ P k
    · obtain ⟨k, hk, hP⟩ := c
      obtain ⟨m, hm, a, b⟩ := ih k hk hP
      exact ⟨m, by omega, a, b⟩
    · exact ⟨n, Nat.le_refl n, h, fun k hk hP => c ⟨k, hk, hP⟩⟩
/-- The least exponent with which b has the power t. -/
def IsLog (b p t : Int) (n : Nat) : Prop := pw b p n = t ∧ ∀ m, m < n → pw b p m ≠ t
def IsOrd (a p : Int) (n : Nat) : Prop := 1 ≤ n ∧ pw a p n = 1 ∧ ∀ m, 1 ≤ m → m < n → pw a p m ≠ 1
theorem ord_has {p a : Int} (h : IsPr p) (h0 : 1 ≤ a) (h1 : a < p) : ∃ n : Nat, IsOrd a p n ∧ (n : Int) ≤ p - 1 := by
  have hp := h.1
  obtain ⟨m, hm, hP, hl⟩ := least_of (P := fun n => pw a p (n + 1) = 1) (n := (p - 2).toNat) (by show pw a p ((p - 2).toNat + 1) = 1; rw [show (p - 2).toNat + 1 = (p - 1).toNat by omega]; exact fermat h h0 h1)
  refine ⟨m + 1, ⟨by omega, hP, fun k k1 k2 e => ?_⟩, by omega⟩
  exact hl (k - 1) (by omega) (by show pw a p (k - 1 + 1) = 1; rw [show k - 1 + 1 = k by omega]; exact e)
theorem ord_uniq {p a : Int} {n m : Nat} (hn : IsOrd a p n) (hm : IsOrd a p m) : n = m := by
  rcases Nat.lt_trichotomy n m with h | h | h
  · exact absurd hn.2.1 (hm.2.2 n hn.1 h)
  · exact h
  · exact absurd hm.2.1 (hn.2.2 m hm.1 h)
/-- The exponent behind the order's is that of the inverse. -/
theorem ord_log {p a x : Int} {n : Nat} (hp : 2 ≤ p) (h : IsOrd a p n) (hx : IsInv p a x) : IsLog a p x (n - 1) := by
  obtain ⟨h0, h1, h2⟩ := h
  have up : ∀ m, pw a p m = x → pw a p (m + 1) = 1 := by
    intro m e
    rw [← pw_succ, e]; exact hx.2.2
  refine ⟨inv_uniq ⟨(pw_bd a hp _).1, (pw_bd a hp _).2, ?_⟩ hx, fun m hm e => h2 (m + 1) (by omega) (by omega) (up m e)⟩
  rw [pw_succ, show n - 1 + 1 = n by omega]; exact h1
def IsGen (p g : Int) : Prop := 1 ≤ g ∧ g < p ∧ IsOrd g p (p - 1).toNat ∧ ∀ h : Int, 1 ≤ h → h < g → ¬ IsOrd h p (p - 1).toNat
theorem ordFull_no {p g : Nat} : ∀ {n k : Nat}, ordFull p g (g ^ k % p) n = true → ∀ m, k ≤ m → m < k + n → g ^ m % p ≠ 1 := by
  intro n
  induction n with
  | zero => intro k _ m h0 h1; omega
  | succ n ih =>
    intro k h m h0 h1
    unfold ordFull at h
    rw [Bool.and_eq_true] at h
    obtain ⟨ha, hb⟩ := h
    by_cases e : m = k
    · subst e; simpa using ha
    · rw [Nat.mod_mul_mod, ← Nat.pow_succ] at hb
      exact ih hb m (by omega) (by omega)
theorem gen_has {p : Int} (h : IsPr p) : ∃ g, IsGen p g := by
  obtain ⟨q, rfl, hq⟩ := h.nat
  have hp := h.1
  have e := List.all_eq_true.1 gen_tab q hq
  unfold hasGen at e
  obtain ⟨g, hg, he⟩ := List.any_eq_true.1 e
  have hg := List.mem_range.1 hg
  rw [Bool.and_eq_true] at he
  obtain ⟨g0, g1⟩ := he
  have g0 : g ≠ 0 := by simpa using g0
  have no := ordFull_no (k := 1) (by rw [Nat.pow_one]; exact g1)
  have ho : IsOrd (g : Int) (q : Int) ((q : Int) - 1).toNat := by
    refine ⟨by omega, fermat h (by omega) (by omega), fun m m1 m2 e => no m m1 (by omega) ?_⟩
    rw [← cast_pw] at e
    exact_mod_cast e
  obtain ⟨m, hm, hP, hl⟩ := least_of (P := fun n => IsOrd ((n : Int) + 1) (q : Int) ((q : Int) - 1).toNat) (n := g - 1) (by
    show IsOrd (((g - 1 : Nat) : Int) + 1) _ _; rw [show ((g - 1 : Nat) : Int) + 1 = g by omega]; exact ho)
  refine ⟨(m : Int) + 1, by omega, by omega, hP, fun k k0 k1 e => hl (k - 1).toNat (by omega) ?_⟩
  show IsOrd (((k - 1).toNat : Int) + 1) _ _
  rw [show ((k - 1).toNat : Int) + 1 = k by omega]; exact e
/-- The least number whose square is a. -/
def IsRt (a p x : Int) : Prop := 0 ≤ x ∧ x < p ∧ x * x % p = a ∧ ∀ y : Int, 0 ≤ y → y < x → y * y % p ≠ a
def NoRt (a p : Int) : Prop := ∀ y : Int, 0 ≤ y → y < p → y * y % p ≠ a
theorem rt_or (a p : Int) : (∃ x, IsRt a p x) ∨ NoRt a p := by
  by_cases h : ∃ n : Nat, (n : Int) < p ∧ (n : Int) * n % p = a
  · obtain ⟨n, h0, h1⟩ := h
    obtain ⟨m, hm, hP, hl⟩ := least_of (P := fun n : Nat => (n : Int) * n % p = a) h1
    refine .inl ⟨m, by omega, by omega, hP, fun y y0 y1 e => ?_⟩
    exact hl y.toNat (by omega) (by show ((y.toNat : Nat) : Int) * _ % p = a; rw [Int.toNat_of_nonneg y0]; exact e)
  · refine .inr fun y y0 y1 e => h ⟨y.toNat, by omega, ?_⟩
    rw [Int.toNat_of_nonneg y0]; exact e
theorem log_or (b p t : Int) (N : Nat) : (∃ n, n < N ∧ IsLog b p t n) ∨ ∀ m, m < N → pw b p m ≠ t := by
  by_cases h : ∃ n, n < N ∧ pw b p n = t
  · obtain ⟨n, h0, h1⟩ := h
    obtain ⟨m, hm, hP, hl⟩ := least_of (P := fun n : Nat => pw b p n = t) h1
    exact .inl ⟨m, by omega, hP, hl⟩
  · exact .inr fun m hm e => h ⟨m, hm, e⟩
end Go.Proofs.YtdihcmohpbgmmaaDoor

namespace Go.Proofs.YtdihcmohpbgmmaaDoor
open Go.RowKit
set_option linter.unusedVariables false

theorem l00In_yes (n lo hi : Int) (w : World) (h0 : lo ≤ n) (h1 : n ≤ hi) :
    Calls Tryd.prog 55 #[.int .i64 n, .int .i64 lo, .int .i64 hi] w fun e w' => e = .returned (.bool true) ∧ w = w' := by
  have e0 : decide (n ≥ lo) = true := by simpa using h0
  have e1 : decide (n ≤ hi) = true := by simpa using h1
  go_enter Tryd.func55, Tryd.ntmps55
  go_wp2
  go_ret
  exact ⟨rfl, rfl⟩
theorem l00In_no (n lo hi : Int) (w : World) (h : n < lo ∨ hi < n) :
    Calls Tryd.prog 55 #[.int .i64 n, .int .i64 lo, .int .i64 hi] w fun e w' => e = .returned (.bool false) ∧ w = w' := by
  by_cases h0 : lo ≤ n
  · have h1 : ¬ n ≤ hi := by omega
    have e0 : decide (n ≥ lo) = true := by simpa using h0
    have e1 : decide (n ≤ hi) = false := by simpa using h1
    clear h
    go_enter Tryd.func55, Tryd.ntmps55
    go_wp2
    go_ret
    exact ⟨rfl, rfl⟩
  · have e0 : decide (n ≥ lo) = false := by simpa using h0
    clear h
    go_enter Tryd.func55, Tryd.ntmps55
    go_wp2
    go_ret
    exact ⟨rfl, rfl⟩
theorem within64_yes (n lo hi : Int) (w : World) (h0 : lo ≤ n) (h1 : n ≤ hi) :
    Calls Tryd.prog 59 #[.int .i64 n, .int .i64 lo, .int .i64 hi] w fun e w' => e = .returned (.bool true) ∧ w = w' := by
  have e0 : decide (lo ≤ n) = true := by simpa using h0
  have e1 : decide (n ≤ hi) = true := by simpa using h1
  go_enter Tryd.func59, Tryd.ntmps59
  go_wp2
  go_ret
  exact ⟨rfl, rfl⟩
theorem within64_no (n lo hi : Int) (w : World) (h : n < lo ∨ hi < n) :
    Calls Tryd.prog 59 #[.int .i64 n, .int .i64 lo, .int .i64 hi] w fun e w' => e = .returned (.bool false) ∧ w = w' := by
  by_cases h0 : lo ≤ n
  · have h1 : ¬ n ≤ hi := by omega
    have e0 : decide (lo ≤ n) = true := by simpa using h0
    have e1 : decide (n ≤ hi) = false := by simpa using h1
    clear h
    go_enter Tryd.func59, Tryd.ntmps59
    go_wp2
    go_ret
    exact ⟨rfl, rfl⟩
  · have e0 : decide (lo ≤ n) = false := by simpa using h0
    clear h
    go_enter Tryd.func59, Tryd.ntmps59
    go_wp2
    go_ret
    exact ⟨rfl, rfl⟩
end Go.Proofs.YtdihcmohpbgmmaaDoor

namespace Go.Proofs.YtdihcmohpbgmmaaDoor
open Go.RowKit
set_option linter.unusedVariables false

theorem ret_i {k : IntKind} {a b : Int} (h : a = b) : Ending.returned (.int k a) = .returned (.int k b) := by rw [h]
theorem kk_bd {k : Int} (h0 : 2 ≤ k) (h1 : k ≤ 16) : 4 ≤ k * k ∧ k * k ≤ 256 := by
  have a := Int.mul_le_mul h1 h1 (by omega) (by omega : (0 : Int) ≤ 16)
  have b := Int.mul_le_mul h0 h0 (by omega) (by omega : (0 : Int) ≤ k)
  omega
theorem kk_small {k : Int} (h0 : 2 ≤ k) (h : k * k ≤ 251) : k ≤ 15 := by
  by_cases c : k ≤ 15
  · exact c
  · have b := Int.mul_le_mul (show 16 ≤ k by omega) (show 16 ≤ k by omega) (by omega) (by omega : (0 : Int) ≤ k)
    omega

/-- No divisor from 2 to k - 1. -/
def Tried (p k : Int) : Prop := ∀ j : Int, 2 ≤ j → j < k → p % j ≠ 0
theorem Tried.next {p k : Int} (h : Tried p k) (hz : p % k ≠ 0) : Tried p (k + 1) := by
  intro j j0 j1
  by_cases e : j = k
  · rw [e]; exact hz
  · exact h j j0 (by omega)
theorem Tried.pr {p k : Int} (h : Tried p k) (h0 : 2 ≤ p) (h1 : p ≤ 251) (hk : 2 ≤ k) (hkk : p < k * k) : IsPr p := by
  refine ⟨h0, h1, fun j j0 jj => h j j0 ?_⟩
  by_cases c : j < k
  · exact c
  · have := Int.mul_le_mul (show k ≤ j by omega) (show k ≤ j by omega) (by omega) (by omega : (0 : Int) ≤ j)
    omega

end Go.Proofs.YtdihcmohpbgmmaaDoor

namespace Go.Proofs.YtdihcmohpbgmmaaDoor
open Go.RowKit
set_option linter.unusedVariables false

/-- All of the numbers are numbers modulo p. -/
def NumOk (p : Int) (zs : List Int) : Prop := ∀ (j : Nat) (h : j < zs.length), 0 ≤ zs[j] ∧ zs[j] ≤ p - 1
/-- The code: 1 no prime, 2 a number out of range, 0 neither. -/
def NumCode (p : Int) (zs : List Int) (c : Int) : Prop := (¬ IsPr p ∧ c = 1) ∨ (IsPr p ∧ ¬ NumOk p zs ∧ c = 2) ∨ (IsPr p ∧ NumOk p zs ∧ c = 0)
/-- What holds of the numbers before k holds of all, or fails at one. -/
def Till (P : Int → Prop) (zs : List Int) (k : Nat) : Prop := ∀ (j : Nat) (h : j < zs.length), j < k → P zs[j]
theorem Till.zero (P : Int → Prop) (zs : List Int) : Till P zs 0 := fun _ _ h => absurd h (Nat.not_lt_zero _)
theorem Till.next {P : Int → Prop} {zs : List Int} {k : Nat} (h : Till P zs k) (hk : k < zs.length) (hp : P zs[k]) : Till P zs (k + 1) := by
  intro j hj hjk
  by_cases e : j = k
  · subst e; exact hp
  · exact h j hj (by omega)


end Go.Proofs.YtdihcmohpbgmmaaDoor

namespace Go.Proofs.YtdihcmohpbgmmaaDoor
set_option linter.unusedVariables false
open Lin
set_option linter.unusedSectionVars false
/-! ### Numbers modulo a prime, as they lie in memory -/
section
variable {q : Nat} [NeZero q]
/-- A number modulo q as it lies in memory. -/
def fv (a : Fin q) : Int := (a.val : Int)
theorem fv_nn (a : Fin q) : 0 ≤ fv a := Int.natCast_nonneg _
theorem fv_lt (a : Fin q) : fv a < q := by unfold fv; have := a.isLt; omega
theorem fv_inj {a b : Fin q} (h : fv a = fv b) : a = b := by unfold fv at h; exact Fin.ext (by omega)
theorem fv_eq {a : Fin q} {x : Int} (h0 : 0 ≤ x) (h1 : x < q) (h : ∃ k, x = fv a + q * k) : x = fv a := by
  obtain ⟨k, hk⟩ := h
  have a0 := fv_nn a
  have a1 := fv_lt a
  have e := congrArg (· % (q : Int)) hk
  simp only [Int.add_mul_emod_self_left] at e
  rwa [Int.emod_eq_of_lt h0 h1, Int.emod_eq_of_lt a0 a1] at e
theorem fv_mod (a : Fin q) : fv a % q = fv a := Int.emod_eq_of_lt (fv_nn a) (fv_lt a)
theorem fv_add (a b : Fin q) : (fv a + fv b) % q = fv (a + b) := by
  unfold fv; rw [Fin.val_add, Int.natCast_emod, Int.natCast_add]
theorem fv_mul (a b : Fin q) : fv a * fv b % q = fv (a * b) := by
  unfold fv; rw [Fin.val_mul, Int.natCast_emod, Int.natCast_mul]
theorem fv_addmul (a b c : Fin q) : (fv a + fv b * fv c) % q = fv (a + b * c) := by
  rw [← fv_add, ← fv_mul, Int.add_emod_emod]
theorem fv_zero : fv (0 : Fin q) = 0 := by unfold fv; simp
theorem fv_neg (a : Fin q) : (-fv a) % q = fv (-a) := by
  have h : fv (a + -a) = 0 := by rw [show a + -a = 0 by grind]; exact fv_zero
  rw [← fv_add] at h
  have h2 : (-fv a) % q = (fv (-a)) % q := by
    rw [Int.emod_eq_emod_iff_emod_sub_eq_zero]
    have : -fv a - fv (-a) = -(fv a + fv (-a)) := by omega
    rw [this]
    exact Int.emod_eq_zero_of_dvd ((Int.dvd_neg).2 (Int.dvd_of_emod_eq_zero h))
  rw [h2, fv_mod]
theorem fv_submul (a b c : Fin q) : (fv a - fv b * fv c) % q = fv (a - b * c) := by
  rw [show a - b * c = a + (-b) * c by grind, ← fv_addmul, ← fv_neg, Int.add_emod, Int.mul_emod, Int.emod_emod, ← Int.mul_emod, ← Int.add_emod, show fv a - fv b * fv c = fv a + -fv b * fv c by rw [Int.neg_mul]; omega]
theorem fv_of {x : Int} (h0 : 0 ≤ x) (h1 : x < q) : ∃ a : Fin q, fv a = x := ⟨⟨x.toNat, by omega⟩, by unfold fv; simp; omega⟩
theorem fv_one (h : 2 ≤ q) : fv (1 : Fin q) = 1 := by
  have : ((1 : Fin q)).val = 1 % q := rfl
  unfold fv
  rw [this, Nat.mod_eq_of_lt (by omega)]; rfl
theorem fv_eq_zero {a : Fin q} : fv a = 0 ↔ a = 0 := ⟨fun h => fv_inj (h.trans fv_zero.symm), fun h => by rw [h]; exact fv_zero⟩
theorem fd_of (h : IsPr (q : Int)) : FldP q := by
  have h2 : 2 ≤ q := by have := h.1; omega
  refine ⟨fun e => ?_, fun a ha => ?_⟩
  · have := congrArg fv e
    rw [fv_zero, fv_one h2] at this
    omega
  · have h0 : fv a ≠ 0 := fun e => ha (fv_eq_zero.1 e)
    have hn := fv_nn a
    obtain ⟨hx0, hx1, hx2⟩ := inv_pw h (show 1 ≤ fv a by omega) (fv_lt a)
    obtain ⟨x, hx⟩ : ∃ x, pw (fv a) q (((q : Int) - 2).toNat) = x := ⟨_, rfl⟩
    rw [hx] at hx0 hx1 hx2
    obtain ⟨b, rfl⟩ := fv_of hx0 hx1
    refine ⟨b, fv_inj ?_⟩
    rw [← fv_mul, Int.mul_comm, hx2, fv_one h2]
theorem finv_of {a : Fin q} {x : Int} (h2 : 2 ≤ q) (h : IsInv (q : Int) (fv a) x) : x = fv (finv a) := by
  obtain ⟨hx0, hx1, hx2⟩ := h
  obtain ⟨b, rfl⟩ := fv_of hx0 hx1
  rw [finv_one (a := a) (b := b) (fv_inj (by rw [← fv_mul, Int.mul_comm, hx2, fv_one h2]))]

/-! ### The cells of a matrix -/
/-- The cells of a matrix of m rows and n columns, row by row. -/
def flat (m n : Nat) (A : Mt q) : List Int := (List.range (m * n)).map fun t => fv (A (t / n) (t % n))
theorem flat_len (m n : Nat) (A : Mt q) : (flat m n A).length = m * n := by simp [flat]
theorem flat_at (m n : Nat) (A : Mt q) (t : Nat) (h : t < (flat m n A).length) : (flat m n A)[t] = fv (A (t / n) (t % n)) := by simp [flat]
theorem idx_lt {m n i j : Nat} (hi : i < m) (hj : j < n) : i * n + j < m * n := by
  have := Nat.mul_le_mul_right n (show i + 1 ≤ m from hi)
  rw [Nat.add_mul] at this; omega
theorem idx_div {n i j : Nat} (hj : j < n) : (i * n + j) / n = i := by
  rw [Nat.mul_comm, Nat.mul_add_div (by omega), Nat.div_eq_of_lt hj]; omega
theorem idx_mod {n i j : Nat} (hj : j < n) : (i * n + j) % n = j := by
  rw [Nat.mul_comm, Nat.mul_add_mod, Nat.mod_eq_of_lt hj]
theorem flat_ij (m n : Nat) (A : Mt q) {i j : Nat} (hi : i < m) (hj : j < n) : (flat m n A)[i * n + j]'(by rw [flat_len]; exact idx_lt hi hj) = fv (A i j) := by
  rw [flat_at, idx_div hj, idx_mod hj]
theorem flat_congr {m n : Nat} {A B : Mt q} (h : ∀ i j, i < m → j < n → A i j = B i j) : flat m n A = flat m n B := by
  unfold flat
  refine List.map_congr_left fun t ht => ?_
  have ht := List.mem_range.1 ht
  have hn : 0 < n := by
    rcases Nat.eq_zero_or_pos n with e | e
    · subst e; simp at ht
    · exact e
  rw [h _ _ (Nat.div_lt_of_lt_mul (by rw [Nat.mul_comm]; exact ht)) (Nat.mod_lt _ hn)]
theorem flat_inj {m n : Nat} {A B : Mt q} (h : flat m n A = flat m n B) (i j : Nat) (hi : i < m) (hj : j < n) : A i j = B i j := by
  have h1 := flat_ij m n A hi hj
  have h2 := flat_ij m n B hi hj
  simp only [h] at h1
  exact fv_inj (h1.symm.trans h2)
theorem flat_ok (m n : Nat) (A : Mt q) : NumOk q (flat m n A) := fun j hj => by
  rw [flat_at]
  have h0 := fv_nn (A (j / n) (j % n))
  have h1 := fv_lt (A (j / n) (j % n))
  omega
end
/-- A valid matrix. -/
def MOk (p r c : Int) (zs : List Int) : Prop := IsPr p ∧ 0 ≤ r ∧ r ≤ 32 ∧ 0 ≤ c ∧ c ≤ 32 ∧ (zs.length : Int) = r * c ∧ NumOk p zs
/-- What a valid matrix is: a prime q, m rows and n columns of numbers modulo q. -/
structure MIs (p r c : Int) (zs : List Int) (q : Nat) [NeZero q] (m n : Nat) (A : Mt q) : Prop where
  p : p = q
  r : r = m
  c : c = n
  zs : zs = flat m n A
  pr : IsPr (q : Int)
  m32 : m ≤ 32
  n32 : n ≤ 32
theorem MIs.ok {p r c : Int} {zs : List Int} {q : Nat} [NeZero q] {m n : Nat} {A : Mt q} (h : MIs p r c zs q m n A) : MOk p r c zs := by
  obtain ⟨rfl, rfl, rfl, rfl, h5, h6, h7⟩ := h
  exact ⟨h5, by omega, by omega, by omega, by omega, by rw [flat_len, Int.natCast_mul], flat_ok m n A⟩
theorem MOk.form {p r c : Int} {zs : List Int} (h : MOk p r c zs) : ∃ (q : Nat) (_ : NeZero q) (m n : Nat) (A : Mt q), MIs p r c zs q m n A := by
  obtain ⟨hp, r0, r1, c0, c1, hl, hn⟩ := h
  obtain ⟨q, rfl⟩ := Int.eq_ofNat_of_zero_le (show 0 ≤ p by have := hp.1; omega)
  obtain ⟨m, rfl⟩ := Int.eq_ofNat_of_zero_le r0
  obtain ⟨n, rfl⟩ := Int.eq_ofNat_of_zero_le c0
  have hz : NeZero q := ⟨by have := hp.1; omega⟩
  have hl : zs.length = m * n := by exact_mod_cast hl
  have hq : 0 < q := by have := hp.1; omega
  refine ⟨q, hz, m, n, fun i j => Fin.ofNat q (zs.getD (i * n + j) 0).toNat, rfl, rfl, rfl, ?_, hp, by omega, by omega⟩
  refine List.ext_getElem (by rw [flat_len]; exact hl) fun t h1 h2 => ?_
  rw [flat_at, Nat.mul_comm, Nat.div_add_mod]
  have := hn t h1
  have e : zs.getD t 0 = zs[t] := by simp [List.getD, List.getElem?_eq_getElem h1]
  unfold fv
  rw [e]
  show zs[t] = ((zs[t].toNat % q : Nat) : Int)
  rw [Nat.mod_eq_of_lt (by omega)]
  omega
end Go.Proofs.YtdihcmohpbgmmaaDoor

namespace Go.Proofs.YtdihcmohpbgmmaaDoor
open Go.RowKit
set_option linter.unusedVariables false

/-- A slice that came in, by what its reading says. -/
theorem intsAt_in {w : World} {a : Option Addr} {len cap : Nat} {zs : List Int} (hl : len ≤ 1048576)
    (h : (a = none ∧ len = 0 ∧ cap = 0 ∧ zs = []) ∨ ∃ x, a = some x ∧ len ≤ cap ∧ cap ≤ maxLen ∧ zs.length = cap ∧ (∀ i, i < zs.length → w.cell? (x.add i) = some (.int .i64 (zs.getD i 0))) ∧ ∀ n ∈ zs, (Lit.int .i64 n).wf = true) :
    IntsAt w (.slice a len cap) (zs.take len) := by
  rcases h with ⟨rfl, rfl, rfl, rfl⟩ | ⟨x, rfl, h1, _, h3, h4, _⟩
  · exact ⟨none, 0, rfl, by simp, .inl rfl⟩
  · have e : (zs.take len).length = len := by rw [List.length_take]; omega
    refine ⟨some x, cap, by rw [e], by rw [e]; exact hl, ?_⟩
    by_cases h0 : len = 0
    · subst h0; exact .inl (by simp)
    · right
      obtain ⟨b, off, spot⟩ := x
      have hc := h4 0 (by omega)
      have hspot : spot = none := by simpa [Addr.add] using World.cell?_spot hc
      subst hspot
      refine ⟨b, off, rfl, World.block_lt_of_cell? w _ (by simpa [Addr.add] using hc), fun j hj => ?_⟩
      have hj' : j < zs.length := by rw [e] at hj; omega
      have := h4 j hj'
      have ea : (⟨b, off, none⟩ : Addr).add j = ⟨b, off + j, none⟩ := by
        unfold Addr.add; split <;> simp_all
      rw [ea] at this
      rw [this, List.getElem_take]
      simp [List.getD, List.getElem?_eq_getElem hj']
theorem len_max {w : World} {a : Option Addr} {len cap : Nat} {zs : List Int}
    (h : (a = none ∧ len = 0 ∧ cap = 0 ∧ zs = []) ∨ ∃ x, a = some x ∧ len ≤ cap ∧ cap ≤ maxLen ∧ zs.length = cap ∧ (∀ i, i < zs.length → w.cell? (x.add i) = some (.int .i64 (zs.getD i 0))) ∧ ∀ n ∈ zs, (Lit.int .i64 n).wf = true) : len ≤ 9223372036854775807 := by
  rcases h with ⟨_, rfl, _⟩ | ⟨x, _, h1, h2, _⟩
  · exact Nat.zero_le _
  · unfold maxLen at h2; omega

theorem row_len {w : World} {a : Option Addr} {len cap : Nat} {zs : List Int}
    (h : (a = none ∧ len = 0 ∧ cap = 0 ∧ zs = []) ∨ ∃ x, a = some x ∧ len ≤ cap ∧ cap ≤ maxLen ∧ zs.length = cap ∧ (∀ i, i < zs.length → w.cell? (x.add i) = some (.int .i64 (zs.getD i 0))) ∧ ∀ n ∈ zs, (Lit.int .i64 n).wf = true) : (zs.take len).length = len := by
  rw [List.length_take]
  rcases h with ⟨_, rfl, _, rfl⟩ | ⟨x, _, h1, _, h3, _⟩
  · rfl
  · omega
end Go.Proofs.YtdihcmohpbgmmaaDoor
