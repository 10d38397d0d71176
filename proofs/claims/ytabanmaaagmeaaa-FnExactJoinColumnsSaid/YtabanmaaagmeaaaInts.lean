/-
  Slices of int64: what they read as, and contracts of the laws' own helpers: equality, a copy, marks. Lengths up to 1048576.
-/
import Derived.Test.YtabanmaaagmeaaaProg
import Derived.WalkKit
import Derived.ProofKit
import Derived.Lib.Hide
import Derived.Laws.OwnMore
import Derived.Deep.QuietTactic
import Derived.BigQuiet
namespace Go.Proofs.Ytabanmaaagmeaaa
open Go.RowKit
set_option linter.unusedVariables false

def iv (zs : List Int) : List Value := zs.map (Value.int .i64)
theorem iv_len (zs : List Int) : (iv zs).length = zs.length := by simp [iv]
theorem iv_at (zs : List Int) (j : Nat) (h : j < zs.length) : (iv zs)[j]? = some (.int .i64 zs[j]) := by simp [iv, List.getElem?_eq_getElem h]
theorem info2 : (Try.prog.info? 2).map (fun i => (i.zero, i.size, i.bytes)) = some (some (.int .i64 0), 1, 8) := by kernel_rfl

/-- A slice that reads as the numbers zs. -/
def IntsAt (w : World) (v : Value) (zs : List Int) : Prop :=
  ∃ a cap, v = .slice a zs.length cap ∧ zs.length ≤ 1048576 ∧ (zs = [] ∨ ∃ b off, a = some ⟨b, off, none⟩ ∧ b < w.heap.size ∧ ∀ j (h : j < zs.length), w.cell? ⟨b, off + j, none⟩ = some (.int .i64 zs[j]))
theorem IntsAt.on {w w' : World} {v : Value} {zs : List Int} (h : IntsAt w v zs) (hb : Below w.heap.size w w') : IntsAt w' v zs := by
  obtain ⟨a, cap, rfl, hl, rfl | ⟨b, off, rfl, hbk, hc⟩⟩ := h
  · exact ⟨a, cap, rfl, hl, .inl rfl⟩
  · exact ⟨_, cap, rfl, hl, .inr ⟨b, off, rfl, Nat.lt_of_lt_of_le hbk hb.size, fun j hj => (hb.cell (p := ⟨b, off + j, none⟩) hbk).trans (hc j hj)⟩⟩
/-- A slice of int64 in a row of the call's own, from block B on. -/
def OwnI (B : Nat) (w : World) (v : Value) (zs : List Int) : Prop := w.ownsRow B 2 1 v zs.length (iv zs)
theorem OwnI.out {B : Nat} {w : World} {v : Value} {zs : List Int} (h : OwnI B w v zs) : w.ownsRow B 2 1 v zs.length (iv zs) := h
theorem OwnI.form {B : Nat} {w : World} {v : Value} {zs : List Int} (h : OwnI B w v zs) : zs = [] ∧ v = .slice none 0 0 ∨
    ∃ g cap, v = .slice (some ⟨g, 0, none⟩) zs.length cap ∧ B ≤ g ∧ g < w.heap.size ∧ (∀ j (h : j < zs.length), w.cell? ⟨g, j, none⟩ = some (.int .i64 zs[j])) ∧ ∀ j, w.frozen? ⟨g, j, none⟩ = false := by
  have h' := h
  obtain ⟨hx, ⟨rfl, hn⟩ | ⟨g, cap, cur, rfl, hg, hcur, _⟩⟩ := h
  · exact .inl ⟨List.eq_nil_of_length_eq_zero hn, rfl⟩
  · have hl := h'.out.lt g rfl
    refine .inr ⟨g, cap, rfl, hl.1, hl.2, fun j hj => ?_, fun j => h'.out.frozenAt j⟩
    rw [h'.out.cellAt j (by omega), iv_at zs j hj]
theorem OwnI.at {B : Nat} {w : World} {v : Value} {zs : List Int} (h : OwnI B w v zs) (hl : zs.length ≤ 1048576) : IntsAt w v zs := by
  rcases h.form with ⟨rfl, rfl⟩ | ⟨g, cap, rfl, _, hg, hc, _⟩
  · exact ⟨none, 0, rfl, hl, .inl rfl⟩
  · exact ⟨_, cap, rfl, hl, .inr ⟨g, 0, rfl, hg, fun j hj => by rw [Nat.zero_add]; exact hc j hj⟩⟩
theorem OwnI.on {B : Nat} {w w' : World} {v : Value} {zs : List Int} (h : OwnI B w v zs) (hb : Below w.heap.size w w') : OwnI B w' v zs := by
  obtain ⟨hx, ⟨rfl, hn⟩ | ⟨g, cap, cur, rfl, hg, hcur, r⟩⟩ := h
  · exact ⟨hx, .inl ⟨rfl, hn⟩⟩
  · refine ⟨hx, .inr ⟨g, cap, cur, rfl, hg, ?_, r⟩⟩
    have : g < w.heap.size := by
      rcases Nat.lt_or_ge g w.heap.size with h | h
      · exact h
      · simp [Array.getElem?_eq_none h] at hcur
    rw [hb.block g this]; exact hcur

/-! ### Equality -/
set_option maxHeartbeats 400000 in
theorem eqI_some (b1 o1 c1 b2 o2 c2 : Nat) (zs : List Int) (w : World) (hl : zs.length ≤ 1048576)
    (h1 : ∀ j (h : j < zs.length), w.cell? ⟨b1, o1 + j, none⟩ = some (.int .i64 zs[j])) (h2 : ∀ j (h : j < zs.length), w.cell? ⟨b2, o2 + j, none⟩ = some (.int .i64 zs[j])) :
    Calls Try.prog 55 #[.slice (some ⟨b1, o1, none⟩) zs.length c1, .slice (some ⟨b2, o2, none⟩) zs.length c2] w fun e w' => e = .returned (.bool true) ∧ ∃ n, w' = w.drewN n := by
  have H1 := Lib.hid h1
  have H2 := Lib.hid h2
  clear h1 h2
  go_enter Try.func55, Try.ntmps55
  go_wp2
  go_loopw [5] (fun i wr => ∃ k n : Nat, k ≤ zs.length ∧ i = .int .i64 (k : Int) ∧ wr = w.drewN n) (fun i _ => zs.length - (intOf i).toNat)
  case atStart => exact ⟨0, 0, Nat.zero_le _, rfl, rfl⟩
  case round =>
    obtain ⟨k, n, hk, rfl, rfl⟩ := hrel
    by_cases hlt : k < zs.length
    · obtain ⟨z, hz⟩ : ∃ z, zs[k] = z := ⟨_, rfl⟩
      have c1 := H1.out k hlt
      have c2 := H2.out k hlt
      rw [hz] at c1 c2
      clear hz
      have i0 : 0 ≤ (k : Int) := by omega
      have i1 : (k : Int) < zs.length := by omega
      have eb : (z != z) = false := by simp
      go_wp2
      go_quiet (fail)
      go_wp2
      go_roundw
      case rel => exact ⟨k + 1, _, by omega, by go_num, rfl⟩
      case measure => simp [intOf]; omega
    · go_wp2
      go_ret
      exact ⟨rfl, _, rfl⟩

theorem eqI_none (a1 a2 : Option Addr) (c1 c2 : Nat) (w : World) :
    Calls Try.prog 55 #[.slice a1 0 c1, .slice a2 0 c2] w fun e w' => e = .returned (.bool true) ∧ ∃ n, w' = w.drewN n := by
  go_enter Try.func55, Try.ntmps55
  go_wp2
  refine wp_loop_rounds 1 ?_
  rw [rounds_succ]
  go_wp2
  go_ret
  exact ⟨rfl, 0, rfl⟩
theorem eqI_any {v1 v2 : Value} {zs : List Int} {w : World} (h1 : IntsAt w v1 zs) (h2 : IntsAt w v2 zs) :
    Calls Try.prog 55 #[v1, v2] w fun e w' => e = .returned (.bool true) ∧ ∃ n, w' = w.drewN n := by
  obtain ⟨a1, c1, rfl, hl, h1⟩ := h1
  obtain ⟨a2, c2, rfl, _, h2⟩ := h2
  by_cases hz : zs = []
  · subst hz
    exact eqI_none a1 a2 c1 c2 w
  · rcases h1 with rfl | ⟨b1, o1, rfl, _, h1⟩
    · exact absurd rfl hz
    rcases h2 with rfl | ⟨b2, o2, rfl, _, h2⟩
    · exact absurd rfl hz
    exact eqI_some b1 o1 c1 b2 o2 c2 zs w hl h1 h2

/-! ### A copy -/
/-- How a call ends that hands back a slice of its own. -/
def RetI (w : World) (zs : List Int) (e : Ending) (w' : World) : Prop := ∃ v, e = .returned v ∧ OwnI w.heap.size w' v zs ∧ Below w.heap.size w w'
theorem copy_step {zs : List Int} {xs : List Value} {k : Nat} (h : xs.take k = iv (zs.take k)) (hx : xs.length = zs.length) (hk : k < zs.length) : (xs.set k (.int .i64 zs[k])).take (k + 1) = iv (zs.take (k + 1)) := by
  rw [List.take_succ_eq_append_getElem (by simp; omega), List.take_set_of_le (Nat.le_refl k), h, List.getElem_set_self, List.take_succ_eq_append_getElem hk]
  unfold iv
  rw [List.map_append]
  rfl
theorem copy_end {zs : List Int} {xs : List Value} (h : xs.take zs.length = iv (zs.take zs.length)) (hx : xs.length = zs.length) : xs = iv zs := by
  rwa [List.take_length, List.take_of_length_le (by omega)] at h
set_option maxHeartbeats 400000 in
set_option maxRecDepth 100000 in
theorem toI_some (b off cap : Nat) (zs : List Int) (w : World) (hl : zs.length ≤ 1048576) (hb : b < w.heap.size) (h1 : ∀ j (h : j < zs.length), w.cell? ⟨b, off + j, none⟩ = some (.int .i64 zs[j])) :
    Calls Try.prog 53 #[.slice (some ⟨b, off, none⟩) zs.length cap] w fun e w' => RetI w zs e w' := by
  obtain ⟨i0, hi, hz0, hz1, hz2⟩ := info_parts info2
  have H1 := Lib.hid h1
  clear h1
  go_enter Try.func53, Try.ntmps53
  go_wp2_with (at_make; refine wpList_make_full _ rfl _ _ 25 rfl w.heap.size 2 i0 (.int .i64 0) 1 Try.underlying25 hi hz0 hz1 _ _ _ _ zs.length rfl rfl rfl rfl ?ah1 ?ah2 ?ah3 ?_)
  case ah1 => rw [hz2]; omega
  case ah2 => unfold maxLen; omega
  case ah3 => exact Nat.le_refl _
  intro w1 hown hgrow
  have hb1 := (Below.refl w.heap.size w).grown hgrow (Nat.le_refl _) (fun k hk => by cases hk)
  have hr : ∃ xs : List Value, xs.length = zs.length ∧ w1.ownsRow w.heap.size 2 1 (.slice (some ⟨w.heap.size, 0, none⟩) zs.length zs.length) zs.length xs := ⟨_, by have := hown.1; simpa using this, hown⟩
  clear hown hgrow
  obtain ⟨xs0, hx0, hown0⟩ := hr
  go_wp2
  go_loopw [4] (fun i wr => ∃ (k : Nat) (xs : List Value), k ≤ zs.length ∧ i = .int .i64 (k : Int) ∧ Hid (xs.take k = iv (zs.take k)) ∧ xs.length = zs.length ∧ wr.ownsRow w.heap.size 2 1 (.slice (some ⟨w.heap.size, 0, none⟩) zs.length zs.length) zs.length xs ∧ Below w.heap.size w wr) (fun i _ => zs.length - (intOf i).toNat)
  case atStart => exact ⟨0, xs0, Nat.zero_le _, rfl, rfl, hx0, hown0, hb1⟩
  case round =>
    obtain ⟨k, xs, hk, rfl, ht, hx, hown, hbw⟩ := hrel
    by_cases hlt : k < zs.length
    · have c1 : wr.cell? ⟨b, off + k, none⟩ = some (.int .i64 zs[k]) := (hbw.cell (p := ⟨b, off + k, none⟩) hb).trans (H1.out k hlt)
      have HT := Lib.hid (copy_step ht.out hx hlt)
      obtain ⟨z, hz⟩ : ∃ z, zs[k] = z := ⟨_, rfl⟩
      rw [hz] at c1 HT
      obtain ⟨y, hy⟩ : ∃ y, xs[k]? = some y := ⟨xs[k], List.getElem?_eq_getElem (by omega)⟩
      have c2 : wr.cell? ⟨w.heap.size, k, none⟩ = some y := by rw [hown.cellAt k (by omega)]; exact hy
      have c3 : wr.frozen? ⟨w.heap.size, k, none⟩ = false := hown.frozenAt k
      have HO := Lib.hid (hown.stored k (.int .i64 z)).1
      have HB : Hid (Below w.heap.size w (wr.setCell ⟨w.heap.size, k, none⟩ (.int .i64 z))) := hbw.setCell (p := ⟨w.heap.size, k, none⟩) (Nat.le_refl _) _
      have HX : Hid ((xs.set k (.int .i64 z)).length = zs.length) := by show _ = _; rw [List.length_set]; exact hx
      clear hz hy ht hown hbw hx
      go_wp2
      go_roundw
      case rel => exact ⟨k + 1, _, by omega, by go_num, HT, HX.out, HO.out, HB.out⟩
      case measure => simp [intOf]; omega
    · obtain rfl : k = zs.length := by omega
      have e := copy_end ht.out hx
      subst e
      have HO : Hid (OwnI w.heap.size wr (.slice (some ⟨w.heap.size, 0, none⟩) zs.length zs.length) zs) := hown
      have HB := Lib.hid hbw
      clear hown hbw ht hx
      go_wp2
      go_ret
      exact ⟨_, rfl, HO.out, HB.out⟩
set_option maxRecDepth 100000 in
theorem toI_none (a : Option Addr) (cap : Nat) (w : World) :
    Calls Try.prog 53 #[.slice a 0 cap] w fun e w' => RetI w [] e w' := by
  have hmk : ∀ w : World, (Instr.makeSlice 25 (.int .i64 0) (.int .i64 0)).run Try.prog w = .ok (.slice (some ⟨w.heap.size, 0, none⟩) 0 0) (w.alloc (.cells #[] 2)) := fun _ => by kernel_rfl
  go_enter Try.func53, Try.ntmps53
  go_wp2
  refine wp_loop_rounds 1 ?_
  rw [rounds_succ]
  go_wp2
  go_ret
  exact ⟨_, rfl, World.ownsRow_made w #[] 0 (Nat.le_refl _) (by unfold maxLen; omega) rfl, (Below.refl _ _).alloc (Nat.le_refl _) _⟩
theorem toI_any {v : Value} {zs : List Int} {w : World} (h : IntsAt w v zs) :
    Calls Try.prog 53 #[v] w fun e w' => RetI w zs e w' := by
  obtain ⟨a, c, rfl, hl, h⟩ := h
  rcases h with rfl | ⟨b, off, rfl, hb, h⟩
  · exact toI_none a c w
  · exact toI_some b off c zs w hl hb h

/-! ### Marks -/
/-- The marks k, k + 1, .. -/
def marks (k : Int) (n : Nat) : List Int := (List.range n).map fun (j : Nat) => k + (j : Int)
theorem marks_len (k : Int) (n : Nat) : (marks k n).length = n := by simp [marks]
theorem marks_at (k : Int) (n j : Nat) (h : j < n) : (marks k n)[j]? = some (k + (j : Int)) := by simp [marks, h]
/-- A row in which the first marks are laid. -/
def Marked (zs : List Int) (k : Int) (n : Nat) : List Int := marks k n ++ zs.drop n
theorem marked_zero (zs : List Int) (k : Int) : Marked zs k 0 = zs := by simp [Marked, marks]
theorem marked_all (zs : List Int) (k : Int) : Marked zs k zs.length = marks k zs.length := by simp [Marked]
theorem marked_len (zs : List Int) (k : Int) (n : Nat) (h : n ≤ zs.length) : (Marked zs k n).length = zs.length := by simp [Marked, marks_len]; omega
theorem marked_next (zs : List Int) (k : Int) (n : Nat) (h : n < zs.length) : (Marked zs k n).set n (k + (n : Int)) = Marked zs k (n + 1) := by
  unfold Marked
  rw [List.set_append_right _ _ (by rw [marks_len]; exact Nat.le_refl _), marks_len, Nat.sub_self, List.drop_eq_getElem_cons h]
  have : marks k (n + 1) = marks k n ++ [k + (n : Int)] := by unfold marks; rw [List.range_succ, List.map_append]; rfl
  rw [this, List.set_cons_zero, List.append_assoc]
  rfl
theorem iv_set (zs : List Int) (n : Nat) (x : Int) : (iv zs).set n (.int .i64 x) = iv (zs.set n x) := by unfold iv; rw [List.map_set]
/-- How the marking ends: the next mark, and the slice that holds the marks; of what else was there nothing turns. -/
def RetM (B : Nat) (w : World) (v : Value) (zs : List Int) (k : Int) (e : Ending) (w' : World) : Prop :=
  e = .returned (.int .i64 (k + (zs.length : Int))) ∧ OwnI B w' v (marks k zs.length) ∧ Below B w w' ∧ w.grownBy w' v.ownBlock
theorem grown_refl (w : World) (r : Option Nat) : w.grownBy w r := ⟨rfl, rfl, rfl, Nat.le_refl _, fun _ _ _ => rfl⟩
theorem grown_trans {a b c : World} {r : Option Nat} (h : a.grownBy b r) (g : b.grownBy c r) : a.grownBy c r :=
  ⟨g.os.trans h.os, g.tape.trans h.tape, g.output.trans h.output, Nat.le_trans h.size g.size, fun k hk hr => (g.block k (Nat.lt_of_lt_of_le hk h.size) hr).trans (h.block k hk hr)⟩
set_option maxHeartbeats 400000 in
set_option maxRecDepth 100000 in
theorem markI_some (B g cap : Nat) (zs : List Int) (k : Int) (w : World) (hl : zs.length ≤ 1048576) (hk0 : 0 ≤ k) (hk1 : k ≤ 1048576) (hB : B ≤ g) (hown0 : OwnI B w (.slice (some ⟨g, 0, none⟩) zs.length cap) zs) :
    Calls Try.prog 56 #[.slice (some ⟨g, 0, none⟩) zs.length cap, .int .i64 k] w fun e w' => RetM B w (.slice (some ⟨g, 0, none⟩) zs.length cap) zs k e w' := by
  go_enter Try.func56, Try.ntmps56
  go_wp2
  go_loopw [1, 5] (fun m i wr => ∃ n : Nat, n ≤ zs.length ∧ i = .int .i64 (n : Int) ∧ m = .int .i64 (k + (n : Int)) ∧ wr.ownsRow B 2 1 (.slice (some ⟨g, 0, none⟩) zs.length cap) zs.length (iv (Marked zs k n)) ∧ Below B w wr ∧ w.grownBy wr (some g)) (fun _ i _ => zs.length - (intOf i).toNat)
  case atStart => exact ⟨0, Nat.zero_le _, rfl, by simp, by rw [marked_zero]; exact hown0, Below.refl _ _, grown_refl _ _⟩
  case round =>
    obtain ⟨n, hn, rfl, rfl, hown, hbw, hgw⟩ := hrel
    by_cases hlt : n < zs.length
    · obtain ⟨y, hy⟩ : ∃ y, (iv (Marked zs k n))[n]? = some y := ⟨_, iv_at _ n (by rw [marked_len zs k n hn]; exact hlt)⟩
      have c2 : wr.cell? ⟨g, n, none⟩ = some y := by rw [hown.cellAt n (by omega)]; exact hy
      have c3 : wr.frozen? ⟨g, n, none⟩ = false := hown.frozenAt n
      have hst := hown.stored n (.int .i64 (k + (n : Int)))
      have HO : Hid ((wr.setCell ⟨g, n, none⟩ (.int .i64 (k + (n : Int)))).ownsRow B 2 1 (.slice (some ⟨g, 0, none⟩) zs.length cap) zs.length (iv (Marked zs k (n + 1)))) := by
        rw [← marked_next zs k n hlt, ← iv_set]; exact hst.1
      have HB : Hid (Below B w (wr.setCell ⟨g, n, none⟩ (.int .i64 (k + (n : Int))))) := hbw.setCell (p := ⟨g, n, none⟩) hB _
      have HG : Hid (w.grownBy (wr.setCell ⟨g, n, none⟩ (.int .i64 (k + (n : Int)))) (some g)) := grown_trans hgw hst.2
      clear hy hown hbw hgw hst hown0
      go_wp2
      go_roundw
      case rel => exact ⟨n + 1, by omega, by go_num, by go_num, HO.out, HB.out, HG.out⟩
      case measure => simp [intOf]; omega
    · obtain rfl : n = zs.length := by omega
      rw [marked_all] at hown
      have HO : Hid (OwnI B wr (.slice (some ⟨g, 0, none⟩) zs.length cap) (marks k zs.length)) := by unfold OwnI; rw [marks_len]; exact hown
      have HB := Lib.hid hbw
      have HG := Lib.hid hgw
      clear hown hbw hgw hown0
      go_wp2
      go_ret
      exact ⟨rfl, HO.out, HB.out, HG.out⟩
theorem markI_none (B : Nat) (k : Int) (w : World) :
    Calls Try.prog 56 #[.slice none 0 0, .int .i64 k] w fun e w' => RetM B w (.slice none 0 0) [] k e w' := by
  go_enter Try.func56, Try.ntmps56
  go_wp2
  refine wp_loop_rounds 1 ?_
  rw [rounds_succ]
  go_wp2
  go_ret
  exact ⟨by simp, World.ownsRow_nil _ _ _ _, Below.refl _ _, grown_refl _ _⟩
theorem markI_any {B : Nat} {v : Value} {zs : List Int} (k : Int) {w : World} (h : OwnI B w v zs) (hl : zs.length ≤ 1048576) (hk0 : 0 ≤ k) (hk1 : k ≤ 1048576) :
    Calls Try.prog 56 #[v, .int .i64 k] w fun e w' => RetM B w v zs k e w' := by
  rcases h.form with ⟨rfl, rfl⟩ | ⟨g, cap, rfl, hB, _⟩
  · exact markI_none B k w
  · exact markI_some B g cap zs k w hl hk0 hk1 hB h

set_option maxHeartbeats 400000 in
theorem heldI_some (b off cap n : Nat) (k : Int) (w : World) (hl : n ≤ 1048576) (hk0 : 0 ≤ k) (hk1 : k ≤ 1048576) (h1 : ∀ j, j < n → w.cell? ⟨b, off + j, none⟩ = some (.int .i64 (k + (j : Int)))) :
    Calls Try.prog 57 #[.slice (some ⟨b, off, none⟩) n cap, .int .i64 k] w fun e w' => e = .returned (.int .i64 (k + (n : Int))) ∧ w = w' := by
  have H1 := Lib.hid h1
  clear h1
  go_enter Try.func57, Try.ntmps57
  go_wp2
  go_loop [1, 5] (fun m i => ∃ j : Nat, j ≤ n ∧ i = .int .i64 (j : Int) ∧ m = .int .i64 (k + (j : Int))) (fun _ i => n - (intOf i).toNat)
  case atStart => exact ⟨0, Nat.zero_le _, rfl, by simp⟩
  case round =>
    obtain ⟨j, hj, rfl, rfl⟩ := hrel
    by_cases hlt : j < n
    · have c1 := H1.out j hlt
      have eb : (k + (j : Int) != k + (j : Int)) = false := by simp
      go_wp2
      go_round
      case rel => exact ⟨j + 1, by omega, by go_num, by go_num⟩
      case measure => simp [intOf]; omega
    · obtain rfl : j = n := by omega
      go_wp2
      go_ret
      exact ⟨rfl, rfl⟩
theorem heldI_none (a : Option Addr) (cap : Nat) (k : Int) (w : World) :
    Calls Try.prog 57 #[.slice a 0 cap, .int .i64 k] w fun e w' => e = .returned (.int .i64 k) ∧ w = w' := by
  go_enter Try.func57, Try.ntmps57
  go_wp2
  refine wp_loop_rounds 1 ?_
  rw [rounds_succ]
  go_wp2
  go_ret
  exact ⟨rfl, rfl⟩
theorem heldI_any {v : Value} {n : Nat} {k : Int} {w : World} (h : IntsAt w v (marks k n)) (hk0 : 0 ≤ k) (hk1 : k ≤ 1048576) :
    Calls Try.prog 57 #[v, .int .i64 k] w fun e w' => e = .returned (.int .i64 (k + (n : Int))) ∧ w = w' := by
  obtain ⟨a, c, rfl, hl, h⟩ := h
  rw [marks_len] at hl ⊢
  rcases h with h | ⟨b, off, rfl, _, h⟩
  · have : n = 0 := by have := congrArg List.length h; rw [marks_len] at this; simpa using this
    subst this
    exact (heldI_none a c k w).mono fun e w' ⟨he, hw⟩ => ⟨by rw [he]; simp, hw⟩
  · refine heldI_some b off c n k w hl hk0 hk1 (fun j hj => ?_)
    have hj' : j < (marks k n).length := by rw [marks_len]; exact hj
    rw [h j hj']
    have := marks_at k n j hj
    rw [List.getElem?_eq_getElem hj'] at this
    injection this with this
    rw [this]
end Go.Proofs.Ytabanmaaagmeaaa
