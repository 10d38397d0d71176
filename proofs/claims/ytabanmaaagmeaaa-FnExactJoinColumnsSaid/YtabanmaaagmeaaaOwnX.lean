/-
  What a call made lies between two marks of the heap: such rows stay as they are while others are written.
-/
import Derived.Test.YtabanmaaagmeaaaInts
namespace Go.Proofs.Ytabanmaaagmeaaa
open Go.RowKit
set_option linter.unusedVariables false

/-- Only what lies between B and E may have turned. -/
def Fr (B E : Nat) (w w' : World) : Prop :=
  w'.os = w.os ∧ w'.tape = w.tape ∧ w'.output = w.output ∧ w.heap.size ≤ w'.heap.size ∧ ∀ k, k < w.heap.size → (k < B ∨ E ≤ k) → w'.heap[k]? = w.heap[k]?
theorem Fr.below {B E : Nat} {w w' : World} (h : Fr B E w w') (hB : B ≤ w.heap.size) : Below B w w' :=
  ⟨h.1, h.2.1, h.2.2.1, h.2.2.2.1, fun k hk => h.2.2.2.2 k (by omega) (.inl hk)⟩
/-- A slice of numbers of the call's own, in a block from B on and before E. -/
def OwnX (B E : Nat) (w : World) (v : Value) (zs : List Int) : Prop := OwnI B w v zs ∧ E ≤ w.heap.size ∧ ∀ g, v.ownBlock = some g → g < E
theorem OwnX.new {B : Nat} {w : World} {v : Value} {zs : List Int} (h : OwnI B w v zs) : OwnX B w.heap.size w v zs := ⟨h, Nat.le_refl _, fun g hg => (h.out.lt g hg).2⟩
theorem OwnX.at {B E : Nat} {w : World} {v : Value} {zs : List Int} (h : OwnX B E w v zs) (hl : zs.length ≤ 1048576) : IntsAt w v zs := h.1.at hl
theorem OwnX.on {B E : Nat} {w w' : World} {v : Value} {zs : List Int} (h : OwnX B E w v zs) (hb : Below w.heap.size w w') : OwnX B E w' v zs := ⟨h.1.on hb, Nat.le_trans h.2.1 hb.size, h.2.2⟩
theorem OwnX.fr {B E B' E' : Nat} {w w' : World} {v : Value} {zs : List Int} (h : OwnX B E w v zs) (f : Fr B' E' w w') (hd : E ≤ B' ∨ E' ≤ B) : OwnX B E w' v zs := by
  obtain ⟨ho, he, hg⟩ := h
  refine ⟨?_, Nat.le_trans he f.2.2.2.1, hg⟩
  obtain ⟨hx, ⟨rfl, hn⟩ | ⟨g, cap, cur, rfl, hB, hcur, r⟩⟩ := ho
  · exact ⟨hx, .inl ⟨rfl, hn⟩⟩
  · refine ⟨hx, .inr ⟨g, cap, cur, rfl, hB, ?_, r⟩⟩
    have := hg g rfl
    rw [f.2.2.2.2 g (by omega) (by omega)]; exact hcur
theorem OwnX.drewN {B E : Nat} {w : World} {v : Value} {zs : List Int} (h : OwnX B E w v zs) (n : Nat) : OwnX B E (w.drewN n) v zs := h
theorem below_drewX {B : Nat} {a w : World} (h : Below B a w) (n : Nat) : Below B a (w.drewN n) := ⟨h.os, h.tape, h.output, h.size, h.block⟩
set_option maxHeartbeats 400000 in
set_option maxRecDepth 100000 in
theorem markW_some (B g cap : Nat) (zs : List Int) (k : Int) (w : World) (hl : zs.length ≤ 1048576) (hk0 : 0 ≤ k) (hk1 : k ≤ 1000000000) (hB : B ≤ g) (hown0 : OwnI B w (.slice (some ⟨g, 0, none⟩) zs.length cap) zs) :
    Calls Try.prog 56 #[.slice (some ⟨g, 0, none⟩) zs.length cap, .int .i64 k] w fun e w' => RetM B w (.slice (some ⟨g, 0, none⟩) zs.length cap) zs k e w' := by
  go_enter Try.func56, Try.ntmps56
  go_wp2
  go_loopw [1, 5] (fun m i wr => ∃ n : Nat, n ≤ zs.length ∧ i = .int .i64 (n : Int) ∧ m = .int .i64 (k + (n : Int)) ∧ wr.ownsRow B 2 1 (.slice (some ⟨g, 0, none⟩) zs.length cap) zs.length (iv (Marked zs k n)) ∧ Below B w wr ∧ w.grownBy wr (some g)) (fun _ i _ => zs.length - (intOf i).toNat)
  case atStart => exact ⟨0, Nat.zero_le _, rfl, by simp, by rw [marked_zero]; exact hown0, Below.refl _ _, grown_refl _ _⟩
  case round =>
    obtain ⟨n, hn, rfl, rfl, hown, hbw, hgw⟩ := hrel
    by_cases hlt : n < zs.length
    · obtain ⟨y, hy⟩ : ∃ y, (iv (Marked zs k n))[n]? = some y := ⟨_, iv_at _ n (by rw [marked_len zs k n hn]; exact hlt)⟩
      have c2 : wr.cell? ⟨g, n, none⟩ = some y := by rw [hown.cellAt n (by omega)]; exact hy
      have c3 : wr.frozen? ⟨g, n, none⟩ = false := hown.frozenAt n
      have hst := hown.stored n (.int .i64 (k + (n : Int)))
      have HO : Hid ((wr.setCell ⟨g, n, none⟩ (.int .i64 (k + (n : Int)))).ownsRow B 2 1 (.slice (some ⟨g, 0, none⟩) zs.length cap) zs.length (iv (Marked zs k (n + 1)))) := by
        rw [← marked_next zs k n hlt, ← iv_set]; exact hst.1
      have HB : Hid (Below B w (wr.setCell ⟨g, n, none⟩ (.int .i64 (k + (n : Int))))) := hbw.setCell (p := ⟨g, n, none⟩) hB _
      have HG : Hid (w.grownBy (wr.setCell ⟨g, n, none⟩ (.int .i64 (k + (n : Int)))) (some g)) := grown_trans hgw hst.2
      clear hy hown hbw hgw hst hown0
      go_wp2
      go_roundw
      case rel => exact ⟨n + 1, by omega, by go_num, by go_num, HO.out, HB.out, HG.out⟩
      case measure => simp [intOf]; omega
    · obtain rfl : n = zs.length := by omega
      rw [marked_all] at hown
      have HO : Hid (OwnI B wr (.slice (some ⟨g, 0, none⟩) zs.length cap) (marks k zs.length)) := by unfold OwnI; rw [marks_len]; exact hown
      have HB := Lib.hid hbw
      have HG := Lib.hid hgw
      clear hown hbw hgw hown0
      go_wp2
      go_ret
      exact ⟨rfl, HO.out, HB.out, HG.out⟩
theorem markW_none (B : Nat) (k : Int) (w : World) :
    Calls Try.prog 56 #[.slice none 0 0, .int .i64 k] w fun e w' => RetM B w (.slice none 0 0) [] k e w' := by
  go_enter Try.func56, Try.ntmps56
  go_wp2
  refine wp_loop_rounds 1 ?_
  rw [rounds_succ]
  go_wp2
  go_ret
  exact ⟨by simp, World.ownsRow_nil _ _ _ _, Below.refl _ _, grown_refl _ _⟩
theorem markW_any {B : Nat} {v : Value} {zs : List Int} (k : Int) {w : World} (h : OwnI B w v zs) (hl : zs.length ≤ 1048576) (hk0 : 0 ≤ k) (hk1 : k ≤ 1000000000) :
    Calls Try.prog 56 #[v, .int .i64 k] w fun e w' => RetM B w v zs k e w' := by
  rcases h.form with ⟨rfl, rfl⟩ | ⟨g, cap, rfl, hB, _⟩
  · exact markW_none B k w
  · exact markW_some B g cap zs k w hl hk0 hk1 hB h

/-- How the marking ends. -/
def RetMX (B E : Nat) (w : World) (v : Value) (zs : List Int) (k : Int) (e : Ending) (w' : World) : Prop :=
  e = .returned (.int .i64 (k + (zs.length : Int))) ∧ OwnX B E w' v (marks k zs.length) ∧ Fr B E w w'
theorem markX_any {B E : Nat} {v : Value} {zs : List Int} (k : Int) {w : World} (h : OwnX B E w v zs) (hl : zs.length ≤ 1048576) (hk0 : 0 ≤ k) (hk1 : k ≤ 1000000000) :
    Calls Try.prog 56 #[v, .int .i64 k] w fun e w' => RetMX B E w v zs k e w' := by
  refine (markW_any k h.1 hl hk0 hk1).mono ?_
  rintro e w' ⟨he, ho, hb, hg⟩
  refine ⟨he, ⟨ho, Nat.le_trans h.2.1 hg.size, h.2.2⟩, hg.os, hg.tape, hg.output, hg.size, fun k hk hd => hg.block k hk fun e => ?_⟩
  have h1 := h.2.2 k e.symm
  have h2 := (h.1.out.lt k e.symm).1
  omega
end Go.Proofs.Ytabanmaaagmeaaa
