/-
  Contracts of inverses, powers, exponents and orders, as the program makes them.
-/
import Derived.Test.YtlikfgmhhjpggaaFldC
import Derived.Deep.RegionWith
namespace Go.Proofs.Ytlikfgmhhjpggaa
open Go.RowKit
set_option linter.unusedVariables false

theorem InvTab.idx {p : Int} {n : Nat} {xs : Array Value} (h : InvTab p n xs) {a x : Int} (a0 : 1 ≤ a) (a1 : a < n) (a2 : a < 251) (hx : IsInv p a x) : ∃ h : a.toNat < xs.size, xs[a.toNat] = .int .i64 x := by
  have hs := h.size
  have h2 : a.toNat < xs.size := by omega
  obtain ⟨y, hy, hi⟩ := h.at (j := a.toNat) (by omega) (by omega) h2
  rw [Int.toNat_of_nonneg (by omega)] at hi
  exact ⟨h2, by rw [hy, inv_uniq hi hx]⟩
theorem idx_run {xs : Array Value} {a : Int} {v : Value} (i1 : 0 ≤ a) (i0 : a < 251) (hs : a.toNat < xs.size) (hx : xs[a.toNat] = v) (w : World) :
    (Instr.index 74 (.agg xs) (.int .i64 a)).run Try.prog w = .ok v w := by
  unfold Instr.index
  go_simp
theorem bcell {W w1 : World} (hb : Below W.heap.size W w1) : (∀ b o, b < W.heap.size → w1.cell? ⟨b, o, none⟩ = W.cell? ⟨b, o, none⟩) ∧ (∀ b o, b < W.heap.size → w1.frozen? ⟨b, o, none⟩ = W.frozen? ⟨b, o, none⟩) :=
  ⟨fun b o h => hb.cell (p := ⟨b, o, none⟩) h, fun b o h => hb.frozen (p := ⟨b, o, none⟩) h⟩
set_option maxRecDepth 100000 in
set_option maxHeartbeats 1600000 in
theorem inverse_any (a p x : Int) (w : World) (hp : IsPr p) (a0 : 1 ≤ a) (a1 : a < p) (hx : IsInv p a x) :
    Calls Try.prog 58 #[.agg #[.int .i64 a, .int .i64 p]] w fun e w' => e = .returned (.agg #[.int .i64 x, .int .i64 p]) ∧ Below w.heap.size w w' := by
  have HP := Lib.hid hp
  have h0 := hp.1
  have h1 := hp.2.1
  have HX := Lib.hid hx
  have i0 : a < 251 := by omega
  have i1 : 0 ≤ a := by omega
  clear hp hx
  go_enter Try.func58, Try.ntmps58
  go_wp2_with fail
  go_region_with (first | (go_at_call 89; refine (invs_any p _ HP.out).mono ?_; rintro e w' ⟨xs, n, rfl, hn, HT, hb⟩; obtain ⟨hxs, hxa⟩ := HT.idx a0 (by omega) i0 HX.out; have hix : ∀ w, (Instr.index 74 (.agg xs) (.int .i64 a)).run Try.prog w = .ok (.int .i64 x) w := fun w => idx_run i1 i0 hxs hxa w; clear HT hxa hn hxs; obtain ⟨hc, hf⟩ := bcell hb))
  all_goals
    go_wp2_with fail
    refine bodyPost_ret (v := .agg #[.int .i64 x, .int .i64 p]) ?_ rfl ⟨rfl, ?_⟩
    · simp [results, Try.results58, go_sem, hc]
    · refine Below.setCell (Below.setCell (((((Below.refl _ _).alloc (Nat.le_refl _) _).alloc (by simp) _).drew).trans (hb.mono (by simp; omega))) (by simp) _) (by simp) _
end Go.Proofs.Ytlikfgmhhjpggaa
