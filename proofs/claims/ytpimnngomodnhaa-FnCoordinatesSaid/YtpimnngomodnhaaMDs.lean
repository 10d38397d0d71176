/-
  Systems of equations are drawn, by the model.
-/
import Derived.Test.YtpimnngomodnhaaMDv
import Derived.Test.YtpimnngomodnhaaVcB
import Derived.Test.YtpimnngomodnhaaSpN
import Derived.Test.YtpimnngomodnhaaGbv
import Derived.Test.YtpimnngomodnhaaSpD
namespace Go.Proofs.Ytpimnngomodnhaa
open Go.RowKit
open Lin
set_option linter.unusedVariables false
set_option linter.unusedSectionVars false

theorem addC_okN {p c : Int} (hp : 2 ≤ p) (xs ys : List Int) : NumOk p (addC p c xs ys) := fun j hj => by
  have hl : j < xs.length ∧ j < ys.length := by unfold addC at hj; rw [List.length_zipWith] at hj; omega
  have e : (addC p c xs ys)[j] = (xs[j]'hl.1 + c * ys[j]'hl.2) % p := by simp [addC]
  have h0 := Int.emod_nonneg (xs[j]'hl.1 + c * ys[j]'hl.2) (show p ≠ 0 by omega)
  have h1 := Int.emod_lt_of_pos (xs[j]'hl.1 + c * ys[j]'hl.2) (show 0 < p by omega)
  rw [e]
  exact ⟨h0, by omega⟩
theorem fr_gb {w w' : World} {g : Nat} (h : w.grownBy w' (some g)) : Fr g (g + 1) w w' := ⟨h.os, h.tape, h.output, h.size, fun k hk hd => h.block k hk (fun e => by injection e with e; omega)⟩
theorem BentW.lowM {w0 w w' : World} {p : Nat} {a : Option Addr} {len cap K R M : Nat} {P S C : Int} {v : Value} {zs : List Int} (h : BentW w0 p a len cap K R M w P S C v zs) (hv : ∀ g, v.ownBlock = some g → g < M) (hb : Below (M + 1) w w') : BentW w0 p a len cap K R M w' P S C v zs := by
  have h1 := h.pR; have h2 := h.RM; have h3 := h.hR
  have f : Fr (M + 1) w.heap.size w w' := ⟨hb.os, hb.tape, hb.output, hb.size, fun k hk hd => hb.block k (by omega)⟩
  have hc : ∀ L, L < M + 1 → L < w.heap.size → Fz w L → Fz w' L := fun L hL hLw hz o => (World.frozen?_of_block (w := w) (hb.block L hL)).trans (hz o)
  exact ⟨h.pr.fr f (by omega), hc R (by omega) h.pr.1 h.fr, h.pm.fr f (by omega), hc M (by omega) h.pm.1 h.fm, h.own.fr f (fun g hg => .inl (by have := hv g hg; omega)), h.top, h.sc.low (hb.mono (by omega)),
    ⟨hb.os.trans h.gb.os, hb.tape.trans h.gb.tape, hb.output.trans h.gb.output, Nat.le_trans h.gb.size hb.size, fun k hk hne => (hb.block k (by omega)).trans (h.gb.block k hk hne)⟩, h.pR, h.hR, h.RM⟩
theorem BentW.up {w0 w : World} {p : Nat} {a : Option Addr} {len cap K K' R M : Nat} {P S C : Int} {v : Value} {zs : List Int} (h : BentW w0 p a len cap K R M w P S C v zs) (hK : K ≤ K') : BentW w0 p a len cap K' R M w P S C v zs := ⟨h.pr, h.fr, h.pm, h.fm, h.own, h.top, h.sc.up hK, h.gb, h.pR, h.hR, h.RM⟩
/-- A drawn matrix and a drawn list, of whatever numbers. -/
def RetSys (p : Nat) (w : World) (e : Ending) (w' : World) : Prop :=
  ∃ (P S C : Int) (v : Value) (zs : List Int) (v2 : Value) (bs : List Int), e = .returned (.tuple #[.agg #[.int .i64 P, .int .i64 S, .int .i64 C, v], v2]) ∧ OwnI w.heap.size w' v zs ∧ zs.length ≤ 1100 ∧ OwnI w.heap.size w' v2 bs ∧ bs.length ≤ 1100 ∧ w.grownBy w' (some p)
end Go.Proofs.Ytpimnngomodnhaa
