/-
  MeetSpaces of the model.
-/
import Derived.Test.YtpimnngomodnhaaSqE
import Derived.Test.YtpimnngomodnhaaSqF
import Derived.Test.YtpimnngomodnhaaSqC
import Derived.Test.YtpimnngomodnhaaSqK
import Derived.Test.YtpimnngomodnhaaGbv
namespace Go.Proofs.Ytpimnngomodnhaa
open Go.RowKit
open Lin
set_option linter.unusedVariables false
set_option linter.unusedSectionVars false

/-! ### An append of some values: where the row lies then -/
theorem run_append_placeM {P : Program} (w : World) (base : Nat) (t ty e : TypeId) (i : TypeInfo) (z : Value) (bytes : Nat) (ht : P.underlying t = some (.slice e)) (hi : P.info? e = some i) (hz : i.zero = some z)
    (hsize : i.size = 1) (hby : i.bytes = bytes) (hzs : z.cells.size = 1) (v : Value) (n : Nat) (xs : List Value) (hown : w.ownsRow base e 1 v n xs)
    (a : Addr) (m c : Nat) (news : List Value) (hl : news.length = m * 1) (hnew : ∀ j x, news[j]? = some x → w.cell? (a.add j) = some x) (h1 : ∀ x ∈ news, x.oneCell' = true)
    (h63 : n + m ≤ maxLen) (hbytes : (n + m) * bytes ≤ 140737488355328) (hbase : base ≤ w.heap.size) :
    ∃ v' w', (Builtin.append_ #[t, t] ty #[v, .slice (some a) m c]).run P w = .ok v' w' ∧ w'.ownsRow base e 1 v' (n + m) (xs ++ news) ∧ w.grownBy w' v.ownBlock ∧
      ∀ g, v'.ownBlock = some g → v.ownBlock = some g ∨ w.heap.size ≤ g := by
  obtain ⟨v', w', hr, h2, h3, h4⟩ := run_append_own (P := P) w base t ty e i z 1 bytes ht hi hz hsize hby hzs (by decide) v n xs hown a m c news hl hnew h1 h63 hbytes hbase
  refine ⟨v', w', hr, h2, h3, fun g hg => ?_⟩
  have hsmall : n + m ≤ 9223372036854775807 := by simp only [maxLen] at h63; omega
  subst hby
  rcases hown.2 with ⟨rfl, rfl⟩ | ⟨b, cap, cur, rfl, hbg, hcur, hnc, hcm, hcs, htake⟩
  · by_cases hm : m = 0
    · rw [h4.2 ⟨rfl, hm⟩] at hg
      simp [Value.ownBlock] at hg
    have hr2 := run_append_nil (P := P) w t ty e i z ht hi hz a m c news (by rw [hsize]; exact hl) hnew (by omega) (by omega) (by have hb := hbytes; simp only [Nat.zero_add] at hb; omega)
    have e := hr.symm.trans hr2
    simp only [Result.ok.injEq] at e
    rw [e.1] at hg
    simp [Value.ownBlock] at hg
    exact .inr (by omega)
  · by_cases hroom : n + m ≤ cap
    · have hr2 := run_append_room (P := P) w t ty e i ht hi b n cap cur hcur a m c news (by rw [hsize]; exact hl) hnew h1 hroom (by rw [hsize]; simp; omega)
      have e := hr.symm.trans hr2
      simp only [Result.ok.injEq] at e
      rw [e.1] at hg
      exact .inl hg
    · have holds : ∀ j x, xs[j]? = some x → w.cell? ((⟨b, 0, none⟩ : Addr).add j) = some x := hown.cells (g := b) rfl
      have hr2 := run_append_grow (P := P) w t ty e i z ht hi hz ⟨b, 0, none⟩ n cap xs (by rw [hsize]; exact hown.1) holds a m c news (by rw [hsize]; exact hl) hnew (by omega) (by omega) (growslice_fits (by omega) hbytes)
      have e := hr.symm.trans hr2
      simp only [Result.ok.injEq] at e
      rw [e.1] at hg
      simp [Value.ownBlock] at hg
      exact .inr (by omega)
theorem step_append_srcP {P : Program} {w : World} {ops : Array Oper} {o : Oper} {a : Act} {K : Act → World → Prop} {Q : Exit → Act → World → Prop} {E : Prop} (hgd : o.guard = none) (s x : Operand) (t : TypeId)
    (ho : o.op = .call { callee := .builtin .append, args := #[s, x], argTypes := #[t, t] })
    (base : Nat) (e : TypeId) (i : TypeInfo) (z : Value) (bytes : Nat) (ht : P.underlying t = some (.slice e)) (hi : P.info? e = some i) (hz : i.zero = some z)
    (hsize : i.size = 1) (hby : i.bytes = bytes) (hzs : z.cells.size = 1)
    (v : Value) (n : Nat) (xs : List Value) (hown : w.ownsRow base e 1 v n xs) (hs : a.eval s = v)
    (u : Value) (news : List Value) (hx : a.eval x = u) (hsrc : SrcAt w u news) (h1 : ∀ u ∈ news, u.oneCell' = true)
    (hn : n ≤ 2097152) (hb24 : bytes ≤ 24) (hbase : base ≤ w.heap.size)
    (h : ∀ v' w', w'.ownsRow base e 1 v' (n + news.length) (xs ++ news) → w.grownBy w' v.ownBlock → (∀ g, v'.ownBlock = some g → v.ownBlock = some g ∨ w.heap.size ≤ g) → K (a.put o.dst v') w') : if Region.wanted o (yielded ops a.tmps) = true then Oper.wp P o a w K Q else E := by
  have hw : Region.wanted o (yielded ops a.tmps) = true := by simp [Region.wanted, hgd]
  rw [if_pos hw]
  obtain ⟨ap, c, rfl, hl, ⟨rfl, rfl, rfl⟩ | ⟨b, off, rfl, _, hc⟩⟩ := hsrc
  · have hrun := run_append_owned_none (P := P) (w := w) base t o.type e i 1 ht hi v n xs hown
    unfold Oper.wp
    simp only [List.length_nil] at hx
    simp [execOp, ho, resolve, invoke, builtin, hs, hx, hrun, Result.andThen]
    exact h v w (by simpa using hown) ⟨rfl, rfl, rfl, Nat.le_refl _, fun _ _ _ => rfl⟩ (fun g hg => .inl hg)
  · have hbb : (n + news.length) * bytes ≤ 140737488355328 := by
      have : (n + news.length) * bytes ≤ 4194304 * 24 := Nat.mul_le_mul (by omega) hb24
      omega
    obtain ⟨v', w', hr, h2, h3, h4⟩ := run_append_placeM (P := P) w base t o.type e i z bytes ht hi hz hsize hby hzs v n xs hown ⟨b, off, none⟩ news.length c news (by simp) (fun j u hj => by rw [Addr.add_lit]; exact hc j u hj) h1 (by unfold maxLen; omega) hbb hbase
    unfold Oper.wp
    simp [execOp, ho, resolve, invoke, builtin, hs, hx, hr, Result.andThen]
    exact h v' w' h2 h3 h4
theorem PtV.gbv {a w : World} {L : Nat} {g : Option Nat} {p n : Int} {v : Value} (h : PtV a L p n v) (hg : a.grownBy w g) (hne : ∀ k, g = some k → k ≠ L) : PtV w L p n v := by
  rcases g with _ | k
  · exact h.on ⟨hg.os, hg.tape, hg.output, hg.size, fun i hi => hg.block i hi (by simp)⟩
  · exact h.gb hg (fun e => hne k rfl e.symm)
/-- A variable that has been made and not yet been filled: its block, apart from a row's. -/
def Var0 (w : World) (L : Nat) (v : Value) : Prop := PtV w L 0 0 (.slice none 0 0) ∧ Fz w L ∧ ∀ k, v.ownBlock = some k → k ≠ L
theorem Var0.push {a w : World} {L : Nat} {v v' : Value} (h : Var0 a L v) (hg : a.grownBy w v.ownBlock) (hp : ∀ g, v'.ownBlock = some g → v.ownBlock = some g ∨ a.heap.size ≤ g) : Var0 w L v' :=
  ⟨h.1.gbv hg h.2.2, h.2.1.gbv h.1.1 hg h.2.2, fun k hk => by
    rcases hp k hk with h1 | h1
    · exact h.2.2 k h1
    · have := h.1.1; omega⟩
theorem Var0.on {a w : World} {L : Nat} {v : Value} (h : Var0 a L v) (hb : Below a.heap.size a w) : Var0 w L v := ⟨h.1.on hb, h.2.1.on h.1.1 hb, h.2.2⟩
theorem Var0.new (w : World) (t : TypeId) (v : Value) (hv : ∀ k, v.ownBlock = some k → k < w.heap.size) : Var0 (w.alloc (.cells #[.int .i64 0, .int .i64 0, .slice none 0 0] t)) w.heap.size v := ⟨PtV.new _ _ _ _ _, Fz.new _ _ _, fun k hk => by have := hv k hk; omega⟩
end Go.Proofs.Ytpimnngomodnhaa
