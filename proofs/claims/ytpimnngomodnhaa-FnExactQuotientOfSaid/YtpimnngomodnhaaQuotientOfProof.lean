/-
  The law FnExactQuotientOf: for every input that can be read the call returns true and each argument reads as before; conditions: none besides the row's own reach.
-/
import Derived.Test.YtpimnngomodnhaaRows
import Derived.Test.YtpimnngomodnhaaVLaw14
import Derived.Test.YtpimnngomodnhaaFacts
import Derived.WalkKit
import Derived.ProofKit
import Derived.OpenShut
import Derived.ShutString
import Derived.ChangeOld
import Derived.Below
import Derived.Lib.SmallJoins
import Derived.Deep.Matrix
namespace Go.Proofs.Ytpimnngomodnhaa.fnExactQuotientOf
open Go.ChangeShapes Go.WideShapes Go.ChangeAt Go.RowKit
open Go.ChangeMaps (open_string shut_string)
set_option linter.unusedVariables false

theorem own : ownKnob Try.prog.godebug = none := own_f
theorem laidOut : laidOutB Try.prog = true := laidOut_f

def IsRow (k : IntKind) (w : World) (a : Option Addr) (len cap : Nat) (zs : List Int) : Prop :=
  (a = none ∧ len = 0 ∧ cap = 0 ∧ zs = []) ∨
  ∃ x, a = some x ∧ len ≤ cap ∧ cap ≤ maxLen ∧ zs.length = cap ∧ (∀ i, i < zs.length → w.cell? (x.add i) = some (.int k (zs.getD i 0))) ∧ ∀ n ∈ zs, (Lit.int k n).wf = true

theorem walk (mp0 mr0 : Int) (u0 : Value) (z0 : List (List Int)) (mp1 mr1 : Int) (u1 : Value) (z1 : List (List Int)) (w : World) (w0 : RowsRaw w u0 z0) (w1 : RowsRaw w u1 z1) :
    Calls Try.prog 7 #[.agg #[.int .i64 mp0, .int .i64 mr0, u0], .agg #[.int .i64 mp1, .int .i64 mr1, u1]] w fun e w' => e = .returned (.bool true) ∧ Below w.heap.size w w' := by
  exact quotientOf_of u0 u1 z0 z1 mp0 mr0 mp1 mr1 w w0 w1

set_option maxRecDepth 100000 in
theorem lifted (os : Os) (started : os.Started) (H : Type) (enc : TypeId × Value → H) :
    ReturnsInHanded {} Try.checked os 7 .any (Rows.fnExactQuotientOfSpec.pre6 enc Try.prog Try.f7 Rows.fnExactQuotientOfRow.domain false) (Rows.fnExactQuotientOfSpec.post enc Try.prog Try.f7 false true false false) := by
  refine returnsInHanded_of_change (C := Try.checked) own started (by kernel_rfl) Try.func7
    (ChangeSpec.witness6 (enc := enc) (C := Try.checked) false ⟨#[], #[.agg #[.int .i64 0, .int .i64 0, .slice none 0 0], .agg #[.int .i64 0, .int .i64 0, .slice none 0 0]], []⟩ 8 (by kernel_rfl) (by kernel_rfl) (by kernel_rfl) (by kernel_rfl)) ?_
  intro W base args ds gs before hval0 hW hcnd _
  have hval : ∀ (j : Nat) t v, Try.f7.params[j]? = some t → args[j]? = some v → Value.okWide Try.prog W .any base t v := hval0
  have hW' := hW
  obtain ⟨p, q, hA0, hV, rfl, hfz, hnd⟩ := hW
  have hA : DataW.TrodAll enc Try.prog W 0 (fun _ => true) true Try.f7.params.toList args.toList ds p := hA0
  rw [Try.params7] at hA hval
  obtain ⟨v0, vs0, d0, ds0, p0, q0, hargs, rfl, rfl, h0, r0⟩ := trodAll_cons hA
  obtain ⟨v1, vs1, d1, ds1, p1, q1, rfl, rfl, rfl, h1, r1⟩ := trodAll_cons r0
  obtain ⟨rfl, rfl, rfl⟩ := trodAll_nil r1
  obtain rfl : args = #[v0, v1] := by cases args; simp_all
  obtain ⟨rfl, rfl⟩ := trodVars_none hV
  have k0 := h0
  have lt0 : ∀ x ∈ p0, x.block < W.heap.size := by obtain ⟨m, hm⟩ := k0; exact DataW.trod_lt m _ _ _ hm
  obtain ⟨mp0, mr0, u0, z0, rfl, w0⟩ : ∃ (pp rr : Int) (u : Value) (zz : List (List Int)), v0 = .agg #[.int .i64 pp, .int .i64 rr, u] ∧ RowsRaw W u zz := by
    obtain ⟨s0, s1, s2, y0, y1, y2, m, hv, _, _, t0, t1, t2⟩ := Joins.open_agg3 Try.underlying53 (by kernel_rfl) (by kernel_rfl) (hval 0 53 v0 rfl rfl) h0
    obtain ⟨i0, e0, _⟩ := DataW.trod_int Try.underlying2 t0
    obtain ⟨i1, e1, _⟩ := DataW.trod_int Try.underlying2 t1
    injection e0 with e0
    injection e1 with e1
    subst e0 e1
    rcases Deep.open_int_rows Try.underlying28 Try.underlying24 Try.underlying2 (by kernel_rfl) (by kernel_rfl) t2 with ⟨hcs, _⟩ | ⟨x, l, c, AA, LL, CC, ZZ, hcs, _, hl, hm, _, hx⟩
    · injection hcs with hcs
      subst hcs
      exact ⟨_, _, _, [], hv, rowsRaw_nil W⟩
    · injection hcs with hcs
      subst hcs
      exact ⟨_, _, _, _, hv, rowsRaw_in hl hm hx⟩
  have k1 := h1
  have lt1 : ∀ x ∈ p1, x.block < W.heap.size := by obtain ⟨m, hm⟩ := k1; exact DataW.trod_lt m _ _ _ hm
  obtain ⟨mp1, mr1, u1, z1, rfl, w1⟩ : ∃ (pp rr : Int) (u : Value) (zz : List (List Int)), v1 = .agg #[.int .i64 pp, .int .i64 rr, u] ∧ RowsRaw W u zz := by
    obtain ⟨s0, s1, s2, y0, y1, y2, m, hv, _, _, t0, t1, t2⟩ := Joins.open_agg3 Try.underlying53 (by kernel_rfl) (by kernel_rfl) (hval 1 53 v1 rfl rfl) h1
    obtain ⟨i0, e0, _⟩ := DataW.trod_int Try.underlying2 t0
    obtain ⟨i1, e1, _⟩ := DataW.trod_int Try.underlying2 t1
    injection e0 with e0
    injection e1 with e1
    subst e0 e1
    rcases Deep.open_int_rows Try.underlying28 Try.underlying24 Try.underlying2 (by kernel_rfl) (by kernel_rfl) t2 with ⟨hcs, _⟩ | ⟨x, l, c, AA, LL, CC, ZZ, hcs, _, hl, hm, _, hx⟩
    · injection hcs with hcs
      subst hcs
      exact ⟨_, _, _, [], hv, rowsRaw_nil W⟩
    · injection hcs with hcs
      subst hcs
      exact ⟨_, _, _, _, hv, rowsRaw_in hl hm hx⟩
  clear hA0 hval0
  refine (walk mp0 mr0 u0 z0 mp1 mr1 u1 z1 W w0 w1).mono fun e W' ⟨he, bel⟩ => ?_
  subst he
  exact ⟨_, rfl, _, _, _, [], _, [], hW', trodAll_mk1 (shut_bool Try.underlying4 _), (trodAll_cons_mk (Below.trod laidOut (by kernel_rfl) (of_decide_eq_true (by kernel_rfl)) k0 bel lt0) (trodAll_cons_mk (Below.trod laidOut (by kernel_rfl) (of_decide_eq_true (by kernel_rfl)) k1 bel lt1) trodAll_mk0)), rfl, bel.frame _, fun h => by cases h⟩

theorem closed : joinedFacts Try.prog 7 Try.f7 Rows.fnExactQuotientOfSpec Rows.fnExactQuotientOfRow = true := by
  unfold joinedFacts
  rw [mayEnter_f, lifts_f, make_f, laidOut_f, mapsRowed_f, heard_f, keys_f]
  kernel_rfl
theorem over : Rows.fnExactQuotientOfRow.holds Try.pinned (OpenSpec.ofChange Rows.fnExactQuotientOfSpec) :=
  OpenClaim.holds_of_wide 7 Try.f7 rfl rfl rfl rfl rfl rfl rfl ⟨rfl, rfl, rfl, rfl, rfl⟩ rfl rfl rfl rfl rfl (by kernel_rfl) Try.func7 closed
    (of_decide_eq_true (by kernel_rfl)) (by unfold Func.isWrapper; first | (rw [if_pos (by decide +kernel)]; kernel_rfl) | (rw [if_neg (by decide +kernel)]; exact ⟨rfl, rfl⟩))
    (fun os started H enc _ => lifted os started H enc)

theorem proved : Rows.FnExactQuotientOfSaid := over
#print axioms proved
end Go.Proofs.Ytpimnngomodnhaa.fnExactQuotientOf
