/-
  The law FnExactCountIdeals: for every input that can be read the call returns true and each argument reads as before; conditions: none besides the row's own reach; the listed package variable reads as the program's text lays it (the card ties it).
-/
import Derived.Test.YtdihcmohpbgmmaaDoorRows
import Derived.Test.YtdihcmohpbgmmaaDoorCards
import Derived.Test.YtdihcmohpbgmmaaDoorTie
import Derived.Test.YtdihcmohpbgmmaaDoorTzOf
import Derived.Test.YtdihcmohpbgmmaaDoorYLaw9
import Derived.Test.YtdihcmohpbgmmaaDoorFacts
import Derived.LaidMore
import Derived.Lay
import Derived.SevenTiedAt
import Derived.Stop.Joined
import Derived.WalkKit
import Derived.ProofKit
import Derived.OpenShut
import Derived.ShutString
import Derived.ChangeOld
import Derived.Below
import Derived.Lib.SmallJoins
import Derived.Deep.Matrix
namespace Go.Proofs.YtdihcmohpbgmmaaDoor.fnExactCountIdeals
open Go.ChangeShapes Go.WideShapes Go.ChangeAt Go.RowKit
open Go.ChangeMaps (open_string shut_string)
set_option linter.unusedVariables false

theorem own : ownKnob Tryd.prog.godebug = none := own_f
theorem laidOut : laidOutB Tryd.prog = true := laidOut_f

def IsRow (k : IntKind) (w : World) (a : Option Addr) (len cap : Nat) (zs : List Int) : Prop :=
  (a = none ∧ len = 0 ∧ cap = 0 ∧ zs = []) ∨
  ∃ x, a = some x ∧ len ≤ cap ∧ cap ≤ maxLen ∧ zs.length = cap ∧ (∀ i, i < zs.length → w.cell? (x.add i) = some (.int k (zs.getD i 0))) ∧ ∀ n ∈ zs, (Lit.int k n).wf = true

theorem walk (ms0 : Int) (u0 : Value) (z0 : List (List Int)) (w : World) (hL : laidMetH Tryd.prog Rows.fnExactCountIdealsRow.laid w) (w0 : RowsRaw w u0 z0) :
    Calls Tryd.prog 10 #[.agg #[.int .i64 ms0, u0]] w fun e w' => e = .returned (.bool true) ∧ Below w.heap.size w w' := by
  rw [MakeChecks.laidMetH_plain _ _ _ (by kernel_rfl)] at hL
  exact countIdeals_of u0 z0 ms0 w w0 (tz_of hL)

set_option maxRecDepth 100000 in
theorem lifted (os : Os) (started : os.Started) (H : Type) (enc : TypeId × Value → H) :
    ReturnsInHanded {} Tryd.checked os 10 .any (fun w args => (Rows.fnExactCountIdealsSpec.pre enc Tryd.prog Tryd.f10 Rows.fnExactCountIdealsRow.domain false w args ∧ laidMetH Tryd.prog Rows.fnExactCountIdealsRow.laid w) ∧ sizedMet enc Tryd.prog Tryd.f10 (OpenSpec.ofChange Rows.fnExactCountIdealsSpec) false w args) (Rows.fnExactCountIdealsSpec.post enc Tryd.prog Tryd.f10 false true false false) := by
  refine returnsInHanded_of_change_and (C := Tryd.checked) (X := fun w _ => laidMetH Tryd.prog Rows.fnExactCountIdealsRow.laid w) (fun _ _ _ hh h => h.of_heap hh) own started (by kernel_rfl) Tryd.func10
    (ChangeSpec.witness_shaped (enc := enc) (C := Tryd.checked) (os := os) (X := fun w _ => laidMetH Tryd.prog Rows.fnExactCountIdealsRow.laid w) false (World.laidAll Tryd.prog os Rows.fnExactCountIdealsRow.laid) #[.agg #[.int .i64 0, .slice none 0 0]] 8 (World.laidAll_os _ _ _)
      (World.shaped_of_ZipB (by kernel_rfl) (by kernel_rfl)) (by kernel_rfl) (by kernel_rfl) (by kernel_rfl)
      (by rw [MakeChecks.laidMetH_plain _ _ _ (by kernel_rfl)]; exact laidMet_laidAll _ (by kernel_rfl) (by kernel_rfl))) ?_
  intro W base args ds gs before hval0 hW hcnd hsz hL _
  have hval : ∀ (j : Nat) t v, Tryd.f10.params[j]? = some t → args[j]? = some v → Value.okWide Tryd.prog W .any base t v := hval0
  have hW' := hW
  obtain ⟨p, q, hA0, hV, rfl, hfz, hnd⟩ := hW
  have hA : DataW.TrodAll enc Tryd.prog W 0 (fun _ => true) true Tryd.f10.params.toList args.toList ds p := hA0
  rw [Tryd.params10] at hA hval
  obtain ⟨v0, vs0, d0, ds0, p0, q0, hargs, rfl, rfl, h0, r0⟩ := trodAll_cons hA
  obtain ⟨rfl, rfl, rfl⟩ := trodAll_nil r0
  obtain rfl : args = #[v0] := by cases args; simp_all
  obtain ⟨rfl, rfl⟩ := trodVars_none hV
  have k0 := h0
  have lt0 : ∀ x ∈ p0, x.block < W.heap.size := by obtain ⟨m, hm⟩ := k0; exact DataW.trod_lt m _ _ _ hm
  obtain ⟨ms0, u0, z0, rfl, w0⟩ : ∃ (pp : Int) (u : Value) (zz : List (List Int)), v0 = .agg #[.int .i64 pp, u] ∧ RowsRaw W u zz := by
    obtain ⟨s0, s1, y0, y1, m, hv, _, _, t0, t1⟩ := Joins.open_agg2 Tryd.underlying24 (by kernel_rfl) (by kernel_rfl) (hval 0 24 v0 rfl rfl) h0
    obtain ⟨i0, e0, _⟩ := DataW.trod_int Tryd.underlying2 t0
    injection e0 with e0
    subst e0
    rcases Deep.open_int_rows Tryd.underlying22 Tryd.underlying40 Tryd.underlying2 (by kernel_rfl) (by kernel_rfl) t1 with ⟨hcs, _⟩ | ⟨x, l, c, AA, LL, CC, ZZ, hcs, _, hl, hm, _, hx⟩
    · injection hcs with hcs
      subst hcs
      exact ⟨_, _, [], hv, rowsRaw_nil W⟩
    · injection hcs with hcs
      subst hcs
      exact ⟨_, _, _, hv, rowsRaw_in hl hm hx⟩
  clear hA0 hval0
  refine (walk ms0 u0 z0 W hL w0).mono fun e W' ⟨he, bel⟩ => ?_
  subst he
  exact ⟨_, rfl, _, _, _, [], _, [], hW', trodAll_mk1 (shut_bool Tryd.underlying4 _), (trodAll_cons_mk (Below.trod laidOut (by kernel_rfl) (of_decide_eq_true (by kernel_rfl)) k0 bel lt0) trodAll_mk0), rfl, bel.frame _, fun h => by cases h⟩

theorem closed : joinedFacts Tryd.prog 10 Tryd.f10 Rows.fnExactCountIdealsSpec Rows.fnExactCountIdealsRow = true := by
  unfold joinedFacts
  rw [mayEnter_f, lifts_f, make_f, laidOut_f, mapsRowed_f, heard_f, keys_f]
  kernel_rfl
theorem over : Rows.fnExactCountIdealsRow.holds Tryd.pinned (OpenSpec.ofChange Rows.fnExactCountIdealsSpec) :=
  OpenClaim.holds_of_wide 10 Tryd.f10 rfl rfl rfl rfl rfl rfl rfl ⟨rfl, rfl, rfl, rfl, rfl⟩ rfl rfl rfl rfl rfl (by kernel_rfl) Tryd.func10 closed
    (of_decide_eq_true (by kernel_rfl)) (by unfold Func.isWrapper; first | (rw [if_pos (by decide +kernel)]; kernel_rfl) | (rw [if_neg (by decide +kernel)]; exact ⟨rfl, rfl⟩))
    (fun os started H enc _ => lifted os started H enc)

theorem card : Rows.FnExactCountIdealsCardSaid :=
  Claim7.holds_tied_plain_at .later [] [.data] true (true, "d33bbb1c95c93b702a969f54b126979cc299654c608586b6df0021f76cff7c05") false over (fun _ h => by cases h) (by kernel_rfl) (fun _ h => by cases h) fnExactCountIdeals_row_tie rfl ⟨rfl, rfl⟩ (by kernel_rfl) rfl
    (fun f fn hf hfn => by
      obtain rfl : f = 10 := Option.some.inj ((show Tryd.prog.funcNamed "loop.example/g01005/laws.FnExactCountIdeals" = some 10 by kernel_rfl).symm.trans hf) |>.symm
      obtain rfl : fn = Tryd.f10 := (Option.some.inj (Tryd.func10.symm.trans hfn)).symm
      exact ⟨by kernel_rfl, fun j t ht => by
        rw [Tryd.params10] at ht
        have hm : t ∈ [24] := by simpa using Array.mem_of_getElem? ht
        have hall : ([24].all fun u => !Tryd.prog.wantsStandIn u) = true := by kernel_rfl
        exact (show Tryd.prog.wantsStandIn t = false by simpa using List.all_eq_true.1 hall t hm)⟩)
    (by kernel_rfl)
#print axioms card
end Go.Proofs.YtdihcmohpbgmmaaDoor.fnExactCountIdeals
