/-
  The law FnExactGreedyCollapse: for every input that can be read the call returns true and each argument reads as before; conditions: none besides the row's own reach; the listed package variable reads as the program's text lays it (the card ties it).
-/
import Derived.Test.YtibdcejglkhcfaaDoorRows
import Derived.Test.YtibdcejglkhcfaaDoorCards
import Derived.Test.YtibdcejglkhcfaaDoorTie
import Derived.Test.YtibdcejglkhcfaaDoorTzOf
import Derived.Test.YtibdcejglkhcfaaDoorWLaw6
import Derived.Test.YtibdcejglkhcfaaDoorFacts
import Derived.Test.YtibdcejglkhcfaaDoorOpn
import Derived.LaidMore
import Derived.Lay
import Derived.SevenTiedAt
import Derived.Stop.Joined
import Derived.WalkKit
import Derived.ProofKit
import Derived.OpenShut
import Derived.ShutString
import Derived.ChangeOld
import Derived.Below
import Derived.Lib.SmallJoins
import Derived.Deep.Matrix
namespace Go.Proofs.YtibdcejglkhcfaaDoor.fnExactGreedyCollapse
open Go.ChangeShapes Go.WideShapes Go.ChangeAt Go.RowKit
open Go.ChangeMaps (open_string shut_string)
set_option linter.unusedVariables false

theorem own : ownKnob Tryd.prog.godebug = none := own_f
theorem laidOut : laidOutB Tryd.prog = true := laidOut_f

def IsRow (k : IntKind) (w : World) (a : Option Addr) (len cap : Nat) (zs : List Int) : Prop :=
  (a = none ∧ len = 0 ∧ cap = 0 ∧ zs = []) ∨
  ∃ x, a = some x ∧ len ≤ cap ∧ cap ≤ maxLen ∧ zs.length = cap ∧ (∀ i, i < zs.length → w.cell? (x.add i) = some (.int k (zs.getD i 0))) ∧ ∀ n ∈ zs, (Lit.int k n).wf = true

theorem walk (u0 : Value) (z0 : List (List Int)) (w : World) (hL : laidMetH Tryd.prog Rows.fnExactGreedyCollapseRow.laid w) (w0 : RowsRaw w u0 z0) :
    Calls Tryd.prog 8 #[.agg #[u0]] w fun e w' => e = .returned (.bool true) ∧ Below w.heap.size w w' := by
  rw [MakeChecks.laidMetH_plain _ _ _ (by kernel_rfl)] at hL
  exact greedyCollapse_of u0 z0 w w0 (tz_of hL)

set_option maxRecDepth 100000 in
theorem lifted (os : Os) (started : os.Started) (H : Type) (enc : TypeId × Value → H) :
    ReturnsInHanded {} Tryd.checked os 8 .any (fun w args => (Rows.fnExactGreedyCollapseSpec.pre enc Tryd.prog Tryd.f8 Rows.fnExactGreedyCollapseRow.domain false w args ∧ laidMetH Tryd.prog Rows.fnExactGreedyCollapseRow.laid w) ∧ sizedMet enc Tryd.prog Tryd.f8 (OpenSpec.ofChange Rows.fnExactGreedyCollapseSpec) false w args) (Rows.fnExactGreedyCollapseSpec.post enc Tryd.prog Tryd.f8 false true false false) := by
  refine returnsInHanded_of_change_and (C := Tryd.checked) (X := fun w _ => laidMetH Tryd.prog Rows.fnExactGreedyCollapseRow.laid w) (fun _ _ _ hh h => h.of_heap hh) own started (by kernel_rfl) Tryd.func8
    (ChangeSpec.witness_shaped (enc := enc) (C := Tryd.checked) (os := os) (X := fun w _ => laidMetH Tryd.prog Rows.fnExactGreedyCollapseRow.laid w) false (World.laidAll Tryd.prog os Rows.fnExactGreedyCollapseRow.laid) #[.agg #[.slice none 0 0]] 8 (World.laidAll_os _ _ _)
      (World.shaped_of_ZipB (by kernel_rfl) (by kernel_rfl)) (by kernel_rfl) (by kernel_rfl) (by kernel_rfl)
      (by rw [MakeChecks.laidMetH_plain _ _ _ (by kernel_rfl)]; exact laidMet_laidAll _ (by kernel_rfl) (by kernel_rfl))) ?_
  intro W base args ds gs before hval0 hW hcnd hsz hL _
  have hval : ∀ (j : Nat) t v, Tryd.f8.params[j]? = some t → args[j]? = some v → Value.okWide Tryd.prog W .any base t v := hval0
  have hW' := hW
  obtain ⟨p, q, hA0, hV, rfl, hfz, hnd⟩ := hW
  have hA : DataW.TrodAll enc Tryd.prog W 0 (fun _ => true) true Tryd.f8.params.toList args.toList ds p := hA0
  rw [Tryd.params8] at hA hval
  obtain ⟨v0, vs0, d0, ds0, p0, q0, hargs, rfl, rfl, h0, r0⟩ := trodAll_cons hA
  obtain ⟨rfl, rfl, rfl⟩ := trodAll_nil r0
  obtain rfl : args = #[v0] := by cases args; simp_all
  obtain ⟨rfl, rfl⟩ := trodVars_none hV
  have k0 := h0
  have lt0 : ∀ x ∈ p0, x.block < W.heap.size := by obtain ⟨m, hm⟩ := k0; exact DataW.trod_lt m _ _ _ hm
  obtain ⟨u0, z0, rfl, w0⟩ : ∃ (u : Value) (zz : List (List Int)), v0 = .agg #[u] ∧ RowsRaw W u zz := by
    obtain ⟨s0, y0, m, hv, t0⟩ := open_one Tryd.underlying24 (by kernel_rfl) (by kernel_rfl) (hval 0 24 v0 rfl rfl) h0
    rcases Deep.open_int_rows Tryd.underlying22 Tryd.underlying25 Tryd.underlying2 (by kernel_rfl) (by kernel_rfl) t0 with ⟨hcs, _⟩ | ⟨x, l, c, AA, LL, CC, ZZ, hcs, _, hl, hm, _, hx⟩
    · injection hcs with hcs
      subst hcs
      exact ⟨_, [], hv, rowsRaw_nil W⟩
    · injection hcs with hcs
      subst hcs
      exact ⟨_, _, hv, rowsRaw_in hl hm hx⟩
  clear hA0 hval0
  refine (walk u0 z0 W hL w0).mono fun e W' ⟨he, bel⟩ => ?_
  subst he
  exact ⟨_, rfl, _, _, _, [], _, [], hW', trodAll_mk1 (shut_bool Tryd.underlying4 _), (trodAll_cons_mk (Below.trod laidOut (by kernel_rfl) (of_decide_eq_true (by kernel_rfl)) k0 bel lt0) trodAll_mk0), rfl, bel.frame _, fun h => by cases h⟩

theorem closed : joinedFacts Tryd.prog 8 Tryd.f8 Rows.fnExactGreedyCollapseSpec Rows.fnExactGreedyCollapseRow = true := by
  unfold joinedFacts
  rw [mayEnter_f, lifts_f, make_f, laidOut_f, mapsRowed_f, heard_f, keys_f]
  kernel_rfl
theorem over : Rows.fnExactGreedyCollapseRow.holds Tryd.pinned (OpenSpec.ofChange Rows.fnExactGreedyCollapseSpec) :=
  OpenClaim.holds_of_wide 8 Tryd.f8 rfl rfl rfl rfl rfl rfl rfl ⟨rfl, rfl, rfl, rfl, rfl⟩ rfl rfl rfl rfl rfl (by kernel_rfl) Tryd.func8 closed
    (of_decide_eq_true (by kernel_rfl)) (by unfold Func.isWrapper; first | (rw [if_pos (by decide +kernel)]; kernel_rfl) | (rw [if_neg (by decide +kernel)]; exact ⟨rfl, rfl⟩))
    (fun os started H enc _ => lifted os started H enc)

theorem card : Rows.FnExactGreedyCollapseCardSaid :=
  Claim7.holds_tied_plain_at .later [] [.data] true (true, "ca711c762a07c1e6b2a6999478b4517e8506fe5748086cc5b1d6a33c13d1215f") false over (fun _ h => by cases h) (by kernel_rfl) (fun _ h => by cases h) fnExactGreedyCollapse_row_tie rfl ⟨rfl, rfl⟩ (by kernel_rfl) rfl
    (fun f fn hf hfn => by
      obtain rfl : f = 8 := Option.some.inj ((show Tryd.prog.funcNamed "loop.example/g01005/laws.FnExactGreedyCollapse" = some 8 by kernel_rfl).symm.trans hf) |>.symm
      obtain rfl : fn = Tryd.f8 := (Option.some.inj (Tryd.func8.symm.trans hfn)).symm
      exact ⟨by kernel_rfl, fun j t ht => by
        rw [Tryd.params8] at ht
        have hm : t ∈ [24] := by simpa using Array.mem_of_getElem? ht
        have hall : ([24].all fun u => !Tryd.prog.wantsStandIn u) = true := by kernel_rfl
        exact (show Tryd.prog.wantsStandIn t = false by simpa using List.all_eq_true.1 hall t hm)⟩)
    (by kernel_rfl)
#print axioms card
end Go.Proofs.YtibdcejglkhcfaaDoor.fnExactGreedyCollapse
