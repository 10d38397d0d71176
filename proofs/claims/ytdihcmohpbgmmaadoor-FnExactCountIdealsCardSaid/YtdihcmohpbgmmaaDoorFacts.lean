/-
  Closed facts of the program, each reckoned once for all frames of the seat.
-/
import Derived.Test.YtdihcmohpbgmmaaDoorChecked
import Derived.WalkKit
import Derived.ProofKit
import Derived.OpenShut
import Derived.ChangeOld
namespace Go.Proofs.YtdihcmohpbgmmaaDoor
open Go.ChangeShapes Go.WideShapes Go.ChangeAt Go.RowKit
set_option linter.unusedVariables false
set_option maxRecDepth 100000

theorem and_mk {a b : Bool} (h : a = true) (g : b = true) : (a && b) = true := by rw [h, g]; rfl
theorem own_f : ownKnob Tryd.prog.godebug = none := by kernel_rfl
theorem laidOut_f : laidOutB Tryd.prog = true := by kernel_rfl
theorem mapsRowed_f : mapsRowed Tryd.prog = true := by kernel_rfl
theorem cons_of_head {α : Type} {l : List α} {a : α} (h : l.head? = some a) : ∃ r, l = a :: r := by
  cases l with
  | nil => cases h
  | cons b r => injection h with h; exact ⟨r, by rw [h]⟩
/-- A program whose head says 'cut' and none of the other words. -/
theorem mayEnter_cut (P : Program) (h : (behindMainWord (wordsSigns P.initOrder.toList)).head? = some "cut".toList) (h1 : P.laysLater = false) (h2 : P.bearsReflect = false) (h3 : P.doorFits [] = true) : P.mayEnter = true := by
  obtain ⟨r, hr⟩ := cons_of_head h
  unfold Program.mayEnter
  rw [hr]
  have e : stripLifts liftWords ("cut".toList :: r) = ([], "cut".toList :: r) := by simp [stripLifts, liftWords]
  simp only [e]
  simp [h1, h2, h3]
theorem make_cut (P : Program) (h : (behindMainWord (wordsSigns P.initOrder.toList)).head? = some "cut".toList) : P.make = some .cut := by
  obtain ⟨r, hr⟩ := cons_of_head h
  unfold Program.make
  rw [hr]
  simp
theorem lifts_cut (P : Program) (h : (behindMainWord (wordsSigns P.initOrder.toList)).head? = some "cut".toList) : P.liftsFinal = false := by
  obtain ⟨r, hr⟩ := cons_of_head h
  unfold Program.liftsFinal Program.headLifts
  have e : stripLifts liftWords ("cut".toList :: r) = ([], "cut".toList :: r) := by simp [stripLifts, liftWords]
  simp only [hr, e]
  simp
theorem head_f : (behindMainWord (wordsSigns Tryd.prog.initOrder.toList)).head? = some "cut".toList := by
  generalize hx : Tryd.prog.initOrder.toList = x
  rw [show Tryd.prog.initOrder = String.ofList _ from rfl, String.toList_ofList] at hx
  subst hx
  as_aux_lemma => kernel_rfl
theorem mayEnter_f : Tryd.prog.mayEnter = true := mayEnter_cut _ head_f (by kernel_rfl) (by kernel_rfl) (by kernel_rfl)
theorem lifts_f : Tryd.prog.liftsFinal = false := lifts_cut _ head_f
theorem make_f : Tryd.prog.make = some .cut := make_cut _ head_f
theorem heard_f : Tryd.prog.stopsHeard = true := by kernel_rfl
theorem keys_f : Tryd.prog.plainKeys = true := by kernel_rfl
end Go.Proofs.YtdihcmohpbgmmaaDoor
