/-
  The law of ReadList: for every string the program's list is the model's, in new memory that a second call does not touch.
-/
import Derived.Test.YtjgajnhefhgpkaaDoorReadList
import Derived.Test.YtjgajnhefhgpkaaDoorEnv
namespace Go.Proofs.YtjgajnhefhgpkaaDoor
open Go.RowKit
set_option linter.unusedVariables false

theorem OwnI.grown {B : Nat} {w w' : World} {v : Value} {zs : List Int} {r : Option Nat} (h : OwnI B w v zs) (hg : w.grownBy w' r) (hr : v.ownBlock = none ∨ v.ownBlock ≠ r) : OwnI B w' v zs := h.out.kept hg hr
theorem own_apart {B C : Nat} {w w' : World} {u v : Value} {zs ys : List Int} (h : OwnI B w u zs) (g : OwnI C w' v ys) (hC : w.heap.size ≤ C) : u.ownBlock = none ∨ u.ownBlock ≠ v.ownBlock := by
  cases hu : u.ownBlock with
  | none => exact .inl rfl
  | some k =>
    right
    intro hv
    have h1 := (h.out.lt k hu).2
    have h2 := (g.out.lt k hv.symm).1
    omega
set_option maxHeartbeats 800000 in
set_option maxRecDepth 100000 in
theorem readList_walk (s : ByteArray) (w : World) (hs : s.size ≤ maxLen) (hE : Env w.heap.size w) :
    Calls Tryd.prog 8 #[.string s] w fun e w' => e = .returned (.bool true) ∧ Below w.heap.size w w' := by
  have HE := Lib.hid hE
  unfold maxLen at hs
  clear hE
  by_cases hbig : 1048576 < s.size
  · go_enter Tryd.func8, Tryd.ntmps8
    go_wp2
    go_ret
    exact ⟨rfl, Below.refl _ _⟩
  · have hs1 : s.size ≤ 1048576 := by omega
    go_enter Tryd.func8, Tryd.ntmps8
    go_wp2_with fail
    refine (specReadList_any s _ hs1).mono ?_
    rintro e w1 ⟨v0, zs, ok, rfl, ho0, hr0, hl0, hb1⟩
    have R0 := Lib.hid hr0
    have B1 := Lib.hid hb1
    have O0 := Lib.hid ho0
    clear ho0 hr0 hb1
    go_wp2_with fail
    refine (implReadList_any s _ hs1 (HE.out.on B1.out) B1.out.size).mono ?_
    rintro e w2 ⟨v1, ys, yk, rfl, ho1, hr1, hl1, hb2⟩
    obtain ⟨e1, e2⟩ := R0.out.one hr1
    subst e1 e2
    have O1 := Lib.hid ho1
    have B2 : Hid (Below w.heap.size w w2) := B1.out.trans (hb2.mono B1.out.size)
    have O02 : Hid (OwnI w.heap.size w2 v0 zs) := O0.out.on hb2
    have A01 := Lib.hid (own_apart O0.out ho1 (Nat.le_refl _))
    clear ho1 hr1 hl1 hb2
    go_wp2_with fail
    refine (eqI_any (O1.out.at (by omega)) (O02.out.at (by omega))).mono ?_
    rintro e w3 ⟨rfl, n3, rfl⟩
    have O13 : Hid (OwnI w1.heap.size (w2.drewN n3) v1 zs) := O1.out
    have O03 : Hid (OwnI w.heap.size (w2.drewN n3) v0 zs) := O02.out
    have B3 : Hid (Below w.heap.size w (w2.drewN n3)) := below_drewN B2.out n3
    clear O1 O02 B2
    have okb : (ok != ok) = false := by simp
    go_wp2_with fail
    refine (markI_any 1 O13.out (by omega) (by omega) (by omega)).mono ?_
    rintro e w4 ⟨rfl, ho4, hb4, hg4⟩
    have O4 := Lib.hid ho4
    have O04 : Hid (OwnI w.heap.size w4 v0 zs) := O03.out.grown hg4 A01.out
    have B4 : Hid (Below w.heap.size w w4) := B3.out.trans (hb4.mono B1.out.size)
    have S4 : Hid ((w2.drewN n3).heap.size ≤ w4.heap.size) := hg4.size
    clear ho4 hb4 hg4 O13 O03
    go_wp2_with fail
    refine (heldI_any (O4.out.at (by rw [marks_len]; omega)) (by omega) (by omega)).mono ?_
    rintro e w5 ⟨rfl, rfl⟩
    have eq1 : ((1 : Int) + (zs.length : Int) != 1 + (zs.length : Int)) = false := by simp
    go_wp2_with fail
    refine (implReadList_any s _ hs1 (HE.out.on B4.out) B4.out.size).mono ?_
    rintro e w6 ⟨v6, ys, yk, rfl, ho6, hr6, hl6, hb6⟩
    obtain ⟨e1, e2⟩ := R0.out.one hr6
    subst e1 e2
    have O6 := Lib.hid ho6
    have O46 : Hid (OwnI w1.heap.size w6 v1 (marks 1 zs.length)) := O4.out.on hb6
    have O06 : Hid (OwnI w.heap.size w6 v0 zs) := O04.out.on hb6
    have B6 : Hid (Below w.heap.size w w6) := B4.out.trans (hb6.mono B4.out.size)
    clear ho6 hr6 hl6 hb6 O4 O04
    go_wp2_with fail
    refine (eqI_any (O6.out.at (by omega)) (O06.out.at (by omega))).mono ?_
    rintro e w7 ⟨rfl, n7, rfl⟩
    have O47 : Hid (OwnI w1.heap.size (w6.drewN n7) v1 (marks 1 zs.length)) := O46.out
    go_wp2_with fail
    refine (heldI_any (O47.out.at (by rw [marks_len]; omega)) (by omega) (by omega)).mono ?_
    rintro e w8 ⟨rfl, rfl⟩
    go_wp2_with fail
    go_ret
    exact ⟨rfl, below_drewN B6.out n7⟩
theorem readList_of (s : ByteArray) (ws : s.size ≤ maxLen) (w : World) (hL : laidMetH Tryd.prog Rows.fnExactReadListRow.laid w) :
    Calls Tryd.prog 8 #[.string s] w fun e w' => e = .returned (.bool true) ∧ Below w.heap.size w w' := by
  rw [MakeChecks.laidMetH_plain _ _ _ (by kernel_rfl)] at hL
  exact readList_walk s w ws (env_mk (tab10_of hL) (syn_of (hL.tail.tail.tail.tail.tail)) (rng_of (hL.tail.tail.tail.tail)))
end Go.Proofs.YtjgajnhefhgpkaaDoor
