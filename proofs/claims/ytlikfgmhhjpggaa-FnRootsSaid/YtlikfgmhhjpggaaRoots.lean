/-
  The law of roots: whatever is drawn, roots, squares and sums and products of vectors of the program fit together.
-/
import Derived.Test.YtlikfgmhhjpggaaRootsD
import Derived.Test.YtlikfgmhhjpggaaFldK
namespace Go.Proofs.Ytlikfgmhhjpggaa
open Go.RowKit
set_option linter.unusedVariables false

set_option maxRecDepth 100000 in
theorem roots_long (a0 : Option Addr) (l0 c0 : Nat) (a1 : Option Addr) (l1 c1 : Nat) (w : World) (h : 1048576 < l0 ∨ 1048576 < l1) :
    Calls Try.prog 4 #[.slice a0 l0 c0, .slice a1 l1 c1] w fun e w' => e = .returned (.bool true) ∧ Below w.heap.size w w' := by
  by_cases h0 : 1048576 < l0
  · have H := Lib.hid h0
    clear h h0
    go_enter Try.func4, Try.ntmps4
    go_wp2_with fail
    refine (longB_yes _ _ _ _ H.out).mono ?_
    rintro e w1 ⟨rfl, rfl⟩
    go_wp2_with fail
    go_ret
    exact ⟨rfl, Below.refl _ _⟩
  · have H := Lib.hid (by omega : 1048576 < l1)
    have H0 := Lib.hid (by omega : l0 ≤ 1048576)
    clear h h0
    go_enter Try.func4, Try.ntmps4
    go_wp2_with fail
    refine (longB_no _ _ _ _ H0.out).mono ?_
    rintro e w1 ⟨rfl, rfl⟩
    go_wp2_with fail
    refine (longB_yes _ _ _ _ H.out).mono ?_
    rintro e w1 ⟨rfl, rfl⟩
    go_wp2_with fail
    go_ret
    exact ⟨rfl, Below.refl _ _⟩
theorem noRt_ne {a p : Int} (hp : 2 ≤ p) (h : NoRt a p) : a ≠ 0 := by
  intro e
  subst e
  exact h 0 (by omega) (by omega) (by simp)
set_option maxHeartbeats 8000000 in
set_option maxRecDepth 100000 in
theorem roots_walk (a0 : Option Addr) (l0 c0 : Nat) (a1 : Option Addr) (l1 c1 : Nat) (w : World) (h0 : Bytes w a0 l0) (h1 : Bytes w a1 l1) :
    Calls Try.prog 4 #[.slice a0 l0 c0, .slice a1 l1 c1] w fun e w' => e = .returned (.bool true) ∧ Below w.heap.size w w' := by
  have H0 := Lib.hid h0
  have H1 := Lib.hid h1
  have z0 := h0.1
  have z1 := h1.1
  clear h0 h1
  go_enter Try.func4, Try.ntmps4
  go_wp2_with fail
  refine (longB_no _ _ _ _ z0).mono ?_
  rintro e w1 ⟨rfl, rfl⟩
  go_wp2_with fail
  refine (longB_no _ _ _ _ z1).mono ?_
  rintro e w1 ⟨rfl, rfl⟩
  go_wp2_with fail
  refine (drawRoot_any w a0 l0 c0 H0.out).mono ?_
  rintro e w1 ⟨a, p, rfl, hb1⟩
  have B1 := Lib.hid hb1
  clear hb1
  obtain ⟨x, one, hx⟩ := rtRes_has p a
  have HX := Lib.hid hx
  go_wp2_with fail
  refine (implRoot_any2 _ HX.out).mono ?_
  rintro e w2 ⟨rfl, hb⟩
  have B2 := Lib.hid (B1.out.trans (hb.mono B1.out.size))
  clear hb
  rcases hx with ⟨hc, ha, rfl⟩ | ⟨ha, hr, rfl⟩ | ⟨ha, hr, rfl, rfl⟩
  · have HL : Hid (LegRes p a 0 one) := .inl ⟨hc, ha, rfl⟩
    have e1 : (one == 0) = false := by simpa using hc
    have e3 : (one == 3) = false := by rcases ha with ⟨_, rfl⟩ | ⟨_, _, rfl⟩ | ⟨_, _, _, rfl⟩ <;> rfl
    clear hc ha
    go_wp2_with fail
    refine (implLeg_any _ HL.out).mono ?_
    rintro e w4 ⟨rfl, hb⟩
    have B4 := Lib.hid (B2.out.trans (hb.mono B2.out.size))
    clear hb
    go_wp2_with fail
    refine (drawDot_any _ a1 l1 c1 (H1.out.on B4.out)).mono ?_
    rintro e w5 ⟨v1, v2, xs, ys, q, rfl, hv1, hv2, q0, q1, hb⟩
    have V1 := Lib.hid hv1
    have V2 := Lib.hid hv2
    have B5 := Lib.hid (B4.out.trans (hb.mono B4.out.size))
    clear hb hv1 hv2
    obtain ⟨c, hc⟩ := pairCode_has q xs ys
    by_cases c00 : c = 0
    · subst c00
      obtain ⟨hx, hy, hxy⟩ := hc.good
      have hq := hx.1
      have p0' := hq.1
      have p1' := hq.2.1
      have kz' : ¬ q = 0 := by omega
      obtain ⟨D, hD⟩ : ∃ D, dotN xs ys % q = D := ⟨_, rfl⟩
      obtain ⟨O, hO⟩ : ∃ O, dotN ys ys % q = O := ⟨_, rfl⟩
      have d0 := rem_bd (dotN xs ys) p0'
      have o0 := rem_bd (dotN ys ys) p0'
      rw [hD] at d0
      rw [hO] at o0
      obtain ⟨d0, d1⟩ := d0
      obtain ⟨o0, o1⟩ := o0
      have HD : Hid (DotRes q xs ys D 0) := ⟨hc, .inr ⟨rfl, hD.symm⟩⟩
      have HA : Hid (AddRes q xs ys (addL q xs ys) 0) := ⟨hc, .inr ⟨rfl, rfl⟩⟩
      have hs : Vec q (addL q xs ys) := ⟨hq, addL_ok p0' hxy, by rw [addL_len hxy]; exact hx.2.2⟩
      have HE : Hid (DotRes q (addL q xs ys) ys ((D + O) % q) 0) := ⟨.inr (.inr ⟨hs, hy, by rw [addL_len hxy]; exact hxy, rfl⟩), .inr ⟨rfl, by rw [dot_lin q xs ys hxy, ← hD, ← hO, ← Int.add_emod]⟩⟩
      have HO : Hid (DotRes q ys ys O 0) := ⟨.inr (.inr ⟨hy, hy, rfl, rfl⟩), .inr ⟨rfl, hO.symm⟩⟩
      have HS : Hid (SclRes q xs (2 % q) (addL q xs xs) 0) := .inr (.inr ⟨hx, (rem_bd 2 p0').1, (rem_bd 2 p0').2, (twice_eq p0' xs).symm, rfl⟩)
      have HT : Hid (AddRes q xs xs (addL q xs xs) 0) := ⟨.inr (.inr ⟨hx, hx, rfl, rfl⟩), .inr ⟨rfl, rfl⟩⟩
      have HQ := Lib.hid hq
      have hl1 : (addL q xs ys).length ≤ 1048576 := by rw [addL_len hxy]; have := hx.2.2; omega
      have hl2 : (addL q xs xs).length ≤ 1048576 := by rw [addL_len rfl]; have := hx.2.2; omega
      have eE : ((D + O) % q == (D + O) % q) = true := by simp
      clear hc hx hy hs hD hO hq hxy
      go_wp2_with fail
      refine (implDotV_any V1.out V2.out HD.out).mono ?_
      rintro e w6 ⟨rfl, hb⟩
      have V1 := Lib.hid (V1.out.on hb)
      have V2 := Lib.hid (V2.out.on hb)
      have B6 := Lib.hid (B5.out.trans (hb.mono B5.out.size))
      clear hb
      go_wp2_with fail
      refine (implAddV_any V1.out V2.out HA.out).mono ?_
      rintro e w7 ⟨v3, rfl, ho, hb⟩
      have O3 := Lib.hid ho
      have V1 := Lib.hid (V1.out.on hb)
      have V2 := Lib.hid (V2.out.on hb)
      have B7 := Lib.hid (B6.out.trans (hb.mono B6.out.size))
      clear ho hb
      go_wp2_with fail
      refine (specVPy _ _ HQ.out).mono ?_
      rintro e w8 ⟨rfl, rfl⟩
      go_wp2_with fail
      refine (implDotV_any (O3.out.at hl1) V2.out HE.out).mono ?_
      rintro e w8 ⟨rfl, hb⟩
      have V1 := Lib.hid (V1.out.on hb)
      have V2 := Lib.hid (V2.out.on hb)
      have B8 := Lib.hid (B7.out.trans (hb.mono B7.out.size))
      clear hb
      go_wp2_with fail
      refine (implDotV_any V2.out V2.out HO.out).mono ?_
      rintro e w9 ⟨rfl, hb⟩
      have V1 := Lib.hid (V1.out.on hb)
      have B9 := Lib.hid (B8.out.trans (hb.mono B8.out.size))
      clear hb
      go_wp2_with fail
      refine (implSclV_any V1.out HS.out).mono ?_
      rintro e w10 ⟨v4, rfl, ho, hb⟩
      have O4 := Lib.hid ho
      have V1 := Lib.hid (V1.out.on hb)
      have B10 := Lib.hid (B9.out.trans (hb.mono B9.out.size))
      clear ho hb
      go_wp2_with fail
      refine (implAddV_any V1.out V1.out HT.out).mono ?_
      rintro e w11 ⟨v5, rfl, ho, hb⟩
      have O5 := Lib.hid ho
      have O4 := Lib.hid (O4.out.on hb)
      have B11 := Lib.hid (B10.out.trans (hb.mono B10.out.size))
      clear ho hb
      go_wp2_with fail
      refine (numsE_any (O4.out.at hl2) (O5.out.at hl2)).mono ?_
      rintro e w12 ⟨rfl, n12, rfl⟩
      go_wp2_with fail
      go_ret
      exact ⟨rfl, below_drewX B11.out n12⟩
    · have HD : Hid (DotRes q xs ys 0 c) := ⟨hc, .inl ⟨c00, rfl⟩⟩
      have HA : Hid (AddRes q xs ys [] c) := ⟨hc, .inl ⟨c00, rfl⟩⟩
      have ec : (c != c) = false := by simp
      have ec0 : (c != 0) = true := by simpa using c00
      clear hc c00
      go_wp2_with fail
      refine (implDotV_any V1.out V2.out HD.out).mono ?_
      rintro e w6 ⟨rfl, hb⟩
      have V1 := Lib.hid (V1.out.on hb)
      have V2 := Lib.hid (V2.out.on hb)
      have B6 := Lib.hid (B5.out.trans (hb.mono B5.out.size))
      clear hb
      go_wp2_with fail
      refine (implAddV_any V1.out V2.out HA.out).mono ?_
      rintro e w7 ⟨v3, rfl, ho, hb⟩
      have B7 := Lib.hid (B6.out.trans (hb.mono B6.out.size))
      obtain ⟨a3, cap3, rfl, _, _⟩ := ho.at (by simp)
      clear ho hb
      go_wp2_with fail
      go_ret
      exact ⟨rfl, B7.out⟩
  · obtain ⟨hp, b0, b1⟩ := ha.good
    have p0 := hp.1
    have p1 := hp.2.1
    have kz : ¬ p = 0 := by omega
    have HP := Lib.hid hp
    obtain ⟨x0, x1, x2, _⟩ := id hr
    obtain ⟨pb0, pb1⟩ := prod_bd p1 x0 x1 x0 x1
    have hge : decide (x ≥ p) = false := by simp; omega
    have hlt : decide (x < 0) = false := by simp; omega
    by_cases hz : a = 0
    · have HL : Hid (LegRes p a 0 0) := .inr (.inl ⟨ha, hz, rfl, rfl⟩)
      subst hz
      clear ha hr hp
      go_wp2_with fail
      refine (implLeg_any _ HL.out).mono ?_
      rintro e w4 ⟨rfl, hb⟩
      have B4 := Lib.hid (B2.out.trans (hb.mono B2.out.size))
      clear hb
      go_wp2_with fail
      refine (specVPy _ _ HP.out).mono ?_
      rintro e w5 ⟨rfl, rfl⟩
      go_wp2_with fail
      refine (drawDot_any _ a1 l1 c1 (H1.out.on B4.out)).mono ?_
      rintro e w5 ⟨v1, v2, xs, ys, q, rfl, hv1, hv2, q0, q1, hb⟩
      have V1 := Lib.hid hv1
      have V2 := Lib.hid hv2
      have B5 := Lib.hid (B4.out.trans (hb.mono B4.out.size))
      clear hb hv1 hv2
      obtain ⟨c, hc⟩ := pairCode_has q xs ys
      by_cases c00 : c = 0
      · subst c00
        obtain ⟨hx, hy, hxy⟩ := hc.good
        have hq := hx.1
        have p0' := hq.1
        have p1' := hq.2.1
        have kz' : ¬ q = 0 := by omega
        obtain ⟨D, hD⟩ : ∃ D, dotN xs ys % q = D := ⟨_, rfl⟩
        obtain ⟨O, hO⟩ : ∃ O, dotN ys ys % q = O := ⟨_, rfl⟩
        have d0 := rem_bd (dotN xs ys) p0'
        have o0 := rem_bd (dotN ys ys) p0'
        rw [hD] at d0
        rw [hO] at o0
        obtain ⟨d0, d1⟩ := d0
        obtain ⟨o0, o1⟩ := o0
        have HD : Hid (DotRes q xs ys D 0) := ⟨hc, .inr ⟨rfl, hD.symm⟩⟩
        have HA : Hid (AddRes q xs ys (addL q xs ys) 0) := ⟨hc, .inr ⟨rfl, rfl⟩⟩
        have hs : Vec q (addL q xs ys) := ⟨hq, addL_ok p0' hxy, by rw [addL_len hxy]; exact hx.2.2⟩
        have HE : Hid (DotRes q (addL q xs ys) ys ((D + O) % q) 0) := ⟨.inr (.inr ⟨hs, hy, by rw [addL_len hxy]; exact hxy, rfl⟩), .inr ⟨rfl, by rw [dot_lin q xs ys hxy, ← hD, ← hO, ← Int.add_emod]⟩⟩
        have HO : Hid (DotRes q ys ys O 0) := ⟨.inr (.inr ⟨hy, hy, rfl, rfl⟩), .inr ⟨rfl, hO.symm⟩⟩
        have HS : Hid (SclRes q xs (2 % q) (addL q xs xs) 0) := .inr (.inr ⟨hx, (rem_bd 2 p0').1, (rem_bd 2 p0').2, (twice_eq p0' xs).symm, rfl⟩)
        have HT : Hid (AddRes q xs xs (addL q xs xs) 0) := ⟨.inr (.inr ⟨hx, hx, rfl, rfl⟩), .inr ⟨rfl, rfl⟩⟩
        have HQ := Lib.hid hq
        have hl1 : (addL q xs ys).length ≤ 1048576 := by rw [addL_len hxy]; have := hx.2.2; omega
        have hl2 : (addL q xs xs).length ≤ 1048576 := by rw [addL_len rfl]; have := hx.2.2; omega
        have eE : ((D + O) % q == (D + O) % q) = true := by simp
        clear hc hx hy hs hD hO hq hxy
        go_wp2_with fail
        refine (implDotV_any V1.out V2.out HD.out).mono ?_
        rintro e w6 ⟨rfl, hb⟩
        have V1 := Lib.hid (V1.out.on hb)
        have V2 := Lib.hid (V2.out.on hb)
        have B6 := Lib.hid (B5.out.trans (hb.mono B5.out.size))
        clear hb
        go_wp2_with fail
        refine (implAddV_any V1.out V2.out HA.out).mono ?_
        rintro e w7 ⟨v3, rfl, ho, hb⟩
        have O3 := Lib.hid ho
        have V1 := Lib.hid (V1.out.on hb)
        have V2 := Lib.hid (V2.out.on hb)
        have B7 := Lib.hid (B6.out.trans (hb.mono B6.out.size))
        clear ho hb
        go_wp2_with fail
        refine (specVPy _ _ HQ.out).mono ?_
        rintro e w8 ⟨rfl, rfl⟩
        go_wp2_with fail
        refine (implDotV_any (O3.out.at hl1) V2.out HE.out).mono ?_
        rintro e w8 ⟨rfl, hb⟩
        have V1 := Lib.hid (V1.out.on hb)
        have V2 := Lib.hid (V2.out.on hb)
        have B8 := Lib.hid (B7.out.trans (hb.mono B7.out.size))
        clear hb
        go_wp2_with fail
        refine (implDotV_any V2.out V2.out HO.out).mono ?_
        rintro e w9 ⟨rfl, hb⟩
        have V1 := Lib.hid (V1.out.on hb)
        have B9 := Lib.hid (B8.out.trans (hb.mono B8.out.size))
        clear hb
        go_wp2_with fail
        refine (implSclV_any V1.out HS.out).mono ?_
        rintro e w10 ⟨v4, rfl, ho, hb⟩
        have O4 := Lib.hid ho
        have V1 := Lib.hid (V1.out.on hb)
        have B10 := Lib.hid (B9.out.trans (hb.mono B9.out.size))
        clear ho hb
        go_wp2_with fail
        refine (implAddV_any V1.out V1.out HT.out).mono ?_
        rintro e w11 ⟨v5, rfl, ho, hb⟩
        have O5 := Lib.hid ho
        have O4 := Lib.hid (O4.out.on hb)
        have B11 := Lib.hid (B10.out.trans (hb.mono B10.out.size))
        clear ho hb
        go_wp2_with fail
        refine (numsE_any (O4.out.at hl2) (O5.out.at hl2)).mono ?_
        rintro e w12 ⟨rfl, n12, rfl⟩
        go_wp2_with fail
        go_ret
        exact ⟨rfl, below_drewX B11.out n12⟩
      · have HD : Hid (DotRes q xs ys 0 c) := ⟨hc, .inl ⟨c00, rfl⟩⟩
        have HA : Hid (AddRes q xs ys [] c) := ⟨hc, .inl ⟨c00, rfl⟩⟩
        have ec : (c != c) = false := by simp
        have ec0 : (c != 0) = true := by simpa using c00
        clear hc c00
        go_wp2_with fail
        refine (implDotV_any V1.out V2.out HD.out).mono ?_
        rintro e w6 ⟨rfl, hb⟩
        have V1 := Lib.hid (V1.out.on hb)
        have V2 := Lib.hid (V2.out.on hb)
        have B6 := Lib.hid (B5.out.trans (hb.mono B5.out.size))
        clear hb
        go_wp2_with fail
        refine (implAddV_any V1.out V2.out HA.out).mono ?_
        rintro e w7 ⟨v3, rfl, ho, hb⟩
        have B7 := Lib.hid (B6.out.trans (hb.mono B6.out.size))
        obtain ⟨a3, cap3, rfl, _, _⟩ := ho.at (by simp)
        clear ho hb
        go_wp2_with fail
        go_ret
        exact ⟨rfl, B7.out⟩
    · have HL : Hid (LegRes p a 1 0) := .inr (.inr (.inl ⟨ha, hz, ⟨x, hr⟩, rfl, rfl⟩))
      have hz' : (a == 0) = false := by simpa using hz
      have eaa : (a != a) = false := by simp
      clear ha hr hp hz
      go_wp2_with fail
      refine (implLeg_any _ HL.out).mono ?_
      rintro e w4 ⟨rfl, hb⟩
      have B4 := Lib.hid (B2.out.trans (hb.mono B2.out.size))
      clear hb
      go_wp2_with fail
      refine (specVPy _ _ HP.out).mono ?_
      rintro e w5 ⟨rfl, rfl⟩
      go_wp2_with fail
      refine (drawDot_any _ a1 l1 c1 (H1.out.on B4.out)).mono ?_
      rintro e w5 ⟨v1, v2, xs, ys, q, rfl, hv1, hv2, q0, q1, hb⟩
      have V1 := Lib.hid hv1
      have V2 := Lib.hid hv2
      have B5 := Lib.hid (B4.out.trans (hb.mono B4.out.size))
      clear hb hv1 hv2
      obtain ⟨c, hc⟩ := pairCode_has q xs ys
      by_cases c00 : c = 0
      · subst c00
        obtain ⟨hx, hy, hxy⟩ := hc.good
        have hq := hx.1
        have p0' := hq.1
        have p1' := hq.2.1
        have kz' : ¬ q = 0 := by omega
        obtain ⟨D, hD⟩ : ∃ D, dotN xs ys % q = D := ⟨_, rfl⟩
        obtain ⟨O, hO⟩ : ∃ O, dotN ys ys % q = O := ⟨_, rfl⟩
        have d0 := rem_bd (dotN xs ys) p0'
        have o0 := rem_bd (dotN ys ys) p0'
        rw [hD] at d0
        rw [hO] at o0
        obtain ⟨d0, d1⟩ := d0
        obtain ⟨o0, o1⟩ := o0
        have HD : Hid (DotRes q xs ys D 0) := ⟨hc, .inr ⟨rfl, hD.symm⟩⟩
        have HA : Hid (AddRes q xs ys (addL q xs ys) 0) := ⟨hc, .inr ⟨rfl, rfl⟩⟩
        have hs : Vec q (addL q xs ys) := ⟨hq, addL_ok p0' hxy, by rw [addL_len hxy]; exact hx.2.2⟩
        have HE : Hid (DotRes q (addL q xs ys) ys ((D + O) % q) 0) := ⟨.inr (.inr ⟨hs, hy, by rw [addL_len hxy]; exact hxy, rfl⟩), .inr ⟨rfl, by rw [dot_lin q xs ys hxy, ← hD, ← hO, ← Int.add_emod]⟩⟩
        have HO : Hid (DotRes q ys ys O 0) := ⟨.inr (.inr ⟨hy, hy, rfl, rfl⟩), .inr ⟨rfl, hO.symm⟩⟩
        have HS : Hid (SclRes q xs (2 % q) (addL q xs xs) 0) := .inr (.inr ⟨hx, (rem_bd 2 p0').1, (rem_bd 2 p0').2, (twice_eq p0' xs).symm, rfl⟩)
        have HT : Hid (AddRes q xs xs (addL q xs xs) 0) := ⟨.inr (.inr ⟨hx, hx, rfl, rfl⟩), .inr ⟨rfl, rfl⟩⟩
        have HQ := Lib.hid hq
        have hl1 : (addL q xs ys).length ≤ 1048576 := by rw [addL_len hxy]; have := hx.2.2; omega
        have hl2 : (addL q xs xs).length ≤ 1048576 := by rw [addL_len rfl]; have := hx.2.2; omega
        have eE : ((D + O) % q == (D + O) % q) = true := by simp
        clear hc hx hy hs hD hO hq hxy
        go_wp2_with fail
        refine (implDotV_any V1.out V2.out HD.out).mono ?_
        rintro e w6 ⟨rfl, hb⟩
        have V1 := Lib.hid (V1.out.on hb)
        have V2 := Lib.hid (V2.out.on hb)
        have B6 := Lib.hid (B5.out.trans (hb.mono B5.out.size))
        clear hb
        go_wp2_with fail
        refine (implAddV_any V1.out V2.out HA.out).mono ?_
        rintro e w7 ⟨v3, rfl, ho, hb⟩
        have O3 := Lib.hid ho
        have V1 := Lib.hid (V1.out.on hb)
        have V2 := Lib.hid (V2.out.on hb)
        have B7 := Lib.hid (B6.out.trans (hb.mono B6.out.size))
        clear ho hb
        go_wp2_with fail
        refine (specVPy _ _ HQ.out).mono ?_
        rintro e w8 ⟨rfl, rfl⟩
        go_wp2_with fail
        refine (implDotV_any (O3.out.at hl1) V2.out HE.out).mono ?_
        rintro e w8 ⟨rfl, hb⟩
        have V1 := Lib.hid (V1.out.on hb)
        have V2 := Lib.hid (V2.out.on hb)
        have B8 := Lib.hid (B7.out.trans (hb.mono B7.out.size))
        clear hb
        go_wp2_with fail
        refine (implDotV_any V2.out V2.out HO.out).mono ?_
        rintro e w9 ⟨rfl, hb⟩
        have V1 := Lib.hid (V1.out.on hb)
        have B9 := Lib.hid (B8.out.trans (hb.mono B8.out.size))
        clear hb
        go_wp2_with fail
        refine (implSclV_any V1.out HS.out).mono ?_
        rintro e w10 ⟨v4, rfl, ho, hb⟩
        have O4 := Lib.hid ho
        have V1 := Lib.hid (V1.out.on hb)
        have B10 := Lib.hid (B9.out.trans (hb.mono B9.out.size))
        clear ho hb
        go_wp2_with fail
        refine (implAddV_any V1.out V1.out HT.out).mono ?_
        rintro e w11 ⟨v5, rfl, ho, hb⟩
        have O5 := Lib.hid ho
        have O4 := Lib.hid (O4.out.on hb)
        have B11 := Lib.hid (B10.out.trans (hb.mono B10.out.size))
        clear ho hb
        go_wp2_with fail
        refine (numsE_any (O4.out.at hl2) (O5.out.at hl2)).mono ?_
        rintro e w12 ⟨rfl, n12, rfl⟩
        go_wp2_with fail
        go_ret
        exact ⟨rfl, below_drewX B11.out n12⟩
      · have HD : Hid (DotRes q xs ys 0 c) := ⟨hc, .inl ⟨c00, rfl⟩⟩
        have HA : Hid (AddRes q xs ys [] c) := ⟨hc, .inl ⟨c00, rfl⟩⟩
        have ec : (c != c) = false := by simp
        have ec0 : (c != 0) = true := by simpa using c00
        clear hc c00
        go_wp2_with fail
        refine (implDotV_any V1.out V2.out HD.out).mono ?_
        rintro e w6 ⟨rfl, hb⟩
        have V1 := Lib.hid (V1.out.on hb)
        have V2 := Lib.hid (V2.out.on hb)
        have B6 := Lib.hid (B5.out.trans (hb.mono B5.out.size))
        clear hb
        go_wp2_with fail
        refine (implAddV_any V1.out V2.out HA.out).mono ?_
        rintro e w7 ⟨v3, rfl, ho, hb⟩
        have B7 := Lib.hid (B6.out.trans (hb.mono B6.out.size))
        obtain ⟨a3, cap3, rfl, _, _⟩ := ho.at (by simp)
        clear ho hb
        go_wp2_with fail
        go_ret
        exact ⟨rfl, B7.out⟩
  · obtain ⟨hp, b0, b1⟩ := ha.good
    have HL : Hid (LegRes p a (-1) 0) := .inr (.inr (.inr ⟨ha, noRt_ne hp.1 hr, hr, rfl, rfl⟩))
    clear ha hr hp
    go_wp2_with fail
    refine (implLeg_any _ HL.out).mono ?_
    rintro e w4 ⟨rfl, hb⟩
    have B4 := Lib.hid (B2.out.trans (hb.mono B2.out.size))
    clear hb
    go_wp2_with fail
    refine (drawDot_any _ a1 l1 c1 (H1.out.on B4.out)).mono ?_
    rintro e w5 ⟨v1, v2, xs, ys, q, rfl, hv1, hv2, q0, q1, hb⟩
    have V1 := Lib.hid hv1
    have V2 := Lib.hid hv2
    have B5 := Lib.hid (B4.out.trans (hb.mono B4.out.size))
    clear hb hv1 hv2
    obtain ⟨c, hc⟩ := pairCode_has q xs ys
    by_cases c00 : c = 0
    · subst c00
      obtain ⟨hx, hy, hxy⟩ := hc.good
      have hq := hx.1
      have p0' := hq.1
      have p1' := hq.2.1
      have kz' : ¬ q = 0 := by omega
      obtain ⟨D, hD⟩ : ∃ D, dotN xs ys % q = D := ⟨_, rfl⟩
      obtain ⟨O, hO⟩ : ∃ O, dotN ys ys % q = O := ⟨_, rfl⟩
      have d0 := rem_bd (dotN xs ys) p0'
      have o0 := rem_bd (dotN ys ys) p0'
      rw [hD] at d0
      rw [hO] at o0
      obtain ⟨d0, d1⟩ := d0
      obtain ⟨o0, o1⟩ := o0
      have HD : Hid (DotRes q xs ys D 0) := ⟨hc, .inr ⟨rfl, hD.symm⟩⟩
      have HA : Hid (AddRes q xs ys (addL q xs ys) 0) := ⟨hc, .inr ⟨rfl, rfl⟩⟩
      have hs : Vec q (addL q xs ys) := ⟨hq, addL_ok p0' hxy, by rw [addL_len hxy]; exact hx.2.2⟩
      have HE : Hid (DotRes q (addL q xs ys) ys ((D + O) % q) 0) := ⟨.inr (.inr ⟨hs, hy, by rw [addL_len hxy]; exact hxy, rfl⟩), .inr ⟨rfl, by rw [dot_lin q xs ys hxy, ← hD, ← hO, ← Int.add_emod]⟩⟩
      have HO : Hid (DotRes q ys ys O 0) := ⟨.inr (.inr ⟨hy, hy, rfl, rfl⟩), .inr ⟨rfl, hO.symm⟩⟩
      have HS : Hid (SclRes q xs (2 % q) (addL q xs xs) 0) := .inr (.inr ⟨hx, (rem_bd 2 p0').1, (rem_bd 2 p0').2, (twice_eq p0' xs).symm, rfl⟩)
      have HT : Hid (AddRes q xs xs (addL q xs xs) 0) := ⟨.inr (.inr ⟨hx, hx, rfl, rfl⟩), .inr ⟨rfl, rfl⟩⟩
      have HQ := Lib.hid hq
      have hl1 : (addL q xs ys).length ≤ 1048576 := by rw [addL_len hxy]; have := hx.2.2; omega
      have hl2 : (addL q xs xs).length ≤ 1048576 := by rw [addL_len rfl]; have := hx.2.2; omega
      have eE : ((D + O) % q == (D + O) % q) = true := by simp
      clear hc hx hy hs hD hO hq hxy
      go_wp2_with fail
      refine (implDotV_any V1.out V2.out HD.out).mono ?_
      rintro e w6 ⟨rfl, hb⟩
      have V1 := Lib.hid (V1.out.on hb)
      have V2 := Lib.hid (V2.out.on hb)
      have B6 := Lib.hid (B5.out.trans (hb.mono B5.out.size))
      clear hb
      go_wp2_with fail
      refine (implAddV_any V1.out V2.out HA.out).mono ?_
      rintro e w7 ⟨v3, rfl, ho, hb⟩
      have O3 := Lib.hid ho
      have V1 := Lib.hid (V1.out.on hb)
      have V2 := Lib.hid (V2.out.on hb)
      have B7 := Lib.hid (B6.out.trans (hb.mono B6.out.size))
      clear ho hb
      go_wp2_with fail
      refine (specVPy _ _ HQ.out).mono ?_
      rintro e w8 ⟨rfl, rfl⟩
      go_wp2_with fail
      refine (implDotV_any (O3.out.at hl1) V2.out HE.out).mono ?_
      rintro e w8 ⟨rfl, hb⟩
      have V1 := Lib.hid (V1.out.on hb)
      have V2 := Lib.hid (V2.out.on hb)
      have B8 := Lib.hid (B7.out.trans (hb.mono B7.out.size))
      clear hb
      go_wp2_with fail
      refine (implDotV_any V2.out V2.out HO.out).mono ?_
      rintro e w9 ⟨rfl, hb⟩
      have V1 := Lib.hid (V1.out.on hb)
      have B9 := Lib.hid (B8.out.trans (hb.mono B8.out.size))
      clear hb
      go_wp2_with fail
      refine (implSclV_any V1.out HS.out).mono ?_
      rintro e w10 ⟨v4, rfl, ho, hb⟩
      have O4 := Lib.hid ho
      have V1 := Lib.hid (V1.out.on hb)
      have B10 := Lib.hid (B9.out.trans (hb.mono B9.out.size))
      clear ho hb
      go_wp2_with fail
      refine (implAddV_any V1.out V1.out HT.out).mono ?_
      rintro e w11 ⟨v5, rfl, ho, hb⟩
      have O5 := Lib.hid ho
      have O4 := Lib.hid (O4.out.on hb)
      have B11 := Lib.hid (B10.out.trans (hb.mono B10.out.size))
      clear ho hb
      go_wp2_with fail
      refine (numsE_any (O4.out.at hl2) (O5.out.at hl2)).mono ?_
      rintro e w12 ⟨rfl, n12, rfl⟩
      go_wp2_with fail
      go_ret
      exact ⟨rfl, below_drewX B11.out n12⟩
    · have HD : Hid (DotRes q xs ys 0 c) := ⟨hc, .inl ⟨c00, rfl⟩⟩
      have HA : Hid (AddRes q xs ys [] c) := ⟨hc, .inl ⟨c00, rfl⟩⟩
      have ec : (c != c) = false := by simp
      have ec0 : (c != 0) = true := by simpa using c00
      clear hc c00
      go_wp2_with fail
      refine (implDotV_any V1.out V2.out HD.out).mono ?_
      rintro e w6 ⟨rfl, hb⟩
      have V1 := Lib.hid (V1.out.on hb)
      have V2 := Lib.hid (V2.out.on hb)
      have B6 := Lib.hid (B5.out.trans (hb.mono B5.out.size))
      clear hb
      go_wp2_with fail
      refine (implAddV_any V1.out V2.out HA.out).mono ?_
      rintro e w7 ⟨v3, rfl, ho, hb⟩
      have B7 := Lib.hid (B6.out.trans (hb.mono B6.out.size))
      obtain ⟨a3, cap3, rfl, _, _⟩ := ho.at (by simp)
      clear ho hb
      go_wp2_with fail
      go_ret
      exact ⟨rfl, B7.out⟩
theorem roots_of (a0 : Option Addr) (l0 c0 : Nat) (z0 : List Int) (a1 : Option Addr) (l1 c1 : Nat) (z1 : List Int) (w : World)
    (h0 : (a0 = none ∧ l0 = 0 ∧ c0 = 0 ∧ z0 = []) ∨ ∃ x, a0 = some x ∧ l0 ≤ c0 ∧ c0 ≤ maxLen ∧ z0.length = c0 ∧ (∀ i, i < z0.length → w.cell? (x.add i) = some (.int .u8 (z0.getD i 0))) ∧ ∀ n ∈ z0, (Lit.int .u8 n).wf = true)
    (h1 : (a1 = none ∧ l1 = 0 ∧ c1 = 0 ∧ z1 = []) ∨ ∃ x, a1 = some x ∧ l1 ≤ c1 ∧ c1 ≤ maxLen ∧ z1.length = c1 ∧ (∀ i, i < z1.length → w.cell? (x.add i) = some (.int .u8 (z1.getD i 0))) ∧ ∀ n ∈ z1, (Lit.int .u8 n).wf = true) :
    Calls Try.prog 4 #[.slice a0 l0 c0, .slice a1 l1 c1] w fun e w' => e = .returned (.bool true) ∧ Below w.heap.size w w' := by
  by_cases h : 1048576 < l0 ∨ 1048576 < l1
  · exact roots_long a0 l0 c0 a1 l1 c1 w h
  · exact roots_walk a0 l0 c0 a1 l1 c1 w (bytes_in (by omega) h0) (bytes_in (by omega) h1)
end Go.Proofs.Ytlikfgmhhjpggaa
