/-
  The library's choice of a pivot, with a comparison that may make memory: the whole.
-/
import Derived.Test.YtibdcejglkhcfaaGreatDoorSrtF
import Derived.Deep.DeepCutAuto
namespace Go.Proofs.YtibdcejglkhcfaaGreatDoor
open Go.RowKit Go.Sort Go.Shelf Go.Lib
set_option linter.unusedVariables false
section
variable {α : Type} [Inhabited α] {enc : α → Value} {lt : α → α → Bool} {g : Nat} {lb : Array Value} {sf : Nat} {sb : Array Value} {blk off size : Nat} {w0 : World}
set_option maxRecDepth 1000000 in
set_option maxHeartbeats 8000000 in
theorem pivot_any (X : Cx enc lt g lb sf sb blk off size w0) {d : Array α} {w : World} (S : SW enc w0 blk off d w) (hs : d.size = size) (a b : Nat) (hab : a < b) (hb : b ≤ size) :
    Calls Tryz.prog 180 #[.agg #[.func (.func g) #[] lb, .func (.func sf) #[] sb], .int .i64 (a : Int), .int .i64 (b : Int)] w fun e w' => RetSV (.tuple #[.int .i64 ((Sort.choosePivot lt d a b).1 : Int), .int .i64 (hintCode (Sort.choosePivot lt d a b).2)]) enc w0 blk off d w e w' := by
  obtain ⟨l, hl⟩ : ∃ l, b - a = l := ⟨_, rfl⟩
  obtain ⟨q, hq⟩ : ∃ q, l / 4 = q := ⟨_, rfl⟩
  have hw0 := S.le
  have hql : q * 4 ≤ l := by omega
  have hq1 : 8 ≤ l → 2 ≤ q := by omega
  have hq2 : l < q * 4 + 4 := by omega
  have hlb : a + l = b := by omega
  have HL := Lib.hid hl
  have HQ := Lib.hid hq
  clear hl hq
  have ne : w.heap.size ≠ blk := by have := X.blt S; omega
  have eg := X.eg
  have sz := X.sz
  have HX := Lib.hid X
  have S1 : SW enc w0 blk off d (w.alloc (.cells #[.func (.func g) #[] lb, .func (.func sf) #[] sb] 181)) := S.alloc _
  have B1 := Bx2.new w (.func (.func g) #[] lb) (.func (.func sf) #[] sb) 181
  have K1 : KB blk w (w.alloc (.cells #[.func (.func g) #[] lb, .func (.func sf) #[] sb] 181)) := (KB.refl _ _).alloc _
  have HS := Lib.hid S1
  have HB := Lib.hid B1
  have HK := Lib.hid K1
  have HD := Lib.hid hs
  clear X S S1 B1 K1 hs
  have e0 : (b : Int) - (a : Int) = (l : Int) := by omega
  have e1 : (l : Int) / 4 = (q : Int) := by have := HQ.out; omega
  have HCP : Hid (Sort.choosePivot lt d a b = ((if l ≥ 8 then if l ≥ 50 then Sort.median lt d (Sort.medianAdjacent lt d (a + q) 0).1 (Sort.medianAdjacent lt d (a + q * 2) (Sort.medianAdjacent lt d (a + q) 0).2).1 (Sort.medianAdjacent lt d (a + q * 3) (Sort.medianAdjacent lt d (a + q * 2) (Sort.medianAdjacent lt d (a + q) 0).2).2).1 (Sort.medianAdjacent lt d (a + q * 3) (Sort.medianAdjacent lt d (a + q * 2) (Sort.medianAdjacent lt d (a + q) 0).2).2).2 else Sort.median lt d (a + q) (a + q * 2) (a + q * 3) 0 else (a + q * 2, 0)).1, if (if l ≥ 8 then if l ≥ 50 then Sort.median lt d (Sort.medianAdjacent lt d (a + q) 0).1 (Sort.medianAdjacent lt d (a + q * 2) (Sort.medianAdjacent lt d (a + q) 0).2).1 (Sort.medianAdjacent lt d (a + q * 3) (Sort.medianAdjacent lt d (a + q * 2) (Sort.medianAdjacent lt d (a + q) 0).2).2).1 (Sort.medianAdjacent lt d (a + q * 3) (Sort.medianAdjacent lt d (a + q * 2) (Sort.medianAdjacent lt d (a + q) 0).2).2).2 else Sort.median lt d (a + q) (a + q * 2) (a + q * 3) 0 else (a + q * 2, 0)).2 = 0 then .increasing else if (if l ≥ 8 then if l ≥ 50 then Sort.median lt d (Sort.medianAdjacent lt d (a + q) 0).1 (Sort.medianAdjacent lt d (a + q * 2) (Sort.medianAdjacent lt d (a + q) 0).2).1 (Sort.medianAdjacent lt d (a + q * 3) (Sort.medianAdjacent lt d (a + q * 2) (Sort.medianAdjacent lt d (a + q) 0).2).2).1 (Sort.medianAdjacent lt d (a + q * 3) (Sort.medianAdjacent lt d (a + q * 2) (Sort.medianAdjacent lt d (a + q) 0).2).2).2 else Sort.median lt d (a + q) (a + q * 2) (a + q * 3) 0 else (a + q * 2, 0)).2 = 12 then .decreasing else .unknown)) := by
    show _ = _
    unfold Sort.choosePivot
    simp only [HL.out, HQ.out, Nat.mul_one]
  go_enter Tryz.func180, Tryz.ntmps180
  go_upto_if 32 with fail
  have C1 := Cnt.new (w.alloc (.cells #[.func (.func g) #[] lb, .func (.func sf) #[] sb] 181)) 3
  rw [World.size_alloc] at C1
  have S1 := HS.out.alloc (.cells #[.int .i64 0] 3)
  have B1 := HB.out.onC (c := w.heap.size + 1) ne (by omega) (((KB.refl blk _).alloc (.cells #[.int .i64 0] 3)).kc _)
  have K1 := HK.out.alloc (.cells #[.int .i64 0] 3)
  generalize hW : World.alloc (World.alloc w (.cells #[.func (.func g) #[] lb, .func (.func sf) #[] sb] 181)) (.cells #[.int .i64 0] 3) = W1 at C1 S1 B1 K1 ⊢
  clear hW
  have HS := Lib.hid S1
  have HB := Lib.hid B1
  have HK := Lib.hid K1
  have HC := Lib.hid C1
  have nec : w.heap.size ≠ w.heap.size + 1 := by omega
  have hcw : w.heap.size ≤ w.heap.size + 1 := by omega
  have hcw0 : w0.heap.size ≤ w.heap.size + 1 := by omega
  have HK0 : Hid (KC blk (w.heap.size + 1) W1 W1) := KC.refl _ _ _
  clear C1 S1 B1 K1
  by_cases h8 : 8 ≤ l
  · have h8z : (8 : Int) ≤ (l : Int) := by omega
    have hq8 := hq1 h8
    by_cases h50 : 50 ≤ l
    · have h50z : (50 : Int) ≤ (l : Int) := by omega
      obtain ⟨m1, s1, g1⟩ : ∃ x y, Sort.medianAdjacent lt d (a + q) 0 = (x, y) := ⟨_, _, rfl⟩
      obtain ⟨m2, s2, g2⟩ : ∃ x y, Sort.medianAdjacent lt d (a + q * 2) s1 = (x, y) := ⟨_, _, rfl⟩
      obtain ⟨m3, s3, g3⟩ : ∃ x y, Sort.medianAdjacent lt d (a + q * 3) s2 = (x, y) := ⟨_, _, rfl⟩
      obtain ⟨p, t, g4⟩ : ∃ x y, Sort.median lt d m1 m2 m3 s3 = (x, y) := ⟨_, _, rfl⟩
      have b1 := median_bd (show Sort.median lt d (a + q - 1) (a + q) (a + q + 1) 0 = (m1, s1) from g1)
      have b2 := median_bd (show Sort.median lt d (a + q * 2 - 1) (a + q * 2) (a + q * 2 + 1) s1 = (m2, s2) from g2)
      have b3 := median_bd (show Sort.median lt d (a + q * 3 - 1) (a + q * 3) (a + q * 3 + 1) s2 = (m3, s3) from g3)
      have hx : Hid (Sort.choosePivot lt d a b = (p, if t = 0 then .increasing else if t = 12 then .decreasing else .unknown)) := by
        show _ = _
        rw [HCP.out]
        simp only [ge_iff_le, h8, h50, if_true, g1, g2, g3, g4]
      have HX4 := hx
      have G1 := Lib.hid g1
      have G2 := Lib.hid g2
      have G3 := Lib.hid g3
      have G4 := Lib.hid g4
      have n1 : m1 < size := by omega
      have n2 : m2 < size := by omega
      have n3 : m3 < size := by omega
      have t1 : s1 ≤ 3 := by omega
      have t2 : s2 ≤ 6 := by omega
      have t3 : s3 ≤ 9 := by omega
      clear g1 g2 g3 g4 b1 b2 b3 hx
      have hm := adj_any HX.out HS.out HD.out (a + q) (by omega) (by omega) HC.out hcw0 (by omega) G1.out
      try rw [show ((a + q : Nat) : Int) = (a : Int) + (q : Int) by omega] at hm
      try rw [show ((a + q * 2 : Nat) : Int) = (a : Int) + (q : Int) * 2 by omega] at hm
      try rw [show ((a + q * 3 : Nat) : Int) = (a : Int) + (q : Int) * 3 by omega] at hm
      obtain ⟨_, c0, c1⟩ := HB.out.onC ne nec HK0.out
      go_wp2_with fail
      refine hm.mono ?_
      rintro e w2 ⟨rfl, S2, K2, C2⟩
      have HS2 := Lib.hid S2
      have HK2 := Lib.hid (HK0.out.trans K2)
      have HC2 := Lib.hid C2
      clear S2 K2 C2 c0 c1 hm

      have hm := adj_any HX.out HS2.out HD.out (a + q * 2) (by omega) (by omega) HC2.out hcw0 (by omega) G2.out
      try rw [show ((a + q : Nat) : Int) = (a : Int) + (q : Int) by omega] at hm
      try rw [show ((a + q * 2 : Nat) : Int) = (a : Int) + (q : Int) * 2 by omega] at hm
      try rw [show ((a + q * 3 : Nat) : Int) = (a : Int) + (q : Int) * 3 by omega] at hm
      obtain ⟨_, c0, c1⟩ := HB.out.onC ne nec HK2.out
      go_wp2_with fail
      refine hm.mono ?_
      rintro e w3 ⟨rfl, S2, K2, C2⟩
      have HS3 := Lib.hid S2
      have HK3 := Lib.hid (HK2.out.trans K2)
      have HC3 := Lib.hid C2
      clear S2 K2 C2 c0 c1 hm

      have hm := adj_any HX.out HS3.out HD.out (a + q * 3) (by omega) (by omega) HC3.out hcw0 (by omega) G3.out
      try rw [show ((a + q : Nat) : Int) = (a : Int) + (q : Int) by omega] at hm
      try rw [show ((a + q * 2 : Nat) : Int) = (a : Int) + (q : Int) * 2 by omega] at hm
      try rw [show ((a + q * 3 : Nat) : Int) = (a : Int) + (q : Int) * 3 by omega] at hm
      obtain ⟨_, c0, c1⟩ := HB.out.onC ne nec HK3.out
      go_wp2_with fail
      refine hm.mono ?_
      rintro e w4 ⟨rfl, S2, K2, C2⟩
      have HS4 := Lib.hid S2
      have HK4 := Lib.hid (HK3.out.trans K2)
      have HC4 := Lib.hid C2
      clear S2 K2 C2 c0 c1 hm

      have hm := median_any HX.out HS4.out HD.out m1 m2 m3 (by omega) (by omega) (by omega) HC4.out hcw0 (by omega) G4.out
      try rw [show ((a + q : Nat) : Int) = (a : Int) + (q : Int) by omega] at hm
      try rw [show ((a + q * 2 : Nat) : Int) = (a : Int) + (q : Int) * 2 by omega] at hm
      try rw [show ((a + q * 3 : Nat) : Int) = (a : Int) + (q : Int) * 3 by omega] at hm
      obtain ⟨_, c0, c1⟩ := HB.out.onC ne nec HK4.out
      go_wp2_with fail
      refine hm.mono ?_
      rintro e w5 ⟨rfl, S2, K2, C2⟩
      have HS5 := Lib.hid S2
      have HK5 := Lib.hid (HK4.out.trans K2)
      have HC5 := Lib.hid C2
      clear S2 K2 C2 c0 c1 hm

      have HR : Hid (Sort.choosePivot lt d a b = (p, if t = 0 then .increasing else if t = 12 then .decreasing else .unknown)) := HX4
      obtain ⟨_, v0, _⟩ := HC5.out
      have HCC := HC5
      clear HC5
      rcases Nat.eq_zero_or_pos t with q0 | q0
      · have e0 : ((t : Int) == 0) = true := by simp; omega
        have ev : Sort.choosePivot lt d a b = (p, .increasing) := by rw [HR.out, if_pos q0]
        have EV := Lib.hid ev
        clear HR ev
        go_wp2_with fail
        rw [EV.out]
        go_ret2
        exact ⟨rfl, HS5.out, ((HK.out.kc _).trans HK5.out).kb hcw⟩
      · have e0 : ((t : Int) == 0) = false := by simp; omega
        rcases Nat.decEq t 12 with q1 | q1
        · have e1 : ((t : Int) == 12) = false := by simp; omega
          have ev : Sort.choosePivot lt d a b = (p, .unknown) := by rw [HR.out, if_neg (by omega), if_neg q1]
          have EV := Lib.hid ev
          clear HR ev q1
          go_wp2_with fail
          rw [EV.out]
          go_ret2
          exact ⟨rfl, HS5.out, ((HK.out.kc _).trans HK5.out).kb hcw⟩
        · have e1 : ((t : Int) == 12) = true := by simp; omega
          have ev : Sort.choosePivot lt d a b = (p, .decreasing) := by rw [HR.out, if_neg (by omega), if_pos q1]
          have EV := Lib.hid ev
          clear HR ev q1
          go_wp2_with fail
          rw [EV.out]
          go_ret2
          exact ⟨rfl, HS5.out, ((HK.out.kc _).trans HK5.out).kb hcw⟩

    · have h50z : ¬ (50 : Int) ≤ (l : Int) := by omega
      obtain ⟨p, t, g4⟩ : ∃ x y, Sort.median lt d (a + q) (a + q * 2) (a + q * 3) 0 = (x, y) := ⟨_, _, rfl⟩
      have HX4 : Hid (Sort.choosePivot lt d a b = (p, if t = 0 then .increasing else if t = 12 then .decreasing else .unknown)) := by
        show _ = _
        rw [HCP.out]
        simp only [ge_iff_le, h8, h50, if_true, if_false, g4]
      have G4 := Lib.hid g4
      clear g4
      have hm := median_any HX.out HS.out HD.out (a + q) (a + q * 2) (a + q * 3) (by omega) (by omega) (by omega) HC.out hcw0 (by omega) G4.out
      try rw [show ((a + q : Nat) : Int) = (a : Int) + (q : Int) by omega] at hm
      try rw [show ((a + q * 2 : Nat) : Int) = (a : Int) + (q : Int) * 2 by omega] at hm
      try rw [show ((a + q * 3 : Nat) : Int) = (a : Int) + (q : Int) * 3 by omega] at hm
      obtain ⟨_, c0, c1⟩ := HB.out.onC ne nec HK0.out
      go_wp2_with fail
      refine hm.mono ?_
      rintro e w5 ⟨rfl, S2, K2, C2⟩
      have HS5 := Lib.hid S2
      have HK5 := Lib.hid (HK0.out.trans K2)
      have HC5 := Lib.hid C2
      clear S2 K2 C2 c0 c1 hm

      have HR : Hid (Sort.choosePivot lt d a b = (p, if t = 0 then .increasing else if t = 12 then .decreasing else .unknown)) := HX4
      obtain ⟨_, v0, _⟩ := HC5.out
      have HCC := HC5
      clear HC5
      rcases Nat.eq_zero_or_pos t with q0 | q0
      · have e0 : ((t : Int) == 0) = true := by simp; omega
        have ev : Sort.choosePivot lt d a b = (p, .increasing) := by rw [HR.out, if_pos q0]
        have EV := Lib.hid ev
        clear HR ev
        go_wp2_with fail
        rw [EV.out]
        go_ret2
        exact ⟨rfl, HS5.out, ((HK.out.kc _).trans HK5.out).kb hcw⟩
      · have e0 : ((t : Int) == 0) = false := by simp; omega
        rcases Nat.decEq t 12 with q1 | q1
        · have e1 : ((t : Int) == 12) = false := by simp; omega
          have ev : Sort.choosePivot lt d a b = (p, .unknown) := by rw [HR.out, if_neg (by omega), if_neg q1]
          have EV := Lib.hid ev
          clear HR ev q1
          go_wp2_with fail
          rw [EV.out]
          go_ret2
          exact ⟨rfl, HS5.out, ((HK.out.kc _).trans HK5.out).kb hcw⟩
        · have e1 : ((t : Int) == 12) = true := by simp; omega
          have ev : Sort.choosePivot lt d a b = (p, .decreasing) := by rw [HR.out, if_neg (by omega), if_pos q1]
          have EV := Lib.hid ev
          clear HR ev q1
          go_wp2_with fail
          rw [EV.out]
          go_ret2
          exact ⟨rfl, HS5.out, ((HK.out.kc _).trans HK5.out).kb hcw⟩

  · have h8z : ¬ (8 : Int) ≤ (l : Int) := by omega
    have ev : Sort.choosePivot lt d a b = (a + q * 2, .increasing) := by
      rw [HCP.out]
      simp only [ge_iff_le, h8, if_false, if_true]
    have EV := Lib.hid ev
    clear ev
    obtain ⟨_, v0, _⟩ := HC.out
    go_wp2_with fail
    rw [EV.out]
    rw [show ((a + q * 2 : Nat) : Int) = (a : Int) + (q : Int) * 2 by omega]
    go_ret2
    exact ⟨rfl, HS.out, HK.out⟩
end
end Go.Proofs.YtibdcejglkhcfaaGreatDoor
