/-
  The model's count of ideals.
-/
import Derived.Test.YtdihcmohpbgmmaaDoorPtE
namespace Go.Proofs.YtdihcmohpbgmmaaDoor
open Go.RowKit
set_option linter.unusedVariables false
set_option linter.unusedSimpArgs false

def WayT (w : World) (g L : Nat) (f : Nat → Nat) : Prop := ∀ j, j < L → w.cell? ⟨g, j, none⟩ = some (.int .i64 (f j : Int)) ∧ w.frozen? ⟨g, j, none⟩ = false
theorem WayT.set {w : World} {g L : Nat} {f : Nat → Nat} (h : WayT w g L f) (i x : Nat) : WayT (w.setCell ⟨g, i, none⟩ (.int .i64 (x : Int))) g L (fun j => if j = i then x else f j) := fun j hj => by
  obtain ⟨h1, h2⟩ := h j hj
  refine ⟨?_, (World.frozen?_setCell _ _ _ _).trans h2⟩
  dsimp only
  by_cases e : j = i
  · subst e
    rw [if_pos rfl]
    exact World.cell?_setCell_same' _ _ _ (by rw [h1]; rfl)
  · rw [if_neg e, World.cell?_setCell_other _ _ _ _ (by intro h; injection h with _ h; exact e h.symm)]
    exact h1
theorem wrap_pow {a : Nat} (ha : a ≤ 12) : wrap64 (2 ^ a) = (((2 ^ a : Nat)) : Int) := by
  have h := Nat.pow_le_pow_right (n := 2) (by omega) ha
  have e : ((2 : Int) ^ a) = ((2 ^ a : Nat) : Int) := by simp
  rw [e]
  generalize 2 ^ a = p at h ⊢
  unfold wrap64; omega
theorem nat_i64 {a : Nat} (h : a < 65536) : (BitVec.ofInt 64 (a : Int)).toNat = a := by
  rw [BitVec.ofInt_natCast, BitVec.toNat_ofNat]; omega
theorem wrap_i64 {x : Nat} (hx : x < 65536) : IntKind.i64.wrap (x : Int) = (x : Int) := by
  simp only [IntKind.wrap, IntKind.bits, IntKind.signed]
  simp
  omega
theorem and_i64 {a b : Nat} (ha : a < 65536) (hb : b < 65536) : bits BinOp.and IntKind.i64 (a : Int) (b : Int) = ((a &&& b : Nat) : Int) := by
  have hl : a &&& b < 65536 := Nat.lt_of_le_of_lt Nat.and_le_left ha
  show IntKind.i64.wrap (((BitVec.ofInt 64 (a : Int)) &&& (BitVec.ofInt 64 (b : Int))).toNat : Int) = _
  rw [BitVec.toNat_and, nat_i64 ha, nat_i64 hb, wrap_i64 hl]
theorem or_i64 {a b : Nat} (ha : a < 65536) (hb : b < 65536) : bits BinOp.or IntKind.i64 (a : Int) (b : Int) = ((a ||| b : Nat) : Int) := by
  have hl : a ||| b < 65536 := Nat.or_lt_two_pow (n := 16) ha hb
  show IntKind.i64.wrap (((BitVec.ofInt 64 (a : Int)) ||| (BitVec.ofInt 64 (b : Int))).toNat : Int) = _
  rw [BitVec.toNat_or, nat_i64 ha, nat_i64 hb, wrap_i64 hl]
theorem and_pow (s a : Nat) : (((s &&& 2 ^ a : Nat) : Int) == 0) = !s.testBit a := by
  have hb : ∀ i, (s &&& 2 ^ a).testBit i = (s.testBit i && decide (a = i)) := fun i => by rw [Nat.testBit_and, Nat.testBit_two_pow]
  cases h : s.testBit a with
  | false =>
    have e : s &&& 2 ^ a = 0 := Nat.eq_of_testBit_eq fun i => by
      rw [hb, Nat.zero_testBit]
      by_cases e : a = i
      · subst e; simp [h]
      · simp [e]
    rw [e]; rfl
  | true =>
    have e : s &&& 2 ^ a ≠ 0 := fun e => by
      have := hb a
      rw [e, Nat.zero_testBit, h] at this
      simp at this
    rw [Bool.not_true, beq_eq_false_iff_ne]; omega
theorem pow_lt16 {a : Nat} (ha : a ≤ 12) : 2 ^ a < 65536 := Nat.lt_of_le_of_lt (Nat.pow_le_pow_right (n := 2) (by omega) ha) (by omega)
theorem and_pow2 {s a : Nat} (hs : s < 65536) (ha : a ≤ 12) : (bits BinOp.and IntKind.i64 (s : Int) (2 ^ a) == 0) = !s.testBit a := by
  rw [show ((2 : Int) ^ a) = ((2 ^ a : Nat) : Int) by simp, and_i64 hs (pow_lt16 ha), and_pow]
theorem and_pow3 {s a : Nat} (hs : s < 65536) (ha : a ≤ 12) : (bits BinOp.and IntKind.i64 (s : Int) (2 ^ a) != 0) = s.testBit a := by
  show (!(_ == _)) = _
  rw [and_pow2 hs ha, Bool.not_not]
theorem or_pow {s a : Nat} (hs : s < 65536) (ha : a ≤ 12) : bits BinOp.or IntKind.i64 (s : Int) (2 ^ a) = ((s ||| 1 <<< a : Nat) : Int) := by
  rw [show ((2 : Int) ^ a) = ((2 ^ a : Nat) : Int) by simp, or_i64 hs (pow_lt16 ha), Nat.one_shiftLeft]
set_option maxRecDepth 100000 in
set_option maxHeartbeats 6400000 in
theorem l06Count_any {N g : Nat} {es : List (Nat × Nat)} {f : Nat → Nat → Bool} {rs : Nat → Nat} {v : Value} {w : World} (hN : N ≤ 12) (hes : ∀ e ∈ es, e.1 < N ∧ e.2 < N) (hc : ¬ Circ es N) (hf : ∀ a b, a < N → (f a b = true ↔ Rch es a b)) (hv : TabR w v N f g rs) :
    Calls Tryd.prog 76 #[v] w fun e w' => ∃ z : Int, e = .returned (.tuple #[.int .i64 (cntI es (2 ^ N) : Int), .int .i64 z]) ∧ Below w.heap.size w w' := by
  obtain ⟨i0, hi, iz0, iz1, iz2⟩ := info_parts info2
  have HV := Lib.hid hv
  have HE := Lib.hid hes
  have HC : Hid (¬ Circ es N) := hc
  have HF := Lib.hid hf
  obtain ⟨va, vc, rfl, hva⟩ := hv.form
  have hP := Nat.pow_le_pow_right (n := 2) (by omega) hN
  have hP0 : 0 < 2 ^ N := Nat.pos_of_ne_zero (by simp)
  clear hv hes hc hf
  go_enter Tryd.func76, Tryd.ntmps76
  obtain ⟨P, hPP⟩ : ∃ P, 2 ^ N = P := ⟨_, rfl⟩
  have HP := Lib.hid hPP
  have hw : wrap64 (2 ^ N) = (P : Int) := by rw [wrap_pow hN, hPP]
  rw [hPP] at hP hP0 ⊢
  clear hPP
  have h63 : P ≤ maxLen := by unfold maxLen; omega
  obtain ⟨wm, hmk, hmo, hmg⟩ := run_makeSlice_full (P := Tryd.prog) (w := w) w.heap.size 40 2 i0 (.int .i64 0) 1 Tryd.underlying40 hi iz0 iz1 .i64 .i64 P (by omega) (by rw [iz2]; omega) h63 (Nat.le_refl _)
  have hfz : ∀ j, wm.frozen? ⟨w.heap.size, j, none⟩ = false := fun j => World.ownsRow.frozenAt (g := w.heap.size) hmo j
  have HWT : Hid (WayT wm w.heap.size P (fun _ => 0)) := fun j hj => by
    have e : (List.replicate P (Value.int .i64 0))[j]? = some (.int .i64 0) := by rw [List.getElem?_replicate, if_pos hj]
    have h := World.ownsRow.cells (by simpa [Value.cells, toList_madeCells_one] using hmo) (g := w.heap.size) rfl j _ e
    have hadd : (⟨w.heap.size, 0, none⟩ : Addr).add j = ⟨w.heap.size, j, none⟩ := by unfold Addr.add; split <;> simp_all
    rw [hadd] at h; exact ⟨h, hfz j⟩
  have HMB : Hid (Below w.heap.size w wm) := (Below.refl _ w).grown hmg (Nat.le_refl _) (fun q hq => by simp at hq)
  obtain ⟨c0, z0⟩ := HWT.out 0 hP0
  have pz0 : (0 : Int) < (P : Int) := by omega
  clear hmo hmg h63 hfz
  have W1 : Hid (WayT (wm.setCell ⟨w.heap.size, 0, none⟩ (.int .i64 1)) w.heap.size P (fun t => if t = 0 then 1 else 0)) := HWT.out.set 0 1
  have WP0 : Hid (WayP es N (fun t => if t = 0 then 1 else 0) 0 0) := WayP.start es N
  have HB1 : Hid (Below w.heap.size w (wm.setCell ⟨w.heap.size, 0, none⟩ (.int .i64 1))) := HMB.out.setCell (p := ⟨w.heap.size, 0, none⟩) (Nat.le_refl _) _
  go_wp2_with fail
  go_loopw [6, 7] (fun sc ss wr => ∃ (s : Nat) (F : Nat → Nat), s ≤ P ∧ sc = .int .i64 (cntI es s : Int) ∧ ss = .int .i64 (s : Int) ∧ Hid (WayP es N F s 0) ∧ Hid (WayT wr w.heap.size P F) ∧ Hid (Below w.heap.size w wr)) (fun _ ss _ => P - (intOf ss).toNat)
  case atStart => exact ⟨0, _, Nat.zero_le _, rfl, rfl, WP0, W1, HB1⟩
  case round =>
    clear W1 WP0 HB1 c0 z0 pz0 HWT HMB hmk
    obtain ⟨s, F, hs, rfl, rfl, HWP, HWT, HB⟩ := hrel
    have s0 : 0 ≤ (s : Int) := by omega
    have hcl := cntI_le es s
    by_cases hlt : s < P
    · have s1 : (s : Int) < (P : Int) := by omega
      have hsN : s < 2 ^ N := by rw [HP.out]; exact hlt
      have hfit := HWP.out.fit hN hsN
      have hidl := HWP.out.idl HE.out HC.out hsN
      obtain ⟨cs, zs⟩ := HWT.out s hlt
      by_cases hz : F s = 0
      · have HNI : Hid (¬ IdlP es s) := fun h => hidl.2 h hz
        have HCN := Lib.hid (cntI_no HNI.out)
        have HW2 := Lib.hid (HWP.out.skip HNI.out)
        rw [hz] at cs
        clear hz hfit hidl
        generalize cntI es s = cn at hcl HCN ⊢
        go_wp2_with fail
        go_roundw
        case rel => exact ⟨s + 1, F, by omega, by rw [HCN.out], by go_num, HW2, HWT, HB⟩
        case measure => simp [intOf]; omega
      · have HID : Hid (IdlP es s) := hidl.1 hz
        have HCN := Lib.hid (cntI_yes HID.out)
        have e1 : ((F s : Int) == 0) = false := by rw [beq_eq_false_iff_ne]; omega
        obtain ⟨fs, hfs⟩ : ∃ fs, F s = fs := ⟨_, rfl⟩
        rw [hfs] at cs e1
        clear hz hfit hidl hfs
        generalize cntI es s = cn at hcl HCN ⊢
        obtain ⟨wo, rfl⟩ : ∃ wo, wo = wr := ⟨_, rfl⟩
        go_wp2_with fail
        clear cs zs hw
        go_loopw [8] (fun sa wr => ∃ (a : Nat) (F : Nat → Nat), a ≤ N ∧ sa = .int .i64 (a : Int) ∧ Hid (WayP es N F s a) ∧ Hid (WayT wr w.heap.size P F) ∧ Hid (Below w.heap.size w wr)) (fun sa _ => N - (intOf sa).toNat)
        case atStart => exact ⟨0, F, Nat.zero_le _, rfl, HWP, HWT, HB⟩
        case round =>
          clear HWP HWT HB
          obtain ⟨a, F2, ha, rfl, HWP, HWT, HB⟩ := hrel
          have a0 : 0 ≤ (a : Int) := by omega
          by_cases hla : a < N
          · have a1 : (a : Int) < (N : Int) := by omega
            have hwa := wrap_pow (a := a) (by omega)
            have hs65 : s < 65536 := by omega
            have hand := and_pow2 (a := a) hs65 (by omega)
            obtain ⟨T0, hT0⟩ : ∃ T, s.testBit a = T := ⟨_, rfl⟩
            rw [hT0] at hand
            have HQ0 : Hid ((!T0) = true ↔ (s.testBit a = false ∧ ∀ b, b < 0 → (b = a ∨ ¬ Rch es b a ∨ s.testBit b = true))) := by
              show _ ↔ _
              rw [hT0]; cases T0 <;> simp
            have HTW := Lib.hid (HV.out.on HB.out)
            obtain rfl := hva (by omega)
            obtain ⟨wi, rfl⟩ : ∃ wi, wi = wr := ⟨_, rfl⟩
            clear hT0
            go_wp2_with fail
            clear hand
            go_loopw [9, 10] (fun sb si wr => ∃ (b : Nat) (q : Bool), b ≤ N ∧ si = .int .i64 (b : Int) ∧ sb = .bool q ∧ Hid (q = true ↔ (s.testBit a = false ∧ ∀ b', b' < b → b' = a ∨ ¬ Rch es b' a ∨ s.testBit b' = true)) ∧ wi = wr) (fun _ i _ => N - (intOf i).toNat)
            case atStart => exact ⟨0, !T0, Nat.zero_le _, rfl, rfl, HQ0, rfl⟩
            case round =>
              clear HQ0
              obtain ⟨b, q, hb, rfl, rfl, HQ, rfl⟩ := hrel
              have b0 : 0 ≤ (b : Int) := by omega
              cases q with
              | false =>
                have HNX : Hid (¬ NxtP es s a) := fun hp => by
                  have := HQ.out.2 ⟨hp.1, fun b' hb' => by
                    by_cases e : b' = a
                    · exact .inl e
                    · by_cases hr : Rch es b' a
                      · exact .inr (.inr (hp.2 b' hr e))
                      · exact .inr (.inl hr)⟩
                  simp at this
                have HW2 := Lib.hid (HWP.out.no HNX.out)
                by_cases hlb : b < N
                · have b1 : (b : Int) < (N : Int) := by omega
                  clear HQ
                  go_wp2_with fail
                  go_roundw
                  case rel => exact ⟨a + 1, F2, by omega, by go_num, HW2, HWT, HB⟩
                  case measure => simp [intOf]; omega
                · have b1 : ¬ (b : Int) < (N : Int) := by omega
                  clear HQ
                  go_wp2_with fail
                  go_roundw
                  case rel => exact ⟨a + 1, F2, by omega, by go_num, HW2, HWT, HB⟩
                  case measure => simp [intOf]; omega
              | true =>
                by_cases hlb : b < N
                · have b1 : (b : Int) < (N : Int) := by omega
                  have HQ' : Hid (∀ r : Bool, (r = true ↔ (b = a ∨ ¬ Rch es b a ∨ s.testBit b = true)) → (r = true ↔ (s.testBit a = false ∧ ∀ b', b' < b + 1 → b' = a ∨ ¬ Rch es b' a ∨ s.testBit b' = true))) := fun r hr => by
                    have h0 := HQ.out.1 rfl
                    rw [hr]
                    constructor
                    · intro h
                      refine ⟨h0.1, fun b' hb' => ?_⟩
                      by_cases e : b' = b
                      · subst e; exact h
                      · exact h0.2 b' (by omega)
                    · intro h; exact h.2 b (by omega)
                  clear HQ
                  by_cases hba : b = a
                  · have e1 : ((b : Int) == (a : Int)) = true := by simp [hba]
                    have HX := Lib.hid (HQ'.out true (by simp [hba]))
                    clear HQ' hba
                    go_wp2_with fail
                    go_roundw
                    case rel => exact ⟨b + 1, true, by omega, by go_num, rfl, HX, by first | rfl | trivial⟩
                    case measure => simp [intOf]; omega
                  · have e1 : ((b : Int) == (a : Int)) = false := by rw [beq_eq_false_iff_ne]; omega
                    obtain ⟨-, cb⟩ := HTW.out.row b hlb
                    have cba := HTW.out.cell b a hlb hla
                    have hr := HF.out b a hlb
                    obtain ⟨p, hp⟩ : ∃ p, f b a = p := ⟨_, rfl⟩
                    rw [hp] at cba hr
                    have HR := Lib.hid hr
                    clear hp hr
                    cases p with
                    | false =>
                      have HX := Lib.hid (HQ'.out true ⟨fun _ => .inr (.inl fun h => by have := HR.out.2 h; simp at this), fun _ => rfl⟩)
                      clear HQ' hba HR
                      go_wp2_with fail
                      go_roundw
                      case rel => exact ⟨b + 1, true, by omega, by go_num, rfl, HX, by first | rfl | trivial⟩
                      case measure => simp [intOf]; omega
                    | true =>
                      have hwb := wrap_pow (a := b) (by omega)
                      have hbn := and_pow3 (a := b) hs65 (by omega)
                      obtain ⟨T1, hT1⟩ : ∃ T : Bool, s.testBit b = T := ⟨_, rfl⟩
                      have HX : Hid (T1 = true ↔ (s.testBit a = false ∧ ∀ b', b' < b + 1 → b' = a ∨ ¬ Rch es b' a ∨ s.testBit b' = true)) := HQ'.out T1 (by
                        rw [← hT1]
                        exact ⟨fun h => .inr (.inr h), fun h => h.elim (fun e => absurd e hba) fun h => h.elim (fun e => absurd (HR.out.1 rfl) e) id⟩)
                      rw [hT1] at hbn
                      clear HQ' hba HR hT1
                      go_wp2_with fail
                      go_roundw
                      case rel => exact ⟨b + 1, T1, by omega, by go_num, rfl, HX, by first | rfl | trivial⟩
                      case measure => simp [intOf]; omega
                · have hp : NxtP es s a := ⟨(HQ.out.1 rfl).1, fun b' hr hne => ((HQ.out.1 rfl).2 b' (by have := hr.gt HE.out hla; omega)).elim (fun e => absurd e hne) fun h => h.elim (fun h => absurd hr h) id⟩
                  have b1 : ¬ (b : Int) < (N : Int) := by omega
                  have htN : s ||| 1 <<< a < 2 ^ N := Nat.or_lt_two_pow hsN (by rw [Nat.one_shiftLeft]; exact Nat.pow_lt_pow_right (by omega) hla)
                  have hft := HWP.out.fit hN htN
                  have hfs := HWP.out.fit hN hsN
                  have hne := (HWP.out.idl HE.out HC.out hsN).2 HID.out
                  have HW3 : Hid (WayP es N (fun j => if j = s ||| 1 <<< a then F2 (s ||| 1 <<< a) + F2 s else F2 j) s (a + 1)) := HWP.out.add hN hsN hla HID.out hp (fun t => by
                    by_cases e : t = s ||| 1 <<< a
                    · rw [if_pos e, if_pos e, e]
                    · rw [if_neg e, if_neg e]) hne
                  have hor : bits BinOp.or IntKind.i64 (s : Int) (IntKind.i64.wrap (2 ^ a)) = ((s ||| 1 <<< a : Nat) : Int) := by
                    rw [show ((2 : Int) ^ a) = ((2 ^ a : Nat) : Int) by simp, wrap_i64 (pow_lt16 (by omega)), or_i64 hs65 (pow_lt16 (by omega)), Nat.one_shiftLeft]
                  have hor2 := or_pow (a := a) hs65 (by omega)
                  rw [HP.out] at htN
                  obtain ⟨cs, zs⟩ := HWT.out s hlt
                  obtain ⟨ct, zt⟩ := HWT.out _ htN
                  have HS3 := Lib.hid (HWT.out.set (s ||| 1 <<< a) (F2 (s ||| 1 <<< a) + F2 s))
                  have HB3 : Hid (Below w.heap.size w (wi.drew.setCell ⟨w.heap.size, s ||| 1 <<< a, none⟩ (.int .i64 ((F2 (s ||| 1 <<< a) : Int) + (F2 s : Int))))) := (below_drewX HB.out 1).setCell (p := ⟨w.heap.size, s ||| 1 <<< a, none⟩) (Nat.le_refl _) _
                  rw [Int.natCast_add] at HS3
                  clear HQ hp hne
                  generalize F2 (s ||| 1 <<< a) = x at *
                  generalize F2 s = y at *
                  generalize s ||| 1 <<< a = tt at *
                  have t0 : 0 ≤ (tt : Int) := by omega
                  have t1 : (tt : Int) < (P : Int) := by omega
                  go_wp2_with fail
                  go_region_law (fail)
                  all_goals
                    go_wp2_with fail
                    go_roundw
                    case rel => exact ⟨a + 1, _, by omega, by go_num, HW3, by first | with_reducible exact HS3 | exact HS3, by first | with_reducible exact HB3 | exact HB3⟩
                    case measure => simp [intOf]; omega
          · obtain rfl : a = N := by omega
            have HW2 := Lib.hid (HWP.out.turn)
            go_wp2_with fail
            go_roundw
            case rel => exact ⟨s + 1, F2, by omega, by rw [HCN.out]; go_num, by go_num, HW2, HWT, HB⟩
            case measure => simp [intOf]; omega
    · obtain rfl : s = P := by omega
      obtain ⟨p', hp'⟩ : ∃ p', s = p' + 1 := ⟨s - 1, by omega⟩
      obtain ⟨cs, zs⟩ := HWT.out p' (by omega)
      have hsub : (s : Int) - 1 = (p' : Int) := by omega
      have i0' : 0 ≤ (p' : Int) := by omega
      have i1' : (p' : Int) < (s : Int) := by omega
      clear hp'
      go_wp2_with fail
      go_quiet (fail)
      go_wp2_with fail
      go_ret2
      exact ⟨_, rfl, below_drewX HB.out _⟩
end Go.Proofs.YtdihcmohpbgmmaaDoor
