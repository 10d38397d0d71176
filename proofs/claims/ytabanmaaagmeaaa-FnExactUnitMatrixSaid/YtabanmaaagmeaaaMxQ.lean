/-
  Contracts of UnitMatrix, of the model and of the program.
-/
import Derived.Test.YtabanmaaagmeaaaMxP
namespace Go.Proofs.Ytabanmaaagmeaaa
open Go.RowKit
open Lin
set_option linter.unusedVariables false
set_option linter.unusedSectionVars false

/-- A matrix of zeros and the code 0, where its cells lie. -/
def RetZC (p r c : Int) (n : Nat) (w : World) (e : Ending) (w' : World) : Prop :=
  ∃ g, e = .returned (.tuple #[.agg #[.int .i64 p, .int .i64 r, .int .i64 c, .slice (some ⟨g, 0, none⟩) n n], .int .i64 0]) ∧ w.heap.size ≤ g ∧ w'.rowIs g 2 n (fun _ => .int .i64 0) ∧ Below w.heap.size w w'
set_option maxRecDepth 100000 in
set_option maxHeartbeats 800000 in
theorem implZero_row {p r c : Int} {w : World} (n : Nat) (hn : r * c = n) (hl : n ≤ 1048576) (hp : IsPr p) (g1 : inB r 0 32 = true) (g2 : inB c 0 32 = true) :
    Calls Try.prog 42 #[.int .i64 p, .int .i64 r, .int .i64 c] w fun e w' => RetZC p r c n w e w' := by
  have HP := Lib.hid hp
  have HN := Lib.hid hn
  clear hp hn
  go_enter Try.func42, Try.ntmps42
  go_wp2_with fail
  refine (implPrime_yes _ _ HP.out).mono ?_
  rintro e w' ⟨rfl, rfl⟩
  go_wp2_with fail
  refine (side_is _ (by assumption)).mono ?_
  rintro e w' ⟨rfl, rfl⟩
  go_wp2_with fail
  refine (side_is _ (by assumption)).mono ?_
  rintro e w' ⟨rfl, rfl⟩
  go_wp2_with fail
  refine (implZeros_any p r c n _ HN.out hl).mono ?_
  rintro e w1 ⟨g, rfl, hg, hrow, hb⟩
  obtain ⟨hc, hf⟩ := bcell hb
  have HR := Lib.hid hrow
  have HB := Lib.hid hb
  have hz : w.heap.size + 1 ≤ w1.heap.size := by have := hb.size; simp at this; omega
  have hg2 : w.heap.size + 1 ≤ g := by simpa using hg
  clear hrow hb hg
  go_wp2_with fail
  refine bodyPost_ret (v := .tuple #[.agg #[.int .i64 p, .int .i64 r, .int .i64 c, .slice (some ⟨g, 0, none⟩) n n], .int .i64 0]) (by simp [results, Try.results42, go_sem, hc]) rfl ⟨_, rfl, by omega, ?_, ?_⟩
  · repeat (refine rowIs_setO ?_ (by omega) _)
    exact HR.out
  · repeat (refine Below.setC ?_ (by omega) _)
    exact up1 HB.out

theorem OwnI.nil_form {B : Nat} {w : World} {v : Value} (h : OwnI B w v []) : ∃ a cap, v = .slice a 0 cap ∧ ((a = none ∧ cap = 0) ∨ ∃ g off, a = some ⟨g, off, none⟩) ∧ cap ≤ maxLen := by
  obtain ⟨_, ⟨rfl, _⟩ | ⟨g, cap, cur, rfl, _, _, _, hm, _⟩⟩ := h
  · exact ⟨none, 0, rfl, .inl ⟨rfl, rfl⟩, by unfold maxLen; omega⟩
  · exact ⟨_, cap, rfl, .inr ⟨g, 0, rfl⟩, hm⟩

/-! ### UnitMatrix -/
def URes (p n P R C : Int) (zs : List Int) (k : Int) : Prop :=
  (¬ IsPr p ∧ P = 0 ∧ R = 0 ∧ C = 0 ∧ zs = [] ∧ k = 1) ∨ (IsPr p ∧ inB n 0 32 = false ∧ P = 0 ∧ R = 0 ∧ C = 0 ∧ zs = [] ∧ k = 2) ∨
  (IsPr p ∧ inB n 0 32 = true ∧ P = p ∧ R = n ∧ C = n ∧ k = 0 ∧ ∃ (q : Nat) (_ : NeZero q) (m : Nat), p = q ∧ n = m ∧ zs = flat m m (unitM : Mt q))
theorem uRes_has (p n : Int) : ∃ P R C zs k, URes p n P R C zs k := by
  by_cases hp : IsPr p
  · cases hr : inB n 0 32 with
    | false => exact ⟨_, _, _, _, _, .inr (.inl ⟨hp, hr, rfl, rfl, rfl, rfl, rfl⟩)⟩
    | true =>
      have h2 := hp.1
      have hn := (inB_and hr).1
      obtain ⟨q, rfl⟩ := Int.eq_ofNat_of_zero_le (show 0 ≤ p by omega)
      obtain ⟨m, rfl⟩ := Int.eq_ofNat_of_zero_le hn
      exact ⟨_, _, _, _, _, .inr (.inr ⟨hp, hr, rfl, rfl, rfl, rfl, q, ⟨by omega⟩, m, rfl, rfl, rfl⟩)⟩
  · exact ⟨_, _, _, _, _, .inl ⟨hp, rfl, rfl, rfl, rfl, rfl⟩⟩
theorem URes.len {p n P R C k : Int} {zs : List Int} (h : URes p n P R C zs k) : zs.length ≤ 1048576 := by
  rcases h with ⟨_, _, _, _, rfl, _⟩ | ⟨_, _, _, _, _, rfl, _⟩ | ⟨_, hr, _, _, _, _, q, _, m, _, rfl, rfl⟩
  · simp
  · simp
  · have := (inB_and hr).2
    have : m * m ≤ 32 * 32 := Nat.mul_le_mul (by omega) (by omega)
    rw [flat_len]; omega
set_option maxRecDepth 100000 in
set_option maxHeartbeats 1600000 in
theorem specUnit_np {p n : Int} {w : World} (hp : ¬ IsPr p) :
    Calls Try.prog 45 #[.int .i64 p, .int .i64 n] w fun e w' => RetMC 0 0 0 [] 1 w e w' := by
  have HP := Lib.hid hp
  clear hp
  go_enter Try.func45, Try.ntmps45
  go_wp2_with fail
  refine (specVPn _ HP.out).mono ?_
  rintro e w' ⟨rfl, rfl⟩
  go_wp2_with fail
  exact bodyPost_ret (v := .tuple #[.agg #[.int .i64 0, .int .i64 0, .int .i64 0, .slice none 0 0], .int .i64 1]) (by simp [results, Try.results45, go_sem]) rfl ⟨_, rfl, OwnI.nul _ _, al1 (Below.refl _ _) _⟩
set_option maxRecDepth 100000 in
set_option maxHeartbeats 1600000 in
theorem specUnit_nr {p n : Int} {w : World} (hp : IsPr p) (g1 : inB n 0 32 = false) :
    Calls Try.prog 45 #[.int .i64 p, .int .i64 n] w fun e w' => RetMC 0 0 0 [] 2 w e w' := by
  have HP := Lib.hid hp
  clear hp
  go_enter Try.func45, Try.ntmps45
  go_wp2_with fail
  refine (specVPy _ HP.out).mono ?_
  rintro e w' ⟨rfl, rfl⟩
  go_wp2_with fail
  refine (l00In_is _ (by assumption)).mono ?_
  rintro e w' ⟨rfl, rfl⟩
  go_wp2_with fail
  exact bodyPost_ret (v := .tuple #[.agg #[.int .i64 0, .int .i64 0, .int .i64 0, .slice none 0 0], .int .i64 2]) (by simp [results, Try.results45, go_sem]) rfl ⟨_, rfl, OwnI.nul _ _, al1 (Below.refl _ _) _⟩
set_option maxRecDepth 100000 in
set_option maxHeartbeats 1600000 in
theorem specUnit_ok {q : Nat} [NeZero q] {p : Int} {m : Nat} {w : World} (hp : IsPr p) (hq : p = q) (g1 : inB (m : Int) 0 32 = true) :
    Calls Try.prog 45 #[.int .i64 p, .int .i64 (m : Int)] w fun e w' => RetMC p m m (flat m m (unitM : Mt q)) 0 w e w' := by
  have hm : m ≤ 32 := by have := (inB_and g1).2; omega
  have hq2 : 2 ≤ q := by have := hp.1; omega
  have HQ := Lib.hid hq
  clear hq
  have HP := Lib.hid hp
  clear hp
  go_enter Try.func45, Try.ntmps45
  go_wp2_with fail
  refine (specVPy _ HP.out).mono ?_
  rintro e w' ⟨rfl, rfl⟩
  go_wp2_with fail
  refine (l00In_is _ (by assumption)).mono ?_
  rintro e w' ⟨rfl, rfl⟩
  go_wp2_with fail
  refine (specUnitF_any (q := q) p m _ hq2 hm).mono ?_
  rintro e w1 ⟨v1, rfl, ho, hb⟩
  obtain ⟨hc, hf⟩ := bcell hb
  obtain ⟨a1, cap1, rfl⟩ := ho.slice
  have HO := Lib.hid ho
  have HB := Lib.hid hb
  have hz : w.heap.size + 1 ≤ w1.heap.size := by have := hb.size; simp at this; omega
  clear ho hb
  go_wp2_with fail
  refine bodyPost_ret (v := .tuple #[.agg #[.int .i64 p, .int .i64 m, .int .i64 m, .slice a1 (flat m m (unitM : Mt q)).length cap1], .int .i64 0]) (by simp [results, Try.results45, go_sem, hc]) rfl ⟨_, rfl, ?_, ?_⟩
  · refine OwnI.mono (B := w.heap.size + 1) ?_ (by omega)
    repeat (refine OwnI.setOut ?_ (by omega) _)
    simpa using HO.out
  · repeat (refine Below.setC ?_ (by omega) _)
    exact up1 HB.out
theorem specUnit_any {p n P R C k : Int} {zs : List Int} (w : World) (h : URes p n P R C zs k) :
    Calls Try.prog 45 #[.int .i64 p, .int .i64 n] w fun e w' => RetMC P R C zs k w e w' := by
  rcases h with ⟨hp, rfl, rfl, rfl, rfl, rfl⟩ | ⟨hp, hs, rfl, rfl, rfl, rfl, rfl⟩ | ⟨hp, hr, rfl, rfl, rfl, rfl, q, _, m, hq, rfl, rfl⟩
  · exact specUnit_np hp
  · exact specUnit_nr hp hs
  · exact specUnit_ok hp hq hr
set_option maxRecDepth 100000 in
set_option maxHeartbeats 1600000 in
theorem implUnit_bad {p n : Int} {w : World} (k : Int) (hz : ZRes p n n 0 0 0 [] k) :
    Calls Try.prog 33 #[.int .i64 p, .int .i64 n] w fun e w' => RetMC 0 0 0 [] k w e w' := by
  have HZ := Lib.hid hz
  clear hz
  go_enter Try.func33, Try.ntmps33
  go_wp2_with fail
  refine (implZero_any _ HZ.out).mono ?_
  rintro e w1 ⟨v1, rfl, ho, hb⟩
  obtain ⟨a, cap, rfl, ha, hcap⟩ := ho.nil_form
  have PR : Hid (PtM w1 w.heap.size 0 0 0 (.slice none 0 0)) := (PtM.new _ _ _ _ _ _).on hb
  have FR : Hid (Fz w1 w.heap.size) := (Fz.new _ _ _).on (by simp) hb
  have HB := Lib.hid (up1 hb)
  have hz : w.heap.size + 1 ≤ w1.heap.size := by have := hb.size; simp at this; omega
  have HO : Hid (OwnI (w.heap.size + 1) w1 (.slice a 0 cap) []) := ho.mono (by simp)
  clear ho hb
  go_wp2_with fail
  refine (rows_zero (p := 0) (m := 0) (PtM.new w1 0 0 0 (.slice a 0 cap) _) (by omega) ha hcap).mono ?_
  rintro e w2 ⟨H, rfl, hH, _, hb2⟩
  obtain ⟨lR, r0, r1, r2, r3⟩ := (PR.out.on ((Below.refl _ _).alloc (Nat.le_refl _) _)).on hb2
  obtain ⟨f0, f1, f2, f3⟩ := ((FR.out.on (by omega) ((Below.refl _ _).alloc (Nat.le_refl _) _)).on (by simp; omega) hb2).all
  obtain ⟨lM, m0, m1, m2, m3⟩ := (PtM.new w1 0 0 0 (.slice a 0 cap) 27).on hb2
  have HB2 := Lib.hid (HB.out.trans ((up1 hb2).mono (by omega)))
  have HO2 := Lib.hid ((HO.out.on ((Below.refl _ _).alloc (Nat.le_refl _) _)).on hb2)
  clear hb2 hH
  go_wp2_with fail
  refine wp_loop_rounds 1 ?_
  rw [rounds_succ]
  go_wp2
  refine bodyPost_ret (v := .tuple #[.agg #[.int .i64 0, .int .i64 0, .int .i64 0, .slice a 0 cap], .int .i64 k]) (by simp [results, Try.results33, go_sem, r0, r1, r2, r3]) rfl ⟨_, rfl, ?_, ?_⟩
  · refine OwnI.mono (B := w.heap.size + 1) ?_ (by omega)
    repeat (refine OwnI.setOut ?_ (by omega) _)
    exact HO2.out
  · repeat (refine Below.setC ?_ (by omega) _)
    exact HB2.out
set_option maxRecDepth 100000 in
set_option maxHeartbeats 1600000 in
theorem implUnit_z {q : Nat} [NeZero q] {p : Int} {m : Nat} {w : World} (hp : IsPr p) (hq : p = q) (g1 : inB (m : Int) 0 32 = true) (h0 : m = 0) :
    Calls Try.prog 33 #[.int .i64 p, .int .i64 (m : Int)] w fun e w' => RetMC p m m (flat m m (unitM : Mt q)) 0 w e w' := by
  have hm : m ≤ 32 := by have := (inB_and g1).2; omega
  have hq2 : 2 ≤ q := by have := hp.1; omega
  have hmm : m * m ≤ 32 * 32 := Nat.mul_le_mul hm hm
  have HP := Lib.hid hp
  clear hp hq
  subst h0
  go_enter Try.func33, Try.ntmps33
  go_wp2_with fail
  refine (implZero_row (0) (rfl) (by omega) HP.out g1 g1).mono ?_
  rintro e w1 ⟨g, rfl, hg, hrow, hb⟩
  have PR : Hid (PtM w1 w.heap.size 0 0 0 (.slice none 0 0)) := (PtM.new _ _ _ _ _ _).on hb
  have FR : Hid (Fz w1 w.heap.size) := (Fz.new _ _ _).on (by simp) hb
  have HB := Lib.hid (up1 hb)
  have HR := Lib.hid hrow
  have hg3 := hrow.lt
  have hg2 : w.heap.size + 1 ≤ g := by simpa using hg
  have hz : w.heap.size + 1 ≤ w1.heap.size := by have := hb.size; simp at this; omega
  clear hb hrow hg
  go_wp2_with fail
  refine (rows_zero (p := p) (m := 0) (PtM.new w1 p 0 0 (.slice (some ⟨g, 0, none⟩) 0 0) _) (by omega) (.inr ⟨g, 0, rfl⟩) (by unfold maxLen; omega)).mono ?_
  rintro e w2 ⟨H, rfl, hH, hrows, hb2⟩
  have PR := Lib.hid ((PR.out.on ((Below.refl _ _).alloc (Nat.le_refl _) _)).on hb2)
  have FR : Hid (Fz w2 w.heap.size) := (FR.out.on (by omega) ((Below.refl _ _).alloc (Nat.le_refl _) _)).on (by simp; omega) hb2
  have PM : Hid (PtM w2 w1.heap.size p (0 : Nat) (0 : Nat) (.slice (some ⟨g, 0, none⟩) ((0 : Nat) * (0 : Nat)) ((0 : Nat) * (0 : Nat)))) := (PtM.new w1 _ _ _ _ 27).on hb2
  have HB2 := Lib.hid (HB.out.trans ((up1 hb2).mono (by omega)))
  have HR := Lib.hid (rowIs_on (rowIs_on HR.out ((Below.refl _ _).alloc (Nat.le_refl _) _)) hb2)
  have hH2 : w1.heap.size + 1 ≤ H := by simpa using hH
  have hs2 : w1.heap.size + 1 ≤ w2.heap.size := by have := hb2.size; simp at this; omega
  have HH := Lib.hid hrows
  clear hb2 hH hrows
  obtain ⟨L, hL⟩ : ∃ L, w1.heap.size = L := ⟨_, rfl⟩
  rw [hL] at PM hg3 hs2 hH2 hz ⊢
  clear hL
  go_wp2_with fail
  refine wp_loop_rounds 1 ?_
  rw [rounds_succ]
  obtain ⟨lR, r0, r1, r2, r3⟩ := PR.out
  obtain ⟨f0, f1, f2, f3⟩ := FR.out.all
  obtain ⟨lM, m0, m1, m2, m3⟩ := PM.out
  go_wp2
  refine bodyPost_ret (v := .tuple #[.agg #[.int .i64 p, .int .i64 (0 : Nat), .int .i64 (0 : Nat), .slice (some ⟨g, 0, none⟩) ((0 : Nat) * (0 : Nat)) ((0 : Nat) * (0 : Nat))], .int .i64 0]) (by simp [results, Try.results33, go_sem, r0, r1, r2, r3]) rfl ⟨_, rfl, ?_, ?_⟩
  · refine OwnI.mono (B := w.heap.size + 1) ?_ (by omega)
    repeat (refine OwnI.setOut ?_ (by omega) _)
    exact OwnI.of_flat HR.out hg2 (by omega) fun i j hi hj => absurd hi (Nat.not_lt_zero i)
  · repeat (refine Below.setC ?_ (by omega) _)
    exact HB2.out
set_option maxRecDepth 100000 in
set_option maxHeartbeats 1600000 in
theorem implUnit_s {q : Nat} [NeZero q] {p : Int} {m : Nat} {w : World} (hp : IsPr p) (hq : p = q) (g1 : inB (m : Int) 0 32 = true) (h0 : 0 < m) :
    Calls Try.prog 33 #[.int .i64 p, .int .i64 (m : Int)] w fun e w' => RetMC p m m (flat m m (unitM : Mt q)) 0 w e w' := by
  have hm : m ≤ 32 := by have := (inB_and g1).2; omega
  have hq2 : 2 ≤ q := by have := hp.1; omega
  have hmm : m * m ≤ 32 * 32 := Nat.mul_le_mul hm hm
  have HP := Lib.hid hp
  clear hp hq

  go_enter Try.func33, Try.ntmps33
  go_wp2_with fail
  refine (implZero_row (m * m) ((Int.natCast_mul m m).symm) (by omega) HP.out g1 g1).mono ?_
  rintro e w1 ⟨g, rfl, hg, hrow, hb⟩
  have PR : Hid (PtM w1 w.heap.size 0 0 0 (.slice none 0 0)) := (PtM.new _ _ _ _ _ _).on hb
  have FR : Hid (Fz w1 w.heap.size) := (Fz.new _ _ _).on (by simp) hb
  have HB := Lib.hid (up1 hb)
  have HR := Lib.hid hrow
  have hg3 := hrow.lt
  have hg2 : w.heap.size + 1 ≤ g := by simpa using hg
  have hz : w.heap.size + 1 ≤ w1.heap.size := by have := hb.size; simp at this; omega
  clear hb hrow hg
  go_wp2_with fail
  refine (rows_some (p := p) (PtM.new w1 p m m (.slice (some ⟨g, 0, none⟩) (m * m) (m * m)) _) hm (by omega) h0 (Nat.le_refl _) (by unfold maxLen; omega)).mono ?_
  rintro e w2 ⟨H, rfl, hH, hrows, hb2⟩
  have PR := Lib.hid ((PR.out.on ((Below.refl _ _).alloc (Nat.le_refl _) _)).on hb2)
  have FR : Hid (Fz w2 w.heap.size) := (FR.out.on (by omega) ((Below.refl _ _).alloc (Nat.le_refl _) _)).on (by simp; omega) hb2
  have PM : Hid (PtM w2 w1.heap.size p m m (.slice (some ⟨g, 0, none⟩) (m * m) (m * m))) := (PtM.new w1 _ _ _ _ 27).on hb2
  have HB2 := Lib.hid (HB.out.trans ((up1 hb2).mono (by omega)))
  have HR := Lib.hid (rowIs_on (rowIs_on HR.out ((Below.refl _ _).alloc (Nat.le_refl _) _)) hb2)
  have hH2 : w1.heap.size + 1 ≤ H := by simpa using hH
  have hs2 : w1.heap.size + 1 ≤ w2.heap.size := by have := hb2.size; simp at this; omega
  have HH := Lib.hid hrows
  clear hb2 hH hrows
  obtain ⟨L, hL⟩ : ∃ L, w1.heap.size = L := ⟨_, rfl⟩
  rw [hL] at PM hg3 hs2 hH2 hz ⊢
  clear hL
  go_wp2_with fail
  go_loopw [19] (fun i wr => ∃ k : Nat, k ≤ m ∧ i = .int .i64 (k : Int) ∧ Hid (wr.rowIs g 2 (m * m) (UF m k)) ∧ Hid (w2.grownBy wr (some g))) (fun i _ => m - (intOf i).toNat)
  case atStart => exact ⟨0, Nat.zero_le _, rfl, HR.out.congr fun t _ => (UF_zero m t).symm, grown_refl _ _⟩
  case round =>
    obtain ⟨k, hk, rfl, HX, HG⟩ := hrel
    by_cases hlt : k < m
    · obtain ⟨e1, e2, e3, e4, e5⟩ := sq_idx hlt hm
      have ch := (rowIs_gb HH.out HG.out (by omega)).cell hlt
      unfold rowV at ch
      rw [Nat.zero_add] at ch
      have hle : k * m + m ≤ m * m := by rw [← Nat.succ_mul]; exact Nat.mul_le_mul_right m hlt
      obtain ⟨s, hs⟩ : ∃ s : Nat, k * m = s := ⟨_, rfl⟩
      rw [hs] at e2 ch hle
      have HY := Lib.hid (HX.out.set (s + k) (.int .i64 1))
      have c1 := HX.out.cell (i := s + k) e2
      have f1 := HX.out.frozen (s + k)
      have HG2 : Hid (w2.grownBy (wr.setCell ⟨g, s + k, none⟩ (.int .i64 1)) (some g)) := gb_set HG.out _
      have i0 : (0 : Int) ≤ (k : Int) := by omega
      have i1 : (k : Int) < (m : Int) := by omega
      have HS := Lib.hid hs
      clear hs e1 e5
      go_wp2
      go_roundw
      case rel => exact ⟨k + 1, by omega, by go_num, HY.out.congr fun t _ => by rw [← UF_next hlt, HS.out], HG2⟩
      case measure => simp [intOf]; omega
    · obtain rfl : k = m := by omega
      obtain ⟨lR, r0, r1, r2, r3⟩ := PR.out.gb HG.out (by omega)
      obtain ⟨f0, f1, f2, f3⟩ := (FR.out.gb (by omega) HG.out (by omega)).all
      obtain ⟨lM, m0, m1, m2, m3⟩ := PM.out.gb HG.out (by omega)
      go_wp2
      refine bodyPost_ret (v := .tuple #[.agg #[.int .i64 p, .int .i64 (k : Int), .int .i64 (k : Int), .slice (some ⟨g, 0, none⟩) (k * k) (k * k)], .int .i64 0]) (by simp [results, Try.results33, go_sem, r0, r1, r2, r3]) rfl ⟨_, rfl, ?_, ?_⟩
      · refine OwnI.mono (B := w.heap.size + 1) ?_ (by omega)
        repeat (refine OwnI.setOut ?_ (by omega) _)
        refine OwnI.of_flat HX.out hg2 (by omega) fun i j hi hj => ?_
        unfold UF unitM
        rw [idx_div hj, idx_mod hj]
        by_cases e : i = j
        · rw [if_pos ⟨e, hi⟩, if_pos e, fv_one hq2]
        · rw [if_neg (fun x => e x.1), if_neg e, fv_zero]
      · repeat (refine Below.setC ?_ (by omega) _)
        exact below_gb HB2.out HG.out (by omega) (by omega)
theorem implUnit_any {p n P R C k : Int} {zs : List Int} (w : World) (h : URes p n P R C zs k) :
    Calls Try.prog 33 #[.int .i64 p, .int .i64 n] w fun e w' => RetMC P R C zs k w e w' := by
  rcases h with ⟨hp, rfl, rfl, rfl, rfl, rfl⟩ | ⟨hp, hs, rfl, rfl, rfl, rfl, rfl⟩ | ⟨hp, hr, rfl, rfl, rfl, rfl, q, _, m, hq, rfl, rfl⟩
  · exact implUnit_bad 1 (.inl ⟨hp, rfl, rfl, rfl, rfl, rfl⟩)
  · exact implUnit_bad 2 (.inr (.inl ⟨hp, by rw [hs]; rfl, rfl, rfl, rfl, rfl, rfl⟩))
  · rcases Nat.eq_zero_or_pos m with h0 | h0
    · exact implUnit_z hp hq hr h0
    · exact implUnit_s hp hq hr h0
end Go.Proofs.Ytabanmaaagmeaaa
