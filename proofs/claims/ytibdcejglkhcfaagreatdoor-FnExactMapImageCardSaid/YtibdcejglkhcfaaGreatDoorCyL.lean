/-
  IndexOf of the model and of the program.
-/
import Derived.Test.YtibdcejglkhcfaaGreatDoorPM
import Derived.Maps.OwnSet
namespace Go.Proofs.YtibdcejglkhcfaaGreatDoor
open Go.RowKit Go.Maps
set_option linter.unusedVariables false
set_option linter.unusedSimpArgs false

/-- The indices of the first k simplices by their sets. -/
def IdxD {H : Type} (zz : List (List Int)) (k : Nat) (D : DataW H) : Prop :=
  IsMap D ∧ (∀ x, has D (.int .u16 x) = true ↔ ∃ i, ∃ h : i < zz.length, i < k ∧ ((maskOf zz[i] : Nat) : Int) = x) ∧ ∀ i (h : i < zz.length), i < k → ∀ z, D.atKey (.int .u16 ((maskOf zz[i] : Nat) : Int)) z = .lit (.int .i64 (i : Int))
theorem IdxD.start {H : Type} (zz : List (List Int)) : IdxD zz 0 (.map [] : DataW H) := by
  refine ⟨isMap_empty, fun x => ?_, fun i _ h => absurd h (Nat.not_lt_zero i)⟩
  constructor
  · intro h; simp [has] at h
  · rintro ⟨i, _, h, _⟩; exact absurd h (Nat.not_lt_zero i)
theorem Cpx.inj {zz : List (List Int)} (h : Cpx zz) {i j : Nat} (hi : i < zz.length) (hj : j < zz.length) (e : zz[i] = zz[j]) : i = j := by
  rcases Nat.lt_trichotomy i j with hl | hl | hl
  · have := (List.pairwise_iff_getElem.1 h.ord) i j hi hj hl; rw [e, befB_irr] at this; cases this
  · exact hl
  · have := (List.pairwise_iff_getElem.1 h.ord) j i hj hi hl; rw [e, befB_irr] at this; cases this
theorem Cpx.minj {zz : List (List Int)} (h : Cpx zz) {i j : Nat} (hi : i < zz.length) (hj : j < zz.length) (e : maskOf zz[i] = maskOf zz[j]) : i = j := by
  refine h.inj hi hj ?_
  rw [← (h.sim _ (List.getElem_mem hi)).verts, ← (h.sim _ (List.getElem_mem hj)).verts, e]
theorem IdxD.next {H : Type} {zz : List (List Int)} {k : Nat} {D : DataW H} (h : IdxD zz k D) (hc : Cpx zz) (hk : k < zz.length) : IdxD zz (k + 1) (D.put (.int .u16 ((maskOf zz[k] : Nat) : Int)) (.lit (.int .i64 (k : Int)))) := by
  have hkl : WideAt.IsKeyLit (.int .u16 ((maskOf zz[k] : Nat) : Int)) := trivial
  refine ⟨h.1.put _ _, fun x => ?_, fun i hi hik z => ?_⟩
  · by_cases e : (.int .u16 x : Lit) = .int .u16 ((maskOf zz[k] : Nat) : Int)
    · rw [e, has_put_same h.1 hkl]
      injection e with _ e
      exact ⟨fun _ => ⟨k, hk, Nat.lt_succ_self k, e.symm⟩, fun _ => rfl⟩
    · rw [has_put_other e, h.2.1 x]
      constructor
      · rintro ⟨i, hi, h1, h2⟩; exact ⟨i, hi, by omega, h2⟩
      · rintro ⟨i, hi, h1, h2⟩
        refine ⟨i, hi, ?_, h2⟩
        rcases Nat.lt_or_ge i k with h3 | h3
        · exact h3
        · obtain rfl : i = k := by omega
          exact absurd (by rw [h2]) e
  · by_cases e : i = k
    · subst e; exact atKey_put_same h.1 hkl _ _
    · have hne : (.int .u16 ((maskOf zz[i] : Nat) : Int) : Lit) ≠ .int .u16 ((maskOf zz[k] : Nat) : Int) := fun e' => by
        injection e' with _ e'
        exact e (hc.minj hi hk (by omega))
      rw [atKey_put_other hne]; exact h.2.2 i hi (by omega) z
def MI (w : World) (mb n : Nat) (D : DataW Unit) : Prop := w.ownsMap Tryz.prog 68 (plainElem Tryz.prog 2) mb n D
theorem MI.out {w : World} {mb n : Nat} {D : DataW Unit} (h : MI w mb n D) : w.ownsMap Tryz.prog 68 (plainElem Tryz.prog 2) mb n D := h
theorem MI.on {w w' : World} {mb n : Nat} {D : DataW Unit} (h : MI w mb n D) (hb : Below w.heap.size w w') : MI w' mb n D := by
  have hbl : mb < w.heap.size := World.ownsMap.lt h
  obtain ⟨es, clock, hc, Ft, hs, hD⟩ := h
  exact ⟨es, clock, (hb.block mb hbl).trans hc, Ft, hs, hD⟩
theorem wf_i64 {k : Nat} (hk : k ≤ 1048576) : (Lit.int .i64 (k : Int)).wf = true := by
  simp only [Lit.wf, Bool.and_eq_true, decide_eq_true_eq]; rw [show IntKind.i64.min = -9223372036854775808 from rfl, show IntKind.i64.max = 9223372036854775807 from rfl]; omega
def RetIdx (zz : List (List Int)) (w : World) (e : Ending) (w' : World) : Prop :=
  ∃ mb D, e = .returned (.map (some mb)) ∧ MI w' mb zz.length D ∧ IdxD zz zz.length D ∧ Below w.heap.size w w'
set_option maxRecDepth 100000 in
set_option maxHeartbeats 3200000 in
theorem indices_any {u : Value} {zz : List (List Int)} {w : World} (hu : RowsAt w u zz) (ho : OkC zz) :
    Calls Tryz.prog 88 #[.agg #[u]] w fun e w' => RetIdx zz w e w' := by
  have hmm := @run_makeMap Tryz.prog
  obtain ⟨a, cp, rfl, hl, k1⟩ := hu.any
  have K1 := Lib.hid k1
  have h48 := ho.2
  have HO := Lib.hid ho
  have al0 : Below w.heap.size w (w.alloc (.cells #[.slice a zz.length cp] 27)) := (Below.refl _ w).alloc (Nat.le_refl _) _
  have al1' := al1 al0 (.map #[] 0)
  have hm0 : MI ((w.alloc (.cells #[.slice a zz.length cp] 27)).alloc (.map #[] 0)) (w.heap.size + 1) 0 (.map []) := by
    have := World.ownsMap_made (H := Unit) (w.alloc (.cells #[.slice a zz.length cp] 27)) Tryz.prog 68 (plainElem Tryz.prog 2)
    rwa [World.size_alloc] at this
  have HM0 := Lib.hid hm0
  have AL := Lib.hid al1'
  clear k1 hu ho hm0 al1' al0
  go_enter Tryz.func88, Tryz.ntmps88
  go_wp2_with fail
  obtain ⟨mb, hmb⟩ : ∃ mb, w.heap.size + 1 = mb := ⟨_, rfl⟩
  rw [hmb] at HM0 ⊢
  have hmw : w.heap.size ≤ mb := by omega
  clear hmb hmm
  go_loopw [10] (fun si wr => ∃ (k : Nat) (D : DataW Unit), k ≤ zz.length ∧ si = .int .i64 (k : Int) ∧ Hid (MI wr mb k D) ∧ Hid (IdxD zz k D) ∧ Hid (Below w.heap.size w wr)) (fun i _ => zz.length - (intOf i).toNat)
  case atStart => exact ⟨0, _, Nat.zero_le _, rfl, HM0, IdxD.start zz, AL⟩
  case round =>
    clear HM0 AL
    obtain ⟨k, D, hk, rfl, HM, HD, HB⟩ := hrel
    by_cases hlt : k < zz.length
    · obtain ⟨b, o, u, rfl, hb, c1', i1'⟩ := K1.out k hlt
      have c1 : wr.cell? ⟨b, o + k, none⟩ = some u := (HB.out.cell (p := ⟨b, o + k, none⟩) hb).trans c1'
      have hI1 := i1'.on HB.out
      clear c1' i1'
      have i0 : 0 ≤ (k : Int) := by omega
      have i1 : (k : Int) < (zz.length : Int) := by omega
      have hsk := HO.out.sim hlt
      have HN := Lib.hid (HD.out.next HO.out.1 hlt)
      have hm := maskOf_lt zz[k] (fun v hv => hsk.bd v hv)
      obtain ⟨sb, so, sc, rfl, hsb, k1s⟩ := hI1.at1 hsk.pos
      have hset := setOf_some (c := sc) (by have := hsk.le; omega) hsk.bd k1s
      generalize maskOf zz[k] = m at HN hm hset
      generalize zz[k].length = sl at c1 hset
      clear hI1 k1s hsk
      go_wp2_with (first | (go_at_call 47; refine hset.mono ?_; rintro e w' ⟨rfl, rfl⟩) | (at_mapUpdate; refine wpList_mapUpdate_own _ rfl _ _ _ 90 rfl 68 2 (int_keyed Tryz.underlying68) Tryz.underlying90 (plainElem Tryz.prog 2) mb k D rfl HM.out.out (by unfold maxLen; omega) _ _ (.int .u16 (m : Int)) rfl rfl (key_u16 hm) (.lit (.int .i64 (k : Int))) [] (plainElem_int Tryz.underlying2 (wf_i64 (by omega))) ?_; intro w1 hown1 hgrow1))
      go_roundw
      case rel => exact ⟨k + 1, _, by omega, by go_num, hown1, HN, HB.out.grown hgrow1 HB.out.size (fun q hq => by cases hq; omega)⟩
      case measure => simp [intOf]; omega
    · obtain rfl : k = zz.length := by omega
      go_wp2
      go_ret
      exact ⟨mb, D, rfl, HM.out, HD.out, HB.out⟩
def IdxIs (zz : List (List Int)) (s : List Int) (n c : Int) : Prop :=
  (¬ (OkC zz ∧ Sim s) ∧ n = 0 ∧ c = 1) ∨ (OkC zz ∧ Sim s ∧ s ∉ zz ∧ n = 0 ∧ c = 3) ∨ (OkC zz ∧ Sim s ∧ (∃ k : Nat, ∃ h : k < zz.length, n = (k : Int) ∧ zz[k] = s) ∧ c = 0)
theorem idx_has (zz : List (List Int)) (s : List Int) : ∃ n c, IdxIs zz s n c := by
  by_cases h : OkC zz ∧ Sim s
  · by_cases hs : s ∈ zz
    · obtain ⟨k, hk, e⟩ := List.getElem_of_mem hs
      exact ⟨_, _, .inr (.inr ⟨h.1, h.2, ⟨k, hk, rfl, e⟩, rfl⟩)⟩
    · exact ⟨_, _, .inr (.inl ⟨h.1, h.2, hs, rfl, rfl⟩)⟩
  · exact ⟨_, _, .inl ⟨h, rfl, rfl⟩⟩
theorem zero_i64 (w : World) : (zeroValue 2).run Tryz.prog w = .ok (.int .i64 0) w := by kernel_rfl
end Go.Proofs.YtibdcejglkhcfaaGreatDoor
