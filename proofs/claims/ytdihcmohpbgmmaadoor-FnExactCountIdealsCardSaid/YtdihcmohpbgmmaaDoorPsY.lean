/-
  slices.ContainsFunc with the misfit of a set.
-/
import Derived.Test.YtdihcmohpbgmmaaDoorPsX
namespace Go.Proofs.YtdihcmohpbgmmaaDoor
open Go.RowKit
set_option linter.unusedVariables false
set_option linter.unusedSimpArgs false

/-- The misfit, as a function value. -/
def misV (F S : Nat) : Value := .func (.func 93) #[] #[.pointer (some ⟨F, 0, none⟩), .pointer (some ⟨S, 0, none⟩)]
def MisOk (w : World) (F S : Nat) (zs : List Int) (q : Int → Bool) : Prop := ∀ x ∈ zs, ∀ w', Below w.heap.size w w' → Calls Tryd.prog 93 #[.int .i64 x, .pointer (some ⟨F, 0, none⟩), .pointer (some ⟨S, 0, none⟩)] w' fun e w'' => e = .returned (.bool (q x)) ∧ Below w'.heap.size w' w''
set_option maxRecDepth 100000 in
set_option maxHeartbeats 1600000 in
theorem idxF_is {F S : Nat} {v : Value} {zs : List Int} {q : Int → Bool} {w : World} (hv : IntsAt w v zs) (hq : MisOk w F S zs q) :
    Calls Tryd.prog 103 #[v, misV F S] w fun e w' => ∃ i : Int, e = .returned (.int .i64 i) ∧ (0 ≤ i ↔ ∃ x ∈ zs, q x = true) ∧ Below w.heap.size w w' := by
  have HV := Lib.hid hv
  have HQ := Lib.hid hq
  have hl : zs.length ≤ 1048576 := by obtain ⟨_, _, _, h, _⟩ := hv; exact h
  obtain ⟨a, c, rfl⟩ := hv.slice
  clear hv hq
  unfold misV
  go_enter Tryd.func103, Tryd.ntmps103
  go_wp2_with fail
  go_loopw [8] (fun si wr => ∃ (k : Nat), k ≤ zs.length ∧ si = .int .i64 (k : Int) ∧ Hid (∀ j (h : j < zs.length), j < k → q zs[j] = false) ∧ Hid (Below w.heap.size w wr)) (fun i _ => zs.length - (intOf i).toNat)
  case atStart => exact ⟨0, Nat.zero_le _, rfl, fun j _ h => by omega, Below.refl _ _⟩
  case round =>
    obtain ⟨k, hk, rfl, HA, HB⟩ := hrel
    have k0 : 0 ≤ (k : Int) := by omega
    by_cases hlt : k < zs.length
    · have k1 : (k : Int) < (zs.length : Int) := by omega
      obtain ⟨b, o, cc, e, hb, ks⟩ := (HV.out.on HB.out).atP (by omega)
      injection e with e1 e2 e3
      subst e1 e3
      have s1 := ks k hlt
      have HM := Lib.hid (List.getElem_mem hlt)
      have HC := Lib.hid (HQ.out _ (List.getElem_mem hlt) wr HB.out)
      obtain ⟨x, hx⟩ : ∃ x, zs[k] = x := ⟨_, rfl⟩
      rw [hx] at s1 HM HC
      have HX := Lib.hid hx
      clear ks e2 hx
      go_wp2_with fail
      refine HC.out.mono ?_
      rintro e w3 ⟨rfl, hb3⟩
      have HB3 := Lib.hid (HB.out.trans (hb3.mono HB.out.size))
      clear hb3 HC
      cases hqx : q x with
      | true =>
        have HE : Hid (∃ x ∈ zs, q x = true) := ⟨x, HM.out, hqx⟩
        clear hqx
        go_wp2_with fail
        go_ret
        exact ⟨(k : Int), rfl, ⟨fun _ => HE.out, fun _ => k0⟩, HB3.out⟩
      | false =>
        have HA' : Hid (∀ j (h : j < zs.length), j < k + 1 → q zs[j] = false) := fun j hj hjk => by
          by_cases e : j = k
          · subst e; rw [HX.out]; exact hqx
          · exact HA.out j hj (by omega)
        clear hqx
        go_wp2_with fail
        go_roundw
        case rel => exact ⟨k + 1, by omega, by go_num, HA', HB3⟩
        case measure => simp [intOf]; omega
    · have HN : Hid (¬ ∃ x ∈ zs, q x = true) := fun ⟨x, hx, h⟩ => by
        obtain ⟨j, hj, rfl⟩ := List.getElem_of_mem hx
        have := HA.out j hj (by omega)
        rw [h] at this; simp at this
      go_wp2_with fail
      go_ret
      exact ⟨-1, rfl, ⟨fun h => by omega, fun h => absurd h HN.out⟩, HB.out⟩
set_option maxRecDepth 100000 in
theorem contF_is {F S : Nat} {v : Value} {zs : List Int} {q : Int → Bool} {T : Bool} {w : World} (hv : IntsAt w v zs) (hq : MisOk w F S zs q) (hT : T = true ↔ ∃ x ∈ zs, q x = true) :
    Calls Tryd.prog 94 #[v, misV F S] w fun e w' => e = .returned (.bool T) ∧ Below w.heap.size w w' := by
  have HV := Lib.hid hv
  have HQ := Lib.hid hq
  have HT := Lib.hid hT
  obtain ⟨a, c, rfl⟩ := hv.slice
  obtain ⟨m, hm⟩ : ∃ m, misV F S = m := ⟨_, rfl⟩
  have HM := Lib.hid hm
  rw [hm]
  clear hv hq hT hm
  go_enter Tryd.func94, Tryd.ntmps94
  go_wp2_with fail
  have h := idxF_is HV.out HQ.out
  rw [HM.out] at h
  refine h.mono ?_
  rintro e w3 ⟨i, rfl, hi, hb3⟩
  have HB3 := Lib.hid hb3
  clear hb3 h
  cases T with
  | true =>
    have i0 : 0 ≤ i := hi.2 (HT.out.1 rfl)
    clear hi
    go_wp2_with fail
    go_ret
    exact ⟨rfl, HB3.out⟩
  | false =>
    have i0 : ¬ 0 ≤ i := fun h => by have := HT.out.2 (hi.1 h); simp at this
    have hd : decide (0 ≤ i) = false := decide_eq_false i0
    have HD := Lib.hid hd
    clear hi hd i0
    go_wp2_with fail
    have hd := HD.out
    simp only [hd]
    go_ret
    exact ⟨rfl, HB3.out⟩
end Go.Proofs.YtdihcmohpbgmmaaDoor
