/-
  The model's l06Ok, ValidPoset and PosetOf.
-/
import Derived.Test.YtdihcmohpbgmmaaDoorPsI
import Derived.Test.YtdihcmohpbgmmaaDoorPsB
import Derived.Test.YtdihcmohpbgmmaaDoorCxC
import Derived.BigQuiet
import Derived.Deep.QuietTactic
namespace Go.Proofs.YtdihcmohpbgmmaaDoor
open Go.RowKit
set_option linter.unusedVariables false
set_option linter.unusedSimpArgs false

theorem RowsAt.drewQ {w : World} {v : Value} {zz : List (List Int)} (h : RowsAt w v zz) (n : Nat) : RowsAt (w.drewN n) v zz := h.on (below_drewP (Below.refl _ _) n)
theorem CovIs.fit {es : List (Nat × Nat)} {N : Nat} {Z : List (List Int)} {T : Bool} (h : CovIs es N Z T) (hN : N ≤ 12) : FitR Z := by
  have hl : (covL es N).length ≤ 144 := Nat.le_trans (covTo_len es N N) (Nat.mul_le_mul hN hN)
  rcases h with ⟨_, rfl, _⟩ | ⟨_, rfl, _⟩
  · exact ⟨Nat.zero_le _, Nat.zero_le _⟩
  · refine ⟨by omega, ?_⟩
    have : ∀ L : List (List Int), (∀ p ∈ L, p.length = 2) → tot L = 2 * L.length := fun L => by
      induction L with
      | nil => intro _; rfl
      | cons x xs ih =>
        intro h
        have h1 := h x (by simp)
        have h2 := ih fun p hp => h p (by simp [hp])
        simp only [tot, List.length_cons, h1, h2]; omega
    rw [this _ fun p hp => by obtain ⟨a, b, _, _, _, rfl⟩ := mem_covL.1 hp; rfl]
    omega
/-- The model's order: a table. -/
theorem table_rch {N : Nat} {zz : List (List Int)} (hp : PairsIn (N : Int) zz) : ∀ a b, a < N → (wT (esP zz) N a b = true ↔ Rch (esP zz) a b) := fun a b ha => wT_rch hp.lt ha
set_option maxRecDepth 100000 in
set_option maxHeartbeats 1600000 in
theorem l06Ok_no {n : Int} {v : Value} {L : Nat} {w : World} (hp : PtP w L n v) (h : ¬ (0 ≤ n ∧ n ≤ 12)) :
    Calls Tryd.prog 52 #[.pointer (some ⟨L, 0, none⟩)] w fun e w' => e = .returned (.bool false) ∧ Below w.heap.size w w' := by
  have h9 : inB n 0 12 = false := inB_no (by omega)
  obtain ⟨lp, p0, p1⟩ := hp
  clear h
  go_enter Tryd.func52, Tryd.ntmps52
  go_wp2_with fail
  go_quiet ((go_at_call 55; exact Calls.quiet_of_same (l00In_q _ h9)))
  go_wp2_with fail
  go_ret
  exact ⟨rfl, below_drewP (Below.refl _ _) _⟩
set_option maxRecDepth 100000 in
set_option maxHeartbeats 1600000 in
theorem l06Ok_many {n : Int} {a : Option Addr} {l c : Nat} {L : Nat} {w : World} (hp : PtP w L n (.slice a l c)) (h : 0 ≤ n ∧ n ≤ 12) (hl : 30 < l) :
    Calls Tryd.prog 52 #[.pointer (some ⟨L, 0, none⟩)] w fun e w' => e = .returned (.bool false) ∧ Below w.heap.size w w' := by
  have h9 : inB n 0 12 = true := inB_yes h.1 h.2
  have h8 : (30 : Int) < (l : Int) := by omega
  obtain ⟨lp, p0, p1⟩ := hp
  clear h
  go_enter Tryd.func52, Tryd.ntmps52
  go_wp2_with fail
  go_quiet ((go_at_call 55; exact Calls.quiet_of_same (l00In_q _ h9)))
  go_wp2_with fail
  go_ret
  exact ⟨rfl, below_drewP (Below.refl _ _) _⟩
set_option maxRecDepth 100000 in
set_option maxHeartbeats 1600000 in
theorem l06Ok_pairs {N : Nat} {v : Value} {zz : List (List Int)} {L : Nat} {w : World} (hp : PtP w L (N : Int) v) (hv : RowsAt w v zz) (hN : N ≤ 12) (hl : zz.length ≤ 30) (h : ¬ PairsIn (N : Int) zz) :
    Calls Tryd.prog 52 #[.pointer (some ⟨L, 0, none⟩)] w fun e w' => e = .returned (.bool false) ∧ Below w.heap.size w w' := by
  have h9 : inB (N : Int) 0 12 = true := inB_yes (by omega) (by omega)
  have h8 : ¬ (30 : Int) < (zz.length : Int) := by omega
  have HV := Lib.hid hv
  have HP : Hid (PairsIn (N : Int) zz ↔ false = true) := ⟨fun e => absurd e h, fun e => by simp at e⟩
  obtain ⟨a, c, rfl⟩ := hv.slice
  obtain ⟨lp, p0, p1⟩ := hp
  clear h hv
  go_enter Tryd.func52, Tryd.ntmps52
  go_wp2_with fail
  go_quiet ((first | (go_at_call 55; exact Calls.quiet_of_same (l00In_q _ h9)) | (go_at_call 56; exact Calls.quiet_of_same ((l06Pairs_is hN (RowsAt.drewQ HV.out _) HP.out).mono fun _ _ ⟨a, b⟩ => ⟨a, b.symm⟩))))
  go_wp2_with fail
  go_ret
  exact ⟨rfl, below_drewP (Below.refl _ _) _⟩
set_option maxRecDepth 100000 in
set_option maxHeartbeats 3200000 in
theorem l06Ok_ok {N : Nat} {v : Value} {zz : List (List Int)} {L : Nat} {T : Bool} {w : World} (hp : PtP w L (N : Int) v) (hv : RowsAt w v zz) (hN : N ≤ 12) (hl : zz.length ≤ 30) (h : PairsIn (N : Int) zz) (hT : T = true ↔ (¬ Circ (esP zz) N ∧ covL (esP zz) N = zz)) :
    Calls Tryd.prog 52 #[.pointer (some ⟨L, 0, none⟩)] w fun e w' => e = .returned (.bool T) ∧ Below w.heap.size w w' := by
  have h9 : inB (N : Int) 0 12 = true := inB_yes (by omega) (by omega)
  have h8 : ¬ (30 : Int) < (zz.length : Int) := by omega
  have HV := Lib.hid hv
  have HT := Lib.hid hT
  have HPI := Lib.hid h
  have HPT := Lib.hid hp
  obtain ⟨a, c, rfl⟩ := hv.slice
  obtain ⟨lp, p0, p1⟩ := hp
  clear h hv hT
  go_enter Tryd.func52, Tryd.ntmps52
  go_wp2_with fail
  go_quiet ((first | (go_at_call 55; exact Calls.quiet_of_same (l00In_q _ h9)) | (go_at_call 56; exact Calls.quiet_of_same ((l06Pairs_is (T := true) hN (RowsAt.drewQ HV.out _) ⟨fun _ => rfl, fun _ => HPI.out⟩).mono fun _ _ ⟨a, b⟩ => ⟨a, b.symm⟩))))
  go_wp2_with fail
  have hnq := below_drewP (Below.refl w.heap.size w) nq
  generalize w.drewN nq = W at hnq ⊢
  have HB := Lib.hid hnq
  have HPT := Lib.hid (HPT.out.on hnq)
  have HV := Lib.hid (HV.out.on hnq)
  obtain ⟨ZC, TC, hcv⟩ := covIs_has (esP zz) N
  have HCV := Lib.hid hcv
  clear hnq p0 p1 lp hcv
  obtain ⟨lp, p0, p1⟩ := HPT.out
  go_region_held3 (fun w' => w'.cell? ⟨L, 0, none⟩ = some (.int .i64 (N : Int)) ∧ w'.cell? ⟨L, 1, none⟩ = some (.slice a zz.length c)) (go_keep)
    (first
      | (go_at_call 58; refine (l06Table_any hN (HV.out.on (by first | with_reducible exact Below.refl _ _ | with_reducible exact (Below.refl _ _).drew)) HPI.out).mono ?_; rintro e wa ⟨vt, rs, rfl, ht, hba'⟩; have hba : Below W.heap.size W wa := (by first | with_reducible exact hba' | with_reducible exact undrew hba'); obtain ⟨gt, hgt⟩ := ht.toR; obtain ⟨_, _, _⟩ := HPT.out.on hba)
      | (go_at_call 57; refine (l06Covers_any hN HPI.out.lt (table_rch HPI.out) hgt HCV.out).mono ?_; rintro e wc ⟨vo, rfl, hoc, hbc'⟩; have hbc : Below W.heap.size W wc := hba.trans (hbc'.mono hba.size); obtain ⟨_, _, _⟩ := HPT.out.on hbc))
  have HO := Lib.hid (hoc.at (HCV.out.fit hN))
  have HV := Lib.hid (HV.out.on hbc)
  have HB := Lib.hid (HB.out.trans (hbc.mono HB.out.size))
  obtain ⟨oa, ocp, rfl⟩ := hoc.slice
  have HPT := Lib.hid (HPT.out.on hbc)
  clear hoc hbc hba hbc' ht hgt hba' lp p0 p1
  obtain ⟨lp, p0, p1⟩ := HPT.out
  cases TC with
  | false =>
    have hTf : T = false := by
      rcases HCV.out with ⟨h, _⟩ | ⟨_, _, h⟩
      · cases T with
        | false => rfl
        | true => exact absurd h (HT.out.1 rfl).1
      · simp at h
    subst hTf
    go_wp2_with fail
    go_ret
    exact ⟨rfl, HB.out⟩
  | true =>
    have HE : Hid (eqRB ZC zz = T) := by
      rcases HCV.out with ⟨_, _, h⟩ | ⟨hc, rfl, _⟩
      · simp at h
      · show decide (covL (esP zz) N = zz) = T
        by_cases e : covL (esP zz) N = zz
        · rw [decide_eq_true e]; exact (HT.out.2 ⟨hc, e⟩).symm
        · rw [decide_eq_false e]
          cases T with
          | false => rfl
          | true => exact absurd (HT.out.1 rfl).2 e
    go_wp2_with (go_at_call 82; refine (samePairs_is HO.out HV.out HE.out).mono ?_; rintro e w3 ⟨rfl, n3, rfl⟩)
    go_ret
    exact ⟨rfl, below_drewX HB.out n3⟩
theorem l06Ok_is {n : Int} {v : Value} {zz : List (List Int)} {L : Nat} {T : Bool} {w : World} (hp : PtP w L n v) (hv : RowsAt w v zz) (hT : OkPIs n zz T) :
    Calls Tryd.prog 52 #[.pointer (some ⟨L, 0, none⟩)] w fun e w' => e = .returned (.bool T) ∧ Below w.heap.size w w' := by
  by_cases h1 : 0 ≤ n ∧ n ≤ 12
  · obtain ⟨N, rfl⟩ : ∃ N : Nat, n = (N : Int) := ⟨_, (Int.toNat_of_nonneg h1.1).symm⟩
    by_cases h2 : zz.length ≤ 30
    · by_cases h3 : PairsIn (N : Int) zz
      · refine l06Ok_ok hp hv (by omega) h2 h3 ?_
        have e : OkP (N : Int) zz ↔ (¬ Circ (esP zz) N ∧ covL (esP zz) N = zz) := by
          constructor
          · rintro ⟨M, e, _, _, _, h⟩
            obtain rfl : N = M := by omega
            exact h
          · rintro ⟨h, h'⟩
            exact ⟨N, rfl, by omega, h2, h3, h, h'⟩
        rw [← e]
        rcases hT with ⟨rfl, h⟩ | ⟨rfl, h⟩
        · simp [h]
        · simp [h]
      · obtain rfl : T = false := by
          rcases hT with ⟨_, M, e, _, _, h, _⟩ | ⟨h, _⟩
          · exact absurd h h3
          · exact h
        exact l06Ok_pairs hp hv (by omega) h2 h3
    · obtain rfl : T = false := by
        rcases hT with ⟨_, M, e, _, h, _⟩ | ⟨h, _⟩
        · exact absurd h h2
        · exact h
      obtain ⟨a, c, rfl⟩ := hv.slice
      exact l06Ok_many hp h1 (by omega)
  · obtain rfl : T = false := by
      rcases hT with ⟨_, M, e, h, _⟩ | ⟨h, _⟩
      · exact absurd (by omega) h1
      · exact h
    exact l06Ok_no hp h1
set_option maxRecDepth 100000 in
theorem specVP_is {n : Int} {v : Value} {zz : List (List Int)} {T : Bool} {w : World} (hv : RowsAt w v zz) (hT : OkPIs n zz T) :
    Calls Tryd.prog 16 #[.agg #[.int .i64 n, v]] w fun e w' => e = .returned (.bool T) ∧ Below w.heap.size w w' := by
  have HV := Lib.hid hv
  have HT := Lib.hid hT
  obtain ⟨a, c, rfl⟩ := hv.slice
  clear hv hT
  go_enter Tryd.func16, Tryd.ntmps16
  go_wp2_with fail
  refine (l06Ok_is (PtP.new _ _ _ _) (HV.out.on (al1 (Below.refl _ _) _)) HT.out).mono ?_
  rintro e w1 ⟨rfl, hb⟩
  have HB := Lib.hid (up1 hb)
  clear hb
  go_wp2_with fail
  go_ret
  exact ⟨rfl, HB.out⟩
/-- A poset and a code. -/
def RetPI (s : Int) (zz : List (List Int)) (k : Int) (w : World) (e : Ending) (w' : World) : Prop := ∃ v, e = .returned (.tuple #[.agg #[.int .i64 s, v], .int .i64 k]) ∧ OwnRI w.heap.size w' v zz ∧ Below w.heap.size w w'
set_option maxRecDepth 100000 in
set_option maxHeartbeats 3200000 in
theorem specPof_b {n : Int} {v : Value} {zz : List (List Int)} {w : World} (hv : RowsAt w v zz) (h : ¬ ((0 ≤ n ∧ n ≤ 12) ∧ PairsIn n zz)) :
    Calls Tryd.prog 21 #[.int .i64 n, v] w fun e w' => RetPI 0 [] 2 w e w' := by
  have HV := Lib.hid hv
  have HH := Lib.hid h
  obtain ⟨a, c, rfl⟩ := hv.slice
  have P0 := PtP.new w 0 (.slice none 0 0) 27
  have PX := Lib.hid P0
  obtain ⟨l0, q0, q1⟩ := P0
  clear h hv
  by_cases h1 : 0 ≤ n ∧ n ≤ 12
  · obtain ⟨N, rfl⟩ : ∃ N : Nat, n = (N : Int) := ⟨_, (Int.toNat_of_nonneg h1.1).symm⟩
    have h9 : inB (N : Int) 0 12 = true := inB_yes (by omega) (by omega)
    have HP : Hid (PairsIn (N : Int) zz ↔ false = true) := ⟨fun e => absurd ⟨h1, e⟩ HH.out, fun e => by simp at e⟩
    have HN : Hid (N ≤ 12) := by show N ≤ 12; omega
    go_enter Tryd.func21, Tryd.ntmps21
    go_wp2_with (first | (go_at_call 55; refine (l00In_is _ h9).mono ?_; rintro e w3 ⟨rfl, rfl⟩) | (go_at_call 56; refine (l06Pairs_is HN.out (HV.out.on (al1 (Below.refl _ _) _)) HP.out).mono ?_; rintro e w3 ⟨rfl, rfl⟩))
    refine bodyPost_ret (v := .tuple #[.agg #[.int .i64 0, .slice none 0 0], .int .i64 2]) (by simp [results, Tryd.results21, go_sem]) rfl ⟨_, rfl, OwnRI.nul _ _, ?_⟩
    repeat (refine Below.setC ?_ (by omega) _)
    exact al1 (Below.refl _ _) _
  · have h9 : inB n 0 12 = false := inB_no (by omega)
    go_enter Tryd.func21, Tryd.ntmps21
    go_wp2_with (go_at_call 55; refine (l00In_is _ h9).mono ?_; rintro e w3 ⟨rfl, rfl⟩)
    refine bodyPost_ret (v := .tuple #[.agg #[.int .i64 0, .slice none 0 0], .int .i64 2]) (by simp [results, Tryd.results21, go_sem]) rfl ⟨_, rfl, OwnRI.nul _ _, ?_⟩
    repeat (refine Below.setC ?_ (by omega) _)
    exact al1 (Below.refl _ _) _
end Go.Proofs.YtdihcmohpbgmmaaDoor
