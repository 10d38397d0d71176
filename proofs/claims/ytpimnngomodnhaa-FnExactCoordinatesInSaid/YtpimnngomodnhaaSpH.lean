/-
  SpaceOf, ValidSpace and SameSpace of the model.
-/
import Derived.Test.YtpimnngomodnhaaSpG
import Derived.Test.YtpimnngomodnhaaSpE
namespace Go.Proofs.Ytpimnngomodnhaa
open Go.RowKit
open Lin
set_option linter.unusedVariables false
set_option linter.unusedSectionVars false

theorem vecs_mul {q M : Nat} {zz : List (List Int)} (h : Vecs q M zz) : zz.length * M = tot zz := by
  induction zz with
  | nil => simp [tot]
  | cons z zz ih =>
    have h1 := h z (by simp)
    have h2 := ih (fun zs hz => h zs (by simp [hz]))
    have : z.length = M := by exact_mod_cast h1.1
    simp only [List.length_cons, tot]
    rw [Nat.succ_mul, h2, this]; omega
set_option maxRecDepth 100000 in
set_option maxHeartbeats 3200000 in
theorem l04Ok_a {p n : Int} {L : Nat} {u : Value} {zz : List (List Int)} {w : World} (hP : PtV w L p n u) (hu : RowsAt w u zz) (hp : prB p = false) :
    Calls Try.prog 49 #[.pointer (some ⟨L, 0, none⟩)] w fun e w' => e = .returned (.bool false) ∧ Below w.heap.size w w' := by
  have HP := Lib.hid hp
  clear hp
  have HU := Lib.hid hu
  have hlen : zz.length ≤ 1048576 := by obtain ⟨_, _, _, hl, _⟩ := hu; exact hl
  obtain ⟨a, c, rfl⟩ := hu.slice
  obtain ⟨lP, x0, x1, x2⟩ := hP
  clear hu
  go_enter Try.func49, Try.ntmps49
  go_wp2_with fail
  go_quiet ((go_at_call 56; exact quiet_left (specLP_is _ HP.out)))
  go_wp2_with fail
  go_ret
  exact ⟨rfl, below_drewX (Below.refl _ _) _⟩
set_option maxRecDepth 100000 in
set_option maxHeartbeats 3200000 in
theorem l04Ok_b {p n : Int} {L : Nat} {u : Value} {zz : List (List Int)} {w : World} (hP : PtV w L p n u) (hu : RowsAt w u zz) (hp : prB p = true) (hn : inB n 0 32 = false) :
    Calls Try.prog 49 #[.pointer (some ⟨L, 0, none⟩)] w fun e w' => e = .returned (.bool false) ∧ Below w.heap.size w w' := by
  have HP := Lib.hid hp
  have HN := Lib.hid hn
  clear hp hn
  have HU := Lib.hid hu
  have hlen : zz.length ≤ 1048576 := by obtain ⟨_, _, _, hl, _⟩ := hu; exact hl
  obtain ⟨a, c, rfl⟩ := hu.slice
  obtain ⟨lP, x0, x1, x2⟩ := hP
  clear hu
  go_enter Try.func49, Try.ntmps49
  go_wp2_with fail
  go_quiet ((first | (go_at_call 56; exact quiet_left (specLP_is _ HP.out)) | (go_at_call 58; exact quiet_left (l00In_is _ HN.out))))
  go_wp2_with fail
  go_ret
  exact ⟨rfl, below_drewX (Below.refl _ _) _⟩
set_option maxRecDepth 100000 in
set_option maxHeartbeats 3200000 in
theorem l04Ok_c {p n : Int} {L : Nat} {u : Value} {zz : List (List Int)} {w : World} (hP : PtV w L p n u) (hu : RowsAt w u zz) (hp : IsPr p) (hn0 : 0 ≤ n) (hn : n ≤ 32) (hg : decide ((zz.length : Int) > n) = true) :
    Calls Try.prog 49 #[.pointer (some ⟨L, 0, none⟩)] w fun e w' => e = .returned (.bool false) ∧ Below w.heap.size w w' := by
  have HP := Lib.hid (prB_yes hp)
  have HN := Lib.hid (inB_yes hn0 hn)
  clear hp
  have HU := Lib.hid hu
  have hlen : zz.length ≤ 1048576 := by obtain ⟨_, _, _, hl, _⟩ := hu; exact hl
  obtain ⟨a, c, rfl⟩ := hu.slice
  obtain ⟨lP, x0, x1, x2⟩ := hP
  clear hu
  go_enter Try.func49, Try.ntmps49
  go_wp2_with fail
  go_quiet ((first | (go_at_call 56; exact quiet_left (specLP_is _ HP.out)) | (go_at_call 58; exact quiet_left (l00In_is _ HN.out))))
  go_wp2_with fail
  go_ret
  exact ⟨rfl, below_drewX (Below.refl _ _) _⟩
set_option maxRecDepth 100000 in
set_option maxHeartbeats 3200000 in
theorem l04Ok_d {p n : Int} {L : Nat} {u : Value} {zz : List (List Int)} {w : World} (hP : PtV w L p n u) (hu : RowsAt w u zz) (hp : IsPr p) (hn0 : 0 ≤ n) (hn : n ≤ 32) (hg : decide ((zz.length : Int) > n) = false) (hv : vsB p n zz = false) :
    Calls Try.prog 49 #[.pointer (some ⟨L, 0, none⟩)] w fun e w' => e = .returned (.bool false) ∧ Below w.heap.size w w' := by
  have HPR := Lib.hid hp
  have HP := Lib.hid (prB_yes hp)
  have HN := Lib.hid (inB_yes hn0 hn)
  have HV := Lib.hid hv
  clear hp hv
  have HU := Lib.hid hu
  have hlen : zz.length ≤ 1048576 := by obtain ⟨_, _, _, hl, _⟩ := hu; exact hl
  obtain ⟨a, c, rfl⟩ := hu.slice
  obtain ⟨lP, x0, x1, x2⟩ := hP
  clear hu
  go_enter Try.func49, Try.ntmps49
  go_wp2_with fail
  go_quiet ((first | (go_at_call 56; exact quiet_left (specLP_is _ HP.out)) | (go_at_call 58; exact quiet_left (l00In_is _ HN.out)) | (go_at_call 88; exact quiet_left (vectors_is (HU.out.drewN _) HPR.out hn HV.out))))
  go_wp2_with fail
  go_ret
  exact ⟨rfl, below_drewX (Below.refl _ _) _⟩
set_option maxRecDepth 100000 in
set_option maxHeartbeats 6400000 in
theorem l04Ok_e {q M : Nat} [NeZero q] {L : Nat} {u : Value} {zz : List (List Int)} {w : World} (hP : PtV w L q M u) (hu : RowsD w u zz) (hp : IsPr (q : Int)) (hn : (M : Int) ≤ 32) (hg : decide ((zz.length : Int) > (M : Int)) = false) (hv : Vecs q M zz) :
    Calls Try.prog 49 #[.pointer (some ⟨L, 0, none⟩)] w fun e w' => e = .returned (.bool (eqRB (bas q M zz) zz)) ∧ Below w.heap.size w w' := by
  have HPR := Lib.hid hp
  have HP := Lib.hid (prB_yes hp)
  have HN : Hid (inB (M : Int) 0 32 = true) := inB_yes (by omega) hn
  have HV := Lib.hid (vsB_yes hv)
  have HU := Lib.hid hu.1
  have HRC := Lib.hid (hu.mat hv)
  have hle : zz.length ≤ M := by
    have : ¬ ((zz.length : Int) > (M : Int)) := by simpa using hg
    omega
  have hmul : zz.length * M ≤ 1048576 := Nat.le_trans (Nat.mul_le_mul hle (Nat.le_refl M)) (Nat.le_trans (Nat.mul_le_mul (show M ≤ 32 by omega) (show M ≤ 32 by omega)) (by decide))
  have HFB := Lib.hid (fit_bas (fd_of hp) (show M ≤ 1024 by omega) zz)
  have HPT := Lib.hid hP
  obtain ⟨a, c, rfl⟩ := hu.1.slice
  obtain ⟨lP, x0, x1, x2⟩ := hP
  clear hu hp hv
  go_enter Try.func49, Try.ntmps49
  go_wp2_with fail
  go_quiet ((first | (go_at_call 56; exact quiet_left (specLP_is _ HP.out)) | (go_at_call 58; exact quiet_left (l00In_is _ HN.out)) | (go_at_call 88; exact quiet_left (vectors_is (HU.out.drewN _) HPR.out hn HV.out))))
  go_wp2_with fail
  rename_i dn
  generalize hW : w.drewN _ = W0
  have hb0 : Below w.heap.size w W0 := by rw [← hW]; exact below_drewX (Below.refl _ _) _
  have HB := Lib.hid hb0
  have HPT := Lib.hid (HPT.out.on hb0)
  clear hW hb0 lP x0 x1 x2
  obtain ⟨lP, x0, x1, x2⟩ := HPT.out
  go_region_held3 (fun w' => w'.cell? ⟨L, 0, none⟩ = some (.int .i64 (q : Int)) ∧ w'.cell? ⟨L, 1, none⟩ = some (.int .i64 (M : Int)) ∧ w'.cell? ⟨L, 2, none⟩ = some (.slice a zz.length c)) (go_keep)
    (first
      | (go_at_call 90; refine (l04Basis_any (HRC.out.on HB.out).drew HPR.out (by omega) (by omega) hmul).mono ?_; rintro e wa ⟨va, rfl, hoa, hba'⟩; have hba : Below W0.heap.size W0 wa := (by first | exact hba' | exact undrew hba' | exact up1 hba' | exact up1 (undrew hba') | exact undrew (up1 hba')); obtain ⟨vaa, vac, rfl⟩ := hoa.slice; obtain ⟨_, _, _, _⟩ := HPT.out.on hba)
      | (go_at_call 89; have hx := sameRows_any (hoa.at HFB.out) (HU.out.on (HB.out.trans (hba.mono HB.out.size))); refine hx.mono ?_; rintro e wb ⟨rfl, nq, rfl⟩))
  all_goals
    have HB2 := Lib.hid (HB.out.trans ((below_drewX hba nq).mono HB.out.size))
    go_wp2_with fail
    go_ret
    exact ⟨rfl, HB2.out⟩
theorem l04Ok_is {p n : Int} {L : Nat} {u : Value} {zz : List (List Int)} {T : Bool} {w : World} (hP : PtV w L p n u) (hu : RowsD w u zz) (hT : T = vB p n zz) :
    Calls Try.prog 49 #[.pointer (some ⟨L, 0, none⟩)] w fun e w' => e = .returned (.bool T) ∧ Below w.heap.size w w' := by
  subst hT
  by_cases hp : IsPr p
  · by_cases hn : 0 ≤ n ∧ n ≤ 32
    · obtain ⟨hn0, hn⟩ := hn
      by_cases hg : (zz.length : Int) > n
      · have hv : ¬ VOk p n zz := fun h => by
          obtain ⟨q, i, N, r, A, hA⟩ := h.form
          have h1 := hA.n
          have h2 := hA.len
          have h3 := hA.r32
          omega
        rw [vB_no hv]
        exact l04Ok_c hP hu.1 hp hn0 hn (by simpa using hg)
      · by_cases hv : Vecs p n zz
        · obtain ⟨q, rfl⟩ := Int.eq_ofNat_of_zero_le (show 0 ≤ p by have := hp.1; omega)
          obtain ⟨M, rfl⟩ := Int.eq_ofNat_of_zero_le hn0
          have hz : NeZero q := ⟨by have := hp.1; omega⟩
          have e : vB (q : Int) (M : Int) zz = eqRB (bas q M zz) zz := by
            by_cases hb : bas q M zz = zz
            · rw [vB_yes ⟨hp, hn0, hn, hv, fun q' M' _ h1 h2 => by
                have e1 : q' = q := by omega
                have e2 : M' = M := by omega
                subst e1 e2
                exact hb⟩]
              simp [eqRB, hb]
            · rw [vB_no fun h => hb (h.2.2.2.2 q M hz rfl rfl)]
              simp [eqRB, hb]
          rw [e]
          exact l04Ok_e hP hu hp hn (by simpa using hg) hv
        · rw [vB_no fun h => hv h.2.2.2.1]
          exact l04Ok_d hP hu.1 hp hn0 hn (by simpa using hg) (vsB_no hv)
    · rw [vB_no fun h => hn ⟨h.2.1, h.2.2.1⟩]
      exact l04Ok_b hP hu.1 (prB_yes hp) (inB_no (by omega))
  · rw [vB_no fun h => hp h.1]
    exact l04Ok_a hP hu.1 (prB_no hp)
set_option maxRecDepth 100000 in
set_option maxHeartbeats 1600000 in
theorem specVS_is {p n : Int} {u : Value} {zz : List (List Int)} {T : Bool} {w : World} (hu : RowsD w u zz) (h : T = vB p n zz) :
    Calls Try.prog 13 #[.agg #[.int .i64 p, .int .i64 n, u]] w fun e w' => e = .returned (.bool T) ∧ Below w.heap.size w w' := by
  have HU := Lib.hid hu
  have HT := Lib.hid h
  obtain ⟨a, c, rfl⟩ := hu.1.slice
  have Pa := PtV.new w p n (.slice a zz.length c) 32
  have HPA := Lib.hid Pa
  clear hu h Pa
  go_enter Try.func13, Try.ntmps13
  go_wp2_with fail
  refine (l04Ok_is HPA.out (HU.out.on (al1 (Below.refl _ _) _)) HT.out).mono ?_
  rintro e w1 ⟨rfl, hb⟩
  have HB := Lib.hid (up1 hb)
  clear hb
  go_wp2_with fail
  go_ret
  exact ⟨rfl, HB.out⟩
end Go.Proofs.Ytpimnngomodnhaa
