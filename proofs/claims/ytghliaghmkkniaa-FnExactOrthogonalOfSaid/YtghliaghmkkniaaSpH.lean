/-
  SpaceOf, ValidSpace and SameSpace of the model.
-/
import Derived.Test.YtghliaghmkkniaaSpG
import Derived.Test.YtghliaghmkkniaaSpE
namespace Go.Proofs.Ytghliaghmkkniaa
open Go.RowKit
open Lin
set_option linter.unusedVariables false
set_option linter.unusedSectionVars false

set_option maxRecDepth 100000 in
set_option maxHeartbeats 3200000 in
theorem specSO_a {p n : Int} {u : Value} {zz : List (List Int)} {w : World} (hu : RowsAt w u zz) (hp : prB p = false) :
    Calls Try.prog 62 #[.int .i64 p, .int .i64 n, u] w fun e w' => RetVC 0 0 [] 1 w e w' := by
  have HP := Lib.hid hp
  have HU := Lib.hid hu
  obtain ⟨a, c, rfl⟩ := hu.slice
  have Pr0 := PtV.new w 0 0 (.slice none 0 0) 45
  have Fr0 := Fz.new w #[.int .i64 0, .int .i64 0, .slice none 0 0] 45
  clear hu
  clear hp
  go_enter Try.func62, Try.ntmps62
  go_wp2_with fail
  refine (specLP_is _ HP.out).mono ?_
  rintro e w' ⟨rfl, rfl⟩
  have HB : Hid (Below w.heap.size w (w.alloc (.cells #[.int .i64 0, .int .i64 0, .slice none 0 0] 45))) := al1 (Below.refl _ _) _
  obtain ⟨lR, r0, r1, r2⟩ := Pr0
  have f0 := Fr0 0
  have f1 := Fr0 1
  have f2 := Fr0 2
  clear Fr0
  go_wp2_with fail
  refine bodyPost_ret (v := .tuple #[.agg #[.int .i64 0, .int .i64 0, .slice none 0 0], .int .i64 1]) (by simp [results, Try.results62, go_sem]) rfl ⟨_, rfl, OwnRI.nul _ _, ?_⟩
  repeat (refine Below.setC ?_ (by omega) _)
  exact HB.out
set_option maxRecDepth 100000 in
set_option maxHeartbeats 3200000 in
theorem specSO_b {p n : Int} {u : Value} {zz : List (List Int)} {w : World} (hu : RowsAt w u zz) (hp : prB p = true) (hn : inB n 0 32 = false) :
    Calls Try.prog 62 #[.int .i64 p, .int .i64 n, u] w fun e w' => RetVC 0 0 [] 1 w e w' := by
  have HP := Lib.hid hp
  have HN := Lib.hid hn
  have HU := Lib.hid hu
  obtain ⟨a, c, rfl⟩ := hu.slice
  have Pr0 := PtV.new w 0 0 (.slice none 0 0) 45
  have Fr0 := Fz.new w #[.int .i64 0, .int .i64 0, .slice none 0 0] 45
  clear hu
  clear hp hn
  go_enter Try.func62, Try.ntmps62
  go_wp2_with fail
  refine (specLP_is _ HP.out).mono ?_
  rintro e w' ⟨rfl, rfl⟩
  go_wp2_with fail
  refine (l00In_is _ HN.out).mono ?_
  rintro e w' ⟨rfl, rfl⟩
  have HB : Hid (Below w.heap.size w (w.alloc (.cells #[.int .i64 0, .int .i64 0, .slice none 0 0] 45))) := al1 (Below.refl _ _) _
  obtain ⟨lR, r0, r1, r2⟩ := Pr0
  have f0 := Fr0 0
  have f1 := Fr0 1
  have f2 := Fr0 2
  clear Fr0
  go_wp2_with fail
  refine bodyPost_ret (v := .tuple #[.agg #[.int .i64 0, .int .i64 0, .slice none 0 0], .int .i64 1]) (by simp [results, Try.results62, go_sem]) rfl ⟨_, rfl, OwnRI.nul _ _, ?_⟩
  repeat (refine Below.setC ?_ (by omega) _)
  exact HB.out
set_option maxRecDepth 100000 in
set_option maxHeartbeats 3200000 in
theorem specSO_c {p n : Int} {u : Value} {zz : List (List Int)} {w : World} (hu : RowsAt w u zz) (hp : IsPr p) (hn0 : 0 ≤ n) (hn : n ≤ 32) (hv : vsB p n zz = false) :
    Calls Try.prog 62 #[.int .i64 p, .int .i64 n, u] w fun e w' => RetVC 0 0 [] 1 w e w' := by
  have HPR := Lib.hid hp
  have HP := Lib.hid (prB_yes hp)
  have HN := Lib.hid (inB_yes hn0 hn)
  have HV := Lib.hid hv
  have HU := Lib.hid hu
  obtain ⟨a, c, rfl⟩ := hu.slice
  have Pr0 := PtV.new w 0 0 (.slice none 0 0) 45
  have Fr0 := Fz.new w #[.int .i64 0, .int .i64 0, .slice none 0 0] 45
  clear hu
  clear hp hv
  go_enter Try.func62, Try.ntmps62
  go_wp2_with fail
  refine (specLP_is _ HP.out).mono ?_
  rintro e w' ⟨rfl, rfl⟩
  go_wp2_with fail
  refine (l00In_is _ HN.out).mono ?_
  rintro e w' ⟨rfl, rfl⟩
  go_wp2_with fail
  refine (vectors_is (HU.out.on (al1 (Below.refl _ _) _)) HPR.out hn HV.out).mono ?_
  rintro e w' ⟨rfl, rfl⟩
  have HB : Hid (Below w.heap.size w (w.alloc (.cells #[.int .i64 0, .int .i64 0, .slice none 0 0] 45))) := al1 (Below.refl _ _) _
  obtain ⟨lR, r0, r1, r2⟩ := Pr0
  have f0 := Fr0 0
  have f1 := Fr0 1
  have f2 := Fr0 2
  clear Fr0
  go_wp2_with fail
  refine bodyPost_ret (v := .tuple #[.agg #[.int .i64 0, .int .i64 0, .slice none 0 0], .int .i64 1]) (by simp [results, Try.results62, go_sem]) rfl ⟨_, rfl, OwnRI.nul _ _, ?_⟩
  repeat (refine Below.setC ?_ (by omega) _)
  exact HB.out
set_option maxRecDepth 100000 in
set_option maxHeartbeats 3200000 in
theorem specSO_ok {q M : Nat} [NeZero q] {u : Value} {zz : List (List Int)} {w : World} (hu : RowsD w u zz) (hp : IsPr (q : Int)) (hM : M ≤ 32) (hv : Vecs q M zz) (hz : zz.length ≤ 1048576) (hzM : zz.length * M ≤ 1048576) :
    Calls Try.prog 62 #[.int .i64 (q : Int), .int .i64 (M : Int), u] w fun e w' => RetVC q M (bas q M zz) 0 w e w' := by
  have HPR := Lib.hid hp
  have HP := Lib.hid (prB_yes hp)
  have HN : Hid (inB (M : Int) 0 32 = true) := inB_yes (by omega) (by omega)
  have HV := Lib.hid (vsB_yes hv)
  have HU := Lib.hid hu.1
  have HRC := Lib.hid (hu.mat hv)
  have hM1 : (M : Int) ≤ 32 := by omega
  obtain ⟨a, c, rfl⟩ := hu.1.slice
  have Pr0 := PtV.new w 0 0 (.slice none 0 0) 45
  have Fr0 := Fz.new w #[.int .i64 0, .int .i64 0, .slice none 0 0] 45
  clear hu hp hv
  go_enter Try.func62, Try.ntmps62
  go_wp2_with fail
  refine (specLP_is _ HP.out).mono ?_
  rintro e w' ⟨rfl, rfl⟩
  go_wp2_with fail
  refine (l00In_is _ HN.out).mono ?_
  rintro e w' ⟨rfl, rfl⟩
  go_wp2_with fail
  refine (vectors_is (HU.out.on (al1 (Below.refl _ _) _)) HPR.out hM1 HV.out).mono ?_
  rintro e w' ⟨rfl, rfl⟩
  go_wp2_with fail
  refine (l04Space_any (HRC.out.on (al1 (Below.refl _ _) _)) HPR.out hz (by omega) hzM).mono ?_
  rintro e w1 ⟨v, rfl, ho, hb⟩
  have hs1 := hb.size
  rw [World.size_alloc] at hs1
  have HPt := Lib.hid (Pr0.on hb)
  have HF : Hid (Fz w1 w.heap.size) := Fr0.on (by simp) hb
  have HB := Lib.hid (up1 hb)
  have HO := Lib.hid ho
  obtain ⟨va, vc, rfl⟩ := ho.slice
  have HQ3 := Lib.hid (HPt.out.set3 q M (.slice va (basOf zz.length M (mat q zz)).length vc))
  obtain ⟨lR, r0, r1, r2⟩ := HPt.out
  have f0 := HF.out 0
  have f1 := HF.out 1
  have f2 := HF.out 2
  clear ho hb Pr0 Fr0
  go_wp2_with fail
  obtain ⟨_, q0, q1, q2⟩ := HQ3.out
  refine bodyPost_ret (v := .tuple #[.agg #[.int .i64 q, .int .i64 M, .slice va (basOf zz.length M (mat q zz)).length vc], .int .i64 0]) (by simp [results, Try.results62, go_sem, q0, q1, q2]) rfl ⟨_, rfl, ?_, ?_⟩
  · have h := HO.out
    rw [World.size_alloc] at h
    refine OwnRI.mono (B := w.heap.size + 1) ?_ (by omega)
    repeat (refine OwnRI.setOut ?_ (by omega) _)
    exact h
  · repeat (refine Below.setC ?_ (by omega) _)
    exact HB.out
theorem vecs_mul {q M : Nat} {zz : List (List Int)} (h : Vecs q M zz) : zz.length * M = tot zz := by
  induction zz with
  | nil => simp [tot]
  | cons z zz ih =>
    have h1 := h z (by simp)
    have h2 := ih (fun zs hz => h zs (by simp [hz]))
    have : z.length = M := by exact_mod_cast h1.1
    simp only [List.length_cons, tot]
    rw [Nat.succ_mul, h2, this]; omega
theorem specSO_any {p n P N k : Int} {u : Value} {zz Z : List (List Int)} {w : World} (hu : RowsD w u zz) (hf : FitR zz) (h : SpRes p n zz P N Z k) :
    Calls Try.prog 62 #[.int .i64 p, .int .i64 n, u] w fun e w' => RetVC P N Z k w e w' := by
  rcases h with ⟨h, rfl, rfl, rfl, rfl⟩ | ⟨rfl, rfl, rfl, q, M, _, rfl, rfl, hp, hM, hv, rfl⟩
  · by_cases hp : IsPr p
    · by_cases hn : 0 ≤ n ∧ n ≤ 32
      · exact specSO_c hu.1 hp hn.1 hn.2 (vsB_no fun hv => h ⟨hp, hn.1, hn.2, hv⟩)
      · exact specSO_b hu.1 (prB_yes hp) (inB_no (by omega))
    · exact specSO_a hu.1 (prB_no hp)
  · exact specSO_ok hu hp hM hv hf.1 (by rw [vecs_mul hv]; exact hf.2)
set_option maxRecDepth 100000 in
set_option maxHeartbeats 3200000 in
theorem l04Ok_a {p n : Int} {L : Nat} {u : Value} {zz : List (List Int)} {w : World} (hP : PtV w L p n u) (hu : RowsAt w u zz) (hp : prB p = false) :
    Calls Try.prog 111 #[.pointer (some ⟨L, 0, none⟩)] w fun e w' => e = .returned (.bool false) ∧ Below w.heap.size w w' := by
  have HP := Lib.hid hp
  clear hp
  have HU := Lib.hid hu
  have hlen : zz.length ≤ 1048576 := by obtain ⟨_, _, _, hl, _⟩ := hu; exact hl
  obtain ⟨a, c, rfl⟩ := hu.slice
  obtain ⟨lP, x0, x1, x2⟩ := hP
  clear hu
  go_enter Try.func111, Try.ntmps111
  go_wp2_with fail
  go_quiet ((go_at_call 122; exact quiet_left (specLP_is _ HP.out)))
  go_wp2_with fail
  go_ret
  exact ⟨rfl, below_drewX (Below.refl _ _) _⟩
set_option maxRecDepth 100000 in
set_option maxHeartbeats 3200000 in
theorem l04Ok_b {p n : Int} {L : Nat} {u : Value} {zz : List (List Int)} {w : World} (hP : PtV w L p n u) (hu : RowsAt w u zz) (hp : prB p = true) (hn : inB n 0 32 = false) :
    Calls Try.prog 111 #[.pointer (some ⟨L, 0, none⟩)] w fun e w' => e = .returned (.bool false) ∧ Below w.heap.size w w' := by
  have HP := Lib.hid hp
  have HN := Lib.hid hn
  clear hp hn
  have HU := Lib.hid hu
  have hlen : zz.length ≤ 1048576 := by obtain ⟨_, _, _, hl, _⟩ := hu; exact hl
  obtain ⟨a, c, rfl⟩ := hu.slice
  obtain ⟨lP, x0, x1, x2⟩ := hP
  clear hu
  go_enter Try.func111, Try.ntmps111
  go_wp2_with fail
  go_quiet ((first | (go_at_call 122; exact quiet_left (specLP_is _ HP.out)) | (go_at_call 124; exact quiet_left (l00In_is _ HN.out))))
  go_wp2_with fail
  go_ret
  exact ⟨rfl, below_drewX (Below.refl _ _) _⟩
set_option maxRecDepth 100000 in
set_option maxHeartbeats 3200000 in
theorem l04Ok_c {p n : Int} {L : Nat} {u : Value} {zz : List (List Int)} {w : World} (hP : PtV w L p n u) (hu : RowsAt w u zz) (hp : IsPr p) (hn0 : 0 ≤ n) (hn : n ≤ 32) (hg : decide ((zz.length : Int) > n) = true) :
    Calls Try.prog 111 #[.pointer (some ⟨L, 0, none⟩)] w fun e w' => e = .returned (.bool false) ∧ Below w.heap.size w w' := by
  have HP := Lib.hid (prB_yes hp)
  have HN := Lib.hid (inB_yes hn0 hn)
  clear hp
  have HU := Lib.hid hu
  have hlen : zz.length ≤ 1048576 := by obtain ⟨_, _, _, hl, _⟩ := hu; exact hl
  obtain ⟨a, c, rfl⟩ := hu.slice
  obtain ⟨lP, x0, x1, x2⟩ := hP
  clear hu
  go_enter Try.func111, Try.ntmps111
  go_wp2_with fail
  go_quiet ((first | (go_at_call 122; exact quiet_left (specLP_is _ HP.out)) | (go_at_call 124; exact quiet_left (l00In_is _ HN.out))))
  go_wp2_with fail
  go_ret
  exact ⟨rfl, below_drewX (Below.refl _ _) _⟩
set_option maxRecDepth 100000 in
set_option maxHeartbeats 3200000 in
theorem l04Ok_d {p n : Int} {L : Nat} {u : Value} {zz : List (List Int)} {w : World} (hP : PtV w L p n u) (hu : RowsAt w u zz) (hp : IsPr p) (hn0 : 0 ≤ n) (hn : n ≤ 32) (hg : decide ((zz.length : Int) > n) = false) (hv : vsB p n zz = false) :
    Calls Try.prog 111 #[.pointer (some ⟨L, 0, none⟩)] w fun e w' => e = .returned (.bool false) ∧ Below w.heap.size w w' := by
  have HPR := Lib.hid hp
  have HP := Lib.hid (prB_yes hp)
  have HN := Lib.hid (inB_yes hn0 hn)
  have HV := Lib.hid hv
  clear hp hv
  have HU := Lib.hid hu
  have hlen : zz.length ≤ 1048576 := by obtain ⟨_, _, _, hl, _⟩ := hu; exact hl
  obtain ⟨a, c, rfl⟩ := hu.slice
  obtain ⟨lP, x0, x1, x2⟩ := hP
  clear hu
  go_enter Try.func111, Try.ntmps111
  go_wp2_with fail
  go_quiet ((first | (go_at_call 122; exact quiet_left (specLP_is _ HP.out)) | (go_at_call 124; exact quiet_left (l00In_is _ HN.out)) | (go_at_call 141; exact quiet_left (vectors_is (HU.out.drewN _) HPR.out hn HV.out))))
  go_wp2_with fail
  go_ret
  exact ⟨rfl, below_drewX (Below.refl _ _) _⟩
set_option maxRecDepth 100000 in
set_option maxHeartbeats 6400000 in
theorem l04Ok_e {q M : Nat} [NeZero q] {L : Nat} {u : Value} {zz : List (List Int)} {w : World} (hP : PtV w L q M u) (hu : RowsD w u zz) (hp : IsPr (q : Int)) (hn : (M : Int) ≤ 32) (hg : decide ((zz.length : Int) > (M : Int)) = false) (hv : Vecs q M zz) :
    Calls Try.prog 111 #[.pointer (some ⟨L, 0, none⟩)] w fun e w' => e = .returned (.bool (eqRB (bas q M zz) zz)) ∧ Below w.heap.size w w' := by
  have HPR := Lib.hid hp
  have HP := Lib.hid (prB_yes hp)
  have HN : Hid (inB (M : Int) 0 32 = true) := inB_yes (by omega) hn
  have HV := Lib.hid (vsB_yes hv)
  have HU := Lib.hid hu.1
  have HRC := Lib.hid (hu.mat hv)
  have hle : zz.length ≤ M := by
    have : ¬ ((zz.length : Int) > (M : Int)) := by simpa using hg
    omega
  have hmul : zz.length * M ≤ 1048576 := Nat.le_trans (Nat.mul_le_mul hle (Nat.le_refl M)) (Nat.le_trans (Nat.mul_le_mul (show M ≤ 32 by omega) (show M ≤ 32 by omega)) (by decide))
  have HFB := Lib.hid (fit_bas (fd_of hp) (show M ≤ 1024 by omega) zz)
  have HPT := Lib.hid hP
  obtain ⟨a, c, rfl⟩ := hu.1.slice
  obtain ⟨lP, x0, x1, x2⟩ := hP
  clear hu hp hv
  go_enter Try.func111, Try.ntmps111
  go_wp2_with fail
  go_quiet ((first | (go_at_call 122; exact quiet_left (specLP_is _ HP.out)) | (go_at_call 124; exact quiet_left (l00In_is _ HN.out)) | (go_at_call 141; exact quiet_left (vectors_is (HU.out.drewN _) HPR.out hn HV.out))))
  go_wp2_with fail
  rename_i dn
  generalize hW : w.drewN _ = W0
  have hb0 : Below w.heap.size w W0 := by rw [← hW]; exact below_drewX (Below.refl _ _) _
  have HB := Lib.hid hb0
  have HPT := Lib.hid (HPT.out.on hb0)
  clear hW hb0 lP x0 x1 x2
  obtain ⟨lP, x0, x1, x2⟩ := HPT.out
  go_region_held3 (fun w' => w'.cell? ⟨L, 0, none⟩ = some (.int .i64 (q : Int)) ∧ w'.cell? ⟨L, 1, none⟩ = some (.int .i64 (M : Int)) ∧ w'.cell? ⟨L, 2, none⟩ = some (.slice a zz.length c)) (go_keep)
    (first
      | (go_at_call 172; refine (l04Basis_any (HRC.out.on HB.out).drew HPR.out (by omega) (by omega) hmul).mono ?_; rintro e wa ⟨va, rfl, hoa, hba'⟩; have hba : Below W0.heap.size W0 wa := (by first | exact hba' | exact undrew hba' | exact up1 hba' | exact up1 (undrew hba') | exact undrew (up1 hba')); obtain ⟨vaa, vac, rfl⟩ := hoa.slice; obtain ⟨_, _, _, _⟩ := HPT.out.on hba)
      | (go_at_call 136; have hx := sameRows_any (hoa.at HFB.out) (HU.out.on (HB.out.trans (hba.mono HB.out.size))); refine hx.mono ?_; rintro e wb ⟨rfl, nq, rfl⟩))
  all_goals
    have HB2 := Lib.hid (HB.out.trans ((below_drewX hba nq).mono HB.out.size))
    go_wp2_with fail
    go_ret
    exact ⟨rfl, HB2.out⟩
theorem l04Ok_is {p n : Int} {L : Nat} {u : Value} {zz : List (List Int)} {T : Bool} {w : World} (hP : PtV w L p n u) (hu : RowsD w u zz) (hT : T = vB p n zz) :
    Calls Try.prog 111 #[.pointer (some ⟨L, 0, none⟩)] w fun e w' => e = .returned (.bool T) ∧ Below w.heap.size w w' := by
  subst hT
  by_cases hp : IsPr p
  · by_cases hn : 0 ≤ n ∧ n ≤ 32
    · obtain ⟨hn0, hn⟩ := hn
      by_cases hg : (zz.length : Int) > n
      · have hv : ¬ VOk p n zz := fun h => by
          obtain ⟨q, i, N, r, A, hA⟩ := h.form
          have h1 := hA.n
          have h2 := hA.len
          have h3 := hA.r32
          omega
        rw [vB_no hv]
        exact l04Ok_c hP hu.1 hp hn0 hn (by simpa using hg)
      · by_cases hv : Vecs p n zz
        · obtain ⟨q, rfl⟩ := Int.eq_ofNat_of_zero_le (show 0 ≤ p by have := hp.1; omega)
          obtain ⟨M, rfl⟩ := Int.eq_ofNat_of_zero_le hn0
          have hz : NeZero q := ⟨by have := hp.1; omega⟩
          have e : vB (q : Int) (M : Int) zz = eqRB (bas q M zz) zz := by
            by_cases hb : bas q M zz = zz
            · rw [vB_yes ⟨hp, hn0, hn, hv, fun q' M' _ h1 h2 => by
                have e1 : q' = q := by omega
                have e2 : M' = M := by omega
                subst e1 e2
                exact hb⟩]
              simp [eqRB, hb]
            · rw [vB_no fun h => hb (h.2.2.2.2 q M hz rfl rfl)]
              simp [eqRB, hb]
          rw [e]
          exact l04Ok_e hP hu hp hn (by simpa using hg) hv
        · rw [vB_no fun h => hv h.2.2.2.1]
          exact l04Ok_d hP hu.1 hp hn0 hn (by simpa using hg) (vsB_no hv)
    · rw [vB_no fun h => hn ⟨h.2.1, h.2.2.1⟩]
      exact l04Ok_b hP hu.1 (prB_yes hp) (inB_no (by omega))
  · rw [vB_no fun h => hp h.1]
    exact l04Ok_a hP hu.1 (prB_no hp)
set_option maxRecDepth 100000 in
set_option maxHeartbeats 1600000 in
theorem specVS_is {p n : Int} {u : Value} {zz : List (List Int)} {T : Bool} {w : World} (hu : RowsD w u zz) (h : T = vB p n zz) :
    Calls Try.prog 37 #[.agg #[.int .i64 p, .int .i64 n, u]] w fun e w' => e = .returned (.bool T) ∧ Below w.heap.size w w' := by
  have HU := Lib.hid hu
  have HT := Lib.hid h
  obtain ⟨a, c, rfl⟩ := hu.1.slice
  have Pa := PtV.new w p n (.slice a zz.length c) 45
  have HPA := Lib.hid Pa
  clear hu h Pa
  go_enter Try.func37, Try.ntmps37
  go_wp2_with fail
  refine (l04Ok_is HPA.out (HU.out.on (al1 (Below.refl _ _) _)) HT.out).mono ?_
  rintro e w1 ⟨rfl, hb⟩
  have HB := Lib.hid (up1 hb)
  clear hb
  go_wp2_with fail
  go_ret
  exact ⟨rfl, HB.out⟩
set_option maxRecDepth 100000 in
set_option maxHeartbeats 1600000 in
theorem specSS_p {p n q m : Int} {u v : Value} {xx yy : List (List Int)} {w : World} (hu : RowsAt w u xx) (hv : RowsAt w v yy) (e0 : (p == q) = false) :
    Calls Try.prog 59 #[.agg #[.int .i64 p, .int .i64 n, u], .agg #[.int .i64 q, .int .i64 m, v]] w fun e w' => e = .returned (.bool false) ∧ Below w.heap.size w w' := by
  have HU := Lib.hid hu
  have HV := Lib.hid hv
  obtain ⟨a1, c1, rfl⟩ := hu.slice
  obtain ⟨a2, c2, rfl⟩ := hv.slice
  clear hu hv
  go_enter Try.func59, Try.ntmps59
  go_wp2_with fail
  go_ret
  exact ⟨rfl, al1 (al1 (Below.refl _ _) _) _⟩
set_option maxRecDepth 100000 in
set_option maxHeartbeats 1600000 in
theorem specSS_n {p n q m : Int} {u v : Value} {xx yy : List (List Int)} {w : World} (hu : RowsAt w u xx) (hv : RowsAt w v yy) (e0 : (p == q) = true) (e1 : (n == m) = false) :
    Calls Try.prog 59 #[.agg #[.int .i64 p, .int .i64 n, u], .agg #[.int .i64 q, .int .i64 m, v]] w fun e w' => e = .returned (.bool false) ∧ Below w.heap.size w w' := by
  have HU := Lib.hid hu
  have HV := Lib.hid hv
  obtain ⟨a1, c1, rfl⟩ := hu.slice
  obtain ⟨a2, c2, rfl⟩ := hv.slice
  clear hu hv
  go_enter Try.func59, Try.ntmps59
  go_wp2_with fail
  go_ret
  exact ⟨rfl, al1 (al1 (Below.refl _ _) _) _⟩
set_option maxRecDepth 100000 in
set_option maxHeartbeats 1600000 in
theorem specSS_a {p n q m : Int} {u v : Value} {xx yy : List (List Int)} {w : World} (hu : RowsAt w u xx) (hv : RowsAt w v yy) (e0 : (p == q) = true) (e1 : (n == m) = true) :
    Calls Try.prog 59 #[.agg #[.int .i64 p, .int .i64 n, u], .agg #[.int .i64 q, .int .i64 m, v]] w fun e w' => e = .returned (.bool (eqRB xx yy)) ∧ Below w.heap.size w w' := by
  have HU := Lib.hid hu
  have HV := Lib.hid hv
  obtain ⟨a1, c1, rfl⟩ := hu.slice
  obtain ⟨a2, c2, rfl⟩ := hv.slice
  clear hu hv
  go_enter Try.func59, Try.ntmps59
  go_wp2_with fail
  refine (sameRows_any (HU.out.on (al1 (al1 (Below.refl _ _) _) _)) (HV.out.on (al1 (al1 (Below.refl _ _) _) _))).mono ?_
  rintro e w1 ⟨rfl, nq, rfl⟩
  go_wp2_with fail
  go_ret
  exact ⟨rfl, below_drewX (al1 (al1 (Below.refl _ _) _) _) nq⟩
theorem specSS_is {p n q m : Int} {u v : Value} {xx yy : List (List Int)} {T : Bool} {w : World} (hu : RowsAt w u xx) (hv : RowsAt w v yy) (h : T = ssB p n xx q m yy) :
    Calls Try.prog 59 #[.agg #[.int .i64 p, .int .i64 n, u], .agg #[.int .i64 q, .int .i64 m, v]] w fun e w' => e = .returned (.bool T) ∧ Below w.heap.size w w' := by
  subst h
  by_cases e0 : p = q
  · by_cases e1 : n = m
    · have e : ssB p n xx q m yy = eqRB xx yy := by unfold ssB eqRB; simp [e0, e1]
      rw [e]
      exact specSS_a hu hv (by simpa using e0) (by simpa using e1)
    · rw [ssB_no fun h => e1 h.2.1]
      exact specSS_n hu hv (by simpa using e0) (by simpa using e1)
  · rw [ssB_no fun h => e0 h.1]
    exact specSS_p hu hv (by simpa using e0)
end Go.Proofs.Ytghliaghmkkniaa
