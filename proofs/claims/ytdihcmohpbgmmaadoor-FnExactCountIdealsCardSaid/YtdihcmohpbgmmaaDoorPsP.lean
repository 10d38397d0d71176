/-
  IsBelow of the model and of the program.
-/
import Derived.Test.YtdihcmohpbgmmaaDoorPsO
namespace Go.Proofs.YtdihcmohpbgmmaaDoor
open Go.RowKit
set_option linter.unusedVariables false
set_option linter.unusedSimpArgs false

/-- What IsBelow answers. -/
def BelIs (n : Int) (zz : List (List Int)) (a b : Int) (T : Bool) : Prop := T = true ↔ (OkP n zz ∧ (0 ≤ a ∧ a < n) ∧ (0 ≤ b ∧ b < n) ∧ Rch (esP zz) a.toNat b.toNat)
theorem bel_has (n : Int) (zz : List (List Int)) (a b : Int) : ∃ T, BelIs n zz a b T := by
  by_cases h : OkP n zz ∧ (0 ≤ a ∧ a < n) ∧ (0 ≤ b ∧ b < n) ∧ Rch (esP zz) a.toNat b.toNat
  · exact ⟨true, ⟨fun _ => h, fun _ => rfl⟩⟩
  · exact ⟨false, ⟨fun e => by simp at e, fun e => absurd e h⟩⟩
theorem OkP.nat {n : Int} {zz : List (List Int)} (h : OkP n zz) : ∃ N : Nat, n = (N : Int) ∧ N ≤ 12 ∧ PairsIn (N : Int) zz := by
  obtain ⟨N, rfl, h1, _, h2, _⟩ := h
  exact ⟨N, rfl, h1, h2⟩
set_option maxRecDepth 100000 in
theorem l06El_is {n a : Int} {v : Value} {L : Nat} {T : Bool} {w : World} (hp : PtP w L n v) (hn : 0 ≤ n ∧ n ≤ 12) (hT : inB a 0 (n - 1) = T) :
    Calls Tryd.prog 65 #[.pointer (some ⟨L, 0, none⟩), .int .i64 a] w fun e w' => e = .returned (.bool T) ∧ w = w' := by
  have HT := Lib.hid hT
  obtain ⟨lp, p0, p1⟩ := hp
  obtain ⟨n0, n1⟩ := hn
  clear hT
  go_enter Tryd.func65, Tryd.ntmps65
  go_wp2_with fail
  refine (l00In_is _ HT.out).mono ?_
  rintro e w3 ⟨rfl, rfl⟩
  go_wp2_with fail
  go_ret
  exact ⟨rfl, by first | rfl | trivial⟩
set_option maxRecDepth 100000 in
theorem l06Ord_any {N : Nat} {v : Value} {zz : List (List Int)} {L : Nat} {w : World} (hp : PtP w L (N : Int) v) (hv : RowsAt w v zz) (hN : N ≤ 12) (h : PairsIn (N : Int) zz) :
    Calls Tryd.prog 66 #[.pointer (some ⟨L, 0, none⟩)] w fun e w' => RetTab N (wT (esP zz) N) w e w' := by
  have HV := Lib.hid hv
  have HPI := Lib.hid h
  obtain ⟨a, c, rfl⟩ := hv.slice
  have HPT := Lib.hid hp
  obtain ⟨lp, p0, p1⟩ := hp
  clear hv h
  go_enter Tryd.func66, Tryd.ntmps66
  go_wp2_with fail
  go_region_held3 (fun w' => w'.cell? ⟨L, 0, none⟩ = some (.int .i64 (N : Int)) ∧ w'.cell? ⟨L, 1, none⟩ = some (.slice a zz.length c)) (go_keep)
    (first
      | (go_at_call 58; refine (l06Table_any hN (HV.out.on (by first | with_reducible exact Below.refl _ _ | with_reducible exact (Below.refl _ _).drew)) HPI.out).mono ?_; rintro e wa ⟨vt, rs, rfl, ht, hba'⟩; have hba : Below w.heap.size w wa := (by first | with_reducible exact hba' | with_reducible exact undrew hba'); obtain ⟨_, _, _⟩ := HPT.out.on hba))
  have HTB : Hid (TabB w.heap.size wa vt N N (wT (esP zz) N) rs) := ht
  obtain ⟨ta, tc, rfl⟩ := ht.slice
  have HB := Lib.hid hba
  clear ht hba hba'
  go_wp2_with fail
  go_ret
  exact ⟨_, rs, rfl, HTB.out, HB.out⟩
set_option maxRecDepth 100000 in
set_option maxHeartbeats 3200000 in
theorem specBel_is {n a b : Int} {v : Value} {zz : List (List Int)} {T : Bool} {w : World} (hv : RowsAt w v zz) (hT : BelIs n zz a b T) :
    Calls Tryd.prog 28 #[.agg #[.int .i64 n, v], .int .i64 a, .int .i64 b] w fun e w' => e = .returned (.bool T) ∧ Below w.heap.size w w' := by
  have HV := Lib.hid hv
  have HT := Lib.hid hT
  obtain ⟨va, vc, rfl⟩ := hv.slice
  have P0 : Hid (PtP (w.alloc (.cells #[.int .i64 n, .slice va zz.length vc] 27)) w.heap.size n (.slice va zz.length vc)) := PtP.new _ _ _ _
  have B0 : Hid (Below w.heap.size w (w.alloc (.cells #[.int .i64 n, .slice va zz.length vc] 27))) := al1 (Below.refl _ _) _
  clear hv hT
  have fin : ∀ h : ¬ (OkP n zz ∧ (0 ≤ a ∧ a < n) ∧ (0 ≤ b ∧ b < n) ∧ Rch (esP zz) a.toNat b.toNat), T = false := fun h => by
    cases T with
    | false => rfl
    | true => exact absurd (HT.out.1 rfl) h
  have HFN := Lib.hid fin
  clear fin
  by_cases ho : OkP n zz
  · obtain ⟨N, rfl, hN, hpi⟩ := ho.nat
    have HOK := Lib.hid ho
    have HPI := Lib.hid hpi
    clear ho hpi
    by_cases ha : 0 ≤ a ∧ a < (N : Int)
    · obtain ⟨na, rfl⟩ : ∃ m : Nat, a = (m : Int) := ⟨_, (Int.toNat_of_nonneg ha.1).symm⟩
      have h1 : inB (na : Int) 0 ((N : Int) - 1) = true := inB_yes (by omega) (by omega)
      have H1 := Lib.hid h1
      clear h1
      by_cases hb : 0 ≤ b ∧ b < (N : Int)
      · obtain ⟨nb, rfl⟩ : ∃ m : Nat, b = (m : Int) := ⟨_, (Int.toNat_of_nonneg hb.1).symm⟩
        have h2 : inB (nb : Int) 0 ((N : Int) - 1) = true := inB_yes (by omega) (by omega)
        have H2 := Lib.hid h2
        have hna : na < N := by omega
        have hnb : nb < N := by omega
        have HR : Hid (wT (esP zz) N na nb = T) := by
          show _ = _
          have h := table_rch HPI.out na nb hna
          have h3 := HT.out
          unfold BelIs at h3
          rw [Int.toNat_natCast, Int.toNat_natCast] at h3
          cases T with
          | true => exact h.2 (h3.1 rfl).2.2.2
          | false =>
            rw [← Bool.not_eq_true]
            intro e
            have := h3.2 ⟨HOK.out, ha, hb, h.1 e⟩
            simp at this
        have b0 : 0 ≤ (nb : Int) := hb.1
        have b1 : (nb : Int) < (N : Int) := hb.2
        have a0 : 0 ≤ (na : Int) := ha.1
        have a1 : (na : Int) < (N : Int) := ha.2
        clear h2 ha hb
        go_enter Tryd.func28, Tryd.ntmps28
        go_wp2_with (first | (go_at_call 52; refine (l06Ok_is P0.out (HV.out.on B0.out) (.inl ⟨rfl, HOK.out⟩)).mono ?_; rintro e w1 ⟨rfl, hb1⟩; have P1 := Lib.hid (P0.out.on hb1); have HB1 := Lib.hid (B0.out.trans (hb1.mono B0.out.size)); have HV1 := Lib.hid (HV.out.on HB1.out); clear hb1) | (go_at_call 65; refine Hid.out ?_))
        refine Lib.hid ?_
        refine (l06El_is (a := (na : Int)) P1.out (by omega) H1.out).mono ?_
        rintro e w3 ⟨rfl, rfl⟩
        go_wp2_with (go_at_call 65; refine Hid.out ?_)
        refine Lib.hid ?_
        refine (l06El_is (a := (nb : Int)) P1.out (by omega) H2.out).mono ?_
        rintro e w3 ⟨rfl, rfl⟩
        go_wp2_with (go_at_call 66; refine Hid.out ?_)
        refine Lib.hid ?_
        refine (l06Ord_any P1.out HV1.out hN HPI.out).mono ?_
        rintro e w5 ⟨vt, rs, rfl, ht, hb5⟩
        obtain ⟨gt, hgt⟩ := ht.toR
        have HB5 := Lib.hid (HB1.out.trans (hb5.mono HB1.out.size))
        obtain ⟨⟨ta, tc, rfl, hta⟩, -, hrow, hcell⟩ := hgt
        obtain rfl := hta (by omega)
        obtain ⟨-, c1⟩ := hrow na hna
        have c2 := hcell na nb hna hnb
        rw [HR.out] at c2
        clear hrow hcell hta ht hb5
        go_wp2_with fail
        go_ret
        exact ⟨rfl, HB5.out⟩
      · obtain rfl := HFN.out fun h => hb h.2.2.1
        have h2 : inB b 0 ((N : Int) - 1) = false := inB_no (by omega)
        have H2 := Lib.hid h2
        clear h2 hb ha
        go_enter Tryd.func28, Tryd.ntmps28
        go_wp2_with (first | (go_at_call 52; refine (l06Ok_is P0.out (HV.out.on B0.out) (.inl ⟨rfl, HOK.out⟩)).mono ?_; rintro e w1 ⟨rfl, hb1⟩; have P1 := Lib.hid (P0.out.on hb1); have HB1 := Lib.hid (B0.out.trans (hb1.mono B0.out.size)); clear hb1) | (go_at_call 65; refine Hid.out ?_))
        refine Lib.hid ?_
        refine (l06El_is (a := (na : Int)) P1.out (by omega) H1.out).mono ?_
        rintro e w3 ⟨rfl, rfl⟩
        go_wp2_with (go_at_call 65; refine Hid.out ?_)
        refine Lib.hid ?_
        refine (l06El_is (a := b) P1.out (by omega) H2.out).mono ?_
        rintro e w3 ⟨rfl, rfl⟩
        go_wp2_with fail
        go_ret
        exact ⟨rfl, HB1.out⟩
    · obtain rfl := HFN.out fun h => ha h.2.1
      have h2 : inB a 0 ((N : Int) - 1) = false := inB_no (by omega)
      have H2 := Lib.hid h2
      clear h2 ha
      go_enter Tryd.func28, Tryd.ntmps28
      go_wp2_with (first | (go_at_call 52; refine (l06Ok_is P0.out (HV.out.on B0.out) (.inl ⟨rfl, HOK.out⟩)).mono ?_; rintro e w1 ⟨rfl, hb1⟩; have P1 := Lib.hid (P0.out.on hb1); have HB1 := Lib.hid (B0.out.trans (hb1.mono B0.out.size)); clear hb1) | (go_at_call 65; refine (l06El_is (a := a) P1.out (by omega) H2.out).mono ?_; rintro e w3 ⟨rfl, rfl⟩))
      go_ret
      exact ⟨rfl, HB1.out⟩
  · obtain rfl := HFN.out fun h => ho h.1
    go_enter Tryd.func28, Tryd.ntmps28
    go_wp2_with (go_at_call 52; refine (l06Ok_is P0.out (HV.out.on B0.out) (.inr ⟨rfl, ho⟩)).mono ?_; rintro e w1 ⟨rfl, hb1⟩; have HB1 := Lib.hid (B0.out.trans (hb1.mono B0.out.size)); clear hb1)
    go_ret
    exact ⟨rfl, HB1.out⟩
set_option maxRecDepth 100000 in
set_option maxHeartbeats 3200000 in
theorem implBel_no {n a b : Int} {v : Value} {zz : List (List Int)} {w : World} (hv : RowsAt w v zz) (h : ¬ OkP n zz) (hTz : Tz w) :
    Calls Tryd.prog 29 #[.agg #[.int .i64 n, v], .int .i64 a, .int .i64 b] w fun e w' => e = .returned (.bool false) ∧ Below w.heap.size w w' := by
  have HOK := Lib.hid h
  have HV := Lib.hid hv
  have TZ := Lib.hid hTz
  obtain ⟨va, vc, rfl⟩ := hv.slice
  have B0 : Hid (Below w.heap.size w (w.alloc (.cells #[.int .i64 n, .slice va zz.length vc] 27))) := al1 (Below.refl _ _) _
  have P0 : Hid (PtP (w.alloc (.cells #[.int .i64 n, .slice va zz.length vc] 27)) w.heap.size n (.slice va zz.length vc)) := PtP.new _ _ _ _
  clear hv hTz h
  go_enter Tryd.func29, Tryd.ntmps29
  go_wp2_with (go_at_call 67; refine Hid.out ?_)
  refine Lib.hid ?_
  refine (orderOf_no (HV.out.on B0.out) HOK.out (TZ.out.on B0.out)).mono ?_
  rintro e w1 ⟨rfl, hb1⟩
  obtain ⟨hov1, hov2⟩ := ord_var w1 0 (fun _ => 0) (fun _ => 0)
  have HO1 := Lib.hid hov1
  have HB := Lib.hid (B0.out.trans ((hb1.trans (hov2.mono hb1.size)).mono B0.out.size))
  have P1 := Lib.hid (P0.out.on (hb1.trans (hov2.mono hb1.size)))
  have HO3 := Lib.hid (ord_there2 w1 0 (fun _ => 0) (fun _ => 0))
  have HS1 := Lib.hid (ord_size 0 (fun _ => 0) (fun _ => 0))
  have HS2 := Lib.hid (ord_one 0 (fun _ => 0) (fun _ => 0))
  have HS3 := Lib.hid (ord_size2 0 (fun _ => 0) (fun _ => 0))
  clear hb1 hov1 hov2
  go_wp2_with (refine wpList_store_mid rfl 64 (.tmp 7) (.tmp 12) rfl w1.heap.size 0 (ordC 0 (fun _ => 0) (fun _ => 0)).toArray rfl rfl ?_ HS1.out HS2.out ?_; exact HO3.out; refine Hid.out ?_)
  refine Lib.hid ?_
  try rw [show (ordC 0 (fun _ => 0) (fun _ => 0)).toArray.toList = ordC 0 (fun _ => 0) (fun _ => 0) from rfl]
  generalize ((w1.alloc (.cells #[.int .i64 0, .int .u16 0, .int .u16 0, .int .u16 0, .int .u16 0, .int .u16 0, .int .u16 0, .int .u16 0, .int .u16 0, .int .u16 0, .int .u16 0, .int .u16 0, .int .u16 0, .int .u16 0, .int .u16 0, .int .u16 0, .int .u16 0, .int .u16 0, .int .u16 0, .int .u16 0, .int .u16 0, .int .u16 0, .int .u16 0, .int .u16 0, .int .u16 0] 64)).setCells w1.heap.size 0 (ordC 0 (fun _ => 0) (fun _ => 0))) = W at HO1 HB P1 ⊢
  obtain ⟨L, hL⟩ : ∃ L, w1.heap.size = L := ⟨_, rfl⟩
  rw [hL] at HO1 ⊢
  clear HO3 HS1 HS2 hL
  go_wp2_with fail
  go_ret
  exact ⟨rfl, HB.out⟩
set_option maxRecDepth 100000 in
set_option maxHeartbeats 3200000 in
theorem implBel_ok {N : Nat} {a b : Int} {v : Value} {zz : List (List Int)} {T : Bool} {w : World} (hv : RowsAt w v zz) (h : OkP (N : Int) zz) (hT : BelIs (N : Int) zz a b T) (hTz : Tz w) :
    Calls Tryd.prog 29 #[.agg #[.int .i64 (N : Int), v], .int .i64 a, .int .i64 b] w fun e w' => e = .returned (.bool T) ∧ Below w.heap.size w w' := by
  have HOK := Lib.hid h
  have HT := Lib.hid hT
  obtain ⟨hN, HPI⟩ : N ≤ 12 ∧ Hid (PairsIn (N : Int) zz) := by
    obtain ⟨M, e, h1, h2⟩ := h.nat
    obtain rfl : N = M := by omega
    exact ⟨h1, h2⟩
  have HV := Lib.hid hv
  have TZ := Lib.hid hTz
  obtain ⟨va, vc, rfl⟩ := hv.slice
  have B0 : Hid (Below w.heap.size w (w.alloc (.cells #[.int .i64 (N : Int), .slice va zz.length vc] 27))) := al1 (Below.refl _ _) _
  have P0 : Hid (PtP (w.alloc (.cells #[.int .i64 (N : Int), .slice va zz.length vc] 27)) w.heap.size (N : Int) (.slice va zz.length vc)) := PtP.new _ _ _ _
  clear hv hTz h hT
  go_enter Tryd.func29, Tryd.ntmps29
  go_wp2_with (go_at_call 67; refine Hid.out ?_)
  refine Lib.hid ?_
  refine (orderOf_ok (HV.out.on B0.out) HOK.out (TZ.out.on B0.out)).mono ?_
  rintro e w1 ⟨lo, up, rfl, hod, hb1⟩
  have HOD := Lib.hid hod
  clear hod
  obtain ⟨hov1, hov2⟩ := ord_var w1 N lo up
  have HO1 := Lib.hid hov1
  have HB := Lib.hid (B0.out.trans ((hb1.trans (hov2.mono hb1.size)).mono B0.out.size))
  have P1 := Lib.hid (P0.out.on (hb1.trans (hov2.mono hb1.size)))
  have HO3 := Lib.hid (ord_there2 w1 N lo up)
  have HS1 := Lib.hid (ord_size N lo up)
  have HS2 := Lib.hid (ord_one N lo up)
  have HS3 := Lib.hid (ord_size2 N lo up)
  clear hb1 hov1 hov2
  go_wp2_with (refine wpList_store_mid rfl 64 (.tmp 7) (.tmp 12) rfl w1.heap.size 0 (ordC N lo up).toArray rfl rfl ?_ HS1.out HS2.out ?_; exact HO3.out; refine Hid.out ?_)
  refine Lib.hid ?_
  try rw [show (ordC N lo up).toArray.toList = ordC N lo up from rfl]
  generalize ((w1.alloc (.cells #[.int .i64 0, .int .u16 0, .int .u16 0, .int .u16 0, .int .u16 0, .int .u16 0, .int .u16 0, .int .u16 0, .int .u16 0, .int .u16 0, .int .u16 0, .int .u16 0, .int .u16 0, .int .u16 0, .int .u16 0, .int .u16 0, .int .u16 0, .int .u16 0, .int .u16 0, .int .u16 0, .int .u16 0, .int .u16 0, .int .u16 0, .int .u16 0, .int .u16 0] 64)).setCells w1.heap.size 0 (ordC N lo up)) = W at HO1 HB P1 ⊢
  obtain ⟨L, hL⟩ : ∃ L, w1.heap.size = L := ⟨_, rfl⟩
  rw [hL] at HO1 ⊢
  clear HO3 HS1 HS2 hL
  obtain ⟨lO, o0, -⟩ := HO1.out
  have AL : Hid (Below W.heap.size W (W.alloc (.cells #[.int .i64 a, .int .i64 b] 2))) := al1 (Below.refl _ _) _
  have HAB : Hid (IntsAt (W.alloc (.cells #[.int .i64 a, .int .i64 b] 2)) (.slice (some ⟨W.heap.size, 0, none⟩) 2 2) [a, b]) := (ownI_two W a b).at (by simp)
  have HO2 := Lib.hid (HO1.out.on AL.out)
  have HB2 := Lib.hid (HB.out.trans (AL.out.mono HB.out.size))
  by_cases hab : (0 ≤ a ∧ a < (N : Int)) ∧ (0 ≤ b ∧ b < (N : Int))
  · obtain ⟨na, rfl⟩ : ∃ m : Nat, a = (m : Int) := ⟨_, (Int.toNat_of_nonneg hab.1.1).symm⟩
    obtain ⟨nb, rfl⟩ : ∃ m : Nat, b = (m : Int) := ⟨_, (Int.toNat_of_nonneg hab.2.1).symm⟩
    have hna : na < N := by omega
    have hnb : nb < N := by omega
    have HR : Hid (T = true ↔ Rch (esP zz) na nb) := by
      have h3 := HT.out
      unfold BelIs at h3
      rw [Int.toNat_natCast, Int.toNat_natCast] at h3
      exact h3.trans ⟨fun h => h.2.2.2, fun h => ⟨HOK.out, hab.1, hab.2, h⟩⟩
    have HEL : Hid ((∀ x ∈ [(na : Int), (nb : Int)], 0 ≤ x ∧ x < (N : Int)) ∧ True) := ⟨fun x hx => by simp at hx; rcases hx with rfl | rfl; exact hab.1; exact hab.2, trivial⟩
    clear hab
    go_wp2_with (first | (go_at_call 60; refine (areEl_is (T := true) hN HAB.out ⟨fun _ => rfl, fun _ => HEL.out.1⟩).mono ?_; rintro e w3 ⟨rfl, rfl⟩) | (refine wpList_load_midG (by rfl) 64 (.tmp 7) rfl L 0 rfl (ordC N lo up) _ HO2.out.range Tryd.underlying64 rfl HS3.out ?_) | (go_at_call 68; refine (isBelow_is hN HPI.out.lt HOD.out hna hnb HR.out).mono ?_; rintro e w4 ⟨rfl, hb4⟩; have HB4 := Lib.hid (HB2.out.trans (hb4.mono HB2.out.size)); clear hb4))
    go_ret
    exact ⟨rfl, HB4.out⟩
  · obtain rfl : T = false := by
      cases T with
      | false => rfl
      | true => exact absurd ⟨(HT.out.1 rfl).2.1, (HT.out.1 rfl).2.2.1⟩ hab
    have HEL : Hid (¬ ∀ x ∈ [a, b], 0 ≤ x ∧ x < (N : Int)) := fun h => hab ⟨h a (by simp), h b (by simp)⟩
    clear hab
    go_wp2_with (go_at_call 60; refine (areEl_is (T := false) hN HAB.out ⟨fun e => absurd e HEL.out, fun e => by simp at e⟩).mono ?_; rintro e w3 ⟨rfl, rfl⟩)
    go_ret
    exact ⟨rfl, HB2.out⟩
theorem implBel_is {n a b : Int} {v : Value} {zz : List (List Int)} {T : Bool} {w : World} (hv : RowsAt w v zz) (hT : BelIs n zz a b T) (hTz : Tz w) :
    Calls Tryd.prog 29 #[.agg #[.int .i64 n, v], .int .i64 a, .int .i64 b] w fun e w' => e = .returned (.bool T) ∧ Below w.heap.size w w' := by
  by_cases h : OkP n zz
  · obtain ⟨N, rfl, _⟩ := h.nat
    exact implBel_ok hv h hT hTz
  · obtain rfl : T = false := by
      cases T with
      | false => rfl
      | true => exact absurd (hT.1 rfl).1 h
    exact implBel_no hv h hTz
end Go.Proofs.YtdihcmohpbgmmaaDoor
