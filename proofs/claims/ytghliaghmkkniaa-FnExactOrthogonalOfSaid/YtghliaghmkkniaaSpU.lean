/-
  A row more behind own rows; l04Against and Certificate of the model.
-/
import Derived.Test.YtghliaghmkkniaaSpT
namespace Go.Proofs.Ytghliaghmkkniaa
open Go.RowKit
open Lin
set_option linter.unusedVariables false
set_option linter.unusedSectionVars false

theorem RowsC.of_own2 {B n : Nat} {w : World} {v : Value} {L : List Value} {R : Nat → List Int} (h : w.ownsRow B 25 1 v n L) (hn : n ≤ 2097152) (hr : ∀ i u, L[i]? = some u → IntsC w u (R i)) : RowsC w v n R := by
  have h0 := h
  obtain ⟨hx, ⟨rfl, hn0⟩ | ⟨g, cap, cur, rfl, hB, hcur, r⟩⟩ := h
  · exact ⟨none, 0, by rw [hn0], hn, .inl ⟨rfl, rfl, hn0⟩⟩
  · refine ⟨_, cap, rfl, hn, .inr ⟨g, 0, rfl, .inr (Array.getElem?_eq_some_iff.1 hcur).1, fun i hi => ?_⟩⟩
    have hl : L.length = n := by simpa using hx
    have hi' : i < L.length := by omega
    refine ⟨L[i], ?_, hr i _ (List.getElem?_eq_getElem hi')⟩
    rw [Nat.zero_add, World.ownsRow.cellAt h0 i (by omega)]
    exact List.getElem?_eq_getElem hi'
section
variable {q : Nat} [NeZero q]
theorem rowL_adj (m n : Nat) (A : Mt q) (b : Nat → Fin q) (i : Nat) : rowL m (adj n A b) i = if i < n then rowL m A i else bL m b := by
  by_cases h : i < n
  · rw [if_pos h]
    refine rowL_congr fun j hj => ?_
    unfold adj; rw [if_pos h]
  · rw [if_neg h]
    unfold bL
    refine rowL_congr fun j hj => ?_
    unfold adj; rw [if_neg h]
/-- The right side that is 1 at n, and 0 elsewhere. -/
def eN (n : Nat) : Nat → Fin q := fun i => if i = n then 1 else 0
theorem eN_cell (hq : 2 ≤ q) (n i : Nat) : (if i = n then (.int .i64 1 : Value) else .int .i64 0) = .int .i64 (fv (eN (q := q) n i)) := by
  unfold eN
  by_cases h : i = n
  · rw [if_pos h, if_pos h, fv_one hq]
  · rw [if_neg h, if_neg h, fv_zero]
end
/-- What Certificate answers. -/
def CerRes (p r c : Int) (xs ys : List Int) (Z : List Int) (k : Int) : Prop :=
  (∃ c0, AskK p r c xs ys c0 ∧ c0 ≠ 0 ∧ Z = [] ∧ k = c0) ∨ (∃ (u : Nat) (_ : NeZero u) (m n : Nat) (A : Mt u) (b : Nat → Fin u), MIs p r c xs u m n A ∧ ys = bL m b ∧ SysRes (n + 1) m (red (n + 1) (Lin.sys m (adj n (turn A) b) (eN n)) m) Z k)
theorem cerRes_has (p r c : Int) (xs ys : List Int) : ∃ Z k, CerRes p r c xs ys Z k := by
  by_cases h : MOk p r c xs
  · by_cases h2 : Vec1 p r ys
    · obtain ⟨u, i, m, n, A, hA⟩ := h.form
      rw [hA.p, hA.r] at h2
      obtain ⟨b, hb⟩ := h2.bL
      obtain ⟨Z, k, hs⟩ := sysRes_has (n + 1) m (red (n + 1) (Lin.sys m (adj n (turn A) b) (eN n)) m)
      exact ⟨Z, k, .inr ⟨u, i, m, n, A, b, hA, hb, hs⟩⟩
    · exact ⟨_, _, .inl ⟨2, .inr (.inl ⟨h, h2, rfl⟩), by decide, rfl, rfl⟩⟩
  · exact ⟨_, _, .inl ⟨1, .inl ⟨h, rfl⟩, by decide, rfl, rfl⟩⟩
theorem CerRes.len {p r c k : Int} {xs ys Z : List Int} (h : CerRes p r c xs ys Z k) : Z.length ≤ 1048576 := by
  rcases h with ⟨c0, _, _, rfl, _⟩ | ⟨u, _, m, n, A, b, hA, _, hs⟩
  · simp
  · exact hs.len (by have := hA.m32; omega)
set_option maxRecDepth 100000 in
set_option maxHeartbeats 6400000 in
theorem l04Against_any {q m n : Nat} [NeZero q] {A : Mt q} {b : Nat → Fin q} {L : Nat} {u v : Value} {Z : List Int} {T : Bool} {w : World} (hp : PtM w L q m n u) (hu : IntsC w u (flat m n A)) (hv : IntsC w v (bL m b)) (hq : IsPr (q : Int)) (hm : m ≤ 32) (hn : n ≤ 32) (hS : SysB (n + 1) m (red (n + 1) (Lin.sys m (adj n (turn A) b) (eN n)) m) Z T) :
    Calls Try.prog 149 #[.pointer (some ⟨L, 0, none⟩), v] w fun e w' => RetSB Z T w e w' := by
  obtain ⟨i0, hi0, hz0, hz1, hz2⟩ := info_parts info_r
  have HSR := Lib.hid hS
  have HV := Lib.hid hv
  have HU := Lib.hid hu
  have HQ := Lib.hid hq
  have HP := Lib.hid hp
  have hq2 : (2 : Int) ≤ q := hq.1
  have hq3 : (q : Int) ≤ 251 := hq.2.1
  obtain ⟨av, cv, rfl, -, -⟩ := hv.1
  simp only [bL_len] at HV ⊢
  clear hS hq hv hu hp
  go_enter Try.func149, Try.ntmps149
  go_wp2_with fail
  refine (l04Columns_any HP.out HU.out (by omega) (by omega)).mono ?_
  rintro e w1 ⟨v1, rfl, ho, hb⟩
  have HB1 := Lib.hid hb
  have hs1 := hb.size
  obtain ⟨L0, hL⟩ := ho
  have HL := Lib.hid hL
  obtain ⟨oa, oc, rfl⟩ := hL.slice
  have HRL : Hid ((rowsOf n m (turn A)).length = n) := rowsOf_len _ _ _
  simp only [HRL.out] at HL ⊢
  clear hb hL
  go_wp2_with (at_builtin; refine wpList_append_place _ rfl _ _ 41 rfl w.heap.size 25 i0 (.slice none 0 0) 24 Try.underlying41 hi0 hz0 hz1 hz2 rfl _ n L0 rfl (by have h := HL.out.row; rw [HRL.out] at h; exact h.alloc _) ⟨w1.heap.size, 0, none⟩ _ (.slice av m cv) rfl (row_val _ _ _) (fun y hy => by simp at hy; rw [hy]; rfl) (by unfold maxLen; omega) (by omega) (by rw [World.size_alloc]; omega) ?_; intro v3 w3 hr3 hg3 hv3)
  have hb3 : Below w.heap.size w w3 := below_pushR HB1.out (Nat.le_refl _) hs1 ⟨L0, HL.out⟩ (Below.refl _ _) hg3
  have hrc : RowsC w3 v3 (n + 1) (rowL m (adj n (turn A) b)) := by
    refine RowsC.of_own2 hr3 (by omega) fun i u hi => ?_
    rw [rowL_adj]
    have hlen : L0.length = n := by rw [HL.out.len, HRL.out]
    by_cases h : i < n
    · rw [if_pos h]
      rw [List.getElem?_append_left (by omega)] at hi
      have hown := HL.out.own i u (rowL m (turn A) i) hi (rowsOf_get _ _ _ _ h)
      have hne : u.ownBlock = none ∨ u.ownBlock ≠ (Value.slice oa n oc).ownBlock := by
        cases hub : u.ownBlock with
        | none => exact .inl rfl
        | some g => exact .inr (fun e => HL.out.off i u g hi hub e.symm)
      have hk : OwnI w.heap.size w3 u (rowL m (turn A) i) := World.ownsRow.kept (World.ownsRow.alloc hown.out _) hg3 hne
      exact hk.atC (by rw [rowL_len]; omega)
    · rw [if_neg h]
      have hin : i < (L0 ++ [Value.slice av m cv]).length := (List.getElem?_eq_some_iff.1 hi).1
      rw [List.length_append, hlen] at hin
      obtain rfl : i = n := by simp at hin; omega
      rw [List.getElem?_append_right (by omega)] at hi
      have : u = Value.slice av m cv := by
        rw [hlen, Nat.sub_self] at hi
        simpa using hi.symm
      rw [this]
      exact HV.out.on hb3
  have HRC := Lib.hid hrc
  obtain ⟨va, vc, rfl, -, -⟩ := hrc
  have HB3 := Lib.hid hb3
  have hs3 := hb3.size
  have P3 := Lib.hid (HP.out.on hb3)
  obtain ⟨lA, x0, x1, x2, x3⟩ := P3.out
  have neA := P3.out.ne
  clear hr3 hg3 hv3 hb3 HL
  go_wp2_with fail
  go_cut [7] (fun sp wx => ∃ (L2 B E : Nat) (a : Option Addr) (c : Nat), sp = .pointer (some ⟨L2, 0, none⟩) ∧ Hid (RegM w3 wx L2 B E (q : Int) ((n + 1 : Nat) : Int) (m : Int) (.slice a ((n + 1) * m) c) (flat (n + 1) m (adj n (turn A) b))))
  case first =>
    go_region_held3 (fun w' => w'.cell? ⟨L, 0, none⟩ = some (.int .i64 (q : Int)) ∧ w'.cell? ⟨L, 1, none⟩ = some (.int .i64 (m : Int))) (go_keep)
      (first
        | (go_at_call 182; refine (l04Rows_any (A := adj n (turn A) b) (by first | exact HRC.out | exact HRC.out.on ((Below.refl _ _).alloc (Nat.le_refl _) _) | exact (HRC.out.on ((Below.refl _ _).alloc (Nat.le_refl _) _)).drew | exact HRC.out.drew | exact HRC.out.drew.on ((Below.refl _ _).alloc (Nat.le_refl _) _)) (by omega) (by omega) (Nat.le_trans (Nat.mul_le_mul (show n + 1 ≤ 64 by omega) hm) (by decide))).mono ?_; rintro e wa ⟨va2, rfl, hoa, hba'⟩; have hba : Below w3.heap.size w3 wa := (by first | exact hba' | exact undrew hba' | exact up1 hba' | exact up1 (undrew hba') | exact undrew (up1 hba')); obtain ⟨_, _⟩ := bcell hba'; have hsa := hba'.size; (try simp at hsa); (try have := (by omega : w3.heap.size < wa.heap.size)); obtain ⟨vaa, vac, rfl⟩ := hoa.slice; rw [flat_len] at *; obtain ⟨_, _, _, _, _⟩ := P3.out.on hba; have := (P3.out.on hba).ne))
    · go_wp2_with fail
      go_meet
      case rel => exact ⟨_, _, _, _, _, rfl, RegM.new (OwnX.of hoa (Nat.le_refl _)) (by have h1 := hba.size; first | omega | (simp; done) | (simp; omega)) hba⟩
    · go_wp2_with fail
      go_meet
      case rel => exact ⟨_, _, _, _, _, rfl, RegM.set (by first | exact (PtM.new _ _ _ _ _ _).on hba' | exact ((PtM.new _ _ _ _ _ _).drew).on hba') (OwnX.of hoa (Nat.le_refl _)) (by have h1 := hba.size; first | omega | (simp; done) | (simp; omega)) (by have h1 := hba.size; first | omega | (simp; done) | (simp; omega)) (by have h1 := hba.size; first | omega | (simp; done) | (simp; omega)) hba⟩
  obtain ⟨L2, B, E, a2, c2, rfl, hc⟩ := hcut
  obtain ⟨hp2, ho2, hB2, hd2, hL2, hb2⟩ := hc.out
  clear hc x0 x1 x2 x3 lA neA
  rename World => w4
  have P4 := Lib.hid hp2
  have HC4 : Hid (IntsC w4 (.slice a2 ((n + 1) * m) c2) (flat (n + 1) m (adj n (turn A) b))) := ho2.1.atC (by rw [flat_len]; exact Nat.le_trans (Nat.mul_le_mul (show n + 1 ≤ 64 by omega) hm) (by decide))
  have HB4 := Lib.hid (HB3.out.trans (hb2.mono hs3))
  have hs4 := HB4.out.size
  clear hp2 ho2 hb2 hd2
  obtain ⟨N1, hN1⟩ : ∃ N1, n + 1 = N1 := ⟨_, rfl⟩
  have HN1 := Lib.hid hN1
  have hmk := run_make_row' (P := Try.prog) 25 2 (.int .i64 0) 8 Try.underlying25 info_i rfl .i64 .i64 N1 (by omega) (by omega)
  have hrow := World.rowIs_made w4 (.int .i64 0) N1 2
  have hnN : n < N1 := by omega
  have g1 := hrow.cell (i := n) hnN
  have f1 := hrow.frozen n
  have n0 : (0 : Int) ≤ (n : Int) := by omega
  have n1 : (n : Int) < (N1 : Int) := by omega
  have ws : IntKind.i64.wrap ((N1 : Int) - 1) = (n : Int) := by rw [show (N1 : Int) - 1 = (n : Int) by omega]; exact IntWalk.i64_in _ (by omega)
  have es := World.setCell_alloc_new (w := w4) (madeCells #[.int .i64 0] N1) 2 n (.int .i64 1)
  have h3 : Hid ((w4.alloc (.cells ((madeCells #[.int .i64 0] N1).setIfInBounds n (.int .i64 1)) 2)).rowIs w4.heap.size 2 N1 (fun l => .int .i64 (fv (eN (q := q) n l)))) := by
    show World.rowIs _ _ _ _ _
    rw [← es]
    exact (hrow.set n _).congr fun l _ => eN_cell (by omega) n l
  have b4 := (Below.refl w4.heap.size w4).alloc (Nat.le_refl _) (.cells ((madeCells #[.int .i64 0] N1).setIfInBounds n (.int .i64 1)) 2)
  have hbl : OwnI w4.heap.size (w4.alloc (.cells ((madeCells #[.int .i64 0] N1).setIfInBounds n (.int .i64 1)) 2)) (.slice (some ⟨w4.heap.size, 0, none⟩) N1 N1) (bL (n + 1) (eN (q := q) n)) := by
    have h := OwnI.of_row (B := w4.heap.size) (g := w4.heap.size) (zs := bL (n + 1) (eN (q := q) n)) (by
      rw [bL_len, hN1]
      refine h3.out.congr fun l hl => ?_
      rw [getD_in (by rw [bL_len]; omega), bL_at]) (Nat.le_refl _) (by rw [bL_len]; omega)
    rw [bL_len, hN1] at h
    rw [← hN1] at h ⊢
    exact h
  have HBL := Lib.hid (hbl.atC (by rw [bL_len]; omega))
  have HB5 := Lib.hid (HB4.out.trans (b4.mono hs4))
  have P5 := Lib.hid (P4.out.on b4)
  have HC5 := Lib.hid (HC4.out.on b4)
  have hs5 := HB5.out.size
  clear es hrow b4 hbl
  rw [hN1]
  clear hN1
  go_wp2_with fail
  refine (l03Solve_any (m := n + 1) (n := m) (A := adj n (turn A) b) (b := eN n) P5.out (by first | exact HC5.out | (rw [flat_len]; exact HC5.out)) HBL.out HQ.out (by omega) (by omega) HSR.out).mono ?_
  rintro e w6 ⟨v6, rfl, ho, hb⟩
  have HO := Lib.hid ho
  obtain ⟨v6a, v6c, rfl⟩ := ho.slice
  have HB6 := Lib.hid (HB5.out.trans (hb.mono hs5))
  clear ho hb
  go_wp2_with fail
  go_ret2
  exact ⟨_, rfl, HO.out.mono hs5, HB6.out⟩
/-! ### Certificate of the model -/
set_option maxRecDepth 100000 in
set_option maxHeartbeats 3200000 in
theorem specCer_b {p r c k : Int} {xs ys : List Int} {u v : Value} {w : World} (hu : IntsC w u xs) (hv : IntsAt w v ys) (h : AskK p r c xs ys k) (hk : k ≠ 0) :
    Calls Try.prog 81 #[.agg #[.int .i64 p, .int .i64 r, .int .i64 c, u], v] w fun e w' => RetSC [] k w e w' := by
  have HU := Lib.hid hu.1
  have HV := Lib.hid hv
  have HK := Lib.hid h
  have ek : (k != 0) = true := by simpa using hk
  obtain ⟨a1, c1, rfl, hl1, -⟩ := hu.1
  obtain ⟨a2, c2, rfl, hl2, -⟩ := hv
  have Pa0 := PtM.new w p r c (.slice a1 xs.length c1) 27
  clear h hu hk
  go_enter Try.func81, Try.ntmps81
  go_wp2_with fail
  refine (l04Ask_is Pa0 (HU.out.on (al1 (Below.refl _ _) _)) (HV.out.on (al1 (Below.refl _ _) _)) HK.out).mono ?_
  rintro e w1 ⟨rfl, hb⟩
  have HB := Lib.hid (up1 hb)
  clear hb Pa0
  go_wp2_with fail
  go_ret2
  exact ⟨_, rfl, OwnI.nul _ _, HB.out⟩
set_option maxRecDepth 100000 in
set_option maxHeartbeats 3200000 in
theorem specCer_ok {q m n : Nat} [NeZero q] {A : Mt q} {b : Nat → Fin q} {Z : List Int} {k : Int} {u v : Value} {w : World} (hu : IntsC w u (flat m n A)) (hv : IntsC w v (bL m b)) (hA : MIs q m n (flat m n A) q m n A) (hS : SysRes (n + 1) m (red (n + 1) (Lin.sys m (adj n (turn A) b) (eN n)) m) Z k) :
    Calls Try.prog 81 #[.agg #[.int .i64 (q : Int), .int .i64 (m : Int), .int .i64 (n : Int), u], v] w fun e w' => RetSC Z k w e w' := by
  have hm32 := hA.m32
  have hn32 := hA.n32
  have HPR := Lib.hid hA.pr
  have HK := Lib.hid (ask_ok (b := b) hA)
  have HZL := Lib.hid (hS.len (by omega))
  have HSR := Lib.hid hS.bool
  have HU := Lib.hid hu
  have HU1 := Lib.hid hu.1
  have HV := Lib.hid hv
  have HV1 := Lib.hid hv.1
  obtain ⟨a1, c1, rfl, hl1, -⟩ := hu.1
  obtain ⟨a2, c2, rfl, hl2, -⟩ := hv.1
  have Pa0 := PtM.new w q m n (.slice a1 (flat m n A).length c1) 27
  clear hu hA hS hv
  go_enter Try.func81, Try.ntmps81
  go_wp2_with fail
  refine (l04Ask_is Pa0 (HU1.out.on (al1 (Below.refl _ _) _)) (HV1.out.on (al1 (Below.refl _ _) _)) HK.out).mono ?_
  rintro e w1 ⟨rfl, hb⟩
  have HB := Lib.hid (up1 hb)
  have Pa := Lib.hid (Pa0.on hb)
  have hs1 := HB.out.size
  clear hb Pa0
  go_wp2_with fail
  rcases HSR.out with ⟨hs, rfl⟩ | ⟨hs, rfl, rfl⟩
  · refine (l04Against_any Pa.out (HU.out.on HB.out) (HV.out.on HB.out) HPR.out (by omega) (by omega) hs).mono ?_
    clear hs
    rintro e w2 ⟨v2, rfl, ho, hb⟩
    have HO := Lib.hid (ho.atC HZL.out)
    obtain ⟨va, vc, rfl⟩ := ho.slice
    have HB2 := Lib.hid (HB.out.trans (hb.mono hs1))
    have hs2 := HB2.out.size
    clear ho hb
    go_wp2_with fail
    refine (l00Own_any HO.out (Nat.le_trans HZL.out (by decide))).mono ?_
    rintro e w3 ⟨v3, rfl, ho, hb⟩
    have HO3 := Lib.hid ho
    obtain ⟨vb, vd, rfl⟩ := ho.slice
    have HB3 := Lib.hid (HB2.out.trans (hb.mono hs2))
    clear ho hb
    go_wp2_with fail
    go_ret2
    exact ⟨_, rfl, HO3.out.mono hs2, HB3.out⟩
  · refine (l04Against_any Pa.out (HU.out.on HB.out) (HV.out.on HB.out) HPR.out (by omega) (by omega) hs).mono ?_
    clear hs
    rintro e w2 ⟨v2, rfl, ho, hb⟩
    obtain ⟨va, vc, rfl⟩ := ho.slice
    have HB2 := Lib.hid (HB.out.trans (hb.mono hs1))
    clear ho hb
    go_wp2_with fail
    go_ret2
    exact ⟨_, rfl, OwnI.nul _ _, HB2.out⟩
theorem specCer_any {p r c k : Int} {u v : Value} {xs ys Z : List Int} {w : World} (hu : IntsC w u xs) (hv : IntsC w v ys) (h : CerRes p r c xs ys Z k) :
    Calls Try.prog 81 #[.agg #[.int .i64 p, .int .i64 r, .int .i64 c, u], v] w fun e w' => RetSC Z k w e w' := by
  rcases h with ⟨c0, h, hc, rfl, rfl⟩ | ⟨u', _, m, n, A, b, hA, rfl, hs⟩
  · exact specCer_b hu hv.1 h hc
  · obtain ⟨rfl, rfl, rfl, rfl, h5, h6, h7⟩ := hA
    exact specCer_ok hu hv ⟨rfl, rfl, rfl, rfl, h5, h6, h7⟩ hs
end Go.Proofs.Ytghliaghmkkniaa
