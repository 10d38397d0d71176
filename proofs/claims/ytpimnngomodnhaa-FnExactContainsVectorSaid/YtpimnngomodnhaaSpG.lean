/-
  The basis of the space of some vectors, by the model.
-/
import Derived.Test.YtpimnngomodnhaaSpF
namespace Go.Proofs.Ytpimnngomodnhaa
open Go.RowKit
open Lin
set_option linter.unusedVariables false
set_option linter.unusedSectionVars false

theorem OwnRI.made (w : World) (B : Nat) (hB : B ≤ w.heap.size) : OwnRI B (w.alloc (.cells #[] 24)) (.slice (some ⟨w.heap.size, 0, none⟩) 0 0) [] :=
  ⟨[], rfl, World.ownsRow_made w #[] 0 hB (Nat.zero_le _) rfl, fun i u zs h _ => by simp at h, fun i u g h _ => by simp at h, fun i j u x g h _ _ _ => by simp at h, Nat.le_refl _, fun g h => by simp [Value.ownBlock] at h; simp; omega, fun i u g h _ => by simp at h⟩
theorem below_pushR {B0 B : Nat} {w0 w w1 w2 : World} {v : Value} {zz : List (List Int)} {o : Obj} (hb : Below B0 w0 w) (hle : B0 ≤ B) (hB : B ≤ w.heap.size) (h : OwnRI B w v zz) (hb1 : Below w.heap.size w w1) (hg : (w1.alloc o).grownBy w2 v.ownBlock) : Below B0 w0 w2 := by
  have hs := hb1.size
  refine (hb.trans (hb1.mono (by omega))).trans ⟨hg.os, hg.tape, hg.output, ?_, fun k hk => ?_⟩
  · have := hg.size; rw [World.size_alloc] at this; omega
  · rw [hg.block k (by rw [World.size_alloc]; omega) (fun e => ?_)]
    · exact Deep.blk_alloc_lt w1 o k (by omega)
    · obtain ⟨L, h⟩ := h
      have := (h.row.lt k e.symm).1
      omega
/-- How the model's rows come back. -/
theorem rowsOf_snoc {q : Nat} [NeZero q] (m n : Nat) (A : Mt q) : rowsOf m n A ++ [rowL n A m] = rowsOf (m + 1) n A := (rowsOf_succ m n A).symm
set_option maxRecDepth 100000 in
set_option maxHeartbeats 6400000 in
theorem l04Basis_any {q m n : Nat} [NeZero q] {A : Mt q} {v : Value} {w : World} (hv : RowsC w v m (rowL n A)) (hq : IsPr (q : Int)) (hm : m ≤ 1048576) (hn : n ≤ 64) (hmn : m * n ≤ 1048576) :
    Calls Try.prog 90 #[.int .i64 (q : Int), .int .i64 (n : Int), v] w fun e w' => RetR w (basOf m n A) e w' := by
  have hpm := piv_le_rows (fd_of hq) m n A
  have hpn := piv_le_cols (fd_of hq) m n A
  obtain ⟨i0, hi0, hz0, hz1, hz2⟩ := info_parts info_r
  have HV := Lib.hid hv
  have HQ := Lib.hid hq
  obtain ⟨av, cv, rfl, -, -⟩ := hv
  unfold basOf
  obtain ⟨N0, hN0⟩ : ∃ N0, m * n = N0 := ⟨_, rfl⟩
  have HN0 := Lib.hid hN0
  obtain ⟨s, hs⟩ : ∃ s, red m A n = s := ⟨_, rfl⟩
  have HS := Lib.hid hs
  rw [hs] at hpm hpn ⊢
  rw [hN0] at hmn
  obtain ⟨r, hr⟩ : ∃ r, s.piv.length = r := ⟨_, rfl⟩
  have HR := Lib.hid hr
  rw [hr] at hpm hpn ⊢
  clear hq hs hr hN0
  go_enter Try.func90, Try.ntmps90
  go_wp2_with fail
  refine (l04Rows_any HV.out hm hn (by rw [HN0.out]; exact hmn)).mono ?_
  rintro e w1 ⟨v1, rfl, ho, hb⟩
  have HO1 := Lib.hid (ho.atC (by rw [flat_len, HN0.out]; exact hmn))
  obtain ⟨a1, c1, rfl⟩ := ho.slice
  simp only [flat_len, HN0.out] at HO1 ⊢
  have HB := Lib.hid hb
  have hs1 := hb.size
  clear ho hb
  go_wp2_with fail
  have bb := (Below.refl w1.heap.size w1).alloc (Nat.le_refl _) (.cells #[.int .i64 q, .int .i64 m, .int .i64 n, .slice a1 N0 c1] 26)
  have Pb := PtM.new w1 (q : Int) (m : Int) (n : Int) (.slice a1 N0 c1) 26
  generalize hW : World.alloc w1 (.cells #[.int .i64 q, .int .i64 m, .int .i64 n, .slice a1 N0 c1] 26) = W1 at bb Pb ⊢
  have HO1 := Lib.hid (HO1.out.on bb)
  have HB := Lib.hid (HB.out.trans (bb.mono hs1))
  have hs2 := bb.size
  have HPb := Lib.hid Pb
  clear bb hW Pb
  have hv1 := HO1.out
  rw [show N0 = m * n from HN0.out.symm] at hv1
  have Pb := HPb.out
  rw [show N0 = m * n from HN0.out.symm] at Pb
  refine (l03Reduced_big Pb hv1 HQ.out hm hn (by rw [HN0.out]; exact hmn)).mono ?_
  clear hv1 Pb
  rintro e w2 ⟨v2, pv, rfl, ho, hop, hb, -⟩
  rw [HS.out] at ho hop
  have HF := Lib.hid (ho.atC (by rw [flat_len, HN0.out]; exact hmn))
  obtain ⟨fa, fc, rfl⟩ := ho.slice
  obtain ⟨pa, pc, rfl⟩ := hop.slice
  simp only [flat_len, HN0.out, pivI_len, HR.out] at HF ⊢
  have HB := Lib.hid (HB.out.trans (hb.mono (by omega)))
  have hs3 := hb.size
  clear ho hop hb HO1 HPb
  obtain ⟨-, fa', fc', e', f1, f2, f3⟩ := HF.out
  simp only [Value.slice.injEq, flat_len, HN0.out, true_and] at e' f1
  obtain ⟨rfl, rfl⟩ := e'
  go_wp2_with fail
  have bb := al1 (Below.refl w2.heap.size w2) (.cells #[.int .i64 q, .int .i64 m, .int .i64 n, .slice fa N0 fc] 26)
  have Pf := PtM.new w2 (q : Int) (m : Int) (n : Int) (.slice fa N0 fc) 26
  generalize hW : World.alloc w2 (.cells #[.int .i64 q, .int .i64 m, .int .i64 n, .slice fa N0 fc] 26) = W2 at bb Pf ⊢
  obtain ⟨X2, hX2⟩ : ∃ X, w2.heap.size = X := ⟨_, rfl⟩
  have hs4 : X2 + 1 ≤ W2.heap.size := by rw [← hW, ← hX2]; simp
  have HS4 : Hid (W2.heap.size = X2 + 1) := by show _ = _; rw [← hW, ← hX2]; simp
  rw [hX2] at Pf ⊢
  have HPf := Lib.hid Pf
  have HF := Lib.hid (HF.out.on bb)
  have HB := Lib.hid (HB.out.trans (bb.mono (by omega)))
  clear bb hW Pf
  have hmm := OwnRI.made W2 (X2 + 1) hs4
  rw [HS4.out] at hmm
  have HM := Lib.hid hmm
  clear hmm
  have bm := (Below.refl W2.heap.size W2).alloc (Nat.le_refl _) (.cells #[] 24)
  have HBM := Lib.hid bm
  clear bm
  go_loopw [12, 11] (fun si so wr => ∃ k : Nat, k ≤ r ∧ si = .int .i64 (k : Int) ∧ Hid (OwnRI (X2 + 1) wr so (rowsOf k n s.A)) ∧ Hid (Below W2.heap.size W2 wr)) (fun si _ _ => r - (intOf si).toNat)
  case atStart => exact ⟨0, Nat.zero_le _, rfl, HM.out, HBM.out⟩
  case round =>
    obtain ⟨k, hk, rfl, HX, HK⟩ := hrel
    obtain ⟨oa, oc, rfl⟩ := HX.out.slice
    have sk := HK.out.size
    by_cases hlt : k < r
    · obtain ⟨lF, x0, x1, x2, x3⟩ := HPf.out.on HK.out
      have k0 : (0 : Int) ≤ (k : Int) := by omega
      have k1 : (k : Int) < (r : Int) := by omega
      have kk : k < m := by omega
      have xs : k * n ≤ N0 := by rw [← HN0.out]; exact Nat.mul_le_mul_right n (by omega)
      have xf : k * n + n ≤ N0 := by rw [← HN0.out, ← Nat.succ_mul]; exact Nat.mul_le_mul_right n kk
      have xz : n = 0 → k * n = 0 := fun e => by rw [e, Nat.mul_zero]
      have hfw := HF.out.on HK.out
      rw [show N0 = m * n from HN0.out.symm] at hfw
      have xI := rowW_ints hfw (by omega) kk
      unfold rowW at xI
      have xe : (k + 1) * n = k * n + n := Nat.succ_mul k n
      obtain ⟨x, hx⟩ : ∃ x, k * n = x := ⟨_, rfl⟩
      rw [hx] at xs xf xz xI xe
      obtain ⟨y, hy⟩ : ∃ y, x + n = y := ⟨_, rfl⟩
      have vi : IntKind.i64.wrap ((k : Int) + 1) = (k : Int) + 1 := IntWalk.i64_in _ (by omega)
      have v1 : IntKind.i64.wrap ((k : Int) * (n : Int)) = (x : Int) := by rw [← Int.natCast_mul, hx]; exact IntWalk.i64_in _ (by omega)
      have v3 : IntKind.i64.wrap (((k : Int) + 1) * (n : Int)) = (y : Int) := by rw [show (k : Int) + 1 = ((k + 1 : Nat) : Int) by omega, ← Int.natCast_mul, xe, hy]; exact IntWalk.i64_in _ (by omega)
      have hadr : (if fc = x then fa else Option.map (fun p => p.add x) fa) = adr fa x := cut_adr (n := n) (by omega) xz (.inr trivial) f3
      have hadr2 : Option.map (fun p => p.add x) fa = adr fa x := by
        rcases f3 with ⟨rfl, _⟩ | ⟨g, off, rfl⟩
        · rfl
        · simp [adr, Addr.add_lit]
      have z0 : (0 : Int) ≤ (x : Int) := by omega
      have z1 : x ≤ y := by omega
      have z2 : (y : Int) ≤ (fc : Int) := by omega
      have z3 : y - x = n := by omega
      have HI := Lib.hid xI
      have HRO := Lib.hid (rowsOf_snoc k n s.A)
      have HRL : Hid ((rowsOf k n s.A).length = k) := rowsOf_len _ _ _
      clear hx hy xI xe xf xz hfw xs
      go_wp2_with fail
      refine (l00Own_any HI.out (by rw [rowL_len]; omega)).mono ?_
      rintro e wc ⟨vc, rfl, hoc, hbc⟩
      obtain ⟨vca, vcc, rfl⟩ := hoc.slice
      have HC := Lib.hid hoc
      have HBC := Lib.hid hbc
      have sc := hbc.size
      obtain ⟨L, hL⟩ := HX.out
      have HL := Lib.hid hL
      simp only [rowL_len] at HC ⊢
      clear hoc hbc hL lF x0 x1 x2 x3
      simp only [HRL.out] at HL HX ⊢
      go_wp2_with (at_builtin; refine wpList_append_place _ rfl _ _ 28 rfl (X2 + 1) 24 i0 (.slice none 0 0) 24 Try.underlying28 hi0 hz0 hz1 hz2 rfl _ k L rfl (by have h := (HL.out.on HBC.out).row; rw [HRL.out] at h; exact h.alloc _) ⟨wc.heap.size, 0, none⟩ _ (.slice vca n vcc) rfl (row_val _ _ _) (fun y hy => by simp at hy; rw [hy]; rfl) (by unfold maxLen; omega) (by omega) (by rw [World.size_alloc]; omega) ?_; intro v3 w3 hr3 hg3 hv3)
      have hp3 := OwnRI.push HL.out HC.out HBC.out (by omega) (by rw [HRL.out]; exact hr3) hg3 (fun g hg => (hv3 g hg).imp id (fun h => by rw [World.size_alloc] at h; omega))
      rw [HRO.out] at hp3
      have HX3 := Lib.hid hp3
      have HK3 := Lib.hid (below_pushR HK.out (by have := HS4.out; omega) (by omega) HX.out HBC.out hg3)
      clear hp3 hr3 hg3 hv3 HX HK HL HC HBC
      go_wp2
      go_roundw
      case rel => exact ⟨k + 1, by omega, by go_num, HX3.out, HK3.out⟩
      case measure => simp [intOf]; omega
    · obtain rfl : k = r := by omega
      have HB2 := Lib.hid (HB.out.trans (HK.out.mono (by omega)))
      go_wp2
      go_ret
      exact ⟨_, rfl, HX.out.mono (by omega), HB2.out⟩
set_option maxRecDepth 100000 in
set_option maxHeartbeats 3200000 in
theorem l04Space_any {q m n : Nat} [NeZero q] {A : Mt q} {v : Value} {w : World} (hv : RowsC w v m (rowL n A)) (hq : IsPr (q : Int)) (hm : m ≤ 1048576) (hn : n ≤ 64) (hmn : m * n ≤ 1048576) :
    Calls Try.prog 121 #[.int .i64 (q : Int), .int .i64 (n : Int), v] w fun e w' => RetV q n (basOf m n A) w e w' := by
  have HV := Lib.hid hv
  have HQ := Lib.hid hq
  obtain ⟨av, cv, rfl, -, -⟩ := hv
  have Pr0 := PtV.new w 0 0 (.slice none 0 0) 32
  have Fr0 := Fz.new w #[.int .i64 0, .int .i64 0, .slice none 0 0] 32
  clear hq
  go_enter Try.func121, Try.ntmps121
  go_wp2_with fail
  refine (l04Basis_any (HV.out.on ((Below.refl _ _).alloc (Nat.le_refl _) _)) HQ.out hm hn hmn).mono ?_
  rintro e w1 ⟨v1, rfl, ho, hb⟩
  have hs1 := hb.size
  rw [World.size_alloc] at hs1
  have HP := Lib.hid (Pr0.on hb)
  have HF : Hid (Fz w1 w.heap.size) := Fr0.on (by simp) hb
  have HB := Lib.hid (up1 hb)
  have HO := Lib.hid ho
  obtain ⟨va, vc, rfl⟩ := ho.slice
  have HQ3 := Lib.hid (HP.out.set3 q n (.slice va (basOf m n A).length vc))
  obtain ⟨lR, r0, r1, r2⟩ := HP.out
  have f0 := HF.out 0
  have f1 := HF.out 1
  have f2 := HF.out 2
  clear ho hb Pr0 Fr0
  go_wp2_with fail
  obtain ⟨_, q0, q1, q2⟩ := HQ3.out
  refine bodyPost_ret (v := .agg #[.int .i64 q, .int .i64 n, .slice va (basOf m n A).length vc]) (by simp [results, Try.results121, go_sem, q0, q1, q2]) rfl ⟨_, rfl, ?_, ?_⟩
  · have h := HO.out
    rw [World.size_alloc] at h
    refine OwnRI.mono (B := w.heap.size + 1) ?_ (by omega)
    repeat (refine OwnRI.setOut ?_ (by omega) _)
    exact h
  · repeat (refine Below.setC ?_ (by omega) _)
    exact HB.out
end Go.Proofs.Ytpimnngomodnhaa
