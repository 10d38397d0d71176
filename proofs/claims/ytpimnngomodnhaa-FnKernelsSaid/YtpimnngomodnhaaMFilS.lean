/-
  A matrix is drawn, by the model: what is left of the source.
-/
import Derived.Test.YtpimnngomodnhaaMFill
namespace Go.Proofs.Ytpimnngomodnhaa
open Go.RowKit
open Lin
set_option linter.unusedVariables false
set_option linter.unusedSectionVars false

theorem gb_of_below {w w' : World} {g : Option Nat} (h : Below w.heap.size w w') : w.grownBy w' g := ⟨h.os, h.tape, h.output, h.size, fun k hk _ => h.block k hk⟩
theorem gb_setn {a w : World} {g : Option Nat} (h : a.grownBy w g) {b o : Nat} (hb : a.heap.size ≤ b) (x : Value) : a.grownBy (w.setCell ⟨b, o, none⟩ x) g :=
  ⟨h.os, h.tape, h.output, by simpa [World.setCell] using h.size, fun i hi hne => (Deep.blk_setCell_other _ _ _ _ (show i ≠ b by omega)).trans (h.block i hi hne)⟩
theorem Fr2.gbn {p h : Nat} {w0 w w1 : World} (f : Fr2 p h w w1) (hg : w0.grownBy w (some p)) (hh : w0.heap.size ≤ h) : w0.grownBy w1 (some p) :=
  ⟨f.1.trans hg.os, f.2.1.trans hg.tape, f.2.2.1.trans hg.output, Nat.le_trans hg.size f.2.2.2.1, fun k hk hne => (f.2.2.2.2 k (Nat.lt_of_lt_of_le hk hg.size) (fun e => hne (by rw [e])) (by omega)).trans (hg.block k hk hne)⟩
theorem Sc.setn {p : Nat} {a : Option Addr} {len cap K : Nat} {w : World} (h : Sc p a len cap K w) {b o : Nat} (hb : p < b) (x : Value) : Sc p a len cap K (w.setCell ⟨b, o, none⟩ x) := h.low (Below.setC (Below.refl _ _) hb x)
/-- A drawn matrix, and the source behind it. -/
def RetFiS (q : Nat) [NeZero q] (p : Nat) (a : Option Addr) (len cap K m n : Nat) (w : World) (e : Ending) (w' : World) : Prop :=
  ∃ (A : Mt q) (v : Value), e = .returned (.agg #[.int .i64 q, .int .i64 m, .int .i64 n, v]) ∧ OwnI w.heap.size w' v (flat m n A) ∧ w.grownBy w' (some p) ∧ Sc p a len cap K w'
set_option maxRecDepth 100000 in
set_option maxHeartbeats 6400000 in
theorem l03FillS_any {q m n p len cap K : Nat} [NeZero q] {a : Option Addr} {w : World} (hpr : IsPr (q : Int)) (hm : m ≤ 32) (hn : n ≤ 32) (hK : K ≤ 700000000) (hs : Sc p a len cap K w) :
    Calls Try.prog 111 #[.pointer (some ⟨p, 0, none⟩), .int .i64 (q : Int), .int .i64 (m : Int), .int .i64 (n : Int)] w fun e w' => RetFiS q p a len cap (K + 5000) m n w e w' := by
  have hq2 : 2 ≤ q := by have := hpr.1; omega
  have hq3 : q ≤ 251 := by have := hpr.2.1; omega
  have qz : ¬ (q : Int) = 0 := by omega
  have hmn := side_mul hm hn
  have hpw := hs.2.1
  have HS := Lib.hid (hs.alloc (.cells #[.int .i64 0, .int .i64 0, .int .i64 0, .slice none 0 0] 26))
  have bb := (Below.refl w.heap.size w).alloc (Nat.le_refl _) (.cells #[.int .i64 0, .int .i64 0, .int .i64 0, .slice none 0 0] 26)
  have Pr0 := PtM.new w 0 0 0 (.slice none 0 0) 26
  have Fr0 := Fz.new w #[.int .i64 0, .int .i64 0, .int .i64 0, .slice none 0 0] 26
  clear hs hpr
  go_enter Try.func111, Try.ntmps111
  go_wp2_with fail
  generalize hW : World.alloc w (.cells #[.int .i64 0, .int .i64 0, .int .i64 0, .slice none 0 0] 26) = W0 at Pr0 Fr0 bb HS ⊢
  obtain ⟨R, hR⟩ : ∃ R, w.heap.size = R := ⟨_, rfl⟩
  have hz : R + 1 ≤ W0.heap.size := by rw [← hW, ← hR]; simp
  rw [hR] at Pr0 Fr0 hpw
  clear hW
  refine (specZeros_any q m n (m * n) _ (Int.natCast_mul m n).symm (by omega)).mono ?_
  rintro e w1 ⟨h, rfl, hh, hrow, hb⟩
  have hhl := hrow.lt
  have HX0 : Hid (MatG w1 h (m * n) m n (fun _ _ => (0 : Fin q))) := ⟨_, hrow, Nat.le_refl _, by unfold maxLen; omega, fun t _ => by show _ = Value.int .i64 (fv (0 : Fin q)); rw [fv_zero]⟩
  have HS := Lib.hid (HS.out.below hb)
  have Pr := Lib.hid (Pr0.on hb)
  have Fr : Hid (Fz w1 R) := Fr0.on (by omega) hb
  have HB : Hid (Below w.heap.size w w1) := bb.trans (hb.mono (by omega))
  have hz1 := hb.size
  clear hb hrow Pr0 Fr0 bb
  go_wp2_with fail
  have bb := (Below.refl w1.heap.size w1).alloc (Nat.le_refl _) (.cells #[.int .i64 (q : Int), .int .i64 (m : Int), .int .i64 (n : Int), .slice (some ⟨h, 0, none⟩) (m * n) (m * n)] 26)
  have PM := PtM.new w1 q m n (.slice (some ⟨h, 0, none⟩) (m * n) (m * n)) 26
  generalize hW : World.alloc w1 (.cells #[.int .i64 (q : Int), .int .i64 (m : Int), .int .i64 (n : Int), .slice (some ⟨h, 0, none⟩) (m * n) (m * n)] 26) = W1 at PM bb ⊢
  obtain ⟨M, hM⟩ : ∃ M, w1.heap.size = M := ⟨_, rfl⟩
  have hzM : M + 1 ≤ W1.heap.size := by rw [← hW, ← hM]; simp
  rw [hM] at PM hhl hz1 ⊢
  have PM := Lib.hid PM
  have HX0 := Lib.hid (HX0.out.on bb)
  have HS := Lib.hid (HS.out.below bb)
  have Pr := Lib.hid (Pr.out.on bb)
  have Fr : Hid (Fz W1 R) := Fr.out.on (by omega) bb
  have HB : Hid (Below w.heap.size w W1) := HB.out.trans (bb.mono (by omega))
  clear hW bb
  go_loopw [10] (fun si wr => ∃ i : Nat, i ≤ m * n ∧ si = .int .i64 (i : Int) ∧ Hid (∃ B : Mt q, MatG wr h (m * n) m n B) ∧ Hid (Sc p a len cap (K + 4 * i) wr) ∧ Hid (Fr2 p h W1 wr)) (fun si _ => m * n - (intOf si).toNat)
  case atStart => exact ⟨0, Nat.zero_le _, rfl, ⟨_, HX0.out⟩, HS.out, Fr2.refl _ _ _⟩
  case round =>
    clear HS HX0
    obtain ⟨i, hi, rfl, HX, HS, HF⟩ := hrel
    obtain ⟨B, hX⟩ := HX.out
    have HX := Lib.hid hX
    clear hX
    obtain ⟨lM, m0, m1, m2, m3⟩ := HF.out.pt PM.out (by omega) (by omega)
    by_cases hlt : i < m * n
    · as_aux_lemma =>
      obtain ⟨N, hN⟩ : ∃ N, m * n = N := ⟨_, rfl⟩
      have HN := Lib.hid hN
      rw [hN] at m3 hmn
      have ilt : (i : Int) < (N : Int) := by omega
      have i0 : (0 : Int) ≤ (i : Int) := by omega
      clear hN
      go_wp2_with fail
      refine (pick_any 3 (by omega) (by omega) HS.out).mono ?_
      rintro e w3 ⟨r, hr, rfl, hs3, hg3⟩
      have HS := Lib.hid hs3
      have HX := Lib.hid (HX.out.gb hg3 (by omega))
      have HF := Lib.hid (HF.out.gb hg3 (.inl rfl))
      clear lM m0 m1 m2 m3 hs3 hg3
      obtain ⟨lM, m0, m1, m2, m3⟩ := HF.out.pt PM.out (by omega) (by omega)
      rw [HN.out] at m3
      by_cases hr0 : r > 0
      · obtain ⟨x0, hx0⟩ := HX.out.has hlt
        have fx := HX.out.frozen i
        have nMh : ¬ M = h := by omega
        have nhM : ¬ h = M := by omega
        have neMp : M ≠ p := by omega
        have nehp : h ≠ p := by omega
        clear hr
        go_wp2_with fail
        go_region_held3 (fun w' => w'.cell? ⟨M, 3, none⟩ = some (.slice (some ⟨h, 0, none⟩) N N)) (go_keep)
          (first
            | (go_at_call 64; refine (pick_any (q : Int) (by omega) (by omega) HS.out.drew).mono ?_; rintro e w4 ⟨z, hz4, rfl, hs4, hg4'⟩; have hg4 := gb_undrew hg4'; have hm4 := (gb_cell hg4 (b := M) (o := 3) lM neMp).trans m3; have fx4 := (HX.out.gb hg4 nehp).frozen i; obtain ⟨x4, hx4⟩ := (HX.out.gb hg4 nehp).has hlt))
        have z0 : 0 ≤ z := hz4.1
        have z1 : z < q := by rcases hz4.2 with h | h <;> omega
        obtain ⟨x, hx⟩ := fin_of (q := q) z0 z1
        have HXN := Lib.hid (((HX.out.gb hg4 nehp).setAt hlt x hx))
        have HFN := Lib.hid ((HF.out.gb hg4 (.inl rfl)).gb (gb_set (g := h) (o := i) (grown_refl _ _) (.int .i64 z)) (.inr rfl))
        have HSN := Lib.hid ((hs4.low (show Below (p + 1) w4 (w4.setCell ⟨h, i, none⟩ (.int .i64 z)) from Below.setC (Below.refl (p + 1) w4) (by omega) (.int .i64 z))).up (by omega : K + 4 * i + 2 + 2 ≤ K + 4 * (i + 1)))
        clear hx hs4 hg4 hg4' HX HF HS
        go_wp2
        go_roundw
        case rel => exact ⟨i + 1, by omega, by go_num, ⟨_, HXN.out⟩, HSN.out, HFN.out⟩
        case measure => rw [HN.out] at hlt; rw [HN.out]; simp [intOf]; omega
      · have hr1 : decide (r > 0) = false := by simpa using hr0
        have HSN := Lib.hid (HS.out.up (by omega : K + 4 * i + 2 ≤ K + 4 * (i + 1)))
        clear hr0 hr HS
        go_wp2
        go_roundw
        case rel => exact ⟨i + 1, by omega, by go_num, ⟨_, HX.out⟩, HSN.out, HF.out⟩
        case measure => rw [HN.out] at hlt; rw [HN.out]; simp [intOf]; omega
    · have hie : m * n = i := by omega
      have HIE := Lib.hid hie
      have il : ¬ (i : Int) < ((m * n : Nat) : Int) := by omega
      rw [hie] at m3 il
      clear hie hlt
      by_cases hm1 : 1 < m
      · as_aux_lemma =>
        have mg : (1 : Int) < (m : Int) := by omega
        have mg' : decide ((m : Int) > 1) = true := by simpa using mg
        go_wp2_with fail
        refine (one_any 3 (by omega) (by omega) HS.out).mono ?_
        rintro e w3 ⟨b, rfl, hs3, hg3⟩
        have HS := Lib.hid hs3
        have HX := Lib.hid (HX.out.gb hg3 (by omega))
        have HF := Lib.hid (HF.out.gb hg3 (.inl rfl))
        clear lM m0 m1 m2 m3 hs3 hg3
        cases b with
        | false =>
          as_aux_lemma =>
          have HRB := Lib.hid (HF.out.gbn (gb_of_below HB.out) (by omega))
          obtain ⟨lR, r0, r1, r2, r3⟩ := HF.out.pt Pr.out (by omega) (by omega)
          obtain ⟨f0, f1, f2, f3⟩ := (HF.out.fz Fr.out (by omega) (by omega) (by omega)).all
          have hq4 := Lib.hid ((HF.out.pt Pr.out (by omega) (by omega)).set4 q m n (.slice (some ⟨h, 0, none⟩) (m * n) (m * n)))
          obtain ⟨lM, m0, m1, m2, m3⟩ := HF.out.pt PM.out (by omega) (by omega)
          have neM := (HF.out.pt PM.out (by omega) (by omega)).ne
          go_wp2_with fail
          obtain ⟨_, q0, q1, q2, q3⟩ := hq4.out
          refine bodyPost_ret (v := .agg #[.int .i64 q, .int .i64 m, .int .i64 n, .slice (some ⟨h, 0, none⟩) (m * n) (m * n)]) (by simp [results, Try.results111, go_sem, q0, q1, q2, q3]) rfl ⟨B, _, rfl, ?_, ?_, ?_⟩
          · refine OwnI.mono (B := R + 1) ?_ (by omega)
            repeat (refine OwnI.setOut ?_ (by omega) _)
            exact HX.out.own (by omega)
          · repeat (refine gb_setn ?_ (by omega) _)
            exact HRB.out
          · repeat (refine Sc.setn ?_ (by omega) _)
            exact HS.out.up (by have := HIE.out; omega)
        | true =>
          go_wp2_with fail
          go_loopw [11] (fun sk wr => ∃ k : Nat, k ≤ n ∧ sk = .int .i64 (k : Int) ∧ Hid (∃ B : Mt q, MatG wr h (m * n) m n B) ∧ Hid (Fr2 p h W1 wr) ∧ Hid (Sc p a len cap (K + 4 * i + 2) wr)) (fun sk _ => n - (intOf sk).toNat)
          case atStart => exact ⟨0, Nat.zero_le _, rfl, ⟨_, HX.out⟩, HF.out, HS.out⟩
          case round =>
            clear HX HF HS
            obtain ⟨k, hk, rfl, HX, HF, HS⟩ := hrel
            obtain ⟨B, hX⟩ := HX.out
            have HX := Lib.hid hX
            clear hX
            by_cases hkn : k < n
            · as_aux_lemma =>
              have k1 : (k : Int) < (n : Int) := by omega
              have c0 := HX.out.cell (by omega : 0 < m) hkn
              rw [Nat.zero_mul, Nat.zero_add] at c0
              have l0 := idx_lt (by omega : 0 < m) hkn
              rw [Nat.zero_mul, Nat.zero_add] at l0
              have hm' : m - 1 < m := by omega
              have l1 := idx_lt hm' hkn
              have c1 := HX.out.cell hm' hkn
              have fx := HX.out.frozen ((m - 1) * n + k)
              have b0 := fv_nn (B 0 k)
              have b1 := fv_lt (B 0 k)
              obtain ⟨z, hzz⟩ : ∃ z, fv (B 0 k) = z := ⟨_, rfl⟩
              rw [hzz] at c0 b0 b1
              have r0 := Int.emod_nonneg (z * 2) qz
              have r1 := Int.emod_lt_of_pos (z * 2) (show 0 < (q : Int) by omega)
              have tm : (z * 2).tmod (q : Int) = z * 2 % (q : Int) := Int.tmod_eq_emod_of_nonneg (by omega)
              obtain ⟨y, hy⟩ : ∃ y, z * 2 % (q : Int) = y := ⟨_, rfl⟩
              rw [hy] at r0 r1 tm
              obtain ⟨x, hx⟩ := fin_of (q := q) r0 r1
              obtain ⟨z1, hz1'⟩ : ∃ z, fv (B (m - 1) k) = z := ⟨_, rfl⟩
              rw [hz1'] at c1
              have HXN : Hid (MatG ((wr.setCell ⟨h, (m - 1) * n + k, none⟩ (.int .i64 y)).drew) h (m * n) m n (upd B (m - 1) k x)) := by
                have h := (HX.out.set hm' hkn x).drew
                rw [hx] at h
                exact h
              have HFN : Hid (Fr2 p h W1 ((wr.setCell ⟨h, (m - 1) * n + k, none⟩ (.int .i64 y)).drew)) := (HF.out.gb (gb_set (g := h) (o := (m - 1) * n + k) (grown_refl _ _) (.int .i64 y)) (.inr rfl)).drew
              have HSN : Hid (Sc p a len cap (K + 4 * i + 2) ((wr.setCell ⟨h, (m - 1) * n + k, none⟩ (.int .i64 y)).drew)) := (HS.out.setn (by omega) _).drew
              obtain ⟨lM, m0, m1, m2, m3⟩ := HF.out.pt PM.out (by omega) (by omega)
              obtain ⟨N, hN⟩ : ∃ N, m * n = N := ⟨_, rfl⟩
              rw [hN] at m3 l0 l1 hmn HXN
              obtain ⟨y1, hy1⟩ : ∃ y, (m - 1) * n = y := ⟨_, rfl⟩
              rw [hy1] at l1 c1 fx HXN HFN HSN
              obtain ⟨v1, hv1⟩ : ∃ v, y1 + k = v := ⟨_, rfl⟩
              rw [hv1] at l1 c1 fx HXN HFN HSN
              have e1 : (m : Int) - 1 = ((m - 1 : Nat) : Int) := by omega
              have w0 : IntKind.i64.wrap ((m : Int) - 1) = ((m - 1 : Nat) : Int) := by rw [e1]; exact IntWalk.i64_in _ (by omega)
              obtain ⟨m9, hm9⟩ : ∃ x, m - 1 = x := ⟨_, rfl⟩
              rw [hm9] at w0 hy1
              have wa : IntKind.i64.wrap ((m9 : Int) * (n : Int)) = (y1 : Int) := by rw [← Int.natCast_mul, hy1]; exact IntWalk.i64_in _ (by omega)
              have wb : IntKind.i64.wrap ((y1 : Int) + (k : Int)) = (v1 : Int) := by rw [← Int.natCast_add, hv1]; exact IntWalk.i64_in _ (by omega)
              have wz : IntKind.i64.wrap (z * 2) = z * 2 := IntWalk.i64_in _ (by omega)
              have wy : IntKind.i64.wrap y = y := IntWalk.i64_in _ (by omega)
              have p0 : (0 : Int) ≤ (v1 : Int) := by omega
              have p1 : (v1 : Int) < (N : Int) := by omega
              have p2 : (0 : Int) ≤ (k : Int) := by omega
              have p3 : (k : Int) < (N : Int) := by omega
              have HN := Lib.hid hN
              have nhM : ¬ h = M := by omega
              have nMh : ¬ M = h := by omega
              have qn : ¬ q = 0 := by omega
              clear hN hzz hy hx hz1' hy1 hv1 hm9 e1 HX HF HS
              go_wp2
              go_region
              go_wp2
              go_roundw
              case rel => exact ⟨k + 1, by omega, by go_num, ⟨_, by rw [HN.out]; exact HXN.out⟩, HFN.out, HSN.out⟩
              case measure => simp [intOf]; omega
            · as_aux_lemma =>
              obtain rfl : n = k := by omega
              have HRB := Lib.hid (HF.out.gbn (gb_of_below HB.out) (by omega))
              obtain ⟨lR, r0, r1, r2, r3⟩ := HF.out.pt Pr.out (by omega) (by omega)
              obtain ⟨f0, f1, f2, f3⟩ := (HF.out.fz Fr.out (by omega) (by omega) (by omega)).all
              have hq4 := Lib.hid ((HF.out.pt Pr.out (by omega) (by omega)).set4 q m n (.slice (some ⟨h, 0, none⟩) (m * n) (m * n)))
              obtain ⟨lM, m0, m1, m2, m3⟩ := HF.out.pt PM.out (by omega) (by omega)
              have neM := (HF.out.pt PM.out (by omega) (by omega)).ne
              go_wp2_with fail
              obtain ⟨_, q0, q1, q2, q3⟩ := hq4.out
              refine bodyPost_ret (v := .agg #[.int .i64 q, .int .i64 m, .int .i64 n, .slice (some ⟨h, 0, none⟩) (m * n) (m * n)]) (by simp [results, Try.results111, go_sem, q0, q1, q2, q3]) rfl ⟨B, _, rfl, ?_, ?_, ?_⟩
              · refine OwnI.mono (B := R + 1) ?_ (by omega)
                repeat (refine OwnI.setOut ?_ (by omega) _)
                exact HX.out.own (by omega)
              · repeat (refine gb_setn ?_ (by omega) _)
                exact HRB.out
              · repeat (refine Sc.setn ?_ (by omega) _)
                exact HS.out.up (by have := HIE.out; omega)
      · as_aux_lemma =>
        have mg : ¬ (1 : Int) < (m : Int) := by omega
        have mg' : decide ((m : Int) > 1) = false := by simpa using mg
        have HRB := Lib.hid (HF.out.gbn (gb_of_below HB.out) (by omega))
        obtain ⟨lR, r0, r1, r2, r3⟩ := HF.out.pt Pr.out (by omega) (by omega)
        obtain ⟨f0, f1, f2, f3⟩ := (HF.out.fz Fr.out (by omega) (by omega) (by omega)).all
        have hq4 := Lib.hid ((HF.out.pt Pr.out (by omega) (by omega)).set4 q m n (.slice (some ⟨h, 0, none⟩) i i))
        have neM := (HF.out.pt PM.out (by omega) (by omega)).ne
        go_wp2_with fail
        obtain ⟨_, q0, q1, q2, q3⟩ := hq4.out
        refine bodyPost_ret (v := .agg #[.int .i64 q, .int .i64 m, .int .i64 n, .slice (some ⟨h, 0, none⟩) i i]) (by simp [results, Try.results111, go_sem, q0, q1, q2, q3]) rfl ⟨B, _, rfl, ?_, ?_, ?_⟩
        · refine OwnI.mono (B := R + 1) ?_ (by omega)
          repeat (refine OwnI.setOut ?_ (by omega) _)
          have hown := HX.out.own (b := R + 1) (by omega)
          rw [HIE.out] at hown
          exact hown
        · repeat (refine gb_setn ?_ (by omega) _)
          exact HRB.out
        · repeat (refine Sc.setn ?_ (by omega) _)
          exact HS.out.up (by have := HIE.out; omega)
end Go.Proofs.Ytpimnngomodnhaa
