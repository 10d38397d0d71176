/-
  Systems of equations are drawn, by the model.
-/
import Derived.Test.YtlakkmhfaojebaaMDv
import Derived.Test.YtlakkmhfaojebaaVcB
import Derived.Test.YtlakkmhfaojebaaSpN
import Derived.Test.YtlakkmhfaojebaaGbv
import Derived.Test.YtlakkmhfaojebaaSpD
namespace Go.Proofs.Ytlakkmhfaojebaa
open Go.RowKit
open Lin
set_option linter.unusedVariables false
set_option linter.unusedSectionVars false

theorem addC_okN {p c : Int} (hp : 2 ≤ p) (xs ys : List Int) : NumOk p (addC p c xs ys) := fun j hj => by
  have hl : j < xs.length ∧ j < ys.length := by unfold addC at hj; rw [List.length_zipWith] at hj; omega
  have e : (addC p c xs ys)[j] = (xs[j]'hl.1 + c * ys[j]'hl.2) % p := by simp [addC]
  have h0 := Int.emod_nonneg (xs[j]'hl.1 + c * ys[j]'hl.2) (show p ≠ 0 by omega)
  have h1 := Int.emod_lt_of_pos (xs[j]'hl.1 + c * ys[j]'hl.2) (show 0 < p by omega)
  rw [e]
  exact ⟨h0, by omega⟩
theorem fr_gb {w w' : World} {g : Nat} (h : w.grownBy w' (some g)) : Fr g (g + 1) w w' := ⟨h.os, h.tape, h.output, h.size, fun k hk hd => h.block k hk (fun e => by injection e with e; omega)⟩
theorem BentW.lowM {w0 w w' : World} {p : Nat} {a : Option Addr} {len cap K R M : Nat} {P S C : Int} {v : Value} {zs : List Int} (h : BentW w0 p a len cap K R M w P S C v zs) (hv : ∀ g, v.ownBlock = some g → g < M) (hb : Below (M + 1) w w') : BentW w0 p a len cap K R M w' P S C v zs := by
  have h1 := h.pR; have h2 := h.RM; have h3 := h.hR
  have f : Fr (M + 1) w.heap.size w w' := ⟨hb.os, hb.tape, hb.output, hb.size, fun k hk hd => hb.block k (by omega)⟩
  have hc : ∀ L, L < M + 1 → L < w.heap.size → Fz w L → Fz w' L := fun L hL hLw hz o => (World.frozen?_of_block (w := w) (hb.block L hL)).trans (hz o)
  exact ⟨h.pr.fr f (by omega), hc R (by omega) h.pr.1 h.fr, h.pm.fr f (by omega), hc M (by omega) h.pm.1 h.fm, h.own.fr f (fun g hg => .inl (by have := hv g hg; omega)), h.top, h.sc.low (hb.mono (by omega)),
    ⟨hb.os.trans h.gb.os, hb.tape.trans h.gb.tape, hb.output.trans h.gb.output, Nat.le_trans h.gb.size hb.size, fun k hk hne => (hb.block k (by omega)).trans (h.gb.block k hk hne)⟩, h.pR, h.hR, h.RM⟩
theorem BentW.up {w0 w : World} {p : Nat} {a : Option Addr} {len cap K K' R M : Nat} {P S C : Int} {v : Value} {zs : List Int} (h : BentW w0 p a len cap K R M w P S C v zs) (hK : K ≤ K') : BentW w0 p a len cap K' R M w P S C v zs := ⟨h.pr, h.fr, h.pm, h.fm, h.own, h.top, h.sc.up hK, h.gb, h.pR, h.hR, h.RM⟩
/-- A drawn matrix and a drawn list, of whatever numbers. -/
def RetSys (p : Nat) (w : World) (e : Ending) (w' : World) : Prop :=
  ∃ (P S C : Int) (v : Value) (zs : List Int) (v2 : Value) (bs : List Int), e = .returned (.tuple #[.agg #[.int .i64 P, .int .i64 S, .int .i64 C, v], v2]) ∧ OwnI w.heap.size w' v zs ∧ zs.length ≤ 1100 ∧ OwnI w.heap.size w' v2 bs ∧ bs.length ≤ 1100 ∧ w.grownBy w' (some p)
set_option maxRecDepth 100000 in
set_option maxHeartbeats 12800000 in
theorem l04DrawSystem_any {p len cap K : Nat} {a : Option Addr} {w : World} (hK : K ≤ 400000000) (h : Sc p a len cap K w) :
    Calls Try.prog 61 #[.pointer (some ⟨p, 0, none⟩)] w fun e w' => RetSys p w e w' := by
  have hpw := h.2.1
  obtain ⟨i0, hi0, iz0, iz1, iz2⟩ := info_parts info2
  have HS := Lib.hid (h.alloc (.cells #[.int .i64 0, .int .i64 0, .int .i64 0, .slice none 0 0] 26))
  have Pr0 := Lib.hid (PtM.new w 0 0 0 (.slice none 0 0) 26)
  have Fr0 : Hid (Fz (w.alloc (.cells #[.int .i64 0, .int .i64 0, .int .i64 0, .slice none 0 0] 26)) w.heap.size) := Fz.new w _ _
  have G0 : Hid (w.grownBy (w.alloc (.cells #[.int .i64 0, .int .i64 0, .int .i64 0, .slice none 0 0] 26)) (some p)) := sgb_alloc _ _ _
  have hz0 : (w.alloc (.cells #[.int .i64 0, .int .i64 0, .int .i64 0, .slice none 0 0] 26)).heap.size = w.heap.size + 1 := by simp
  clear h
  go_enter Try.func61, Try.ntmps61
  go_wp2_with fail
  refine (l03Bent_any (by omega) HS.out).mono ?_
  rintro e w1 ⟨P, S, C, v, zs, rfl, ho, hzl, hg, hs⟩
  have Pr := Pr0.out.gb hg (by omega)
  have Fr : Fz w1 w.heap.size := Fr0.out.gb (by simp) hg (by omega)
  have G1 := sgb_trans G0.out hg
  have hl1 := Pr.1
  have bb := al1 (Below.refl w1.heap.size w1) (.cells #[.int .i64 P, .int .i64 S, .int .i64 C, v] 26)
  have HV : Hid (∀ g, v.ownBlock = some g → g < w1.heap.size) := fun g hg => (ho.out.lt g hg).2
  have HH : Hid (BentW w p a len cap (K + 5020) w.heap.size w1.heap.size (w1.alloc (.cells #[.int .i64 P, .int .i64 S, .int .i64 C, v] 26)) P S C v zs) := by
    rw [hz0] at ho
    exact ⟨Pr.on bb, Fr.on hl1 bb, PtM.new _ _ _ _ _ _, Fz.new _ _ _, ho.on bb, fun g hg => by have := (ho.out.lt g hg).2; omega, hs.below bb, sgb_trans G1 (gb_of_below bb), hpw, rfl, hl1⟩
  obtain ⟨va, vc, rfl⟩ := ho.slice
  have hz2 : w1.heap.size + 1 ≤ (w1.alloc (.cells #[.int .i64 P, .int .i64 S, .int .i64 C, .slice va zs.length vc] 26)).heap.size := by simp
  clear hs hg ho Pr Fr G1 bb HS Pr0 Fr0 G0 hz0
  go_wp2_with fail
  generalize hW : World.alloc w1 (.cells #[.int .i64 P, .int .i64 S, .int .i64 C, .slice va zs.length vc] 26) = w2 at HH hz2 ⊢
  clear hW
  obtain ⟨T, hT⟩ : ∃ T, okB P S C zs = T := ⟨_, rfl⟩
  have HT := Lib.hid hT
  clear hT
  with_reducible refine Calls.mono (specOk_is HH.out.pm (HH.out.own.at (by omega)) HT.out) ?_
  rintro e w3 ⟨rfl, d, hw3⟩
  have hb3 : Below w2.heap.size w2 w3 := by rw [hw3]; exact below_drewX (Below.refl _ _) d
  have HH := Lib.hid (HH.out.on hb3)
  have hz3 : w1.heap.size + 1 ≤ w3.heap.size := by have := hb3.size; omega
  have nMR : ¬ w1.heap.size = w.heap.size := by omega
  have nRM : ¬ w.heap.size = w1.heap.size := by omega
  clear hw3 hb3
  cases T with
  | false =>
    have ho2 : OwnI (w.heap.size + 1) (w3.alloc (.cells #[] 2)) (.slice (some ⟨w3.heap.size, 0, none⟩) 0 0) [] := World.ownsRow_made w3 #[] 0 (by omega) (Nat.zero_le _) rfl
    have HO2 := Lib.hid ho2
    clear ho2
    obtain ⟨lM, m0, m1, m2, m3⟩ := HH.out.pm
    obtain ⟨g0, g1, g2, g3⟩ := HH.out.fm.all
    obtain ⟨lR, r0, r1, r2, r3⟩ := HH.out.pr
    obtain ⟨f0, f1, f2, f3⟩ := HH.out.fr.all
    have HQ := Lib.hid (HH.out.pr.set4 P S C (.slice va zs.length vc))
    have HQ := Lib.hid (HQ.out.on (al1 (Below.refl _ _) (.cells #[] 2)))
    go_wp2_with fail
    obtain ⟨_, q0, q1, q2, q3⟩ := HQ.out
    refine bodyPost_ret (v := .tuple #[.agg #[.int .i64 P, .int .i64 S, .int .i64 C, .slice va zs.length vc], .slice (some ⟨w3.heap.size, 0, none⟩) 0 0]) (by simp [results, Try.results61, go_sem, q0, q1, q2, q3]) rfl ⟨P, S, C, _, zs, _, [], rfl, ?_, (by omega), ?_, (by simp), ?_⟩
    · refine OwnI.mono (B := w.heap.size + 1) ?_ (by omega)
      refine OwnI.al ?_
      iterate 4 (refine OwnI.setOut ?_ (by omega) _)
      exact HH.out.own
    · exact own_made _ _ _ _ (by simp only [World.size_setCell]) (by omega)
    · refine sgb_trans ?_ (sgb_alloc _ _ _)
      iterate 4 (refine gb_setn ?_ (by omega) _)
      exact HH.out.gb
  | true =>
    have hm : MOk P S C zs := by
      by_cases g : MOk P S C zs
      · exact g
      · have := okB_no g; rw [HT.out] at this; cases this
    obtain ⟨u, iu, m, n, A, hA⟩ := hm.form
    have HM := Lib.hid hA
    obtain rfl : P = u := hA.p
    obtain rfl : S = m := hA.r
    obtain rfl : C = n := hA.c
    have hm32 := hA.m32
    have hn32 := hA.n32
    have hu2 := hA.pr.1
    have hu3 := hA.pr.2.1
    clear hm hA HT
    obtain ⟨lM, m0, m1, m2, m3⟩ := HH.out.pm
    go_wp2_with fail
    refine (drawVector_any m u (by omega) (by omega) (by omega) HH.out.sc).mono ?_
    rintro e w4 ⟨vb, bs, rfl, hbl, -, hob, hs, hg⟩
    have HH := Lib.hid (HH.out.draw hg hs)
    have HO2 := Lib.hid (hob.mono hz3)
    have hz4 : w1.heap.size + 1 ≤ w4.heap.size := by have := hg.size; omega
    have hbl2 : bs.length ≤ 40 := by omega
    clear hob hs hg lM m0 m1 m2 m3 hbl
    go_wp2_with fail
    refine (one_any 2 (by omega) (by omega) HH.out.sc).mono ?_
    rintro e w5 ⟨b, rfl, hs, hg⟩
    have HO2 := Lib.hid (HO2.out.keptP hg (fun k hk e => by have := (HO2.out.out.lt k e).1; injection hk with hk; omega))
    have HH := Lib.hid (HH.out.draw hg hs)
    have hz5 : w1.heap.size + 1 ≤ w5.heap.size := by have := hg.size; omega
    clear hs hg
    have tail : ∀ (w6 : World) (vb : Value) (bs : List Int) (K6 : Nat), True := fun _ _ _ _ => trivial
    clear tail
    cases b with
    | false =>
      go_wp2_with fail
      refine (one_any 14 (by omega) (by omega) HH.out.sc).mono ?_
      rintro e w6 ⟨b, rfl, hs, hg⟩
      have HO2 := Lib.hid (HO2.out.keptP hg (fun k hk e => by have := (HO2.out.out.lt k e).1; injection hk with hk; omega))
      have HH := Lib.hid (HH.out.draw hg hs)
      have hz6 : w1.heap.size + 1 ≤ w6.heap.size := by have := hg.size; omega
      clear hs hg
      cases b with
      | false =>
        obtain ⟨ba, bc, rfl⟩ := HO2.out.slice
        obtain ⟨lM, m0, m1, m2, m3⟩ := HH.out.pm
        obtain ⟨g0, g1, g2, g3⟩ := HH.out.fm.all
        obtain ⟨lR, r0, r1, r2, r3⟩ := HH.out.pr
        obtain ⟨f0, f1, f2, f3⟩ := HH.out.fr.all
        have HQ := Lib.hid (HH.out.pr.set4 (u : Int) m n (.slice va zs.length vc))
        go_wp2_with fail
        obtain ⟨_, q0, q1, q2, q3⟩ := HQ.out
        refine bodyPost_ret (v := .tuple #[.agg #[.int .i64 (u : Int), .int .i64 (m : Int), .int .i64 (n : Int), .slice va zs.length vc], .slice ba bs.length bc]) (by simp [results, Try.results61, go_sem, q0, q1, q2, q3]) rfl ⟨u, m, n, _, zs, _, bs, rfl, ?_, (by omega), ?_, (by omega), ?_⟩
        · refine OwnI.mono (B := w.heap.size + 1) ?_ (by omega)
          iterate 4 (refine OwnI.setOut ?_ (by omega) _)
          exact HH.out.own
        · refine OwnI.mono (B := w.heap.size + 1) ?_ (by omega)
          iterate 4 (refine OwnI.setOut ?_ (by omega) _)
          exact HO2.out.mono (by omega)
        · iterate 4 (refine gb_setn ?_ (by omega) _)
          exact HH.out.gb
      | true =>
        obtain ⟨ba, bc, rfl⟩ := HO2.out.slice
        go_wp2_with (at_builtin; refine wpList_append_place _ rfl _ _ 24 rfl (w1.heap.size + 1) 2 i0 (.int .i64 0) 8 Try.underlying24 hi0 iz0 iz1 iz2 rfl _ bs.length (iv bs) rfl (HO2.out.out.alloc _) ⟨w6.heap.size, 0, none⟩ _ (.int .i64 0) rfl (row_int _ _ _) (fun y hy => by simp at hy; rw [hy]; rfl) (by unfold maxLen; omega) (by omega) (by rw [World.size_alloc]; omega) ?_; intro v7 w7' hr7 hg7 hv7; obtain ⟨v7a, v7c, rfl⟩ := row_slice hr7; have HH := Lib.hid ((HH.out.on (al1 (Below.refl _ _) _)).lowM HV.out (Below.grown (Below.refl _ _) hg7 (by rw [World.size_alloc]; omega) (fun k hk => (HO2.out.out.lt k hk).1))); obtain ⟨lM, m0, m1, m2, m3⟩ := HH.out.pm; obtain ⟨lR, r0, r1, r2, r3⟩ := HH.out.pr; obtain ⟨f0, f1, f2, f3⟩ := HH.out.fr.all; have ho7 : OwnI (w1.heap.size + 1) w7' (.slice v7a (bs.length + 1) v7c) (bs ++ [0]) := (by unfold OwnI; rw [iv_app, List.length_append]; exact hr7); have HO7 := Lib.hid ho7; have HQ := Lib.hid (HH.out.pr.set4 (u : Int) m n (.slice va zs.length vc)))
        obtain ⟨_, q0, q1, q2, q3⟩ := HQ.out
        refine bodyPost_ret (v := .tuple #[.agg #[.int .i64 (u : Int), .int .i64 (m : Int), .int .i64 (n : Int), .slice va zs.length vc], .slice v7a (bs.length + 1) v7c]) (by simp [results, Try.results61, go_sem, q0, q1, q2, q3]) rfl ⟨u, m, n, _, zs, _, (bs ++ [0]), rfl, ?_, (by omega), ?_, (by simp; omega), ?_⟩
        · refine OwnI.mono (B := w.heap.size + 1) ?_ (by omega)
          iterate 4 (refine OwnI.setOut ?_ (by omega) _)
          exact HH.out.own
        · refine OwnI.mono (B := w.heap.size + 1) ?_ (by omega)
          iterate 4 (refine OwnI.setOut ?_ (by omega) _)
          exact HO7.out.mono (by omega)
        · iterate 4 (refine gb_setn ?_ (by omega) _)
          exact HH.out.gb
    | true =>
      have hmk := run_make_row' (P := Try.prog) 24 2 (.int .i64 0) 8 Try.underlying24 info_i rfl .i64 .i64 m (by omega) (by omega)
      obtain ⟨lM, m0, m1, m2, m3⟩ := HH.out.pm
      have ho2 : OwnI (w1.heap.size + 1) (w5.alloc (.cells (madeCells #[.int .i64 0] m) 2)) (.slice (some ⟨w5.heap.size, 0, none⟩) m m) (List.replicate m 0) := OwnI.zeros (World.rowIs_made w5 (.int .i64 0) m 2) (by omega) (by omega)
      have HO2 := Lib.hid ho2
      have HH := Lib.hid (HH.out.on (al1 (Below.refl _ _) (.cells (madeCells #[.int .i64 0] m) 2)))
      clear ho2
      go_wp2_with fail
      generalize hW : World.alloc w5 (.cells (madeCells #[.int .i64 0] m) 2) = w6 at HO2 HH ⊢
      have hz6 : w1.heap.size + 1 ≤ w6.heap.size := by rw [← hW]; simp; omega
      have hV : ∃ vz, (Value.slice (some ⟨w5.heap.size, 0, none⟩) m m) = vz := ⟨_, rfl⟩
      clear hW hmk lM m0 m1 m2 m3
      have HC6 := Lib.hid (HH.out.own.atC (by omega))
      have hzs := HM.out.zs
      have hfl : (flat m n A).length = zs.length := by rw [hzs]
      have HCF : Hid (IntsC w6 (.slice va zs.length vc) (flat m n A)) := by show IntsC _ _ _; rw [← hzs]; exact HC6.out
      refine (l04Columns_any HH.out.pm HCF.out (by omega) (by omega)).mono ?_
      rintro e w7 ⟨vk, rfl, hok, hb7⟩
      have HK : Hid (OwnRX w6.heap.size w7.heap.size w7 vk (rowsOf n m (turn A))) := OwnRX.of hok (Nat.le_refl _)
      obtain ⟨ka, kc, rfl⟩ := hok.slice
      have HO2 := Lib.hid (HO2.out.on hb7)
      have HH := Lib.hid (HH.out.on hb7)
      have hz7 := hb7.size
      have HRL : Hid ((rowsOf n m (turn A)).length = n) := rowsOf_len _ _ _
      simp only [HRL.out] at HK ⊢
      clear hok hb7 hV hfl hzs HC6
      go_wp2_with fail
      go_loopw [7, 5] (fun si sb wr => ∃ (k : Nat) (bs : List Int), k ≤ n ∧ si = .int .i64 (k : Int) ∧ bs.length = m ∧ Hid (NumOk (u : Int) bs) ∧ Hid (OwnI (w1.heap.size + 1) wr sb bs) ∧ Hid (BentW w p a len cap (K + 6000 + 2 * k) w.heap.size w1.heap.size wr u m n (.slice va zs.length vc) zs) ∧ Hid (OwnRX w6.heap.size w7.heap.size wr (.slice ka n kc) (rowsOf n m (turn A))) ∧ w7.heap.size ≤ wr.heap.size) (fun si _ _ => n - (intOf si).toNat)
      case atStart => exact ⟨0, List.replicate m 0, Nat.zero_le _, rfl, by simp, (fun j hj => by simp; omega), HO2.out, HH.out.up (by omega), HK.out, Nat.le_refl _⟩
      case round =>
        obtain ⟨k, bs, hk, rfl, hbl, HN, HO2, HH, HK, hzr⟩ := hrel
        obtain ⟨ba, bc, rfl⟩ := HO2.out.slice
        have HBL := Lib.hid hbl
        rw [hbl]
        rw [hbl] at HO2
        by_cases hlt : k < n
        · have k0 : (0 : Int) ≤ (k : Int) := by omega
          have k1 : (k : Int) < (n : Int) := by omega
          have hfit : FitR (rowsOf n m (turn A)) := fit_rows _ (by omega) (by omega)
          have hrd := (HK.out.atD hfit).of_rows
          obtain ⟨Hr, ro, rc, ur, e, hHr, d0, hui⟩ := hrd.at hlt
          simp only [Value.slice.injEq, true_and] at e
          obtain ⟨rfl, rfl⟩ := e
          obtain ⟨ua, uc, rfl⟩ := hui.1.slice
          rw [rowL_len] at d0 hui
          have hlo : w6.heap.size ≤ Hr := by
            obtain ⟨L, hL⟩ := HK.out
            exact (hL.row.lt Hr rfl).1
          have hpz : p + 1 ≤ w6.heap.size := by omega
          clear hrd hui
          obtain ⟨lM, m0, m1, m2, m3⟩ := HH.out.pm
          go_wp2_with fail
          go_region_held3 (fun w' => w'.cell? ⟨Hr, ro + k, none⟩ = some (.slice ua m uc) ∧ w'.cell? ⟨w1.heap.size, 0, none⟩ = some (.int .i64 (u : Int))) (go_keep)
            (first
              | (go_at_call 77; refine (pick_any u (by omega) (by omega) HH.out.sc.drew).mono ?_; rintro e w8 ⟨x, hx, rfl, hs, hg'⟩; have hg : wr.grownBy w8 (some p) := ⟨hg'.os, hg'.tape, hg'.output, hg'.size, hg'.block⟩; have d8 := (gbv_cell hg hHr (fun k hk e => by injection hk with hk; omega) (ro + k)).trans d0; have H8 := Lib.hid (HH.out.draw hg hs); have HK8 := Lib.hid (HK.out.fr (fr_gb hg) (.inr hpz)); have HO8 := Lib.hid (HO2.out.keptP hg (fun k hk e => by have := (HO2.out.out.lt k e).1; injection hk with hk; omega)); obtain ⟨_, _, _, _, _⟩ := H8.out.pm)
              | (go_at_call 74; go_loud (have hy8 : IntsAt w8 (.slice ua m uc) (rowL m (turn A) k) := (by obtain ⟨Hr', ro', rc', ur', e', hHr', d', hui'⟩ := ((HK8.out.atD hfit).of_rows).at hlt; simp only [Value.slice.injEq, Option.some.injEq, Addr.mk.injEq, true_and, and_true] at e'; obtain ⟨⟨rfl, rfl⟩, -⟩ := e'; rw [d8] at d'; injection d' with d'; rw [d']; exact hui'.1); refine (specAdd_any (c := x) (p := (u : Int)) (xs := bs) (ys := rowL m (turn A) k) (by omega) (by omega) (by omega) (by omega) (HO8.out.at (by omega)) hy8 (by rw [rowL_len]; exact hbl) (by omega) HN.out (rowL_ok m (turn A) k)).mono ?_; rintro e w9 ⟨v9, rfl, ho9, hb9⟩; have H9 := Lib.hid (H8.out.on hb9); have HK9 := Lib.hid (HK8.out.on hb9); obtain ⟨v9a, v9c, rfl⟩ := ho9.slice; obtain ⟨_, _, _, _, _⟩ := H9.out.pm; have d9 := (hb9.cell (p := ⟨Hr, ro + k, none⟩) (show Hr < _ by have := hg.size; omega)).trans d8)))
          have hz9 : w7.heap.size ≤ w9.heap.size := by have h1 := hg.size; have h2 := hb9.size; omega
          have HO9 := Lib.hid (ho9.mono (show w1.heap.size + 1 ≤ w8.heap.size by have h1 := hg.size; omega))
          have hl9 : (addC (u : Int) x bs (rowL m (turn A) k)).length = m := by rw [addC_len (by rw [rowL_len]; exact hbl)]; exact hbl
          have HN9 := Lib.hid (addC_okN (c := x) hu2 bs (rowL m (turn A) k))
          have H9 := Lib.hid (H9.out.up (by omega : K + 6000 + 2 * k + 2 ≤ K + 6000 + 2 * (k + 1)))
          clear ho9 hb9 hs hg hg'
          go_wp2
          go_roundw
          case rel => exact ⟨k + 1, _, by omega, by go_num, hl9, HN9.out, HO9.out, H9.out, HK9.out, hz9⟩
          case measure => simp [intOf]; omega
        · have hbl2 : bs.length ≤ 40 := by omega
          have hzz : w1.heap.size + 1 ≤ wr.heap.size := by omega
          rename World => w6'
          go_wp2_with fail
          refine (one_any 14 (by omega) (by omega) HH.out.sc).mono ?_
          rintro e w6 ⟨b, rfl, hs, hg⟩
          have HO2 := Lib.hid (HO2.out.keptP hg (fun k hk e => by have := (HO2.out.out.lt k e).1; injection hk with hk; omega))
          have HH := Lib.hid (HH.out.draw hg hs)
          have hz6 : w1.heap.size + 1 ≤ w6.heap.size := by have := hg.size; omega
          clear hs hg
          cases b with
          | false =>
            obtain ⟨lM, m0, m1, m2, m3⟩ := HH.out.pm
            obtain ⟨g0, g1, g2, g3⟩ := HH.out.fm.all
            obtain ⟨lR, r0, r1, r2, r3⟩ := HH.out.pr
            obtain ⟨f0, f1, f2, f3⟩ := HH.out.fr.all
            have HQ := Lib.hid (HH.out.pr.set4 (u : Int) m n (.slice va zs.length vc))
            go_wp2_with fail
            obtain ⟨_, q0, q1, q2, q3⟩ := HQ.out
            refine bodyPost_ret (v := .tuple #[.agg #[.int .i64 (u : Int), .int .i64 (m : Int), .int .i64 (n : Int), .slice va zs.length vc], .slice ba m bc]) (by simp [results, Try.results61, go_sem, q0, q1, q2, q3]) rfl ⟨u, m, n, _, zs, _, bs, rfl, ?_, (by omega), ?_, (by omega), ?_⟩
            · refine OwnI.mono (B := w.heap.size + 1) ?_ (by omega)
              iterate 4 (refine OwnI.setOut ?_ (by omega) _)
              exact HH.out.own
            · refine OwnI.mono (B := w.heap.size + 1) ?_ (by omega)
              iterate 4 (refine OwnI.setOut ?_ (by omega) _)
              exact HO2.out.mono (by omega)
            · iterate 4 (refine gb_setn ?_ (by omega) _)
              exact HH.out.gb
          | true =>
            go_wp2_with (at_builtin; refine wpList_append_place _ rfl _ _ 24 rfl (w1.heap.size + 1) 2 i0 (.int .i64 0) 8 Try.underlying24 hi0 iz0 iz1 iz2 rfl _ m (iv bs) rfl (by have h := HO2.out.out; rw [hbl] at h; exact h.alloc _) ⟨w6.heap.size, 0, none⟩ _ (.int .i64 0) rfl (row_int _ _ _) (fun y hy => by simp at hy; rw [hy]; rfl) (by unfold maxLen; omega) (by omega) (by rw [World.size_alloc]; omega) ?_; intro v7 w7' hr7 hg7 hv7; obtain ⟨v7a, v7c, rfl⟩ := row_slice hr7; have HH := Lib.hid ((HH.out.on (al1 (Below.refl _ _) _)).lowM HV.out (Below.grown (Below.refl _ _) hg7 (by rw [World.size_alloc]; omega) (fun k hk => (HO2.out.out.lt k hk).1))); obtain ⟨lM, m0, m1, m2, m3⟩ := HH.out.pm; obtain ⟨lR, r0, r1, r2, r3⟩ := HH.out.pr; obtain ⟨f0, f1, f2, f3⟩ := HH.out.fr.all; have ho7 : OwnI (w1.heap.size + 1) w7' (.slice v7a (m + 1) v7c) (bs ++ [0]) := (by unfold OwnI; rw [iv_app, List.length_append, hbl]; exact hr7); have HO7 := Lib.hid ho7; have HQ := Lib.hid (HH.out.pr.set4 (u : Int) m n (.slice va zs.length vc)))
            obtain ⟨_, q0, q1, q2, q3⟩ := HQ.out
            refine bodyPost_ret (v := .tuple #[.agg #[.int .i64 (u : Int), .int .i64 (m : Int), .int .i64 (n : Int), .slice va zs.length vc], .slice v7a (m + 1) v7c]) (by simp [results, Try.results61, go_sem, q0, q1, q2, q3]) rfl ⟨u, m, n, _, zs, _, (bs ++ [0]), rfl, ?_, (by omega), ?_, (by simp; omega), ?_⟩
            · refine OwnI.mono (B := w.heap.size + 1) ?_ (by omega)
              iterate 4 (refine OwnI.setOut ?_ (by omega) _)
              exact HH.out.own
            · refine OwnI.mono (B := w.heap.size + 1) ?_ (by omega)
              iterate 4 (refine OwnI.setOut ?_ (by omega) _)
              exact HO7.out.mono (by omega)
            · iterate 4 (refine gb_setn ?_ (by omega) _)
              exact HH.out.gb
end Go.Proofs.Ytlakkmhfaojebaa
