/-
  l03Solve and Solve of the model.
-/
import Derived.Test.YtghliaghmkkniaaSpS
namespace Go.Proofs.Ytghliaghmkkniaa
open Go.RowKit
open Lin
set_option linter.unusedVariables false
set_option linter.unusedSectionVars false

/-- A list of numbers and whether there is one. -/
def RetSB (zs : List Int) (T : Bool) (w : World) (e : Ending) (w' : World) : Prop :=
  ∃ v, e = .returned (.tuple #[v, .bool T]) ∧ OwnI w.heap.size w' v zs ∧ Below w.heap.size w w'
/-- What the model's solution is. -/
def SysB {q : Nat} [NeZero q] (m n : Nat) (s : St q) (Z : List Int) (T : Bool) : Prop := (Solv m n s ∧ Z = solL n s ∧ T = true) ∨ (¬ Solv m n s ∧ Z = [] ∧ T = false)
theorem SysRes.bool {q m n : Nat} [NeZero q] {s : St q} {Z : List Int} {k : Int} (h : SysRes m n s Z k) : (SysB m n s Z true ∧ k = 0) ∨ (SysB m n s Z false ∧ Z = [] ∧ k = 3) := by
  rcases h with ⟨h, rfl, rfl⟩ | ⟨h, rfl, rfl⟩
  · exact .inl ⟨.inl ⟨h, rfl, rfl⟩, rfl⟩
  · exact .inr ⟨.inr ⟨h, rfl, rfl⟩, rfl, rfl⟩
theorem join_sys {q : Nat} [NeZero q] (n : Nat) (A : Mt q) (b : Nat → Fin q) : join n A (fun i _ => b i) = Lin.sys n A b := rfl
theorem bL_flat {q : Nat} [NeZero q] (m : Nat) (b : Nat → Fin q) : bL m b = flat m 1 (fun i _ => b i) := by
  refine List.ext_getElem (by rw [bL_len, flat_len, Nat.mul_one]) fun i h1 h2 => ?_
  rw [bL_at]
  have h := flat_ij m 1 (fun i _ => b i) (i := i) (j := 0) (by rw [bL_len] at h1; exact h1) (by omega)
  simp only [Nat.mul_one, Nat.add_zero] at h
  rw [h]
set_option maxRecDepth 100000 in
set_option maxHeartbeats 6400000 in
theorem l03Solve_any {q m n : Nat} [NeZero q] {A : Mt q} {b : Nat → Fin q} {L : Nat} {u v : Value} {Z : List Int} {T : Bool} {w : World} (hp : PtM w L q m n u) (hu : IntsC w u (flat m n A)) (hv : IntsC w v (bL m b)) (hq : IsPr (q : Int)) (hm : m ≤ 64) (hn : n ≤ 32) (hS : SysB m n (red m (Lin.sys n A b) n) Z T) :
    Calls Try.prog 147 #[.pointer (some ⟨L, 0, none⟩), v] w fun e w' => RetSB Z T w e w' := by
  have hI := red_inv (fd_of hq) m (Lin.sys n A b) n
  have hst := step_solv (fd_of hq) (m := m) (n := n) (A := Lin.sys n A b)
  have hsn := step_not (fd_of hq) (m := m) (n := n) (A := Lin.sys n A b)
  have hI' := red_inv (fd_of hq) m (Lin.sys n A b) (n + 1)
  obtain ⟨s, hs⟩ : ∃ s, red m (Lin.sys n A b) n = s := ⟨_, rfl⟩
  rw [hs] at hI hS hst hsn
  obtain ⟨s', hs'⟩ : ∃ s', red m (Lin.sys n A b) (n + 1) = s' := ⟨_, rfl⟩
  rw [hs'] at hI' hst hsn
  have HS' := Lib.hid hs'
  have HI := Lib.hid hI
  have HI' := Lib.hid hI'
  have HST : Hid (Solv m n s → s' = s) := hst
  have HSN : Hid (¬ Solv m n s → s'.piv = s.piv ++ [n]) := hsn
  have HSR := Lib.hid hS
  have HV := Lib.hid hv
  have HU := Lib.hid hu
  have HQ := Lib.hid hq
  have HP := Lib.hid hp
  have hq2 : (2 : Int) ≤ q := hq.1
  have hq3 : (q : Int) ≤ 251 := hq.2.1
  have hmn : m * (n + 1) ≤ 4096 := Nat.le_trans (Nat.mul_le_mul hm (show n + 1 ≤ 64 by omega)) (by decide)
  obtain ⟨av, cv, rfl, -, -⟩ := hv.1
  obtain ⟨au, cu, rfl, -, -⟩ := hu.1
  obtain ⟨lA, x0, x1, x2, x3⟩ := hp
  simp only [bL_len] at HV ⊢
  clear hs hs' hI hI' hst hsn hS hq hv hu
  go_enter Try.func147, Try.ntmps147
  go_wp2_with fail
  have bb := al1 (Below.refl w.heap.size w) (.cells #[.int .i64 (q : Int), .int .i64 (m : Int), .int .i64 1, .slice av m cv] 27)
  have Pc0 : PtM (w.alloc (.cells #[.int .i64 (q : Int), .int .i64 (m : Int), .int .i64 1, .slice av m cv] 27)) w.heap.size (q : Int) (m : Int) ((1 : Nat) : Int) (.slice av m cv) := PtM.new w (q : Int) (m : Int) 1 (.slice av m cv) 27
  have HVF : Hid (IntsC w (.slice av m cv) (flat m 1 (fun i _ => b i))) := by rw [← bL_flat]; exact HV.out
  go_region
  go_wp2_with fail
  generalize hW : World.alloc w (.cells #[.int .i64 (q : Int), .int .i64 (m : Int), .int .i64 1, .slice av m cv] 27) = W1 at bb Pc0 ⊢
  have hs1 := bb.size
  have HB1 : Hid (Below w.heap.size w W1.drew) := drew_below bb
  have PC : Hid (PtM W1.drew w.heap.size (q : Int) (m : Int) ((1 : Nat) : Int) (.slice av m cv)) := Pc0.drew
  clear bb Pc0 hW x0 x1 x2 x3 lA
  generalize hW : W1.drew = W2 at HB1 PC ⊢
  clear hW hs1
  have hs1 := HB1.out.size
  obtain ⟨N1, hN1⟩ : ∃ N1 : Nat, n + 1 = N1 := ⟨_, rfl⟩
  have e1 : (n : Int) + ((1 : Nat) : Int) = (N1 : Int) := by omega
  have hJ := l03Join_big (HP.out.on HB1.out) PC.out (HU.out.on HB1.out) (HVF.out.on HB1.out) hm hn (by omega)
  rw [e1, join_sys, hN1] at hJ
  rw [hN1] at hmn
  have HN1 := Lib.hid hN1
  refine hJ.mono ?_
  clear hJ e1 hN1
  rintro e w3 ⟨v3, rfl, ho, hb⟩
  have HC3 := Lib.hid (ho.atC (by rw [flat_len]; omega))
  obtain ⟨va, vc, rfl⟩ := ho.slice
  obtain ⟨N0, hN0⟩ : ∃ N0, m * N1 = N0 := ⟨_, rfl⟩
  have HN0 := Lib.hid hN0
  have hN0' : N0 ≤ 4096 := by rw [← hN0]; exact hmn
  simp only [flat_len, hN0] at HC3 ⊢
  have HB3 := Lib.hid (HB1.out.trans (hb.mono hs1))
  have hs3 := HB3.out.size
  have bb := al1 (Below.refl w3.heap.size w3) (.cells #[.int .i64 (q : Int), .int .i64 (m : Int), .int .i64 (N1 : Int), .slice va N0 vc] 27)
  have Pb0 := PtM.new w3 (q : Int) (m : Int) (N1 : Int) (.slice va N0 vc) 27
  clear ho hb hN0
  go_wp2_with fail
  generalize hW : World.alloc w3 (.cells #[.int .i64 (q : Int), .int .i64 (m : Int), .int .i64 (N1 : Int), .slice va N0 vc] 27) = W4 at bb Pb0 ⊢
  have hz4 : W4.heap.size = w3.heap.size + 1 := by rw [← hW]; simp
  obtain ⟨X3, hX3⟩ : ∃ X, w3.heap.size = X := ⟨_, rfl⟩
  have HB4 := Lib.hid (HB3.out.trans (bb.mono hs3))
  have HC4 := Lib.hid (HC3.out.on bb)
  rw [hX3] at Pb0 hz4 hs3 ⊢
  have PB := Lib.hid Pb0
  clear bb Pb0 hW HC3
  have hs4 := HB4.out.size
  have hpb : PtM W4 X3 (q : Int) (m : Int) (N1 : Int) (.slice va (flat m N1 (Lin.sys n A b)).length vc) := by rw [flat_len, HN0.out]; exact PB.out
  have hcb : IntsC W4 (.slice va (flat m N1 (Lin.sys n A b)).length vc) (flat m N1 (Lin.sys n A b)) := by rw [flat_len, HN0.out]; exact HC4.out
  refine (l03Reduced_big PB.out HC4.out HQ.out (by omega) (by have := HN1.out; omega) (by rw [HN0.out]; omega)).mono ?_
  clear hpb hcb
  rintro e w5 ⟨v5, pv, rfl, ho, hop, hb, -⟩
  rw [show N1 = n + 1 from HN1.out.symm, HS'.out] at ho hop
  have HF := Lib.hid (ho.atC (by rw [flat_len, HN1.out]; omega))
  obtain ⟨fa, fc, rfl⟩ := ho.slice
  obtain ⟨r, hr⟩ : ∃ r, s'.piv.length = r := ⟨_, rfl⟩
  have HR := Lib.hid hr
  have hrm : r ≤ m := by rw [← hr, HI'.out.len]; exact HI'.out.le
  have HPV := Lib.hid (hop.at (by rw [pivI_len, hr]; omega))
  obtain ⟨pa, pc, rfl⟩ := hop.slice
  simp only [flat_len, pivI_len, hr] at HF HPV ⊢
  rw [HN1.out] at HF ⊢
  rw [HN0.out] at HF ⊢
  have HB5 := Lib.hid (HB4.out.trans (hb.mono hs4))
  have PB5 := Lib.hid (PB.out.on hb)
  have hs5 := HB5.out.size
  have hs5' := hb.size
  clear ho hop hb hr
  have bb := al1 (Below.refl w5.heap.size w5) (.cells #[.int .i64 (q : Int), .int .i64 (m : Int), .int .i64 (N1 : Int), .slice fa N0 fc] 27)
  have Pf0 := PtM.new w5 (q : Int) (m : Int) (N1 : Int) (.slice fa N0 fc) 27
  have hmk := run_make_row' (P := Try.prog) 25 2 (.int .i64 0) 8 Try.underlying25 info_i rfl .i64 .i64 n (by omega) (by omega)
  obtain ⟨X5, hX5⟩ : ∃ X, w5.heap.size = X := ⟨_, rfl⟩
  have lx : ∃ W6, World.alloc w5 (.cells #[.int .i64 (q : Int), .int .i64 (m : Int), .int .i64 (N1 : Int), .slice fa N0 fc] 27) = W6 := ⟨_, rfl⟩
  obtain ⟨W6, hW6⟩ := lx
  rw [hW6] at bb Pf0
  have HZ6 : Hid (W6.heap.size = X5 + 1) := by show _ = _; rw [← hW6, ← hX5]; simp
  have HX5 := Lib.hid hX5
  have HB6 := Lib.hid (HB5.out.trans (bb.mono hs5))
  have PB6 := Lib.hid (PB5.out.on bb)
  have HF6 := Lib.hid (HF.out.on bb)
  have HPV6 := Lib.hid (HPV.out.on bb)
  have PF6 := Lib.hid Pf0
  have PL6 := Lib.hid (HP.out.on HB6.out)
  have hs6 := HB6.out.size
  obtain ⟨l0, x0, x1, x2, x3⟩ := PL6.out
  have hrow := World.rowIs_made W6 (.int .i64 0) n 2
  have b6 := (Below.refl W6.heap.size W6).alloc (Nat.le_refl _) (.cells (madeCells #[.int .i64 0] n) 2)
  clear bb Pf0 HPV HF PB5 HB5 hX5
  go_wp2_with (fail)
  obtain ⟨X, hX⟩ : ∃ X, W6.heap.size = X := ⟨_, rfl⟩
  generalize hW7 : World.alloc W6 (.cells (madeCells #[.int .i64 0] n) 2) = W7 at hrow b6 ⊢
  rw [HX5.out] at PF6 ⊢
  have hX65 : X5 < X := by have := HZ6.out; omega
  rw [hX] at hrow ⊢
  have HXX := Lib.hid hX
  have HRW : Hid (W7.rowIs X 2 n (XF n s' 0)) := hrow.congr fun l _ => XF_zero n s' l
  have BB := Lib.hid b6
  have hX7 := hrow.lt
  clear hrow b6 hmk hW7 x0 x1 x2 x3 l0 hW6
  go_loopw [12] (fun si wr => ∃ t : Nat, t ≤ r ∧ si = .int .i64 (t : Int) ∧ Hid (wr.rowIs X 2 n (XF n s' t)) ∧ Hid (W7.grownBy wr (some X)) ∧ Hid (∀ a (h : a < s'.piv.length), a < t → s'.piv[a] ≠ n)) (fun si _ => r - (intOf si).toNat)
  case atStart => exact ⟨0, Nat.zero_le _, rfl, HRW.out, grown_refl _ _, fun a _ h => absurd h (Nat.not_lt_zero _)⟩
  case round =>
    obtain ⟨t, ht, rfl, HY, HG, HZ⟩ := hrel
    have hbx : Below W6.heap.size W6 wr := below_gb BB.out HG.out (by rw [HXX.out]; exact Nat.le_refl _) BB.out.size
    have HBX := Lib.hid hbx
    by_cases htl : t < r
    · have t0 : (0 : Int) ≤ (t : Int) := by omega
      have t1 : (t : Int) < (r : Int) := by omega
      have htp : t < s'.piv.length := by rw [HR.out]; exact htl
      have htm : t < m := by omega
      obtain ⟨pb, po, rfl, hpb, c1⟩ : ∃ b o, pa = some ⟨b, o, none⟩ ∧ b < W6.heap.size ∧ W6.cell? ⟨b, o + t, none⟩ = some (.int .i64 ((s'.piv[t] : Nat) : Int)) := by
        obtain ⟨a', c', e', -, h | ⟨b, o, rfl, hb, h⟩⟩ := HPV6.out
        · exfalso; have h0 : s'.piv.length = 0 := by rw [← pivI_len, h]; rfl
          omega
        · have := h t (by rw [pivI_len]; exact htp)
          rw [pivI_at] at this
          simp only [Value.slice.injEq] at e'
          exact ⟨b, o, e'.1, hb, this⟩
      have d1 := (hbx.cell (p := ⟨pb, po + t, none⟩) hpb).trans c1
      obtain ⟨x, hx⟩ : ∃ x, s'.piv[t] = x := ⟨_, rfl⟩
      rw [hx] at d1
      have hxn1 : x < n + 1 := by rw [← hx]; exact HI'.out.small t htp
      obtain ⟨lA, m0, m1, m2, m3⟩ := PL6.out.on hbx
      by_cases hxn : x = n
      · have hno : ¬ Solv m n s := fun h => by
          have e := HST.out h
          have hts : t < s.piv.length := by rw [← e]; exact htp
          have h1 := HI.out.small t hts
          have h2 : s.piv[t] = x := by rw [← hx]; congr 1; rw [e]
          omega
        obtain ⟨rfl, rfl⟩ : Z = [] ∧ T = false := by
          rcases HSR.out with ⟨h, _⟩ | ⟨_, h⟩
          · exact absurd h hno
          · exact h
        have eb : ((x : Int) == (n : Int)) = true := by simp; omega
        have HB8 := Lib.hid (HB6.out.trans (hbx.mono hs6))
        clear hno hbx hpb c1 htp hx hxn
        go_wp2_with fail
        go_quiet (fail)
        go_wp2_with fail
        go_ret2
        exact ⟨_, rfl, OwnI.nul _ _, below_drewX HB8.out _⟩
      · have hxl : x < n := by omega
        have eb : ((x : Int) == (n : Int)) = false := by simp; omega
        obtain ⟨lB, y0, y1, y2, y3⟩ := PB6.out.on hbx
        obtain ⟨lF, z0, z1, z2, z3⟩ := PF6.out.on hbx
        have hnN : n < N1 := by have := HN1.out; omega
        have hyl : t * N1 + n < N0 := by rw [← HN0.out]; exact idx_lt htm hnN
        obtain ⟨fb, fo, rfl, hfb, c2⟩ : ∃ b o, fa = some ⟨b, o, none⟩ ∧ b < W6.heap.size ∧ W6.cell? ⟨b, o + (t * N1 + n), none⟩ = some (.int .i64 (fv (s'.A t n))) := by
          obtain ⟨a', c', e', -, h | ⟨b, o, rfl, hb, h⟩⟩ := HF6.out.1
          · exfalso; have h0 := flat_len m N1 s'.A; rw [h, HN0.out] at h0; simp at h0; omega
          · have := h (t * N1 + n) (by rw [flat_len, HN0.out]; exact hyl)
            rw [flat_ij m N1 s'.A htm hnN] at this
            simp only [Value.slice.injEq] at e'
            exact ⟨b, o, e'.1, hb, this⟩
        have d2 := (hbx.cell (p := ⟨fb, fo + (t * N1 + n), none⟩) hfb).trans c2
        obtain ⟨g1, hg1⟩ : ∃ z, t * N1 = z := ⟨_, rfl⟩
        rw [hg1] at hyl d2
        obtain ⟨g2, hg2⟩ : ∃ z, g1 + n = z := ⟨_, rfl⟩
        rw [hg2] at hyl d2
        have w1 : IntKind.i64.wrap ((t : Int) * (N1 : Int)) = (g1 : Int) := by rw [← Int.natCast_mul, hg1]; exact IntWalk.i64_in _ (by omega)
        have w2' : IntKind.i64.wrap ((g1 : Int) + (n : Int)) = (g2 : Int) := by rw [← Int.natCast_add, hg2]; exact IntWalk.i64_in _ (by omega)
        have a0 : (0 : Int) ≤ (g2 : Int) := by omega
        have a1 : (g2 : Int) < (N0 : Int) := by omega
        obtain ⟨y, hy⟩ : ∃ y, fv (s'.A t n) = y := ⟨_, rfl⟩
        rw [hy] at d2
        have b0 : (0 : Int) ≤ (x : Int) := by omega
        have b1 : (x : Int) < (n : Int) := by omega
        have c3 := HY.out.cell (i := x) hxl
        have f3 := HY.out.frozen x
        have HNX : Hid (∀ l, (if l = x then (.int .i64 y : Value) else XF n s' t l) = XF n s' (t + 1) l) := fun l => by rw [← hy]; exact XF_next htp hx HI'.out.mono l
        have HZ2 : Hid (∀ a (h : a < s'.piv.length), a < t + 1 → s'.piv[a] ≠ n) := by
          intro a h ha
          by_cases e : a = t
          · subst e; rw [hx]; exact hxn
          · exact HZ.out a h (by omega)
        clear hbx hpb c1 htp hx c2 hfb hg1 hg2 hy hxn
        go_wp2_with fail
        go_quiet (fail)
        go_wp2_with fail
        generalize hWr : wr.drewN nq = wv
        have HY' : Hid (wv.rowIs X 2 n (XF n s' t)) := by show World.rowIs _ _ _ _ _; rw [← hWr]; exact rowIs_drewN HY.out _
        have HG' : Hid (W7.grownBy wv (some X)) := by show World.grownBy _ _ _; rw [← hWr]; exact gb_drewN HG.out _
        have ec : ∀ a, wv.cell? a = wr.cell? a := fun a => by rw [← hWr]; rfl
        have ef : wv.frozen? ⟨X, x, none⟩ = wr.frozen? ⟨X, x, none⟩ := by rw [← hWr]; rfl
        have d1' := (ec _).trans d1
        have d2' := (ec _).trans d2
        have m2' := (ec _).trans m2
        have y2' := (ec _).trans y2
        have z3' := (ec _).trans z3
        have c3' := (ec _).trans c3
        have f3' := ef.trans f3
        clear ec ef hWr d1 d2 m0 m1 m2 m3 y0 y1 y2 y3 z0 z1 z2 z3 c3 f3
        go_still_tail 19, (by kernel_rfl)
        (repeat still_step)
        (try refine wpStill_nil ?_)
        change wpList _ _ _ _ _ wv.drew
        go_wp2_with fail
        have HY2 : Hid ((wv.drew.setCell ⟨X, x, none⟩ (.int .i64 y)).rowIs X 2 n (XF n s' (t + 1))) := (HY'.out.drew.set x _).congr fun l _ => HNX.out l
        have HG2 : Hid (W7.grownBy (wv.drew.setCell ⟨X, x, none⟩ (.int .i64 y)) (some X)) := gb_set (gb_drew HG'.out) _
        go_roundw
        case rel => exact ⟨t + 1, by omega, by go_num, HY2.out, HG2.out, HZ2.out⟩
        case measure => simp [intOf]; omega
    · obtain rfl : t = r := by omega
      have hyes : Solv m n s := Classical.byContradiction fun hno => by
        have e := HSN.out hno
        have hl : s'.piv.length = s.piv.length + 1 := by rw [e]; simp
        exact HZ.out s.piv.length (by omega) (by rw [← HR.out]; omega) (by simp [e])
      have e := HST.out hyes
      obtain ⟨rfl, rfl⟩ : Z = solL n s ∧ T = true := by
        rcases HSR.out with ⟨_, h⟩ | ⟨h, _⟩
        · exact h
        · exact absurd hyes h
      have hrw : OwnI w.heap.size wr (.slice (some ⟨X, 0, none⟩) n n) (solL n s) := by
        have h := OwnI.of_row (B := w.heap.size) (g := X) (w := wr) (zs := solL n s) (by
          rw [solL_len]
          refine HY.out.congr fun l hl => ?_
          rw [getD_in (by rw [solL_len]; exact hl), solL_at, ← XF_all, ← e, HR.out]) (by rw [← HXX.out]; exact hs6) (by rw [solL_len]; omega)
        rw [solL_len] at h
        exact h
      have HRW2 := Lib.hid hrw
      have HB8 := Lib.hid (HB6.out.trans (hbx.mono hs6))
      clear hrw hyes hbx e
      go_wp2_with fail
      go_ret2
      exact ⟨_, rfl, HRW2.out, HB8.out⟩
/-! ### Solve of the model -/
set_option maxRecDepth 100000 in
set_option maxHeartbeats 3200000 in
theorem specSol_b {p r c k : Int} {xs ys : List Int} {u v : Value} {w : World} (hu : IntsC w u xs) (hv : IntsAt w v ys) (h : AskK p r c xs ys k) (hk : k ≠ 0) :
    Calls Try.prog 80 #[.agg #[.int .i64 p, .int .i64 r, .int .i64 c, u], v] w fun e w' => RetSC [] k w e w' := by
  have HU := Lib.hid hu.1
  have HV := Lib.hid hv
  have HK := Lib.hid h
  have ek : (k != 0) = true := by simpa using hk
  obtain ⟨a1, c1, rfl, hl1, -⟩ := hu.1
  obtain ⟨a2, c2, rfl, hl2, -⟩ := hv
  have Pa0 := PtM.new w p r c (.slice a1 xs.length c1) 27
  clear h hu hk
  go_enter Try.func80, Try.ntmps80
  go_wp2_with fail
  refine (l04Ask_is Pa0 (HU.out.on (al1 (Below.refl _ _) _)) (HV.out.on (al1 (Below.refl _ _) _)) HK.out).mono ?_
  rintro e w1 ⟨rfl, hb⟩
  have HB := Lib.hid (up1 hb)
  clear hb Pa0
  go_wp2_with fail
  go_ret2
  exact ⟨_, rfl, OwnI.nul _ _, HB.out⟩
set_option maxRecDepth 100000 in
set_option maxHeartbeats 3200000 in
theorem specSol_ok {q m n : Nat} [NeZero q] {A : Mt q} {b : Nat → Fin q} {Z : List Int} {k : Int} {u v : Value} {w : World} (hu : IntsC w u (flat m n A)) (hv : IntsC w v (bL m b)) (hA : MIs q m n (flat m n A) q m n A) (hS : SysRes m n (red m (Lin.sys n A b) n) Z k) :
    Calls Try.prog 80 #[.agg #[.int .i64 (q : Int), .int .i64 (m : Int), .int .i64 (n : Int), u], v] w fun e w' => RetSC Z k w e w' := by
  have hm32 := hA.m32
  have hn32 := hA.n32
  have HPR := Lib.hid hA.pr
  have HK := Lib.hid (ask_ok (b := b) hA)
  have HZL := Lib.hid (hS.len (by omega))
  have HSR := Lib.hid hS.bool
  have HU := Lib.hid hu
  have HU1 := Lib.hid hu.1
  have HV := Lib.hid hv
  have HV1 := Lib.hid hv.1
  obtain ⟨a1, c1, rfl, hl1, -⟩ := hu.1
  obtain ⟨a2, c2, rfl, hl2, -⟩ := hv.1
  have Pa0 := PtM.new w q m n (.slice a1 (flat m n A).length c1) 27
  clear hu hA hS hv
  go_enter Try.func80, Try.ntmps80
  go_wp2_with fail
  refine (l04Ask_is Pa0 (HU1.out.on (al1 (Below.refl _ _) _)) (HV1.out.on (al1 (Below.refl _ _) _)) HK.out).mono ?_
  rintro e w1 ⟨rfl, hb⟩
  have HB := Lib.hid (up1 hb)
  have Pa := Lib.hid (Pa0.on hb)
  have hs1 := HB.out.size
  clear hb Pa0
  go_wp2_with fail
  rcases HSR.out with ⟨hs, rfl⟩ | ⟨hs, rfl, rfl⟩
  · refine (l03Solve_any Pa.out (HU.out.on HB.out) (HV.out.on HB.out) HPR.out (by omega) (by omega) hs).mono ?_
    clear hs
    rintro e w2 ⟨v2, rfl, ho, hb⟩
    have HO := Lib.hid (ho.atC HZL.out)
    obtain ⟨va, vc, rfl⟩ := ho.slice
    have HB2 := Lib.hid (HB.out.trans (hb.mono hs1))
    have hs2 := HB2.out.size
    clear ho hb
    go_wp2_with fail
    refine (l00Own_any HO.out (Nat.le_trans HZL.out (by decide))).mono ?_
    rintro e w3 ⟨v3, rfl, ho, hb⟩
    have HO3 := Lib.hid ho
    obtain ⟨vb, vd, rfl⟩ := ho.slice
    have HB3 := Lib.hid (HB2.out.trans (hb.mono hs2))
    clear ho hb
    go_wp2_with fail
    go_ret2
    exact ⟨_, rfl, HO3.out.mono hs2, HB3.out⟩
  · refine (l03Solve_any Pa.out (HU.out.on HB.out) (HV.out.on HB.out) HPR.out (by omega) (by omega) hs).mono ?_
    clear hs
    rintro e w2 ⟨v2, rfl, ho, hb⟩
    obtain ⟨va, vc, rfl⟩ := ho.slice
    have HB2 := Lib.hid (HB.out.trans (hb.mono hs1))
    clear ho hb
    go_wp2_with fail
    go_ret2
    exact ⟨_, rfl, OwnI.nul _ _, HB2.out⟩
theorem specSol_any {p r c k : Int} {u v : Value} {xs ys Z : List Int} {w : World} (hu : IntsC w u xs) (hv : IntsC w v ys) (h : SolRes p r c xs ys Z k) :
    Calls Try.prog 80 #[.agg #[.int .i64 p, .int .i64 r, .int .i64 c, u], v] w fun e w' => RetSC Z k w e w' := by
  rcases h with ⟨c0, h, hc, rfl, rfl⟩ | ⟨u', _, m, n, A, b, hA, rfl, hs⟩
  · exact specSol_b hu hv.1 h hc
  · obtain ⟨rfl, rfl, rfl, rfl, h5, h6, h7⟩ := hA
    exact specSol_ok hu hv ⟨rfl, rfl, rfl, rfl, h5, h6, h7⟩ hs
end Go.Proofs.Ytghliaghmkkniaa
