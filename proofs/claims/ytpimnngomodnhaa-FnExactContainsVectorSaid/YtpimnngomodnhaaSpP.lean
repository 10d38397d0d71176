/-
  Systems of equations: the solution as a list; solveRows of the program.
-/
import Derived.Test.YtpimnngomodnhaaSpO
namespace Go.Proofs.Ytpimnngomodnhaa
open Go.RowKit
open Lin
set_option linter.unusedVariables false
set_option linter.unusedSectionVars false

section
variable {q : Nat} [NeZero q]
/-- The numbers of a right side. -/
def bL (m : Nat) (b : Nat → Fin q) : List Int := rowL m (fun _ => b) 0
theorem bL_len (m : Nat) (b : Nat → Fin q) : (bL m b).length = m := rowL_len _ _ _
theorem bL_at (m : Nat) (b : Nat → Fin q) (i : Nat) (h : i < (bL m b).length) : (bL m b)[i] = fv (b i) := rowL_at _ _ _ _ _
/-- The solution. -/
noncomputable def solL (n : Nat) (s : St q) : List Int := rowL n (fun _ => solV n s) 0
theorem solL_len (n : Nat) (s : St q) : (solL n s).length = n := rowL_len _ _ _
theorem solL_at (n : Nat) (s : St q) (l : Nat) (h : l < (solL n s).length) : (solL n s)[l] = fv (solV n s l) := rowL_at _ _ _ _ _
/-- What is answered for a system that was reduced. -/
def SysRes (m n : Nat) (s : St q) (Z : List Int) (k : Int) : Prop := (Solv m n s ∧ Z = solL n s ∧ k = 0) ∨ (¬ Solv m n s ∧ Z = [] ∧ k = 3)
theorem sysRes_has (m n : Nat) (s : St q) : ∃ Z k, SysRes m n s Z k := by
  by_cases h : Solv m n s
  · exact ⟨_, _, .inl ⟨h, rfl, rfl⟩⟩
  · exact ⟨_, _, .inr ⟨h, rfl, rfl⟩⟩
theorem rowL_sys (n : Nat) (A : Mt q) (b : Nat → Fin q) (i : Nat) : rowL n A i ++ [fv (b i)] = rowL (n + 1) (Lin.sys n A b) i := by
  unfold rowL
  rw [List.range_succ, List.map_append]
  congr 1
  · refine List.map_congr_left fun j hj => ?_
    unfold Lin.sys
    rw [if_pos (List.mem_range.1 hj)]
  · simp [Lin.sys]
/-- The solution's cells behind i pivots. -/
def XF (n : Nat) (s : St q) (i l : Nat) : Value := .int .i64 (fv (sm i (fun t => if s.piv.getD t 0 = l then s.A t n else 0)))
theorem XF_zero (n : Nat) (s : St q) (l : Nat) : (.int .i64 0 : Value) = XF n s 0 l := by
  unfold XF
  simp only [sm]
  rw [fv_zero]
theorem XF_next {n : Nat} {s : St q} {i x : Nat} (hi : i < s.piv.length) (hx : s.piv[i] = x) (hd : ∀ t u (h : t < u) (hu : u < s.piv.length), s.piv[t] < s.piv[u]) (l : Nat) :
    (if l = x then (.int .i64 (fv (s.A i n)) : Value) else XF n s i l) = XF n s (i + 1) l := by
  unfold XF
  simp only [sm]
  by_cases h : l = x
  · subst h
    rw [if_pos rfl, sm_zero i _ (fun t ht => by
      rw [getD_at _ _ (by omega), if_neg (by have := hd t i ht hi; omega)]), getD_at _ _ hi, if_pos hx]
    congr 2
    grind
  · rw [if_neg h, getD_at s.piv i hi, if_neg (show ¬ s.piv[i] = l by omega)]
    congr 2
    grind
theorem XF_all (n : Nat) (s : St q) (l : Nat) : XF n s s.piv.length l = .int .i64 (fv (solV n s l)) := rfl
end
/-- A list of numbers and a code. -/
def RetSC (zs : List Int) (k : Int) (w : World) (e : Ending) (w' : World) : Prop :=
  ∃ v, e = .returned (.tuple #[v, .int .i64 k]) ∧ OwnI w.heap.size w' v zs ∧ Below w.heap.size w w'
theorem OwnI.one {B : Nat} (w : World) (x : Int) (hB : B ≤ w.heap.size) : OwnI B (w.alloc (.cells #[.int .i64 x] 2)) (.slice (some ⟨w.heap.size, 0, none⟩) 1 1) [x] :=
  ⟨by simp [iv], .inr ⟨w.heap.size, 1, #[.int .i64 x], rfl, hB, heap_alloc_new w _, Nat.le_refl _, by unfold maxLen; omega, by simp, by simp [iv]⟩⟩
set_option maxRecDepth 100000 in
set_option maxHeartbeats 6400000 in
theorem solveRows_any {q m n : Nat} [NeZero q] {A : Mt q} {b : Nat → Fin q} {v u : Value} {Z : List Int} {k : Int} {w : World} (hv : RowsC w v m (rowL n A)) (hu : IntsAt w u (bL m b)) (hq : IsPr (q : Int)) (hm : m ≤ 1024) (hn : n ≤ 63) (hS : SysRes m n (red m (Lin.sys n A b) n) Z k) :
    Calls Try.prog 96 #[v, u, .int .i64 (n : Int), .int .i64 (q : Int)] w fun e w' => RetSC Z k w e w' := by
  have hI := red_inv (fd_of hq) m (Lin.sys n A b) n
  obtain ⟨s, hs⟩ : ∃ s, red m (Lin.sys n A b) n = s := ⟨_, rfl⟩
  have HS := Lib.hid hs
  rw [hs] at hI hS
  have HI := Lib.hid hI
  have HSR := Lib.hid hS
  obtain ⟨r, hr⟩ : ∃ r, s.piv.length = r := ⟨_, rfl⟩
  have HR := Lib.hid hr
  have hrm : r ≤ m := by rw [← hr, hI.len]; exact hI.le
  have HV := Lib.hid hv
  have HU := Lib.hid hu
  have HQ := Lib.hid hq
  have hq2 : (2 : Int) ≤ q := hq.1
  have hq3 : (q : Int) ≤ 251 := hq.2.1
  obtain ⟨av, cv, rfl, -, -⟩ := hv
  obtain ⟨au, cu, rfl, -, -⟩ := hu
  simp only [bL_len] at HU ⊢
  have hmk := run_make_row' (P := Try.prog) 70 24 (.slice none 0 0) 24 Try.underlying70 info_s rfl .i64 .i64 m (by omega) (by omega)
  have hrow := World.rowIs_made w (.slice none 0 0) m 24
  have bb := (Below.refl w.heap.size w).alloc (Nat.le_refl _) (.cells (madeCells #[.slice none 0 0] m) 24)
  clear hs hI hS hr hq
  go_enter Try.func96, Try.ntmps96
  go_wp2_with fail
  generalize hW : World.alloc w (.cells (madeCells #[.slice none 0 0] m) 24) = W1 at hrow bb ⊢
  obtain ⟨H, hH⟩ : ∃ H, w.heap.size = H := ⟨_, rfl⟩
  have HH := Lib.hid hH
  have hHl := hrow.lt
  rw [hH] at hrow hHl ⊢
  have HB1 := Lib.hid bb
  have HM0 : Hid (MadeR (H + 1) W1 H m 0 (fun i => [fv (b i)])) := MadeR.zero hrow
  clear hrow bb hW hmk hH
  go_loopw [22] (fun si wr => ∃ i : Nat, i ≤ m ∧ si = .int .i64 (i : Int) ∧ Hid (MadeR (H + 1) wr H m i (fun i => [fv (b i)])) ∧ Hid (Below H W1 wr)) (fun si _ => m - (intOf si).toNat)
  case atStart => exact ⟨0, Nat.zero_le _, rfl, HM0.out, Below.refl _ _⟩
  case round =>
    obtain ⟨i, hi, rfl, HX, HK⟩ := hrel
    have sk := HK.out.size
    by_cases hlt : i < m
    · have i0 : (0 : Int) ≤ (i : Int) := by omega
      have i1 : (i : Int) < (m : Int) := by omega
      obtain ⟨ub, uo, rfl, hub, c1⟩ : ∃ b' o, au = some ⟨b', o, none⟩ ∧ b' < w.heap.size ∧ w.cell? ⟨b', o + i, none⟩ = some (.int .i64 (fv (b i))) := by
        obtain ⟨a', c', e', -, h | ⟨b', o, rfl, hb, h⟩⟩ := HU.out
        · exfalso; have h0 := bL_len m b; rw [h] at h0; simp at h0; omega
        · have := h i (by rw [bL_len]; exact hlt)
          rw [bL_at] at this
          simp only [Value.slice.injEq] at e'
          exact ⟨b', o, e'.1, hb, this⟩
      have hbw : Below w.heap.size w wr := HB1.out.trans (by rw [HH.out]; exact HK.out)
      have d1 := (hbw.cell (p := ⟨ub, uo + i, none⟩) hub).trans c1
      obtain ⟨y, hy⟩ : ∃ y, fv (b i) = y := ⟨_, rfl⟩
      rw [hy] at d1
      have HY : Hid (fv (b i) = y) := hy
      have hHw : H < wr.heap.size := by omega
      have c3 : wr.cell? ⟨H, i, none⟩ = some (.slice none 0 0) := by
        obtain ⟨V, hr, -⟩ := HX.out
        have := hr.cell (i := i) hlt
        rw [if_neg (by omega)] at this
        exact this
      have f3 : wr.frozen? ⟨H, i, none⟩ = false := by
        obtain ⟨V, hr, -⟩ := HX.out
        exact hr.frozen i
      have ho1 : OwnI (H + 1) (wr.alloc (.cells #[.int .i64 y] 2)) (.slice (some ⟨wr.heap.size, 0, none⟩) 1 1) [fv (b i)] := by rw [hy]; exact OwnI.one wr y (by omega)
      have hx2 := HX.out.next ((Below.refl _ _).alloc (Nat.le_refl _) _) ho1 (by omega)
      have hk2 : Below H W1 ((wr.alloc (.cells #[.int .i64 y] 2)).setCell ⟨H, i, none⟩ (.slice (some ⟨wr.heap.size, 0, none⟩) 1 1)) := Below.setC (HK.out.alloc (by omega) _) (Nat.le_refl _) _
      rw [World.setCell_alloc_past _ _ _ _ hHw] at hx2 hk2
      have HX2 := Lib.hid hx2
      have HK2 := Lib.hid hk2
      clear hx2 ho1 hbw c1 hub hk2 hy
      go_wp2_with fail
      go_roundw
      case rel => exact ⟨i + 1, by omega, by go_num, HX2.out, HK2.out⟩
      case measure => simp [intOf]; omega
    · obtain rfl : i = m := by omega
      have hbw : Below w.heap.size w wr := HB1.out.trans (by rw [HH.out]; exact HK.out)
      have HBW := Lib.hid hbw
      have HSD := Lib.hid (HX.out.rows (by omega) (fun _ _ => by simp))
      have hw1 := hbw.size
      clear hbw
      go_wp2_with fail
      refine (besides_big (HV.out.on HBW.out) HSD.out (by omega) (fun _ _ => by rw [rowL_len]; omega) (fun _ _ => by simp)).mono ?_
      rintro e w2 ⟨H2, rfl, hH2, hmd, hb2⟩
      have hrc := hmd.rows (by omega) (fun _ _ => by rw [List.length_append, rowL_len]; simp; omega)
      have HRC : Hid (RowsC w2 (.slice (some ⟨H2, 0, none⟩) i i) i (rowL (n + 1) (Lin.sys n A b))) := hrc.congr fun t _ => rowL_sys n A b t
      have HB2 := Lib.hid (HBW.out.trans (hb2.mono hw1))
      have hs2 := HB2.out.size
      clear hmd hb2 hrc
      go_wp2_with fail
      refine (reduce_big (c := n) HRC.out HQ.out (by omega) (by omega) (by omega)).mono ?_
      rintro e w3 ⟨L, rfl, hL, hT, hb3⟩
      rw [HS.out] at hT
      obtain ⟨H3, zs, pv, hP, hR3, hO⟩ := hT
      have HB3 := Lib.hid (HB2.out.trans (hb3.mono hs2))
      have hs3 := HB3.out.size
      have HPT := Lib.hid hP
      have HR3 := Lib.hid hR3
      have HPV := Lib.hid (hO.at (by rw [pivI_len, HR.out]; omega))
      obtain ⟨pa, pc, rfl⟩ := hO.slice
      simp only [pivI_len, HR.out] at HPT HPV ⊢
      have hmk := run_make_row' (P := Try.prog) 24 2 (.int .i64 0) 8 Try.underlying24 info_i rfl .i64 .i64 n (by omega) (by omega)
      have hrow := World.rowIs_made w3 (.int .i64 0) n 2
      have bb := (Below.refl w3.heap.size w3).alloc (Nat.le_refl _) (.cells (madeCells #[.int .i64 0] n) 2)
      have hx0 := (HPT.out.on bb).rows
      have hLw3 : L < w3.heap.size := hP.lt
      clear hP hR3 hO hb3
      go_wp2_with fail
      obtain ⟨X, hX⟩ : ∃ X, w3.heap.size = X := ⟨_, rfl⟩
      generalize hW4 : World.alloc w3 (.cells (madeCells #[.int .i64 0] n) 2) = W4 at hrow bb hx0 ⊢
      rw [hX] at hrow hLw3 ⊢
      have HXX := Lib.hid hX
      have hX4 := hrow.lt
      have HRW : Hid (W4.rowIs X 2 n (XF n s 0)) := hrow.congr fun l _ => XF_zero n s l
      have BB := Lib.hid bb
      obtain ⟨N1, hN1⟩ : ∃ N1, n + 1 = N1 := ⟨_, rfl⟩
      have HN1 := Lib.hid hN1
      have n0 : (0 : Int) ≤ (n : Int) := by omega
      have n1 : (n : Int) < (N1 : Int) := by omega
      clear hrow bb hmk hW4 hx0 hN1
      go_loopw [46] (fun si wr => ∃ t : Nat, t ≤ i ∧ si = .int .i64 (t : Int) ∧ Hid (wr.rowIs X 2 n (XF n s (min t r))) ∧ Hid (W4.grownBy wr (some X)) ∧ Hid (∀ a, r ≤ a → a < t → s.A a n = 0)) (fun si _ => i - (intOf si).toNat)
      case atStart => exact ⟨0, Nat.zero_le _, rfl, by rw [Nat.zero_min]; exact HRW.out, grown_refl _ _, fun a _ h => absurd h (Nat.not_lt_zero _)⟩
      case round =>
        obtain ⟨t, ht, rfl, HY, HG, HZ⟩ := hrel
        have hbx : Below w3.heap.size w3 wr := below_gb BB.out HG.out (by rw [HXX.out]; exact Nat.le_refl _) BB.out.size
        have HBX := Lib.hid hbx
        have p0 := (HPT.out.on hbx).rows
        have p3 := (HPT.out.on hbx).piv
        by_cases htl : t < i
        · have t0 : (0 : Int) ≤ (t : Int) := by omega
          have t1 : (t : Int) < (i : Int) := by omega
          obtain ⟨Hr, ro, rc, u, e, hHr, hu, hui⟩ := HR3.out.at htl
          simp only [Value.slice.injEq, Option.some.injEq, Addr.mk.injEq, true_and, and_true] at e
          obtain ⟨⟨rfl, rfl⟩, -⟩ := e
          obtain ⟨ua, uc, rfl⟩ := hui.1.slice
          have hc : ∃ b' o', ua = some ⟨b', o', none⟩ ∧ b' < w3.heap.size ∧ w3.cell? ⟨b', o' + n, none⟩ = some (.int .i64 (fv (s.A t n))) := by
            obtain ⟨a', c', e', -, h | ⟨b', o', rfl, hb, h⟩⟩ := hui.1
            · exfalso; have h0 := rowL_len (n + 1) s.A t; rw [h] at h0; simp at h0
            · have := h n (by rw [rowL_len]; omega)
              rw [rowL_at] at this
              simp only [Value.slice.injEq] at e'
              exact ⟨b', o', e'.1, hb, this⟩
          obtain ⟨rb, roo, rfl, hrb, c2⟩ := hc
          rw [rowL_len, HN1.out, Nat.zero_add] at hu
          have d0 := (hbx.cell (p := ⟨H3, t, none⟩) hHr).trans hu
          have d2 := (hbx.cell (p := ⟨rb, roo + n, none⟩) hrb).trans c2
          obtain ⟨y, hy⟩ : ∃ y, fv (s.A t n) = y := ⟨_, rfl⟩
          rw [hy] at d2
          have HYY : Hid (fv (s.A t n) = y) := hy
          clear hu hui c2 hHr hrb hy
          by_cases htr : t < r
          · have htr2 : (t : Int) < (r : Int) := by omega
            have htp : t < s.piv.length := by rw [HR.out]; exact htr
            obtain ⟨pb, po, rfl, hpb, c1⟩ : ∃ b o, pa = some ⟨b, o, none⟩ ∧ b < w3.heap.size ∧ w3.cell? ⟨b, o + t, none⟩ = some (.int .i64 ((s.piv[t] : Nat) : Int)) := by
              obtain ⟨a', c', e', -, h | ⟨b, o, rfl, hb, h⟩⟩ := HPV.out
              · exfalso; have h0 : s.piv.length = 0 := by rw [← pivI_len, h]; rfl
                omega
              · have := h t (by rw [pivI_len]; exact htp)
                rw [pivI_at] at this
                simp only [Value.slice.injEq] at e'
                exact ⟨b, o, e'.1, hb, this⟩
            have d1 := (hbx.cell (p := ⟨pb, po + t, none⟩) hpb).trans c1
            obtain ⟨x, hx⟩ : ∃ x, s.piv[t] = x := ⟨_, rfl⟩
            rw [hx] at d1
            have hxn : x < n := by rw [← hx]; exact HI.out.small t htp
            have b0 : (0 : Int) ≤ (x : Int) := by omega
            have b1 : (x : Int) < (n : Int) := by omega
            have c3 := HY.out.cell (i := x) hxn
            have f3 := HY.out.frozen x
            have HNX : Hid (∀ l, (if l = x then (.int .i64 y : Value) else XF n s (min t r) l) = XF n s (min (t + 1) r) l) := fun l => by rw [Nat.min_eq_left (by omega), Nat.min_eq_left (by omega), ← HYY.out]; exact XF_next htp hx HI.out.mono l
            clear hbx hpb c1 htp hx
            go_wp2_with fail
            go_still_tail 13, (by kernel_rfl)
            (repeat still_step)
            (try refine wpStill_nil ?_)
            change wpList _ _ _ _ _ wr.drew
            go_wp2_with fail
            have HY2 : Hid ((wr.drew.setCell ⟨X, x, none⟩ (.int .i64 y)).rowIs X 2 n (XF n s (min (t + 1) r))) := (HY.out.drew.set x _).congr fun l _ => HNX.out l
            have HG2 : Hid (W4.grownBy (wr.drew.setCell ⟨X, x, none⟩ (.int .i64 y)) (some X)) := gb_set (gb_drew HG.out) _
            have HZ2 : Hid (∀ a, r ≤ a → a < t + 1 → s.A a n = 0) := fun a h1 h2 => by omega
            go_roundw
            case rel => exact ⟨t + 1, by omega, by go_num, HY2.out, HG2.out, HZ2.out⟩
            case measure => simp [intOf]; omega
          · have htr2 : ¬ (t : Int) < (r : Int) := by omega
            have HM : Hid (min (t + 1) r = min t r) := by show _ = _; omega
            clear hbx
            by_cases hy0 : y = 0
            · have eb : (y != 0) = false := by simpa using hy0
              have HZ2 : Hid (∀ a, r ≤ a → a < t + 1 → s.A a n = 0) := fun a h1 h2 => by
                by_cases e : a = t
                · rw [e]; exact fv_eq_zero.1 (by rw [HYY.out]; exact hy0)
                · exact HZ.out a h1 (by omega)
              clear hy0
              go_wp2_with fail
              go_roundw
              case rel => exact ⟨t + 1, by omega, by go_num, by rw [HM.out]; exact HY.out, HG.out, HZ2.out⟩
              case measure => simp [intOf]; omega
            · have eb : (y != 0) = true := by simpa using hy0
              have hno : ¬ Solv i n s := fun h => hy0 (by rw [← HYY.out, h t (by rw [← HI.out.len, HR.out]; omega) htl]; exact fv_zero)
              obtain ⟨rfl, rfl⟩ : Z = [] ∧ k = 3 := by
                rcases HSR.out with ⟨h, _⟩ | ⟨_, h⟩
                · exact absurd h hno
                · exact h
              have HB5 := Lib.hid (HB3.out.trans (HBX.out.mono hs3))
              clear hy0 hno
              go_wp2_with fail
              go_ret2
              exact ⟨_, rfl, OwnI.nul _ _, HB5.out⟩
        · obtain rfl : t = i := by omega
          have hyes : Solv t n s := fun a h1 h2 => HZ.out a (by rw [← HI.out.len, HR.out] at h1; exact h1) h2
          obtain ⟨rfl, rfl⟩ : Z = solL n s ∧ k = 0 := by
            rcases HSR.out with ⟨_, h⟩ | ⟨h, _⟩
            · exact h
            · exact absurd hyes h
          have hrw : OwnI w.heap.size wr (.slice (some ⟨X, 0, none⟩) n n) (solL n s) := by
            have h := OwnI.of_row (B := w.heap.size) (g := X) (w := wr) (zs := solL n s) (by
              rw [solL_len]
              refine HY.out.congr fun l hl => ?_
              rw [getD_in (by rw [solL_len]; exact hl), solL_at, ← XF_all, HR.out, Nat.min_eq_right hrm]) (by rw [← HXX.out]; exact hs3) (by rw [solL_len]; omega)
            rw [solL_len] at h
            exact h
          have HRW2 := Lib.hid hrw
          have HB5 := Lib.hid (HB3.out.trans (HBX.out.mono hs3))
          clear hrw hyes hbx
          go_wp2_with fail
          go_ret2
          exact ⟨_, rfl, HRW2.out, HB5.out⟩
end Go.Proofs.Ytpimnngomodnhaa
