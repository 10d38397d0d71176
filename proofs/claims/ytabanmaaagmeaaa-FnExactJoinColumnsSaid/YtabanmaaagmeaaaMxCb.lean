/-
  Rows that read as numbers, and matrixOf.
-/
import Derived.Test.YtabanmaaagmeaaaMxCa
namespace Go.Proofs.Ytabanmaaagmeaaa
open Go.RowKit
open Lin
set_option linter.unusedVariables false
set_option linter.unusedSectionVars false

/-- A slice of m rows, the i-th of which reads as R i. -/
def RowsC (w : World) (v : Value) (m : Nat) (R : Nat → List Int) : Prop :=
  ∃ a cap, v = .slice a m cap ∧ m ≤ 4096 ∧ ((a = none ∧ cap = 0 ∧ m = 0) ∨ ∃ H o, a = some ⟨H, o, none⟩ ∧ (m = 0 ∨ H < w.heap.size) ∧ ∀ i, i < m → ∃ u, w.cell? ⟨H, o + i, none⟩ = some u ∧ IntsC w u (R i))
theorem RowsC.on {w w' : World} {v : Value} {m : Nat} {R : Nat → List Int} (h : RowsC w v m R) (hb : Below w.heap.size w w') : RowsC w' v m R := by
  obtain ⟨a, cap, rfl, hm, h | ⟨H, o, rfl, hH, hc⟩⟩ := h
  · exact ⟨a, cap, rfl, hm, .inl h⟩
  · refine ⟨_, cap, rfl, hm, .inr ⟨H, o, rfl, hH.imp id (fun h => Nat.lt_of_lt_of_le h hb.size), fun i hi => ?_⟩⟩
    obtain ⟨u, h1, h2⟩ := hc i hi
    exact ⟨u, (hb.cell (p := ⟨H, o + i, none⟩) (show H < _ by omega)).trans h1, h2.on hb⟩
theorem RowsC.drew {w : World} {v : Value} {m : Nat} {R : Nat → List Int} (h : RowsC w v m R) : RowsC w.drew v m R := h
/-- The i-th row of a matrix. -/
def rowL {q : Nat} (n : Nat) (A : Mt q) (i : Nat) : List Int := (List.range n).map fun j => fv (A i j)
theorem rowL_len {q : Nat} (n : Nat) (A : Mt q) (i : Nat) : (rowL n A i).length = n := by simp [rowL]
theorem rowL_at {q : Nat} (n : Nat) (A : Mt q) (i j : Nat) (h : j < (rowL n A i).length) : (rowL n A i)[j] = fv (A i j) := by simp [rowL]
theorem rowW_ints {q m n : Nat} [NeZero q] {A : Mt q} {a : Option Addr} {cap : Nat} {w : World} (hv : IntsC w (.slice a (m * n) cap) (flat m n A)) (hn : n ≤ 1024) {i : Nat} (hi : i < m) : IntsC w (rowW a n cap i) (rowL n A i) := by
  obtain ⟨⟨a', cap', e, _, h2⟩, a'', cap'', e2, h3, h4, h5⟩ := hv
  simp only [Value.slice.injEq] at e e2
  obtain ⟨rfl, -, rfl⟩ := e
  obtain ⟨rfl, -, rfl⟩ := e2
  have hle : i * n + n ≤ m * n := by rw [← Nat.succ_mul]; exact Nat.mul_le_mul_right n hi
  rw [flat_len] at h3
  unfold rowW
  refine ⟨⟨adr a (i * n), cap - i * n, by rw [rowL_len], by rw [rowL_len]; omega, ?_⟩, adr a (i * n), cap - i * n, by rw [rowL_len], by rw [rowL_len]; omega, by omega, ?_⟩
  · by_cases h0 : n = 0
    · subst h0; exact .inl rfl
    · rcases h2 with h | ⟨b, off, rfl, hb, hc⟩
      · have := congrArg List.length h; rw [flat_len] at this; simp at this; omega
      · refine .inr ⟨b, off + i * n, rfl, hb, fun j hj => ?_⟩
        have hj' : j < n := by rw [rowL_len] at hj; exact hj
        have ht : i * n + j < (flat m n A).length := by rw [flat_len]; exact idx_lt hi hj'
        have := hc (i * n + j) ht
        rw [flat_ij m n A hi hj', ← Nat.add_assoc] at this
        rw [rowL_at]; exact this
  · rcases h5 with ⟨rfl, rfl⟩ | ⟨g, off, rfl⟩
    · exact .inl ⟨rfl, by omega⟩
    · exact .inr ⟨g, off + i * n, rfl⟩
theorem implRowsC {q m n : Nat} [NeZero q] {A : Mt q} {p : Int} {v : Value} {L : Nat} {w : World} (hp : PtM w L p m n v) (hv : IntsC w v (flat m n A)) (hm : m ≤ 32) (hn : n ≤ 32) :
    Calls Try.prog 68 #[.pointer (some ⟨L, 0, none⟩)] w fun e w' => ∃ H, e = .returned (.slice (some ⟨H, 0, none⟩) m m) ∧ RowsC w' (.slice (some ⟨H, 0, none⟩) m m) m (rowL n A) ∧ w.heap.size ≤ H ∧ H < w'.heap.size ∧ Below w.heap.size w w' := by
  have HV := Lib.hid hv
  obtain ⟨_, a, cap, rfl, hc1, hc2, ha⟩ := hv
  rw [flat_len] at *
  refine (rows_any hp hm (by omega) hc1 hc2 ha).mono ?_
  rintro e w' ⟨H, rfl, hH, hr, hb⟩
  refine ⟨H, rfl, ⟨_, m, rfl, by omega, .inr ⟨H, 0, rfl, .inr hr.lt, fun i hi => ⟨rowW a n cap i, ?_, ?_⟩⟩⟩, hH, hr.lt, hb⟩
  · rw [Nat.zero_add]; exact hr.cell hi
  · exact (rowW_ints HV.out (by omega) hi).on hb

/-! ### copy into a row -/
theorem setRow_grown (w : World) (g : Nat) (cs : Array Value) : w.grownBy (w.setRow g cs) (some g) := ⟨rfl, rfl, rfl, by simp [World.setRow], fun k _ hk => setRow_other w g k cs (fun e => hk (by rw [e]))⟩
theorem wp_copy_row {P : Program} {w : World} {ops : Array Oper} {rest : List Oper} {o : Oper} {a : Act} {Q : Exit → Act → World → Prop} (hgd : o.guard = none) (d s : Operand) (dT sT : TypeId)
    (ho : o.op = .call { callee := .builtin .copy, args := #[d, s], argTypes := #[dT, sT] }) (elem : TypeId) (hu : P.underlying dT = some (.slice elem)) (hsz : (P.info? elem).map (·.size) = some 1)
    (g off dCap n N : Nat) (F : Nat → Value) (t : TypeId) (hd : a.eval d = .slice (some ⟨g, off, none⟩) n dCap) (x : Value) (hs : a.eval s = x) (news : List Value) (hx : SrcAt w x news) (hn : news.length = n)
    (hrow : w.rowIs g t N F) (hfit : off + n ≤ N) (h1 : ∀ v ∈ news, v.oneCell' = true)
    (h : ∀ w', w'.rowIs g t N (fun y => if off ≤ y ∧ y < off + n then news.getD (y - off) undef else F y) → w.grownBy w' (some g) → wpList P ops Q rest (a.put o.dst (goInt n)) w') : wpList P ops Q (o :: rest) a w := by
  obtain ⟨ap, c, rfl, hl, hsrc⟩ := hx
  by_cases h0 : n = 0
  · subst h0
    refine wpList_copy_nothing hgd d s dT sT ho elem hu hsz _ ap 0 dCap _ c hd hs (by rw [hn]; rfl) ?_
    exact h w (hrow.congr fun y _ => by rw [if_neg (by omega)]) ⟨rfl, rfl, rfl, Nat.le_refl _, fun _ _ _ => rfl⟩
  · rcases hsrc with ⟨_, _, rfl⟩ | ⟨b, o', rfl, _, hc⟩
    · simp at hn; omega
    · obtain ⟨cur, hg, hcs, hF⟩ := hrow
      refine wpList_copy_own hgd d s dT sT ho elem hu hsz g off n dCap ⟨b, o', none⟩ _ c hd hs cur t hg news (by rw [hn]; exact (Nat.min_self n).symm) (fun j v hj => by rw [Addr.add_lit]; exact hc j v hj) (by rw [hn, hcs]; exact hfit) h1 ?_
      rw [hn]
      refine h _ ⟨_, setRow_heap w g _ _ t _ hg, ?_, fun i hi => ?_⟩ (setRow_grown _ _ _)
      · simp; omega
      · dsimp only
        have hci := hF i hi
        have hcl : i < cur.size := by omega
        rw [Array.getElem?_eq_getElem hcl] at hci
        by_cases hin : off ≤ i ∧ i < off + n
        · rw [if_pos hin]
          simp only [List.getElem?_toArray]
          rw [List.getElem?_append_right (by simp; omega), List.length_take, List.getElem?_append_left (by simp; omega)]
          rw [show min off cur.toList.length = off by simp; omega]
          simp [List.getD, List.getElem?_eq_getElem (show i - off < news.length by omega)]
        · rw [if_neg hin]
          simp only [List.getElem?_toArray]
          by_cases hlt : i < off
          · rw [List.getElem?_append_left (by simp; omega), List.getElem?_take_of_lt hlt]
            simpa [hcl] using hci
          · rw [List.getElem?_append_right (by simp; omega), List.length_take, List.getElem?_append_right (by simp; omega), List.getElem?_drop]
            rw [show off + n + (i - min off cur.toList.length - news.length) = i by simp; omega]
            simpa [hcl] using hci

/-! ### matrixOf -/
/-- k rows copied. -/
def MoF {q : Nat} [NeZero q] (n : Nat) (A : Mt q) (k t : Nat) : Value := if t < k * n then .int .i64 (fv (A (t / n) (t % n))) else .int .i64 0
theorem moF_next {q : Nat} [NeZero q] {n k : Nat} {A : Mt q} (t : Nat) : (if k * n ≤ t ∧ t < k * n + n then (iv (rowL n A k)).getD (t - k * n) undef else MoF n A k t) = MoF n A (k + 1) t := by
  unfold MoF
  rw [Nat.succ_mul]
  by_cases h : k * n ≤ t ∧ t < k * n + n
  · obtain ⟨j, hj⟩ : ∃ j, t = k * n + j := ⟨t - k * n, by omega⟩
    have hjn : j < n := by omega
    rw [if_pos h, if_pos h.2, hj, Nat.add_sub_cancel_left, idxDiv hjn, idxMod hjn]
    have hl : j < (rowL n A k).length := by rw [rowL_len]; exact hjn
    simp only [List.getD, iv_at _ j hl, Option.getD_some, rowL_at]
  · rw [if_neg h]
    by_cases h2 : t < k * n
    · rw [if_pos h2, if_pos (by omega)]
    · rw [if_neg h2, if_neg (by omega)]
set_option maxRecDepth 100000 in
set_option maxHeartbeats 3200000 in
theorem matrixOf_any {q m n : Nat} [NeZero q] {A : Mt q} (p : Int) {v : Value} {w : World} (hv : RowsC w v m (rowL n A)) (hm : m ≤ 32) (hn : n ≤ 32) :
    Calls Try.prog 69 #[.int .i64 p, .int .i64 (n : Int), v] w fun e w' => RetMx p m n (flat m n A) w e w' := by
  have hN := side_mul hm hn
  have HV := Lib.hid hv
  obtain ⟨av, cv, rfl, -, -⟩ := hv
  have Fr0 := Fz.new w #[.int .i64 0, .int .i64 0, .int .i64 0, .slice none 0 0] 27
  have Pr0 := PtM.new w 0 0 0 (.slice none 0 0) 27
  go_enter Try.func69, Try.ntmps69
  go_wp2_with fail
  refine (implZeros_any p m n (m * n) _ (Int.natCast_mul m n).symm (by omega)).mono ?_
  rintro e w1 ⟨h, rfl, hg, hrow, hb⟩
  have hb' := up1 hb
  have hs1 : w.heap.size + 1 ≤ w1.heap.size := by have := hb.size; simp at this; omega
  have hh : w.heap.size + 1 ≤ h := by simpa using hg
  have hh1 := hrow.lt
  have HB := Lib.hid hb'
  have Pr := Lib.hid (Pr0.on hb)
  have Fr : Hid (Fz w1 w.heap.size) := Fr0.on (by simp) hb
  have HR := Lib.hid hrow
  clear hb hb' Pr0 Fr0 hrow hg
  go_wp2_with fail
  have Pt0 := PtM.new w1 p m n (.slice (some ⟨h, 0, none⟩) (m * n) (m * n)) 27
  refine (rows_any Pt0 hm (by omega) (Nat.le_refl _) (by unfold maxLen; omega) (.inr ⟨h, 0, rfl⟩)).mono ?_
  rintro e w2 ⟨H1, rfl, hH1, hrow1, hb⟩
  have hb2 := up1 hb
  have hs2 : w1.heap.size + 1 ≤ w2.heap.size := by have := hb.size; simp at this; omega
  have hH1' : w1.heap.size + 1 ≤ H1 := by simpa using hH1
  have hH1l := hrow1.lt
  have HB := Lib.hid (HB.out.trans (hb2.mono (by omega)))
  have Pr := Lib.hid (Pr.out.on hb2)
  have Fr : Hid (Fz w2 w.heap.size) := Fr.out.on (by omega) hb2
  have HR := Lib.hid (rowIs_on HR.out hb2)
  have Pt := Lib.hid (Pt0.on hb)
  have H1R := Lib.hid hrow1
  clear hb hb2 Pt0 hrow1 hH1
  go_wp2_with fail
  go_loopw [17] (fun s wr => ∃ i : Nat, i ≤ m ∧ s = .int .i64 (i : Int) ∧ Hid (wr.rowIs h 2 (m * n) (MoF n A i)) ∧ Hid (w2.grownBy wr (some h))) (fun s _ => m - (intOf s).toNat)
  case atStart => exact ⟨0, Nat.zero_le _, rfl, HR.out.congr fun t _ => by unfold MoF; rw [if_neg (by omega)], grown_refl _ _⟩
  case round =>
    obtain ⟨i, hi, rfl, HX, HG⟩ := hrel
    by_cases hlt : i < m
    · have hVw := HV.out.on HB.out
      obtain ⟨a', c', e, _, h0 | ⟨Hl, ol, e2, hHl, hc⟩⟩ := HV.out
      · omega
      simp only [Value.slice.injEq, true_and] at e
      obtain ⟨rfl, rfl⟩ := e
      subst e2
      have hHl' : Hl < w.heap.size := by omega
      obtain ⟨u, hu, huI⟩ := hc i hlt
      have hBW := below_gb HB.out HG.out (by omega) (by omega)
      have d1 := (hBW.cell (p := ⟨Hl, ol + i, none⟩) hHl').trans hu
      have hsrc := Lib.hid ((huI.on hBW).src (by rw [rowL_len]; omega))
      have d2 := (gb_cell HG.out (b := H1) (o := i) (by omega) (by omega)).trans (H1R.out.cell hlt)
      unfold rowW adr at d2
      simp only [Nat.zero_add] at d2
      have hfit : i * n + n ≤ m * n := by rw [← Nat.succ_mul]; exact Nat.mul_le_mul_right n hlt
      have i0 : (0 : Int) ≤ (i : Int) := by omega
      have i1 : (i : Int) < (m : Int) := by omega
      have hlen : (iv (rowL n A i)).length = n := by rw [iv_len, rowL_len]
      obtain ⟨⟨au, cu, rfl, _, _⟩, _⟩ := huI
      simp only [rowL_len] at d1 hsrc
      clear hVw hBW hu hc
      go_wp2_with (refine wp_copy_row rfl _ _ 25 25 rfl 2 Try.underlying25 (by kernel_rfl) h (i * n) _ n (m * n) _ _ rfl _ rfl _ hsrc.out hlen HX.out hfit iv_one ?_; intro w3 hr3 hg3)
      have HX2 : Hid (w3.rowIs h 2 (m * n) (MoF n A (i + 1))) := hr3.congr fun t _ => moF_next t
      have HG2 : Hid (w2.grownBy w3 (some h)) := gb_trans HG.out hg3
      clear hr3 hg3 HX HG
      go_wp2
      go_roundw
      case rel => exact ⟨i + 1, by omega, by go_num, HX2.out, HG2.out⟩
      case measure => simp [intOf]; omega
    · obtain rfl : i = m := by omega
      have Pt := Pt.out.gb HG.out (by omega)
      have Pr := Pr.out.gb HG.out (by omega)
      have Fr : Fz wr w.heap.size := Fr.out.gb (by omega) HG.out (by omega)
      have HBB := Lib.hid (below_gb HB.out HG.out (by omega) (by omega))
      have hq := Lib.hid (Pr.set4 p i n (.slice (some ⟨h, 0, none⟩) (i * n) (i * n)))
      have hO : Hid (OwnI w.heap.size (set4 wr w.heap.size p i n (.slice (some ⟨h, 0, none⟩) (i * n) (i * n))) (.slice (some ⟨h, 0, none⟩) (i * n) (i * n)) (flat i n A)) :=
        OwnI.of_flat (rowIs_set4 HX.out (by omega) _ _ _ _) (by omega) (by omega) fun a b ha hb => by
          have := idx_lt ha hb
          unfold MoF; rw [if_pos this, idxDiv hb, idxMod hb]
      have hBf := Lib.hid (below_set4 HBB.out (Nat.le_refl w.heap.size) p i n (.slice (some ⟨h, 0, none⟩) (i * n) (i * n)))
      obtain ⟨lT, x0, x1, x2, x3⟩ := Pt
      obtain ⟨lR, r0, r1, r2, r3⟩ := Pr
      obtain ⟨f0, f1, f2, f3⟩ := Fr.all
      go_wp2_with fail
      obtain ⟨_, q0, q1, q2, q3⟩ := hq.out
      refine bodyPost_ret (v := .agg #[.int .i64 p, .int .i64 i, .int .i64 n, .slice (some ⟨h, 0, none⟩) (i * n) (i * n)]) (by simp [results, Try.results69, go_sem, q0, q1, q2, q3]) rfl ⟨_, rfl, hO.out, hBf.out⟩
end Go.Proofs.Ytabanmaaagmeaaa
