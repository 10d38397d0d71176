/-
  InverseMatrix of the program.
-/
import Derived.Test.YtabanmaaagmeaaaPG
import Derived.Test.YtabanmaaagmeaaaPB
import Derived.Test.YtabanmaaagmeaaaPE
namespace Go.Proofs.Ytabanmaaagmeaaa
open Go.RowKit
open Lin
set_option linter.unusedVariables false
set_option linter.unusedSectionVars false

/-- What InverseMatrix answers. -/
def InRes (p r c : Int) (xs : List Int) (P R C : Int) (zs : List Int) (k : Int) : Prop :=
  ((∃ b, (r == c) = b ∧ FitK p r c xs p r c xs b k) ∧ k ≠ 0 ∧ P = 0 ∧ R = 0 ∧ C = 0 ∧ zs = []) ∨
  ∃ (u : Nat) (_ : NeZero u) (m : Nat) (A : Mt u), MIs p r c xs u m m A ∧ (((red m A m).piv.length ≠ m ∧ P = 0 ∧ R = 0 ∧ C = 0 ∧ zs = [] ∧ k = 3) ∨ ((red m A m).piv.length = m ∧ P = p ∧ R = r ∧ C = c ∧ zs = flat m m (inverse m A) ∧ k = 0))
theorem inRes_has (p r c : Int) (xs : List Int) : ∃ P R C zs k, InRes p r c xs P R C zs k := by
  obtain ⟨k, hk⟩ := fitK_has p r c xs p r c xs (r == c)
  by_cases h : k = 0
  · subst h
    obtain ⟨h1, _, _, h2⟩ := hk.good
    obtain ⟨u, i, m, A, hA⟩ := sq_form h1 (by simpa using h2)
    by_cases hx : (red m A m).piv.length = m
    · exact ⟨_, _, _, _, _, .inr ⟨u, i, m, A, hA, .inr ⟨hx, rfl, rfl, rfl, rfl, rfl⟩⟩⟩
    · exact ⟨_, _, _, _, _, .inr ⟨u, i, m, A, hA, .inl ⟨hx, rfl, rfl, rfl, rfl, rfl⟩⟩⟩
  · exact ⟨_, _, _, _, _, .inl ⟨⟨_, rfl, hk⟩, h, rfl, rfl, rfl, rfl⟩⟩
theorem InRes.len {p r c : Int} {xs : List Int} {P R C : Int} {zs : List Int} {k : Int} (h : InRes p r c xs P R C zs k) : zs.length ≤ 1048576 := by
  rcases h with ⟨_, _, _, _, _, rfl⟩ | ⟨u, _, m, A, hA, ⟨_, _, _, _, rfl, _⟩ | ⟨_, _, _, _, rfl, _⟩⟩
  · simp
  · simp
  · rw [flat_len]
    have := Nat.mul_le_mul hA.m32 hA.m32
    omega
theorem rowL_joinF {q : Nat} [NeZero q] (n1 n2 : Nat) (A B : Mt q) : (fun i => rowL n1 A i ++ rowL n2 B i) = rowL (n1 + n2) (join n1 A B) := funext fun i => (rowL_join n1 n2 A B i).symm
/-- A row of the cells has been copied. -/
theorem matG_row {q : Nat} [NeZero q] {w3 : World} {G C m n i : Nat} {B : Mt q} {F : Nat → Value} {zs : List Int} {X : Nat → Fin q} (h1 : m * n ≤ C) (h2 : C ≤ maxLen) (hF : ∀ t, t < m * n → F t = .int .i64 (fv (cellF n B t)))
    (hr : w3.rowIs G 2 C (fun y => if i * n ≤ y ∧ y < i * n + n then (iv zs).getD (y - i * n) undef else F y)) (hz : zs.length = n) (hX : ∀ j (h : j < zs.length), zs[j] = fv (X j)) : MatG w3 G C m n (fun a l => if a = i then X l else B a l) := by
  refine ⟨_, hr, h1, h2, fun t ht => ?_⟩
  have hn : 0 < n := Nat.pos_of_ne_zero (by rintro rfl; simp at ht)
  have hd := Nat.div_add_mod t n
  rw [Nat.mul_comm] at hd
  have hm := Nat.mod_lt t hn
  show (if i * n ≤ t ∧ t < i * n + n then (iv zs).getD (t - i * n) undef else F t) = .int .i64 (fv (if t / n = i then X (t % n) else B (t / n) (t % n)))
  by_cases e : i * n ≤ t ∧ t < i * n + n
  · obtain ⟨j, hj⟩ : ∃ j, t = i * n + j := ⟨t - i * n, by omega⟩
    have hjn : j < n := by omega
    rw [if_pos e, hj, Nat.add_sub_cancel_left, idx_div hjn, idx_mod hjn, if_pos rfl]
    have hl : j < zs.length := by omega
    simp only [List.getD, iv_at _ j hl, Option.getD_some, hX]
  · rw [if_neg e, hF t ht]
    unfold cellF
    rw [if_neg]
    intro e2
    rw [e2] at hd
    omega
/-- The inverse so far. -/
def mixI {q : Nat} [NeZero q] (B : Mt q) (n i : Nat) : Mt q := fun a l => if a < i then B a (n + l) else unitM a l
theorem mixI_next {q : Nat} [NeZero q] {B : Mt q} {n i : Nat} : (fun a l => if a = i then B i (n + l) else mixI B n i a l) = mixI B n (i + 1) := by
  funext a l
  unfold mixI
  by_cases e : a = i
  · subst e; rw [if_pos rfl, if_pos (by omega)]
  · rw [if_neg e]
    by_cases e2 : a < i
    · rw [if_pos e2, if_pos (by omega)]
    · rw [if_neg e2, if_neg (by omega)]
theorem tail_src {w : World} {g C k n : Nat} {zs : List Int} {F : Nat → Value} (hr : w.rowIs g 2 C F) (hz : zs.length = n) (hl : n ≤ 4096) (hk : k + n ≤ C) (hF : ∀ j (h : j < zs.length), F (k + j) = .int .i64 zs[j]) (c : Nat) : SrcAt w (.slice (some ⟨g, k, none⟩) n c) (iv zs) := by
  refine ⟨_, c, by rw [iv_len, hz], by rw [iv_len]; omega, .inr ⟨g, k, rfl, .inr hr.lt, fun j u hj => ?_⟩⟩
  have h1 : j < zs.length := by have := (List.getElem?_eq_some_iff.1 hj).1; rwa [iv_len] at this
  rw [iv_at _ j h1] at hj
  injection hj with hj
  rw [hr.cell (by omega), hF j h1, hj]
set_option maxRecDepth 100000 in
set_option maxHeartbeats 3200000 in
theorem implIn_b {p r c k : Int} {xs : List Int} {b : Bool} {u : Value} {w : World} (hu : IntsAt w u xs) (hb : (r == c) = b) (h : FitK p r c xs p r c xs b k) (hk : k ≠ 0) :
    Calls Try.prog 32 #[.agg #[.int .i64 p, .int .i64 r, .int .i64 c, u]] w fun e w' => RetMC 0 0 0 [] k w e w' := by
  have HU := Lib.hid hu
  obtain ⟨a1, c1, rfl, hl1, _⟩ := hu
  have HK := Lib.hid h
  have hkb : (k != 0) = true := by simpa using hk
  clear h
  have Pa0 := PtM.new1 w p r c (.slice a1 xs.length c1) 27 (.cells #[.int .i64 0, .int .i64 0, .int .i64 0, .slice none 0 0] 27)
  have Pr0 := PtM.new (w.alloc (.cells #[.int .i64 p, .int .i64 r, .int .i64 c, .slice a1 xs.length c1] 27)) 0 0 0 (.slice none 0 0) 27
  have Fr0 := Fz.new (w.alloc (.cells #[.int .i64 p, .int .i64 r, .int .i64 c, .slice a1 xs.length c1] 27)) #[.int .i64 0, .int .i64 0, .int .i64 0, .slice none 0 0] 27
  rw [World.size_alloc] at Pr0 Fr0
  go_enter Try.func32, Try.ntmps32
  obtain ⟨_, x0, x1, x2, x3⟩ := id Pa0
  go_wp2_with fail
  refine (square_any (b := b) (by have h := HU.out.on (al1 (al1 (Below.refl _ _) (.cells #[.int .i64 p, .int .i64 r, .int .i64 c, .slice a1 xs.length c1] 27)) (.cells #[.int .i64 0, .int .i64 0, .int .i64 0, .slice none 0 0] 27)); exact h) hb HK.out).mono ?_
  rintro e w1 ⟨rfl, hb⟩
  clear x0 x1 x2 x3
  have Pa := Lib.hid (Pa0.on hb)
  have Pr := Lib.hid (Pr0.on hb)
  have Fr : Hid (Fz w1 (w.heap.size + 1)) := Fr0.on (by simp) hb
  have HB := Lib.hid (up2 hb)
  have hz : w.heap.size + 2 ≤ w1.heap.size := by have := hb.size; simp at this; omega
  clear hb Pa0 Pr0 Fr0
  obtain ⟨lA, x0, x1, x2, x3⟩ := Pa.out
  obtain ⟨lR, r0, r1, r2, r3⟩ := Pr.out
  obtain ⟨f0, f1, f2, f3⟩ := Fr.out.all
  go_wp2_with fail
  refine bodyPost_ret (v := .tuple #[.agg #[.int .i64 0, .int .i64 0, .int .i64 0, .slice none 0 0], .int .i64 k]) (by simp [results, Try.results32, go_sem, r0, r1, r2, r3]) rfl ⟨_, rfl, OwnI.nul _ _, ?_⟩
  repeat (refine Below.setC ?_ (by omega) _)
  exact HB.out
set_option maxRecDepth 100000 in
set_option maxHeartbeats 12800000 in
theorem implIn_ok {q m : Nat} [NeZero q] {A : Mt q} {P R C : Int} {zs : List Int} {k : Int} {u : Value} {w : World} (hu : IntsC w u (flat m m A)) (hA : MIs q m m (flat m m A) q m m A) (h0 : 0 < m) (hO : ((red m A m).piv.length ≠ m ∧ P = 0 ∧ R = 0 ∧ C = 0 ∧ zs = [] ∧ k = 3) ∨ ((red m A m).piv.length = m ∧ P = q ∧ R = m ∧ C = m ∧ zs = flat m m (inverse m A) ∧ k = 0)) :
    Calls Try.prog 32 #[.agg #[.int .i64 q, .int .i64 m, .int .i64 m, u]] w fun e w' => RetMC P R C zs k w e w' := by
  have hk : FitK (q : Int) m m (flat m m A) q m m (flat m m A) true 0 := .inr (.inr ⟨hA.ok, hA.ok, rfl, rfl, rfl⟩)
  have hpr := hA.pr
  have hm32 := hA.m32
  have hfd := fd_of hpr
  have hpl := piv_le_rows hfd m m A
  have hmm := side_mul hm32 hm32
  have hpj : (red m (join m A unitM) m).piv = (red m A m).piv := piv_join hfd m m A unitM
  have HOUT := Lib.hid hO
  have HC := Lib.hid hu
  have HU := Lib.hid hu.1
  obtain ⟨a1, c1, rfl, hl1, -⟩ := hu.1
  have HK := Lib.hid hk
  have HPR := Lib.hid hpr
  have HUR : Hid (URes (q : Int) m q m m (flat m m (unitM : Mt q)) 0) := .inr (.inr ⟨hpr, by simp [inB]; omega, rfl, rfl, rfl, rfl, q, inferInstance, m, rfl, rfl, rfl⟩)
  have HPJ := Lib.hid hpj
  have H0 := Lib.hid h0
  simp only [flat_len] at HU HC hl1 ⊢
  clear hk hu hpr hO hpj h0 hA
  have Pa0 := PtM.new1 w (q : Int) (m : Int) (m : Int) (.slice a1 (m * m) c1) 27 (.cells #[.int .i64 0, .int .i64 0, .int .i64 0, .slice none 0 0] 27)
  have Pr0 := PtM.new (w.alloc (.cells #[.int .i64 (q : Int), .int .i64 (m : Int), .int .i64 (m : Int), .slice a1 (m * m) c1] 27)) 0 0 0 (.slice none 0 0) 27
  have Fr0 := Fz.new (w.alloc (.cells #[.int .i64 (q : Int), .int .i64 (m : Int), .int .i64 (m : Int), .slice a1 (m * m) c1] 27)) #[.int .i64 0, .int .i64 0, .int .i64 0, .slice none 0 0] 27
  rw [World.size_alloc] at Pr0 Fr0
  go_enter Try.func32, Try.ntmps32
  obtain ⟨_, x0, x1, x2, x3⟩ := id Pa0
  go_wp2_with fail
  refine (square_any (b := true) (by have h := HU.out.on (al1 (al1 (Below.refl _ _) (.cells #[.int .i64 (q : Int), .int .i64 (m : Int), .int .i64 (m : Int), .slice a1 (m * m) c1] 27)) (.cells #[.int .i64 0, .int .i64 0, .int .i64 0, .slice none 0 0] 27)); exact h) (by simp) HK.out).mono ?_
  rintro e w1 ⟨rfl, hb⟩
  clear x0 x1 x2 x3
  have Pa := Lib.hid (Pa0.on hb)
  have Pr := Lib.hid (Pr0.on hb)
  have Fr : Hid (Fz w1 (w.heap.size + 1)) := Fr0.on (by simp) hb
  have HB := Lib.hid (up2 hb)
  have hz : w.heap.size + 2 ≤ w1.heap.size := by have := hb.size; simp at this; omega
  clear hb Pa0 Pr0 Fr0
  obtain ⟨lA, x0, x1, x2, x3⟩ := Pa.out
  obtain ⟨lR, r0, r1, r2, r3⟩ := Pr.out
  obtain ⟨f0, f1, f2, f3⟩ := Fr.out.all
  go_wp2_with fail
  with_reducible refine Calls.mono (implUnit_any _ HUR.out) ?_
  rintro e w2 ⟨v, rfl, ho, hb⟩
  have HIC := Lib.hid (ho.atC (by rw [flat_len]; omega))
  obtain ⟨G, GC, rfl, hG, hC, hMG⟩ := MatG.of_own ho (Nat.mul_pos H0.out H0.out)
  have HMG := Lib.hid hMG
  clear hMG
  clear lA x0 x1 x2 x3 lR r0 r1 r2 r3 f0 f1 f2 f3
  have Pa := Lib.hid (Pa.out.on hb)
  have Pr := Lib.hid (Pr.out.on hb)
  have Fr : Hid (Fz w2 (w.heap.size + 1)) := Fr.out.on (by omega) hb
  have HB := Lib.hid (HB.out.trans (hb.mono (by omega)))
  have hz2 := hb.size
  clear hb ho
  obtain ⟨lA, x0, x1, x2, x3⟩ := Pa.out
  obtain ⟨lR, r0, r1, r2, r3⟩ := Pr.out
  obtain ⟨f0, f1, f2, f3⟩ := Fr.out.all
  go_wp2_with fail
  have Pi0 := PtM.new w2 (q : Int) (m : Int) (m : Int) (.slice (some ⟨G, 0, none⟩) (m * m) GC) 27
  have bb := (Below.refl w2.heap.size w2).alloc (Nat.le_refl _) (.cells #[.int .i64 (q : Int), .int .i64 (m : Int), .int .i64 (m : Int), .slice (some ⟨G, 0, none⟩) (m * m) GC] 27)
  generalize hW : World.alloc w2 (.cells #[.int .i64 (q : Int), .int .i64 (m : Int), .int .i64 (m : Int), .slice (some ⟨G, 0, none⟩) (m * m) GC] 27) = W2 at Pi0 bb ⊢
  obtain ⟨I, hI⟩ : ∃ I, w2.heap.size = I := ⟨_, rfl⟩
  have hzI : I + 1 ≤ W2.heap.size := by rw [← hW, ← hI]; simp
  rw [hI] at Pi0 ⊢
  have HIC := Lib.hid (HIC.out.on bb)
  have hGI0 : G < I := by rw [← hI]; exact HMG.out.lt
  have HMG := Lib.hid (HMG.out.on bb)
  clear lA x0 x1 x2 x3 lR r0 r1 r2 r3 f0 f1 f2 f3
  have Pa := Lib.hid (Pa.out.on bb)
  have Pr := Lib.hid (Pr.out.on bb)
  have Fr : Hid (Fz W2 (w.heap.size + 1)) := Fr.out.on (by omega) bb
  have HB := Lib.hid (HB.out.trans (bb.mono (by omega)))
  have Pi := Lib.hid Pi0
  clear bb hW Pi0
  obtain ⟨lA, x0, x1, x2, x3⟩ := Pa.out
  obtain ⟨lR, r0, r1, r2, r3⟩ := Pr.out
  obtain ⟨f0, f1, f2, f3⟩ := Fr.out.all
  have neA := Pa.out.ne
  go_wp2_with fail
  go_region_held3 (fun w' => w'.cell? ⟨w.heap.size, 2, none⟩ = some (.int .i64 m) ∧ w'.cell? ⟨w.heap.size, 0, none⟩ = some (.int .i64 q)) (go_keep)
    (first
      | (go_at_call_of 68 (.pointer (some ⟨w.heap.size, 0, none⟩) : Value); refine (implRowsC Pa.out.drew (HC.out.on HB.out).drew hm32 hm32).mono ?_; rintro e wa ⟨Ha, rfl, hra, hHa, hHa2, hba'⟩; have hba := undrew hba'; obtain ⟨_, _, _, _, _⟩ := Pa.out.on hba)
      | (go_at_call 68; have hx := implRowsC (Pi.out.on hba) (HIC.out.on hba) hm32 hm32; refine hx.mono ?_; rintro e wb ⟨Hb, rfl, hrb, hHb, hHb2, hbb⟩; have hb2 : Below W2.heap.size W2 wb := hba.trans (hbb.mono hba.size); obtain ⟨_, _, _, _, _⟩ := Pa.out.on hb2)
      | (go_at_call 75; have hx := besides_any (hra.on hbb) hrb hm32 (fun i _ => by rw [rowL_len]; omega) (fun i _ => by rw [rowL_len]; omega); refine hx.mono ?_; rintro e wc ⟨Hc, rfl, hHc, hmc, hbc⟩; have hrc : RowsC wc (.slice (some ⟨Hc, 0, none⟩) m m) m (rowL (m + m) (join m A unitM)) := (by have h := hmc.rows (by omega) (fun i _ => by rw [List.length_append, rowL_len, rowL_len]; omega); rw [rowL_joinF] at h; exact h); have hb3 : Below W2.heap.size W2 wc := hb2.trans (hbc.mono hb2.size); obtain ⟨_, _, _, _, _⟩ := Pa.out.on hb3)
      | (go_at_call 67; have hx := reduce_any (c := m) hrc HPR.out hm32 (by omega) (by have := H0.out; omega) (by omega); refine hx.mono ?_; rintro e wd ⟨L, H, zs', rfl, hH, hL, hT, hbd⟩; have hb4 : Below W2.heap.size W2 wd := hb3.trans (hbd.mono hb3.size); obtain ⟨_, _, _, _, _⟩ := Pa.out.on hb4))
  obtain ⟨G2, C2, pv, hP, hRK, hO, hG2L⟩ := hT.ex
  have hz4 : W2.heap.size ≤ wc.heap.size := hb3.size
  have hG2o := fun i hi => (hRK.own i hi).1
  have HRK := Lib.hid hRK
  have HGO := Lib.hid hG2o
  have HGL := Lib.hid hG2L
  clear hT hRK hG2o hG2L
  obtain ⟨s, hs⟩ : ∃ s, red m (join m A unitM) m = s := ⟨_, rfl⟩
  have HS := Lib.hid hs
  rw [hs] at hP hO HRK
  have hN : s.piv.length = (red m A m).piv.length := by rw [← hs, HPJ.out]
  obtain ⟨pa, pc, rfl⟩ := hO.slice
  rw [pivI_len] at hP
  obtain ⟨N, hNN⟩ : ∃ N, s.piv.length = N := ⟨_, rfl⟩
  rw [hNN] at hP hN
  have HNN := Lib.hid hN
  have HP := Lib.hid hP
  have hN64 : N ≤ 64 := by omega
  clear hs hP hO hN hNN hbb hba' hba hb2 hra hrb hrc hmc hbc hbd x0 x1 x2 x3 lA r0 r1 r2 r3 lR f0 f1 f2 f3 neA
  have Pa := Lib.hid (Pa.out.on hb4)
  have Pr := Lib.hid (Pr.out.on hb4)
  have Fr : Hid (Fz wd (w.heap.size + 1)) := Fr.out.on (by omega) hb4
  have HB := Lib.hid (HB.out.trans (hb4.mono (by omega)))
  have Pi := Lib.hid (Pi.out.on hb4)
  have HMG := Lib.hid (HMG.out.on hb4)
  have hzd := hb4.size
  clear hb4
  obtain ⟨b, hbd⟩ : ∃ b, decide (N = m) = b := ⟨_, rfl⟩
  go_wp2_with fail
  refine (regular_any HP.out hN64 (by omega) hbd).mono ?_
  rintro e we ⟨rfl, hbe⟩
  have hLw := HP.out.lt
  have Pa := Lib.hid (Pa.out.on hbe)
  have Pr := Lib.hid (Pr.out.on hbe)
  have Fr : Hid (Fz we (w.heap.size + 1)) := Fr.out.on (by omega) hbe
  have HB := Lib.hid (HB.out.trans (hbe.mono (by omega)))
  have Pi := Lib.hid (Pi.out.on hbe)
  have HP := Lib.hid (HP.out.on hbe)
  have HMG := Lib.hid (HMG.out.on hbe)
  have HRK := Lib.hid (HRK.out.on hbe)
  have hze := hbe.size
  clear hbe
  cases b with
  | false =>
    as_aux_lemma =>
    obtain ⟨lA, x0, x1, x2, x3⟩ := Pa.out
    obtain ⟨lR, r0, r1, r2, r3⟩ := Pr.out
    obtain ⟨f0, f1, f2, f3⟩ := Fr.out.all
    have hne : N ≠ m := by simpa using hbd
    rcases HOUT.out with ⟨_, e1, e2, e3, e4, e5⟩ | ⟨e1, _⟩
    · have E1 := Lib.hid e1
      have E2 := Lib.hid e2
      have E3 := Lib.hid e3
      have E4 := Lib.hid e4
      have E5 := Lib.hid e5
      clear e1 e2 e3 e4 e5 hne
      go_wp2_with fail
      refine bodyPost_ret (v := .tuple #[.agg #[.int .i64 0, .int .i64 0, .int .i64 0, .slice none 0 0], .int .i64 3]) (by simp [results, Try.results32, go_sem, r0, r1, r2, r3]) rfl ⟨_, by rw [E1.out, E2.out, E3.out, E5.out], by rw [E4.out]; exact OwnI.nul _ _, ?_⟩
      repeat (refine Below.setC ?_ (by omega) _)
      exact HB.out
    · exact absurd (HNN.out.trans e1) hne
  | true =>
    as_aux_lemma =>
    have hne : N = m := by simpa using hbd
    have e0 : P = q ∧ R = m ∧ C = m ∧ zs = flat m m (inverse m A) ∧ k = 0 := by
      rcases HOUT.out with ⟨e1, _⟩ | ⟨_, e1⟩
      · exact absurd (HNN.out.symm.trans hne) e1
      · exact e1
    have E0 := Lib.hid e0
    clear e0 hne hbd
    obtain ⟨lA, x0, x1, x2, x3⟩ := Pa.out
    obtain ⟨lR, r0, r1, r2, r3⟩ := Pr.out
    obtain ⟨f0, f1, f2, f3⟩ := Fr.out.all
    go_wp2_with fail
    have hcap : m * m ≤ GC := by obtain ⟨_, _, h, _⟩ := HMG.out; exact h
    refine (rows_any Pi.out hm32 (by omega) hcap hC (.inr ⟨G, 0, rfl⟩)).mono ?_
    rintro e w6 ⟨H1, rfl, hH1, hrow1, hb⟩
    have hMw := HMG.out.lt
    clear lA x0 x1 x2 x3 lR r0 r1 r2 r3 f0 f1 f2 f3
    have hLw2 := HP.out.lt
    have Pa := Lib.hid (Pa.out.on hb)
    have Pr := Lib.hid (Pr.out.on hb)
    have Fr : Hid (Fz w6 (w.heap.size + 1)) := Fr.out.on (by omega) hb
    have HB := Lib.hid (HB.out.trans (hb.mono (by omega)))
    have Pi := Lib.hid (Pi.out.on hb)
    have HP := Lib.hid (HP.out.on hb)
    have HR1 := Lib.hid hrow1
    have HMG := Lib.hid (HMG.out.on hb)
    have HRK := Lib.hid (HRK.out.on hb)
    have hz6 := hb.size
    clear hb hrow1
    go_wp2_with fail
    go_loopw [38] (fun s' wr => ∃ i : Nat, i ≤ m ∧ s' = .int .i64 (i : Int) ∧ Hid (MatG wr G GC m m (mixI s.A m i)) ∧ Hid (w6.grownBy wr (some G))) (fun s' _ => m - (intOf s').toNat)
    case atStart => exact ⟨0, Nat.zero_le _, rfl, HMG.out.congr fun a l _ _ => by unfold mixI; rw [if_neg (Nat.not_lt_zero _)], grown_refl _ _⟩
    case round =>
      obtain ⟨i, hi, rfl, HX, HG⟩ := hrel
      by_cases hlt : i < m
      · as_aux_lemma =>
        have i0 : (0 : Int) ≤ (i : Int) := by omega
        have i1 : (i : Int) < (m : Int) := by omega
        obtain ⟨F, hF1, hF2, hF3, hF4⟩ := HX.out
        have hk := HRK.out.gb HG.out (by omega) (fun a ha => by have := HGO.out a ha; omega)
        have d1 := hk.list.cell hlt
        rw [if_pos hlt] at d1
        obtain ⟨F2, hR1, hR2⟩ := hk.row i hlt
        have hcp := hk.cap i hlt
        have d2 := (gb_cell HG.out (b := H1) (o := i) HR1.out.lt (by omega)).trans (HR1.out.cell hlt)
        unfold rowW adr at d2
        simp only [Nat.zero_add] at d2
        have hPw := HP.out.gb HG.out (by omega)
        have d0 := hPw.rows
        have lL := hPw.lt
        obtain ⟨lA, x0, x1, x2, x3⟩ := Pa.out.gb HG.out (by omega)
        obtain ⟨g2, hg2⟩ : ∃ g, G2 i = g := ⟨_, rfl⟩
        obtain ⟨cc, hcc⟩ : ∃ c, C2 i = c := ⟨_, rfl⟩
        rw [hg2] at d1 hR1
        rw [hcc] at d1 hR1 hcp
        have hsrc := Lib.hid ((tail_src (zs := rowL m (fun a l => s.A a (m + l)) i) (n := m) (k := m) hR1 (rowL_len _ _ _) (by omega) (by omega) (fun j hj => by rw [rowL_at]; exact hR2 (m + j) (by rw [rowL_len] at hj; omega)) (cc - m)))
        have hfit : i * m + m ≤ GC := by have : i * m + m ≤ m * m := by rw [← Nat.succ_mul]; exact Nat.mul_le_mul_right m hlt
                                         omega
        have hlen : (iv (rowL m (fun a l => s.A a (m + l)) i)).length = m := by rw [iv_len, rowL_len]
        have c0 : ¬ cc = m := by omega
        have c1 : (m : Int) ≤ (cc : Int) := by omega
        have c2 : m ≤ m + m := by omega
        have c3 : m + m - m = m := by omega
        have c4 : (m : Int) ≤ (m : Int) + (m : Int) := by omega
        have c5 : (m : Int) + (m : Int) ≤ (cc : Int) := by omega
        have c6 : (0 : Int) ≤ (m : Int) := by omega
        have HF := Lib.hid hF1
        have HF4 := Lib.hid hF4
        have HLEN := Lib.hid hlen
        have HGW := Lib.hid HG.out
        clear hF1 hF4 hlen hg2 hcc hR1 hR2 hk hPw HX HG
        go_wp2_with fail
        go_still_tail 11, (by kernel_rfl)
        change wpList _ _ _ _ _ wr.drew
        go_wp2_with (refine wp_copy_row rfl _ _ 25 25 rfl 2 Try.underlying25 (by kernel_rfl) G (i * m) _ m GC _ _ rfl _ rfl _ hsrc.out HLEN.out HF.out hfit iv_one ?_; intro w3 hr3 hg3)
        have HX2 : Hid (MatG w3 G GC m m (mixI s.A m (i + 1))) := by
          have h := matG_row (i := i) (X := fun l => s.A i (m + l)) hF2 hF3 HF4.out hr3 (rowL_len _ _ _) (fun j hj => by rw [rowL_at])
          rw [mixI_next] at h
          exact h
        have HG2 : Hid (w6.grownBy w3 (some G)) := gb_trans (gb_drew HGW.out) hg3
        clear hr3 hg3
        go_wp2
        go_roundw
        case rel => exact ⟨i + 1, by omega, by go_num, HX2.out, HG2.out⟩
        case measure => simp [intOf]; omega
      · as_aux_lemma =>
        obtain rfl : i = m := by omega
        have Pi := Pi.out.gb HG.out (by omega)
        have Pr := Pr.out.gb HG.out (by omega)
        have Fr : Fz wr (w.heap.size + 1) := Fr.out.gb (by omega) HG.out (by omega)
        have HBB := Lib.hid (below_gb HB.out HG.out (by omega) (by omega))
        have HXE : Hid (MatG wr G GC i i (inverse i A)) := by
          refine HX.out.congr fun a l ha _ => ?_
          unfold mixI inverse
          rw [if_pos ha, HS.out]
        have hq := Lib.hid (Pr.set4 q i i (.slice (some ⟨G, 0, none⟩) (i * i) GC))
        have hBf := Lib.hid (below_set4 HBB.out (by omega : w.heap.size ≤ w.heap.size + 1) (q : Int) (i : Int) (i : Int) (.slice (some ⟨G, 0, none⟩) (i * i) GC))
        obtain ⟨lI, i0, i1, i2, i3⟩ := Pi
        obtain ⟨lR, r0, r1, r2, r3⟩ := Pr
        obtain ⟨f0, f1, f2, f3⟩ := Fr.all
        obtain ⟨e1, e2, e3, e4, e5⟩ := E0.out
        have E1 := Lib.hid e1
        have E2 := Lib.hid e2
        have E3 := Lib.hid e3
        have E4 := Lib.hid e4
        have E5 := Lib.hid e5
        clear e1 e2 e3 e4 e5
        go_wp2_with fail
        obtain ⟨_, q0, q1, q2, q3⟩ := hq.out
        refine bodyPost_ret (v := .tuple #[.agg #[.int .i64 q, .int .i64 i, .int .i64 i, .slice (some ⟨G, 0, none⟩) (i * i) GC], .int .i64 0]) (by simp [results, Try.results32, go_sem, q0, q1, q2, q3]) rfl ⟨_, by rw [E1.out, E2.out, E3.out, E5.out] <;> rfl, ?_, hBf.out⟩
        rw [E4.out]
        refine OwnI.mono (B := w1.heap.size) ?_ (by omega)
        repeat (refine OwnI.setOut ?_ (by omega) _)
        exact HXE.out.own hG
set_option maxRecDepth 100000 in
set_option maxHeartbeats 12800000 in
theorem implIn_zero {q m : Nat} [NeZero q] {A : Mt q} {P R C : Int} {zs : List Int} {k : Int} {u : Value} {w : World} (hu : IntsC w u (flat m m A)) (hA : MIs q m m (flat m m A) q m m A) (h0 : m = 0) (hO : ((red m A m).piv.length ≠ m ∧ P = 0 ∧ R = 0 ∧ C = 0 ∧ zs = [] ∧ k = 3) ∨ ((red m A m).piv.length = m ∧ P = q ∧ R = m ∧ C = m ∧ zs = flat m m (inverse m A) ∧ k = 0)) :
    Calls Try.prog 32 #[.agg #[.int .i64 q, .int .i64 m, .int .i64 m, u]] w fun e w' => RetMC P R C zs k w e w' := by
  have hk : FitK (q : Int) m m (flat m m A) q m m (flat m m A) true 0 := .inr (.inr ⟨hA.ok, hA.ok, rfl, rfl, rfl⟩)
  have hpr := hA.pr
  have hm32 := hA.m32
  have hfd := fd_of hpr
  have hpl := piv_le_rows hfd m m A
  have hmm := side_mul hm32 hm32
  have hpj : (red m (join m A unitM) m).piv = (red m A m).piv := piv_join hfd m m A unitM
  have HOUT := Lib.hid hO
  have HC := Lib.hid hu
  have HU := Lib.hid hu.1
  obtain ⟨a1, c1, rfl, hl1, -⟩ := hu.1
  have HK := Lib.hid hk
  have HPR := Lib.hid hpr
  have HUR : Hid (URes (q : Int) m q m m (flat m m (unitM : Mt q)) 0) := .inr (.inr ⟨hpr, by simp [inB]; omega, rfl, rfl, rfl, rfl, q, inferInstance, m, rfl, rfl, rfl⟩)
  have HPJ := Lib.hid hpj
  have H0 := Lib.hid h0
  simp only [flat_len] at HU HC hl1 ⊢
  clear hk hu hpr hO hpj h0 hA
  have Pa0 := PtM.new1 w (q : Int) (m : Int) (m : Int) (.slice a1 (m * m) c1) 27 (.cells #[.int .i64 0, .int .i64 0, .int .i64 0, .slice none 0 0] 27)
  have Pr0 := PtM.new (w.alloc (.cells #[.int .i64 (q : Int), .int .i64 (m : Int), .int .i64 (m : Int), .slice a1 (m * m) c1] 27)) 0 0 0 (.slice none 0 0) 27
  have Fr0 := Fz.new (w.alloc (.cells #[.int .i64 (q : Int), .int .i64 (m : Int), .int .i64 (m : Int), .slice a1 (m * m) c1] 27)) #[.int .i64 0, .int .i64 0, .int .i64 0, .slice none 0 0] 27
  rw [World.size_alloc] at Pr0 Fr0
  go_enter Try.func32, Try.ntmps32
  obtain ⟨_, x0, x1, x2, x3⟩ := id Pa0
  go_wp2_with fail
  refine (square_any (b := true) (by have h := HU.out.on (al1 (al1 (Below.refl _ _) (.cells #[.int .i64 (q : Int), .int .i64 (m : Int), .int .i64 (m : Int), .slice a1 (m * m) c1] 27)) (.cells #[.int .i64 0, .int .i64 0, .int .i64 0, .slice none 0 0] 27)); exact h) (by simp) HK.out).mono ?_
  rintro e w1 ⟨rfl, hb⟩
  clear x0 x1 x2 x3
  have Pa := Lib.hid (Pa0.on hb)
  have Pr := Lib.hid (Pr0.on hb)
  have Fr : Hid (Fz w1 (w.heap.size + 1)) := Fr0.on (by simp) hb
  have HB := Lib.hid (up2 hb)
  have hz : w.heap.size + 2 ≤ w1.heap.size := by have := hb.size; simp at this; omega
  clear hb Pa0 Pr0 Fr0
  obtain ⟨lA, x0, x1, x2, x3⟩ := Pa.out
  obtain ⟨lR, r0, r1, r2, r3⟩ := Pr.out
  obtain ⟨f0, f1, f2, f3⟩ := Fr.out.all
  go_wp2_with fail
  with_reducible refine Calls.mono (implUnit_any _ HUR.out) ?_
  rintro e w2 ⟨v, rfl, ho, hb⟩
  obtain ⟨va, vc, rfl⟩ := ho.slice
  have HOI := Lib.hid ho
  have HIC := Lib.hid (ho.atC (by rw [flat_len]; omega))
  simp only [flat_len] at HIC HOI ⊢
  clear lA x0 x1 x2 x3 lR r0 r1 r2 r3 f0 f1 f2 f3
  have Pa := Lib.hid (Pa.out.on hb)
  have Pr := Lib.hid (Pr.out.on hb)
  have Fr : Hid (Fz w2 (w.heap.size + 1)) := Fr.out.on (by omega) hb
  have HB := Lib.hid (HB.out.trans (hb.mono (by omega)))
  have hz2 := hb.size
  clear hb ho
  obtain ⟨lA, x0, x1, x2, x3⟩ := Pa.out
  obtain ⟨lR, r0, r1, r2, r3⟩ := Pr.out
  obtain ⟨f0, f1, f2, f3⟩ := Fr.out.all
  go_wp2_with fail
  have Pi0 := PtM.new w2 (q : Int) (m : Int) (m : Int) (.slice va (m * m) vc) 27
  have bb := (Below.refl w2.heap.size w2).alloc (Nat.le_refl _) (.cells #[.int .i64 (q : Int), .int .i64 (m : Int), .int .i64 (m : Int), .slice va (m * m) vc] 27)
  generalize hW : World.alloc w2 (.cells #[.int .i64 (q : Int), .int .i64 (m : Int), .int .i64 (m : Int), .slice va (m * m) vc] 27) = W2 at Pi0 bb ⊢
  obtain ⟨I, hI⟩ : ∃ I, w2.heap.size = I := ⟨_, rfl⟩
  have hzI : I + 1 ≤ W2.heap.size := by rw [← hW, ← hI]; simp
  rw [hI] at Pi0 ⊢
  have HIC := Lib.hid (HIC.out.on bb)
  have HOI := Lib.hid (HOI.out.on bb)
  clear lA x0 x1 x2 x3 lR r0 r1 r2 r3 f0 f1 f2 f3
  have Pa := Lib.hid (Pa.out.on bb)
  have Pr := Lib.hid (Pr.out.on bb)
  have Fr : Hid (Fz W2 (w.heap.size + 1)) := Fr.out.on (by omega) bb
  have HB := Lib.hid (HB.out.trans (bb.mono (by omega)))
  have Pi := Lib.hid Pi0
  clear bb hW Pi0
  obtain ⟨lA, x0, x1, x2, x3⟩ := Pa.out
  obtain ⟨lR, r0, r1, r2, r3⟩ := Pr.out
  obtain ⟨f0, f1, f2, f3⟩ := Fr.out.all
  have neA := Pa.out.ne
  go_wp2_with fail
  go_region_held3 (fun w' => w'.cell? ⟨w.heap.size, 2, none⟩ = some (.int .i64 m) ∧ w'.cell? ⟨w.heap.size, 0, none⟩ = some (.int .i64 q)) (go_keep)
    (first
      | (go_at_call_of 68 (.pointer (some ⟨w.heap.size, 0, none⟩) : Value); refine (implRowsC Pa.out.drew (HC.out.on HB.out).drew hm32 hm32).mono ?_; rintro e wa ⟨Ha, rfl, hra, hHa, hHa2, hba'⟩; have hba := undrew hba'; obtain ⟨_, _, _, _, _⟩ := Pa.out.on hba)
      | (go_at_call 68; have hx := implRowsC (Pi.out.on hba) (HIC.out.on hba) hm32 hm32; refine hx.mono ?_; rintro e wb ⟨Hb, rfl, hrb, hHb, hHb2, hbb⟩; have hb2 : Below W2.heap.size W2 wb := hba.trans (hbb.mono hba.size); obtain ⟨_, _, _, _, _⟩ := Pa.out.on hb2)
      | (go_at_call 75; have hx := besides_any (hra.on hbb) hrb hm32 (fun i _ => by rw [rowL_len]; omega) (fun i _ => by rw [rowL_len]; omega); refine hx.mono ?_; rintro e wc ⟨Hc, rfl, hHc, hmc, hbc⟩; have hrc : RowsC wc (.slice (some ⟨Hc, 0, none⟩) m m) m (rowL (m + m) (join m A unitM)) := (by have h := hmc.rows (by omega) (fun i _ => by rw [List.length_append, rowL_len, rowL_len]; omega); rw [rowL_joinF] at h; exact h); have hb3 : Below W2.heap.size W2 wc := hb2.trans (hbc.mono hb2.size); obtain ⟨_, _, _, _, _⟩ := Pa.out.on hb3)
      | (go_at_call 67; have hx := reduce_all (c := m) hrc HPR.out hm32 (by omega) (by omega); refine hx.mono ?_; rintro e wd ⟨L, rfl, hL, hT, hbd⟩; have hb4 : Below W2.heap.size W2 wd := hb3.trans (hbd.mono hb3.size); obtain ⟨_, _, _, _, _⟩ := Pa.out.on hb4))
  obtain ⟨H, zs', pv, hP, hRC, hO⟩ := hT
  obtain ⟨s, hs⟩ : ∃ s, red m (join m A unitM) m = s := ⟨_, rfl⟩
  have HS := Lib.hid hs
  rw [hs] at hP hO
  have hN : s.piv.length = (red m A m).piv.length := by rw [← hs, HPJ.out]
  obtain ⟨pa, pc, rfl⟩ := hO.slice
  rw [pivI_len] at hP
  obtain ⟨N, hNN⟩ : ∃ N, s.piv.length = N := ⟨_, rfl⟩
  rw [hNN] at hP hN
  have HNN := Lib.hid hN
  have HP := Lib.hid hP
  have hN64 : N ≤ 64 := by omega
  clear hs hP hO hN hNN hbb hba' hba hb2 hra hrb hrc hmc hbc hbd x0 x1 x2 x3 lA r0 r1 r2 r3 lR f0 f1 f2 f3 neA
  have Pa := Lib.hid (Pa.out.on hb4)
  have Pr := Lib.hid (Pr.out.on hb4)
  have Fr : Hid (Fz wd (w.heap.size + 1)) := Fr.out.on (by omega) hb4
  have HB := Lib.hid (HB.out.trans (hb4.mono (by omega)))
  have Pi := Lib.hid (Pi.out.on hb4)
  have HOI := Lib.hid (HOI.out.on hb4)
  have hzd := hb4.size
  clear hb4
  obtain ⟨b, hbd⟩ : ∃ b, decide (N = m) = b := ⟨_, rfl⟩
  go_wp2_with fail
  refine (regular_any HP.out hN64 (by omega) hbd).mono ?_
  rintro e we ⟨rfl, hbe⟩
  have hLw := HP.out.lt
  have Pa := Lib.hid (Pa.out.on hbe)
  have Pr := Lib.hid (Pr.out.on hbe)
  have Fr : Hid (Fz we (w.heap.size + 1)) := Fr.out.on (by omega) hbe
  have HB := Lib.hid (HB.out.trans (hbe.mono (by omega)))
  have Pi := Lib.hid (Pi.out.on hbe)
  have HP := Lib.hid (HP.out.on hbe)
  have HOI := Lib.hid (HOI.out.on hbe)
  have hze := hbe.size
  clear hbe
  cases b with
  | false =>
    as_aux_lemma =>
    obtain ⟨lA, x0, x1, x2, x3⟩ := Pa.out
    obtain ⟨lR, r0, r1, r2, r3⟩ := Pr.out
    obtain ⟨f0, f1, f2, f3⟩ := Fr.out.all
    have hne : N ≠ m := by simpa using hbd
    rcases HOUT.out with ⟨_, e1, e2, e3, e4, e5⟩ | ⟨e1, _⟩
    · have E1 := Lib.hid e1
      have E2 := Lib.hid e2
      have E3 := Lib.hid e3
      have E4 := Lib.hid e4
      have E5 := Lib.hid e5
      clear e1 e2 e3 e4 e5 hne
      go_wp2_with fail
      refine bodyPost_ret (v := .tuple #[.agg #[.int .i64 0, .int .i64 0, .int .i64 0, .slice none 0 0], .int .i64 3]) (by simp [results, Try.results32, go_sem, r0, r1, r2, r3]) rfl ⟨_, by rw [E1.out, E2.out, E3.out, E5.out], by rw [E4.out]; exact OwnI.nul _ _, ?_⟩
      repeat (refine Below.setC ?_ (by omega) _)
      exact HB.out
    · exact absurd (HNN.out.trans e1) hne
  | true =>
    as_aux_lemma =>
    have hne : N = m := by simpa using hbd
    have e0 : P = q ∧ R = m ∧ C = m ∧ zs = flat m m (inverse m A) ∧ k = 0 := by
      rcases HOUT.out with ⟨e1, _⟩ | ⟨_, e1⟩
      · exact absurd (HNN.out.symm.trans hne) e1
      · exact e1
    have E0 := Lib.hid e0
    clear e0 hne hbd
    obtain ⟨lA, x0, x1, x2, x3⟩ := Pa.out
    obtain ⟨lR, r0, r1, r2, r3⟩ := Pr.out
    obtain ⟨f0, f1, f2, f3⟩ := Fr.out.all
    have hm0 := H0.out
    subst hm0
    go_wp2_with fail
    refine (rows_empty (F := fun _ => undef) Pi.out).mono ?_
    rintro e w6 ⟨H1, rfl, hH1, hrow1, hb⟩
    clear lA x0 x1 x2 x3 lR r0 r1 r2 r3 f0 f1 f2 f3
    have hLw2 := HP.out.lt
    have Pa := Lib.hid (Pa.out.on hb)
    have Pr := Lib.hid (Pr.out.on hb)
    have Fr : Hid (Fz w6 (w.heap.size + 1)) := Fr.out.on (by omega) hb
    have HB := Lib.hid (HB.out.trans (hb.mono (by omega)))
    have Pi := Lib.hid (Pi.out.on hb)
    have HP := Lib.hid (HP.out.on hb)
    have HR1 := Lib.hid hrow1
    have HOI := Lib.hid (HOI.out.on hb)
    have hz6 := hb.size
    clear hb hrow1
    go_wp2_with fail
    go_loopw [38] (fun s wr => s = .int .i64 (0 : Int) ∧ w6 = wr) (fun s _ => 0)
    case atStart => exact ⟨rfl, rfl⟩
    case round =>
      obtain ⟨rfl, rfl⟩ := hrel
      have Pi := Pi.out
      have Pr := Pr.out
      have Fr := Fr.out
      have hq := Lib.hid (Pr.set4 q 0 0 (.slice va 0 vc))
      have hBf := Lib.hid (below_set4 HB.out (by omega : w.heap.size ≤ w.heap.size + 1) (q : Int) 0 0 (.slice va 0 vc))
      obtain ⟨lI, i0, i1, i2, i3⟩ := Pi
      obtain ⟨lR, r0, r1, r2, r3⟩ := Pr
      obtain ⟨f0, f1, f2, f3⟩ := Fr.all
      obtain ⟨e1, e2, e3, e4, e5⟩ := E0.out
      have E1 := Lib.hid e1
      have E2 := Lib.hid e2
      have E3 := Lib.hid e3
      have E4 := Lib.hid e4
      have E5 := Lib.hid e5
      clear e1 e2 e3 e4 e5
      go_wp2_with fail
      obtain ⟨_, q0, q1, q2, q3⟩ := hq.out
      refine bodyPost_ret (v := .tuple #[.agg #[.int .i64 q, .int .i64 0, .int .i64 0, .slice va 0 vc], .int .i64 0]) (by simp [results, Try.results32, go_sem, q0, q1, q2, q3]) rfl ⟨_, by rw [E1.out, E2.out, E3.out, E5.out] <;> rfl, ?_, hBf.out⟩
      rw [E4.out]
      refine OwnI.mono (B := w1.heap.size) ?_ (by omega)
      repeat (refine OwnI.setOut ?_ (by omega) _)
      exact HOI.out
theorem implIn_any {p r c P R C k : Int} {u : Value} {xs zs : List Int} {w : World} (hu : IntsC w u xs) (h : InRes p r c xs P R C zs k) :
    Calls Try.prog 32 #[.agg #[.int .i64 p, .int .i64 r, .int .i64 c, u]] w fun e w' => RetMC P R C zs k w e w' := by
  rcases h with ⟨⟨b, hb, h⟩, hk, rfl, rfl, rfl, rfl⟩ | ⟨u', _, m, A, hA, h⟩
  · exact implIn_b hu.1 hb h hk
  · obtain ⟨rfl, rfl, rfl, rfl, h5, h6, h7⟩ := hA
    rcases Nat.eq_zero_or_pos m with h0 | h0
    · exact implIn_zero hu ⟨rfl, rfl, rfl, rfl, h5, h6, h7⟩ h0 h
    · exact implIn_ok hu ⟨rfl, rfl, rfl, rfl, h5, h6, h7⟩ h0 h
end Go.Proofs.Ytabanmaaagmeaaa
