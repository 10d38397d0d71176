/-
  Certificate of the program.
-/
import Derived.Test.YtlakkmhfaojebaaSpU
namespace Go.Proofs.Ytlakkmhfaojebaa
open Go.RowKit
open Lin
set_option linter.unusedVariables false
set_option linter.unusedSectionVars false

theorem owns_of_rowIs {B H n : Nat} {w : World} {F : Nat → Value} (h : w.rowIs H 24 n F) (hB : B ≤ H) (hm : n ≤ maxLen) : w.ownsRow B 24 1 (.slice (some ⟨H, 0, none⟩) n n) n ((List.range n).map F) := by
  obtain ⟨cur, hcur, hs, hi⟩ := h
  refine ⟨by simp, .inr ⟨H, n, cur, rfl, hB, hcur, Nat.le_refl _, hm, by omega, ?_⟩⟩
  refine List.ext_getElem (by simp [hs]) fun j h1 h2 => ?_
  have hj : j < n := by simpa using h2
  have := hi j hj
  rw [getElem?_pos cur j (by omega)] at this
  injection this with this
  rw [List.getElem_take]
  show cur[j] = _
  rw [this]
  simp
theorem row_src (w : World) (u : Value) : SrcAt (w.alloc (.cells #[u] 24)) (.slice (some ⟨w.heap.size, 0, none⟩) 1 1) [u] :=
  ⟨_, 1, rfl, by simp, .inr ⟨w.heap.size, 0, rfl, .inr (by simp), fun j x hj => by have h := row_val w u 24 j x hj; rw [Addr.add_lit] at h; exact h⟩⟩
theorem rows_cert {q m n B : Nat} [NeZero q] {A : Mt q} {b : Nat → Fin q} {w0 wb : World} {a : Option Addr} {cap : Nat} {v2 bs : Value} (h : wb.ownsRow B 24 1 v2 (n + 1) ((List.range n).map (rowW a m cap) ++ [bs]))
    (hi : IntsC w0 (.slice a (n * m) cap) (flat n m (turn A))) (hb0 : Below w0.heap.size w0 wb) (hbs : IntsC w0 bs (bL m b)) (hn : n ≤ 1024) (hm : m ≤ 1024) : RowsC wb v2 (n + 1) (rowL m (adj n (turn A) b)) := by
  refine RowsC.of_own2 h (by omega) fun i u hiu => ?_
  rw [rowL_adj]
  by_cases e : i < n
  · rw [if_pos e]
    rw [List.getElem?_append_left (by simpa using e)] at hiu
    have : u = rowW a m cap i := by
      rw [List.getElem?_map, List.getElem?_range e] at hiu
      simpa using hiu.symm
    rw [this]
    exact (rowW_ints hi hm e).on hb0
  · rw [if_neg e]
    have hin := (List.getElem?_eq_some_iff.1 hiu).1
    rw [List.length_append] at hin
    obtain rfl : i = n := by simp at hin; omega
    rw [List.getElem?_append_right (by simp)] at hiu
    have : u = bs := by simpa using hiu.symm
    rw [this]
    exact hbs.on hb0
set_option maxRecDepth 100000 in
set_option maxHeartbeats 3200000 in
theorem implCer_b {p r c k : Int} {xs ys : List Int} {u v : Value} {w : World} (hu : IntsC w u xs) (hv : IntsAt w v ys) (h : AskK p r c xs ys k) (hk : k ≠ 0) :
    Calls Try.prog 22 #[.agg #[.int .i64 p, .int .i64 r, .int .i64 c, u], v] w fun e w' => RetSC [] k w e w' := by
  have HU := Lib.hid hu.1
  have HV := Lib.hid hv
  have HK := Lib.hid h
  have ek : (k != 0) = true := by simpa using hk
  obtain ⟨a1, c1, rfl, hl1, -⟩ := hu.1
  obtain ⟨a2, c2, rfl, hl2, -⟩ := hv
  clear h hu hk
  go_enter Try.func22, Try.ntmps22
  go_wp2_with fail
  refine (sysCode_is (HU.out.on (al1 (Below.refl _ _) _)) (HV.out.on (al1 (Below.refl _ _) _)) HK.out).mono ?_
  rintro e w1 ⟨rfl, hb⟩
  have HB := Lib.hid (up1 hb)
  clear hb
  go_wp2_with fail
  go_ret2
  exact ⟨_, rfl, OwnI.nul _ _, HB.out⟩
set_option maxRecDepth 100000 in
set_option maxHeartbeats 6400000 in
theorem implCer_ok {q m n : Nat} [NeZero q] {A : Mt q} {b : Nat → Fin q} {Z : List Int} {k : Int} {u v : Value} {w : World} (hu : IntsC w u (flat m n A)) (hv : IntsC w v (bL m b)) (hA : MIs q m n (flat m n A) q m n A) (hS : SysRes (n + 1) m (red (n + 1) (Lin.sys m (adj n (turn A) b) (eN n)) m) Z k) :
    Calls Try.prog 22 #[.agg #[.int .i64 (q : Int), .int .i64 (m : Int), .int .i64 (n : Int), u], v] w fun e w' => RetSC Z k w e w' := by
  obtain ⟨i0, hi0, hz0, hz1, hz2⟩ := info_parts info_r
  have hm32 := hA.m32
  have hn32 := hA.n32
  have hnm : n * m ≤ 1024 := Nat.mul_le_mul hn32 hm32
  have hq2 : (2 : Int) ≤ q := hA.pr.1
  have HPR := Lib.hid hA.pr
  have HA := Lib.hid hA
  have HK := Lib.hid (ask_ok (b := b) hA)
  have HSR := Lib.hid hS
  have HU := Lib.hid hu
  have HU1 := Lib.hid hu.1
  have HV := Lib.hid hv
  have HV1 := Lib.hid hv.1
  obtain ⟨a1, c1, rfl, hl1, -⟩ := hu.1
  obtain ⟨a2, c2, rfl, hl2, -⟩ := hv.1
  simp only [flat_len, bL_len] at HU HU1 HV HV1 hl1 hl2 ⊢
  have Pa0 := PtM.new w q m n (.slice a1 (m * n) c1) 26
  clear hu hA hS hv
  go_enter Try.func22, Try.ntmps22
  go_wp2_with fail
  refine (sysCode_is (HU1.out.on (al1 (Below.refl _ _) _)) (HV1.out.on (al1 (Below.refl _ _) _)) HK.out).mono ?_
  rintro e w1 ⟨rfl, hb⟩
  have HB := Lib.hid (up1 hb)
  have Pa := Lib.hid (Pa0.on hb)
  have hs1 := HB.out.size
  clear hb Pa0
  obtain ⟨lA, x0, x1, x2, x3⟩ := Pa.out
  go_wp2_with fail
  refine (implTr_ok (HU.out.on HB.out) HA.out).mono ?_
  rintro e w2 ⟨v2, rfl, ho, hb⟩
  rw [turn_eq] at ho
  have HC := Lib.hid (ho.atC (by rw [flat_len]; omega))
  obtain ⟨va, vc, rfl⟩ := ho.slice
  simp only [flat_len] at HC ⊢
  have HB2 := Lib.hid (HB.out.trans (hb.mono hs1))
  have Pa := Lib.hid (Pa.out.on hb)
  have hs2 := HB2.out.size
  clear ho hb lA x0 x1 x2 x3
  have bb := al1 (Below.refl w2.heap.size w2) (.cells #[.int .i64 q, .int .i64 n, .int .i64 m, .slice va (n * m) vc] 26)
  have Pm0 := PtM.new w2 (q : Int) (n : Int) (m : Int) (.slice va (n * m) vc) 26
  obtain ⟨lA, x0, x1, x2, x3⟩ := Pa.out.on bb
  obtain ⟨N1, hN1⟩ : ∃ N1, n + 1 = N1 := ⟨_, rfl⟩
  have HN1 := Lib.hid hN1
  have hmk := run_make_row' (P := Try.prog) 24 2 (.int .i64 0) 8 Try.underlying24 info_i rfl .i64 .i64 N1 (by omega) (by omega)
  have hnN : n < N1 := by omega
  have n0 : (0 : Int) ≤ (n : Int) := by omega
  have n1 : (n : Int) < (N1 : Int) := by omega
  have ws : IntKind.i64.wrap ((n : Int) + 1) = (N1 : Int) := by rw [show (n : Int) + 1 = (N1 : Int) by omega]; exact IntWalk.i64_in _ (by omega)
  obtain ⟨W3, hW3⟩ : ∃ W3, World.alloc w2 (.cells #[.int .i64 q, .int .i64 n, .int .i64 m, .slice va (n * m) vc] 26) = W3 := ⟨_, rfl⟩
  obtain ⟨X2, hX2⟩ : ∃ X2, w2.heap.size = X2 := ⟨_, rfl⟩
  have HX2 := Lib.hid hX2
  rw [hW3] at bb Pm0 lA x0 x1 x2 x3
  have hrow := World.rowIs_made W3 (.int .i64 0) N1 2
  have g1 := hrow.cell (i := n) hnN
  have f1 := hrow.frozen n
  have es := World.setCell_alloc_new (w := W3) (madeCells #[.int .i64 0] N1) 2 n (.int .i64 1)
  have h3 : Hid ((W3.alloc (.cells ((madeCells #[.int .i64 0] N1).setIfInBounds n (.int .i64 1)) 2)).rowIs W3.heap.size 2 N1 (fun l => .int .i64 (fv (eN (q := q) n l)))) := by
    show World.rowIs _ _ _ _ _
    rw [← es]
    exact (hrow.set n _).congr fun l _ => eN_cell (by omega) n l
  have b4 := (Below.refl W3.heap.size W3).alloc (Nat.le_refl _) (.cells ((madeCells #[.int .i64 0] N1).setIfInBounds n (.int .i64 1)) 2)
  have hbl : OwnI W3.heap.size (W3.alloc (.cells ((madeCells #[.int .i64 0] N1).setIfInBounds n (.int .i64 1)) 2)) (.slice (some ⟨W3.heap.size, 0, none⟩) N1 N1) (bL (n + 1) (eN (q := q) n)) := by
    have h := OwnI.of_row (B := W3.heap.size) (g := W3.heap.size) (zs := bL (n + 1) (eN (q := q) n)) (by
      rw [bL_len, hN1]
      refine h3.out.congr fun l hl => ?_
      rw [getD_in (by rw [bL_len]; omega), bL_at]) (Nat.le_refl _) (by rw [bL_len]; omega)
    rw [bL_len, hN1] at h
    rw [← hN1] at h ⊢
    exact h
  have HBL := Lib.hid (hbl.at (by rw [bL_len]; omega))
  have HB4 := Lib.hid ((HB2.out.trans (bb.mono hs2)).trans (b4.mono (HB2.out.trans (bb.mono hs2)).size))
  have Pm := Lib.hid (Pm0.on b4)
  have HC := Lib.hid ((HC.out.on bb).on b4)
  have Pa := Lib.hid ((Pa.out.on bb).on b4)
  have hs4 := HB4.out.size
  clear es hrow hbl bb Pm0 hN1 hX2
  go_wp2_with fail
  generalize hW : World.alloc W3 (.cells ((madeCells #[.int .i64 0] N1).setIfInBounds n (.int .i64 1)) 2) = W at *
  have hz : W3.heap.size + 1 ≤ W.heap.size := by rw [← hW]; simp
  obtain ⟨X3, hX3⟩ : ∃ X, W3.heap.size = X := ⟨_, rfl⟩
  rw [hX3] at HBL hz ⊢
  have hC : IntsC W (.slice va (n * m) vc) (flat n m (turn A)) := HC.out
  have hcap : n * m ≤ vc ∧ vc ≤ maxLen ∧ ((va = none ∧ vc = 0) ∨ ∃ g off, va = some ⟨g, off, none⟩) := by
    obtain ⟨-, a', c', e', h1, h2, h3⟩ := hC
    rw [flat_len] at h1 e'
    simp only [Value.slice.injEq, true_and] at e'
    obtain ⟨rfl, rfl⟩ := e'
    exact ⟨h1, h2, h3⟩
  have HCP := Lib.hid hcap
  clear hcap hC hW b4 g1 f1 h3 hmk hW3 x0 x1 x2 x3 lA
  obtain ⟨lA, x0, x1, x2, x3⟩ := Pa.out
  have neA := Pa.out.ne
  go_region_held3 (fun w' => w'.cell? ⟨w.heap.size, 1, none⟩ = some (.int .i64 (m : Int)) ∧ w'.cell? ⟨w.heap.size, 0, none⟩ = some (.int .i64 (q : Int))) (first | go_keep | (go_split_ands; refine ⟨?_, ?_⟩ <;> (rw [hbn.cell lA]; assumption)))
    (first
      | (go_at_call 52; refine (rows_any (p := (q : Int)) (m := n) (n := m) (a := va) (cap := vc) (by first | exact Pm.out.drew | exact Pm.out.drew.on (al1 (Below.refl _ _) _) | exact (Pm.out.on (al1 (Below.refl _ _) _)).drew) hn32 (by omega) HCP.out.1 HCP.out.2.1 HCP.out.2.2).mono ?_; rintro e wa ⟨Ha, rfl, hHa, hra, hba'⟩; have hba : Below W.heap.size W wa := (by first | exact hba' | exact undrew hba' | exact up1 hba' | exact up1 (undrew hba') | exact undrew (up1 hba')); obtain ⟨_, _⟩ := bcell hba'; have hsa := hba'.size; (try simp at hsa); (try have := (by omega : W.heap.size < wa.heap.size)); have hHa2 : W.heap.size ≤ Ha := (by first | exact hHa | (simp at hHa; omega)); have hoa := owns_of_rowIs hra hHa2 (by unfold maxLen; omega); obtain ⟨_, _, _, _, _⟩ := Pa.out.on hba; have := (Pa.out.on hba).ne)
      | (refine step_append_src (by rfl) _ _ _ (by rfl) W.heap.size 24 i0 (.slice none 0 0) 24 Try.underlying75 hi0 hz0 hz1 hz2 (by rfl) _ n ((List.range n).map (rowW va m vc)) (by rfl) (by first | exact hoa | exact hoa.alloc _ | exact (hoa.alloc _).drew) _ [.slice a2 m c2] (by rfl) (by first | exact row_src _ _ | exact (row_src _ _).drew | exact (row_src _ _).on hba' | exact (row_src _ _).drew.on hba') (fun y hy => by simp at hy; rw [hy]; rfl) (by omega) (by omega) (by first | exact hba.size | (have := hba.size; simp; omega)) ?_; intro vn wn hon hgn; have hbn : Below W.heap.size W wn := (by first | exact hba.grown hgn hba.size (fun k hk => (hoa.lt k hk).1) | exact (hba.alloc hba.size _).grown hgn (by have := hba.size; simp; omega) (fun k hk => (hoa.lt k hk).1)); have hrc := rows_cert (A := A) (b := b) hon HC.out hbn (HV.out.on HB4.out) (by omega) (by omega); have hrs : ∃ a c, vn = .slice a (n + 1) c := (by obtain ⟨a, c, h, _⟩ := hrc; exact ⟨a, c, h⟩); obtain ⟨vna, vnc, rfl⟩ := hrs; obtain ⟨_, _, _, _, _⟩ := Pa.out.on hbn; have := (Pa.out.on hbn).ne)
      | (go_at_call 63; refine (solveRows_any (m := n + 1) (n := m) (A := adj n (turn A) b) (b := eN n) hrc (by first | exact HBL.out.on hbn | exact (HBL.out.on hbn).drew) HPR.out (by omega) (by omega) HSR.out).mono ?_; rintro e wb ⟨vb, rfl, hob, hbb⟩; have hb2 : Below W.heap.size W wb := hbn.trans (hbb.mono hbn.size); obtain ⟨vba, vbc, rfl⟩ := hob.slice; obtain ⟨_, _, _, _, _⟩ := Pa.out.on hb2; have := (Pa.out.on hb2).ne))
  all_goals
    have HO := Lib.hid hob
    have HB5 := Lib.hid (HB4.out.trans (hb2.mono hs4))
    have hs5 := hbn.size
    clear hoa hob hba hbb hb2 hba' hbn hrc hon hgn
    go_wp2_with fail
    go_ret2
    exact ⟨_, rfl, HO.out.mono (by omega), HB5.out⟩
theorem implCer_any {p r c k : Int} {u v : Value} {xs ys Z : List Int} {w : World} (hu : IntsC w u xs) (hv : IntsC w v ys) (h : CerRes p r c xs ys Z k) :
    Calls Try.prog 22 #[.agg #[.int .i64 p, .int .i64 r, .int .i64 c, u], v] w fun e w' => RetSC Z k w e w' := by
  rcases h with ⟨c0, h, hc, rfl, rfl⟩ | ⟨u', _, m, n, A, b, hA, rfl, hs⟩
  · exact implCer_b hu hv.1 h hc
  · obtain ⟨rfl, rfl, rfl, rfl, h5, h6, h7⟩ := hA
    exact implCer_ok hu hv ⟨rfl, rfl, rfl, rfl, h5, h6, h7⟩ hs
end Go.Proofs.Ytlakkmhfaojebaa
