/-
  QuotientOf of the program.
-/
import Derived.Test.YtpimnngomodnhaaSqM
import Derived.Test.YtpimnngomodnhaaSqE
import Derived.Test.YtpimnngomodnhaaSqO
namespace Go.Proofs.Ytpimnngomodnhaa
open Go.RowKit
open Lin
set_option linter.unusedVariables false
set_option linter.unusedSectionVars false

theorem cloneI_any {u : Value} {zs : List Int} {w : World} (h : IntsC w u zs) (hl : zs.length ≤ 2097152) : Calls Try.prog 109 #[u] w fun e w' => RetL zs w e w' := by
  have hs := h.src hl
  obtain ⟨_, a, cap, rfl, h1, _, ⟨rfl, rfl⟩ | ⟨g, off, rfl⟩⟩ := h
  · obtain rfl : zs = [] := List.length_eq_zero_iff.1 (by omega)
    exact cloneI_nil w
  · refine (cloneI_some (xs := iv zs) w hs (by rw [iv_len]) iv_one).mono ?_
    rintro e w' ⟨v, rfl, ho, -, hb⟩
    have h2 : OwnI w.heap.size w' v zs := by unfold OwnI; exact ho
    exact ⟨v, rfl, h2, hb⟩
theorem join_turn {q : Nat} [NeZero q] (s : Nat) (A B : Mt q) : join s (turn B) (turn A) = turn (stack s B A) := rfl
/-- A block that holds a shape. -/
def PtS (w : World) (L : Nat) (p n : Int) : Prop := L < w.heap.size ∧ w.cell? ⟨L, 0, none⟩ = some (.int .i64 p) ∧ w.cell? ⟨L, 1, none⟩ = some (.int .i64 n)
theorem PtS.new (w : World) (p n : Int) (t : TypeId) : PtS (w.alloc (.cells #[.int .i64 p, .int .i64 n] t)) w.heap.size p n :=
  ⟨by simp, by rw [World.cell?_alloc_at _ _ _ _ rfl]; rfl, by rw [World.cell?_alloc_at _ _ _ _ rfl]; rfl⟩
theorem PtS.on {w w' : World} {L : Nat} {p n : Int} (h : PtS w L p n) (hb : Below w.heap.size w w') : PtS w' L p n :=
  ⟨Nat.lt_of_lt_of_le h.1 hb.size, (hb.cell (p := ⟨L, 0, none⟩) h.1).trans h.2.1, (hb.cell (p := ⟨L, 1, none⟩) h.1).trans h.2.2⟩
/-- A call returned a list of rows of its own. -/
def RetRS (Z : List (List Int)) (w : World) (e : Ending) (w' : World) : Prop := ∃ v, e = .returned v ∧ OwnRI w.heap.size w' v Z ∧ Below w.heap.size w w'
set_option maxRecDepth 100000 in
set_option maxHeartbeats 6400000 in
/-- The vectors that are no sum of multiples of the known columns and of those before them. -/
theorem beyond_any {q N r s : Nat} [NeZero q] {A B : Mt q} {u v : Value} {w : World} (hu : RowsC w u r (rowL N A)) (hv : IntsC w v (flat N s (turn B))) (hA : MIs q r N (flat r N A) q r N A) (hs32 : s ≤ 32) :
    Calls Try.prog 79 #[.agg #[.int .i64 (q : Int), .int .i64 (N : Int)], .agg #[.int .i64 (q : Int), .int .i64 (N : Int), .int .i64 (s : Int), v], u] w fun e w' => RetRS (quoL N s r A B) w e w' := by
  have HPR := Lib.hid hA.pr
  have HMA := Lib.hid hA
  have hr32 := hA.m32
  have hN32 := hA.n32
  have HU := Lib.hid hu
  have HV := Lib.hid hv
  have hrN : N * r ≤ 1024 := Nat.mul_le_mul hN32 hr32
  have hsN : N * s ≤ 1024 := Nat.mul_le_mul hN32 hs32
  obtain ⟨a1, c1, rfl, -, -⟩ := hu
  obtain ⟨ak, ck, rfl⟩ := hv.1.slice
  have Ps0 := (PtS.new w (q : Int) (N : Int) 96).on ((Below.refl _ _).alloc (Nat.le_refl _) (.cells #[.int .i64 (q : Int), .int .i64 (N : Int), .int .i64 (s : Int), .slice ak (flat N s (turn B)).length ck] 26))
  have P80 := PtM.new (w.alloc (.cells #[.int .i64 (q : Int), .int .i64 (N : Int)] 96)) (q : Int) (N : Int) (s : Int) (.slice ak (flat N s (turn B)).length ck) 26
  have bb := al1 (al1 (Below.refl w.heap.size w) (.cells #[.int .i64 (q : Int), .int .i64 (N : Int)] 96)) (.cells #[.int .i64 (q : Int), .int .i64 (N : Int), .int .i64 (s : Int), .slice ak (flat N s (turn B)).length ck] 26)
  rw [World.size_alloc] at P80
  clear hv hA
  go_enter Try.func79, Try.ntmps79
  go_wp2_with fail
  generalize hW : ((w.alloc (.cells #[.int .i64 (q : Int), .int .i64 (N : Int)] 96)).alloc (.cells #[.int .i64 (q : Int), .int .i64 (N : Int), .int .i64 (s : Int), .slice ak (flat N s (turn B)).length ck] 26)) = W0 at bb Ps0 P80 ⊢
  have hz0 : w.heap.size + 2 ≤ W0.heap.size := by rw [← hW]; simp
  have Ps := Lib.hid Ps0
  have P8 := Lib.hid P80
  have HB := Lib.hid bb
  clear hW bb Ps0 P80
  refine (columns_any (HU.out.on HB.out) HMA.out).mono ?_
  rintro e w1 ⟨v9, rfl, ho9, hb⟩
  have C9 := Lib.hid (ho9.atC (by rw [flat_len]; omega))
  obtain ⟨va, vc, rfl⟩ := ho9.slice
  have hb2' : Below W0.heap.size W0 (w1.alloc (.cells #[.int .i64 (q : Int), .int .i64 (N : Int), .int .i64 (r : Int), .slice va (flat N r (turn A)).length vc] 26)) := al1 hb _
  have P90 := PtM.new w1 (q : Int) (N : Int) (r : Int) (.slice va (flat N r (turn A)).length vc) 26
  have HB := Lib.hid (HB.out.trans (hb2'.mono HB.out.size))
  have Ps := Lib.hid (Ps.out.on hb2')
  have P8 := Lib.hid (P8.out.on hb2')
  have C9 := Lib.hid (C9.out.on (al1 (Below.refl _ _) (.cells #[.int .i64 (q : Int), .int .i64 (N : Int), .int .i64 (r : Int), .slice va (flat N r (turn A)).length vc] 26)))
  have hz1 : w.heap.size + 2 ≤ w1.heap.size := by have := hb.size; omega
  clear ho9 hb hb2'
  go_wp2_with fail
  obtain ⟨L9, hL9⟩ : ∃ L, w1.heap.size = L := ⟨_, rfl⟩
  generalize hW3 : (w1.alloc (.cells #[.int .i64 (q : Int), .int .i64 (N : Int), .int .i64 (r : Int), .slice va (flat N r (turn A)).length vc] 26)) = W3 at HB Ps P8 C9 P90 ⊢
  have hz3 : w.heap.size + 2 ≤ W3.heap.size := by rw [← hW3]; simp; omega
  rw [hL9] at P90 hz1 ⊢
  have P9 := Lib.hid P90
  have C8 := Lib.hid (HV.out.on HB.out)
  have HRA := Lib.hid (HU.out.on HB.out)
  clear hW3 hL9 P90 HU HV
  obtain ⟨L8, hL8⟩ : ∃ L, w.heap.size + 1 = L := ⟨_, rfl⟩
  rw [hL8] at P8 ⊢
  clear hL8
  obtain ⟨_, s0, s1⟩ := Ps.out
  obtain ⟨l8, y0, y1, y2, y3⟩ := P8.out
  obtain ⟨l9, z0, z1, z2, z3⟩ := P9.out
  obtain ⟨K, hK⟩ : ∃ K, s + r = K := ⟨_, rfl⟩
  have wK : IntKind.i64.wrap ((s : Int) + (r : Int)) = (K : Int) := by rw [← hK, Int.natCast_add]; exact IntWalk.i64_in _ (by omega)
  have HJ : Hid ((fun i => rowL s (turn B) i ++ rowL r (turn A) i) = rowL K (turn (stack s B A))) := by show _ = _; rw [← hK]; exact funext fun i => (rowL_join s r (turn B) (turn A) i).symm
  have HPE : Hid ((red N (turn (stack s B A)) K).piv = quoP N s r A B K) := by show _ = _; rw [← hK]; exact quo_piv (fd_of HPR.out) N s r A B
  have HPK : Hid (∀ k ∈ quoP N s r A B K, k < K) := fun k hk => by
    unfold quoP at hk
    exact List.mem_range.1 (List.mem_filter.1 hk).1
  have HQL : Hid (quoL N s r A B = quoR N s A (quoP N s r A B K)) := by show _ = _; unfold quoL; rw [hK]
  have hK64 : K ≤ 64 := by omega
  have hPL := quoP_len N s r A B K
  go_wp2_with fail
  go_region_held3 (fun w' => w'.cell? ⟨L8, 2, none⟩ = some (.int .i64 (s : Int)) ∧ w'.cell? ⟨L9, 2, none⟩ = some (.int .i64 (r : Int)) ∧ w'.cell? ⟨w.heap.size, 0, none⟩ = some (.int .i64 (q : Int))) (go_keep)
    (first
      | (go_at_call_of 43 (.pointer (some ⟨L8, 0, none⟩) : Value); refine (implRowsC P8.out.drew C8.out.drew hN32 hs32).mono ?_; rintro e wa ⟨Ha, rfl, hra, hHa, hHa2, hba'⟩; have hba := undrew hba'; obtain ⟨_, _, _⟩ := Ps.out.on hba; obtain ⟨_, _, _, _, _⟩ := P8.out.on hba; obtain ⟨_, _, _, _, _⟩ := P9.out.on hba)
      | (go_at_call 43; have hx := implRowsC (P9.out.on hba) (C9.out.on hba) hN32 hr32; refine hx.mono ?_; rintro e wb ⟨Hb, rfl, hrb, hHb, hHb2, hbb⟩; have hb2 : Below W3.heap.size W3 wb := hba.trans (hbb.mono hba.size); obtain ⟨_, _, _⟩ := Ps.out.on hb2; obtain ⟨_, _, _, _, _⟩ := P8.out.on hb2; obtain ⟨_, _, _, _, _⟩ := P9.out.on hb2)
      | (go_at_call 108; have hx := besides_any (hra.on hbb) hrb hN32 (fun i _ => by rw [rowL_len]; omega) (fun i _ => by rw [rowL_len]; omega); refine hx.mono ?_; rintro e wc ⟨Hc, rfl, hHc, hmc, hbc⟩; have hrc : RowsC wc (.slice (some ⟨Hc, 0, none⟩) N N) N (rowL K (turn (stack s B A))) := (by have h := hmc.rows (by omega) (fun i _ => by rw [List.length_append, rowL_len, rowL_len]; omega); rw [HJ.out] at h; exact h); have hb3 : Below W3.heap.size W3 wc := hb2.trans (hbc.mono hb2.size); obtain ⟨_, _, _⟩ := Ps.out.on hb3; obtain ⟨_, _, _, _, _⟩ := P8.out.on hb3; obtain ⟨_, _, _, _, _⟩ := P9.out.on hb3)
      | (go_at_call 82; refine (reduce_big (c := K) (N := K) (A := turn (stack s B A)) hrc HPR.out (by omega) (by omega) (Nat.le_refl _)).mono ?_; rintro e wd ⟨L, rfl, hL, hT, hbd⟩; have hb4 : Below W3.heap.size W3 wd := hb3.trans (hbd.mono hb3.size); obtain ⟨_, _, _⟩ := Ps.out.on hb4; obtain ⟨_, _, _, _, _⟩ := P8.out.on hb4; obtain ⟨_, _, _, _, _⟩ := P9.out.on hb4))
  obtain ⟨H3, zs3, pv, hP, hR3, hO⟩ := hT
  rw [HPE.out] at hO
  obtain ⟨M, hM⟩ : ∃ M, (quoP N s r A B K).length = M := ⟨_, rfl⟩
  rw [hM] at hPL
  have HML := Lib.hid hM
  have HPV := Lib.hid (hO.at (by rw [pivI_len, hM]; omega))
  obtain ⟨pa, pc, rfl⟩ := hO.slice
  simp only [pivI_len, hM] at HPV hP ⊢
  have HPT := Lib.hid hP
  have HB := Lib.hid (HB.out.trans (hb4.mono (by omega)))
  have P8 := Lib.hid (P8.out.on hb4)
  have HRA := Lib.hid (HRA.out.on hb4)
  have hz4 : w.heap.size + 2 ≤ wd.heap.size := by have := hb4.size; omega
  obtain ⟨i0, hi0, iz0, iz1, iz2⟩ := info_parts info_r
  have p3 := hP.piv
  clear hP hR3 hO hb4 hbd hba hbb hb2 hbc hb3 hra hrb hrc hmc hba' s0 s1 l8 y0 y1 y2 y3 l9 z0 z1 z2 z3 hM wK
  go_wp2_with fail
  go_loopw [31, 9] (fun sj so wr => ∃ j : Nat, j ≤ M ∧ sj = .int .i64 (j : Int) ∧ Hid (OwnRI wd.heap.size wr so (quoR N s A ((quoP N s r A B K).take j))) ∧ Hid (Below wd.heap.size wd wr)) (fun sj _ _ => M - (intOf sj).toNat)
  case atStart => exact ⟨0, Nat.zero_le _, rfl, OwnRI.nul _ _, Below.refl _ _⟩
  case round =>
    obtain ⟨j, hj, rfl, HX, HK⟩ := hrel
    have sk := HK.out.size
    by_cases hlt : j < M
    · have hjl : j < (quoP N s r A B K).length := by rw [HML.out]; exact hlt
      obtain ⟨k, hk⟩ : ∃ k, (quoP N s r A B K)[j] = k := ⟨_, rfl⟩
      have hkK : k < K := HPK.out k (by rw [← hk]; exact List.getElem_mem hjl)
      obtain ⟨gb, go, rfl, hgb, c1⟩ : ∃ b o, pa = some ⟨b, o, none⟩ ∧ b < wd.heap.size ∧ wd.cell? ⟨b, o + j, none⟩ = some (.int .i64 (k : Int)) := by
        obtain ⟨a', c', e', -, h | ⟨b, o, rfl, hb, h⟩⟩ := HPV.out
        · exfalso; have h0 : (quoP N s r A B K).length = 0 := by rw [← pivI_len, h]; rfl
          omega
        · have := h j (by rw [pivI_len]; exact hjl)
          rw [pivI_at, hk] at this
          simp only [Value.slice.injEq] at e'
          exact ⟨b, o, e'.1, hb, this⟩
      have d1 := (HK.out.cell (p := ⟨gb, go + j, none⟩) hgb).trans c1
      have HTK : Hid (quoR N s A ((quoP N s r A B K).take (j + 1)) = quoR N s A ((quoP N s r A B K).take j) ++ quoR N s A [k]) := by
        show _ = _; rw [List.take_succ_eq_append_getElem hjl, hk, quoR_app]
      have j0 : (0 : Int) ≤ (j : Int) := by omega
      have j1 : (j : Int) < (M : Int) := by omega
      obtain ⟨l8, y0, y1, y2, y3⟩ := P8.out.on HK.out
      clear hk hjl c1 hgb
      by_cases hks : s ≤ k
      · obtain ⟨d, rfl⟩ : ∃ d, k = s + d := ⟨k - s, by omega⟩
        have hdr : d < r := by omega
        obtain ⟨Hr, ro, rc, ur, e, hHr, d0, hui⟩ := HRA.out.at hdr
        simp only [Value.slice.injEq, true_and] at e
        obtain ⟨rfl, rfl⟩ := e
        obtain ⟨ua, uc, rfl⟩ := hui.1.slice
        rw [rowL_len] at d0 hui
        have hHr' : Hr < wd.heap.size := by omega
        have d2 := (HK.out.cell (p := ⟨Hr, ro + d, none⟩) hHr').trans d0
        have HUI := Lib.hid (hui.on HK.out)
        have HQ1 := Lib.hid (quoR_one N s A (c := s + d) (by omega))
        obtain ⟨k', hk'⟩ : ∃ k', s + d = k' := ⟨_, rfl⟩
        rw [hk'] at d1 HTK HQ1
        have gk : s ≤ k' := by omega
        have wk : IntKind.i64.wrap ((k' : Int) - (s : Int)) = (d : Int) := by rw [show ((k' : Int) - (s : Int)) = (d : Int) by omega]; exact IntWalk.i64_in _ (by omega)
        have HQ2 : Hid (quoR N s A [k'] = [rowL N A d]) := by show _ = _; rw [HQ1.out, ← hk', Nat.add_sub_cancel_left]
        have e0 : (0 : Int) ≤ (d : Int) := by omega
        have e1 : (d : Int) < (r : Int) := by omega
        clear hui d0 HQ1 hk'
        go_wp2_with fail
        refine (cloneI_any HUI.out (by rw [rowL_len]; omega)).mono ?_
        rintro e w7 ⟨v7, rfl, ho7, hb7⟩
        have HC := Lib.hid ho7
        have HBC := Lib.hid hb7
        obtain ⟨xa, xc, rfl⟩ := ho7.slice
        have s7 := hb7.size
        obtain ⟨L0, hL0⟩ := HX.out
        have HL := Lib.hid hL0
        obtain ⟨M2, hM2⟩ : ∃ M, (quoR N s A ((quoP N s r A B K).take j)).length = M := ⟨_, rfl⟩
        have hM3 : M2 ≤ j := by rw [← hM2]; exact Nat.le_trans (quoR_len _ _ _ _) (by rw [List.length_take]; omega)
        have HM2 := Lib.hid hM2
        have hso := HX.out.slice
        rw [hM2] at hso
        obtain ⟨ya, yc, hy⟩ := hso
        rw [rowL_len] at HC ⊢
        clear ho7 hb7 hL0 hM2
        subst hy
        go_wp2_with (at_builtin; refine wpList_append_place _ rfl _ _ 28 rfl wd.heap.size 24 i0 (.slice none 0 0) 24 Try.underlying28 hi0 iz0 iz1 iz2 rfl _ M2 L0 rfl (by have h := (HL.out.on HBC.out).row; rw [HM2.out] at h; exact h.alloc _) ⟨w7.heap.size, 0, none⟩ _ (.slice xa N xc) rfl (row_val _ _ _) (fun y hy => by simp at hy; rw [hy]; rfl) (by unfold maxLen; omega) (by omega) (by rw [World.size_alloc]; omega) ?_; intro v8 w8 hr8 hg8 hv8)
        have hp8 := OwnRI.push HL.out HC.out HBC.out (by omega) (by rw [HM2.out]; exact hr8) hg8 (fun g hg => (hv8 g hg).imp id (fun h => by rw [World.size_alloc] at h; omega))
        have hk8 := below_pushR HK.out (Nat.le_refl _) (by omega) HX.out HBC.out hg8
        have HX8 : Hid (OwnRI wd.heap.size w8 v8 (quoR N s A ((quoP N s r A B K).take (j + 1)))) := by show OwnRI _ _ _ _; rw [HTK.out, HQ2.out]; exact hp8
        have HK8 := Lib.hid hk8
        clear hp8 hk8 hr8 hg8 hv8 HC HBC HL
        go_wp2
        go_roundw
        case rel => exact ⟨j + 1, by omega, by go_num, HX8.out, HK8.out⟩
        case measure => simp [intOf]; omega
      · have HQ2 := Lib.hid (quoR_not N s A (c := k) (by omega))
        have hx8 := HX.out
        have ht2 : quoR N s A ((quoP N s r A B K).take (j + 1)) = quoR N s A ((quoP N s r A B K).take j) := by rw [HTK.out, HQ2.out, List.append_nil]
        rw [← ht2] at hx8
        have HX8 := Lib.hid hx8
        clear ht2
        clear hx8
        go_wp2
        go_roundw
        case rel => exact ⟨j + 1, by omega, by go_num, HX8.out, HK.out⟩
        case measure => simp [intOf]; omega
    · obtain rfl : j = M := by omega
      have HB9 := Lib.hid (HB.out.trans (HK.out.mono (by omega)))
      have hxe := HX.out
      rw [show (quoP N s r A B K).take j = quoP N s r A B K by rw [← HML.out, List.take_length], ← HQL.out] at hxe
      have HXE := Lib.hid hxe
      clear hxe HX
      go_wp2
      go_ret
      exact ⟨_, rfl, HXE.out.mono (by omega), HB9.out⟩
set_option maxRecDepth 100000 in
set_option maxHeartbeats 6400000 in
theorem implQuo_b {p n q m k : Int} {u v : Value} {xx yy : List (List Int)} {w : World} (hu : RowsD w u xx) (hv : RowsD w v yy) (h : TwoK p n xx q m yy k) (hk : k ≠ 0) :
    Calls Try.prog 36 #[.agg #[.int .i64 p, .int .i64 n, u], .agg #[.int .i64 q, .int .i64 m, v]] w fun e w' => RetRC [] k w e w' := by
  have HU := Lib.hid hu
  have HV := Lib.hid hv
  have HK : Hid (SumRes p n xx q m yy 0 0 [] k) := .inl ⟨k, h, hk, rfl, rfl, rfl, rfl⟩
  have ek : (k != 0) = true := by simpa using hk
  obtain ⟨a1, c1, rfl⟩ := hu.1.slice
  obtain ⟨a2, c2, rfl⟩ := hv.1.slice
  clear hu hv h hk
  have Pa0 := PtV.new1 w p n (.slice a1 xx.length c1) 32 (.cells #[.int .i64 q, .int .i64 m, .slice a2 yy.length c2] 32)
  have Pb0 := PtV.new (w.alloc (.cells #[.int .i64 p, .int .i64 n, .slice a1 xx.length c1] 32)) q m (.slice a2 yy.length c2) 32
  rw [World.size_alloc] at Pb0
  have bb := al1 (al1 (Below.refl w.heap.size w) (.cells #[.int .i64 p, .int .i64 n, .slice a1 xx.length c1] 32)) (.cells #[.int .i64 q, .int .i64 m, .slice a2 yy.length c2] 32)
  go_enter Try.func36, Try.ntmps36
  go_wp2_with fail
  generalize hW : ((w.alloc (.cells #[.int .i64 p, .int .i64 n, .slice a1 xx.length c1] 32)).alloc (.cells #[.int .i64 q, .int .i64 m, .slice a2 yy.length c2] 32)) = W0 at bb Pa0 Pb0 ⊢
  have hz0 : w.heap.size + 2 ≤ W0.heap.size := by rw [← hW]; simp
  have Pa := Lib.hid Pa0
  have Pb := Lib.hid Pb0
  have HB := Lib.hid bb
  clear hW bb Pa0 Pb0
  refine (implSum_any (HU.out.on HB.out) (HV.out.on HB.out) HK.out).mono ?_
  rintro e w1 ⟨v1, rfl, ho, hb⟩
  obtain ⟨va, vc, rfl⟩ := ho.slice
  have HB := Lib.hid (HB.out.trans (hb.mono HB.out.size))
  clear ho hb
  go_wp2_with fail
  go_ret2
  exact ⟨_, rfl, OwnRI.nul _ _, al1 HB.out _⟩
set_option maxRecDepth 100000 in
set_option maxHeartbeats 6400000 in
theorem implQuo_n {q N r s : Nat} [NeZero q] {A B : Mt q} {u v : Value} {xx yy : List (List Int)} {w : World} (hu : RowsD w u xx) (hv : RowsD w v yy) (hA : VIs q N xx q N r A) (hB : VIs q N yy q N s B) (hin : ¬ ∀ i, i < s → In r N A (B i)) :
    Calls Try.prog 36 #[.agg #[.int .i64 (q : Int), .int .i64 (N : Int), u], .agg #[.int .i64 (q : Int), .int .i64 (N : Int), v]] w fun e w' => RetRC [] 6 w e w' := by
  have HU := Lib.hid hu
  have HV := Lib.hid hv
  have HSR : Hid (SumRes (q : Int) N xx q N yy q N (sumOf r s N A B) 0) := .inr ⟨rfl, rfl, rfl, rfl, rfl, q, inferInstance, N, r, s, A, B, hA, hB, rfl⟩
  have FS : Hid (FitR (sumOf r s N A B)) := fit_basOf (fd_of hA.pr) _ (by have := hA.n32; omega)
  have hsm := sum_same hA hB
  have HIN := Lib.hid hin
  obtain ⟨zs, hzs⟩ : ∃ z, sumOf r s N A B = z := ⟨_, rfl⟩
  rw [hzs] at HSR FS hsm
  have HSM := Lib.hid hsm
  have HPR := Lib.hid hA.pr
  have HMA := Lib.hid hA.mis
  have HMB := Lib.hid hB.mis
  have HRA := Lib.hid (hA.rowsC hu)
  have HRB := Lib.hid (hB.rowsC hv)
  have hr32 := hA.mis.m32
  have hs32 := hB.mis.m32
  have hN32 := hA.n32
  have hl1 := hA.len
  have hl2 := hB.len
  obtain ⟨a1, c1, rfl⟩ := hu.1.slice
  obtain ⟨a2, c2, rfl⟩ := hv.1.slice
  rw [hl1] at HU HRA ⊢
  rw [hl2] at HV HRB ⊢
  clear hu hv hA hB hl1 hl2 hin hsm hzs
  have Pa0 := PtV.new1 w (q : Int) (N : Int) (.slice a1 r c1) 32 (.cells #[.int .i64 (q : Int), .int .i64 (N : Int), .slice a2 s c2] 32)
  have Pb0 := PtV.new (w.alloc (.cells #[.int .i64 (q : Int), .int .i64 (N : Int), .slice a1 r c1] 32)) (q : Int) (N : Int) (.slice a2 s c2) 32
  rw [World.size_alloc] at Pb0
  have bb := al1 (al1 (Below.refl w.heap.size w) (.cells #[.int .i64 (q : Int), .int .i64 (N : Int), .slice a1 r c1] 32)) (.cells #[.int .i64 (q : Int), .int .i64 (N : Int), .slice a2 s c2] 32)
  go_enter Try.func36, Try.ntmps36
  go_wp2_with fail
  generalize hW : ((w.alloc (.cells #[.int .i64 (q : Int), .int .i64 (N : Int), .slice a1 r c1] 32)).alloc (.cells #[.int .i64 (q : Int), .int .i64 (N : Int), .slice a2 s c2] 32)) = W0 at bb Pa0 Pb0 ⊢
  have hz0 : w.heap.size + 2 ≤ W0.heap.size := by rw [← hW]; simp
  have Pa := Lib.hid Pa0
  have Pb := Lib.hid Pb0
  have HB := Lib.hid bb
  clear hW bb Pa0 Pb0
  refine (implSum_any (HU.out.on HB.out) (HV.out.on HB.out) HSR.out).mono ?_
  rintro e w1 ⟨v1, rfl, ho, hb⟩
  have HO := Lib.hid (ho.at FS.out)
  obtain ⟨va, vc, rfl⟩ := ho.slice
  have HB := Lib.hid (HB.out.trans (hb.mono HB.out.size))
  have Pa := Lib.hid (Pa.out.on hb)
  have Pb := Lib.hid (Pb.out.on hb)
  have hz1 : w.heap.size + 2 ≤ w1.heap.size := by have := hb.size; omega
  clear ho hb
  obtain ⟨lA, x0, x1, x2⟩ := Pa.out
  go_wp2_with fail
  have hT : false = ssB (q : Int) N zs q N xx := (ssB_no fun h => HIN.out (HSM.out.1 h.2.2)).symm
  refine (implSS_is (HO.out.on (al1 (Below.refl _ _) _)) (HU.out.1.on (al1 HB.out _)) hT).mono ?_
  rintro e w2 ⟨rfl, hb⟩
  have HB2 := Lib.hid (HB.out.trans ((up1 hb).mono HB.out.size))
  clear hb hT
  go_wp2_with fail
  go_ret2
  exact ⟨_, rfl, OwnRI.nul _ _, HB2.out⟩
set_option maxRecDepth 100000 in
set_option maxHeartbeats 6400000 in
theorem implQuo_y {q N r s : Nat} [NeZero q] {A B : Mt q} {u v : Value} {xx yy : List (List Int)} {w : World} (hu : RowsD w u xx) (hv : RowsD w v yy) (hA : VIs q N xx q N r A) (hB : VIs q N yy q N s B) (hin : ∀ i, i < s → In r N A (B i)) :
    Calls Try.prog 36 #[.agg #[.int .i64 (q : Int), .int .i64 (N : Int), u], .agg #[.int .i64 (q : Int), .int .i64 (N : Int), v]] w fun e w' => RetRC (quoL N s r A B) 0 w e w' := by
  have HU := Lib.hid hu
  have HV := Lib.hid hv
  have HSR : Hid (SumRes (q : Int) N xx q N yy q N (sumOf r s N A B) 0) := .inr ⟨rfl, rfl, rfl, rfl, rfl, q, inferInstance, N, r, s, A, B, hA, hB, rfl⟩
  have FS : Hid (FitR (sumOf r s N A B)) := fit_basOf (fd_of hA.pr) _ (by have := hA.n32; omega)
  have hsm := sum_same hA hB
  have HIN := Lib.hid hin
  obtain ⟨zs, hzs⟩ : ∃ z, sumOf r s N A B = z := ⟨_, rfl⟩
  rw [hzs] at HSR FS hsm
  have HSM := Lib.hid hsm
  have HPR := Lib.hid hA.pr
  have HMA := Lib.hid hA.mis
  have HMB := Lib.hid hB.mis
  have HRA := Lib.hid (hA.rowsC hu)
  have HRB := Lib.hid (hB.rowsC hv)
  have hr32 := hA.mis.m32
  have hs32 := hB.mis.m32
  have hN32 := hA.n32
  have hl1 := hA.len
  have hl2 := hB.len
  obtain ⟨a1, c1, rfl⟩ := hu.1.slice
  obtain ⟨a2, c2, rfl⟩ := hv.1.slice
  rw [hl1] at HU HRA ⊢
  rw [hl2] at HV HRB ⊢
  clear hu hv hA hB hl1 hl2 hin hsm hzs
  have Pa0 := PtV.new1 w (q : Int) (N : Int) (.slice a1 r c1) 32 (.cells #[.int .i64 (q : Int), .int .i64 (N : Int), .slice a2 s c2] 32)
  have Pb0 := PtV.new (w.alloc (.cells #[.int .i64 (q : Int), .int .i64 (N : Int), .slice a1 r c1] 32)) (q : Int) (N : Int) (.slice a2 s c2) 32
  rw [World.size_alloc] at Pb0
  have bb := al1 (al1 (Below.refl w.heap.size w) (.cells #[.int .i64 (q : Int), .int .i64 (N : Int), .slice a1 r c1] 32)) (.cells #[.int .i64 (q : Int), .int .i64 (N : Int), .slice a2 s c2] 32)
  go_enter Try.func36, Try.ntmps36
  go_wp2_with fail
  generalize hW : ((w.alloc (.cells #[.int .i64 (q : Int), .int .i64 (N : Int), .slice a1 r c1] 32)).alloc (.cells #[.int .i64 (q : Int), .int .i64 (N : Int), .slice a2 s c2] 32)) = W0 at bb Pa0 Pb0 ⊢
  have hz0 : w.heap.size + 2 ≤ W0.heap.size := by rw [← hW]; simp
  have Pa := Lib.hid Pa0
  have Pb := Lib.hid Pb0
  have HB := Lib.hid bb
  clear hW bb Pa0 Pb0
  refine (implSum_any (HU.out.on HB.out) (HV.out.on HB.out) HSR.out).mono ?_
  rintro e w1 ⟨v1, rfl, ho, hb⟩
  have HO := Lib.hid (ho.at FS.out)
  obtain ⟨va, vc, rfl⟩ := ho.slice
  have HB := Lib.hid (HB.out.trans (hb.mono HB.out.size))
  have Pa := Lib.hid (Pa.out.on hb)
  have Pb := Lib.hid (Pb.out.on hb)
  have hz1 : w.heap.size + 2 ≤ w1.heap.size := by have := hb.size; omega
  clear ho hb
  obtain ⟨lA, x0, x1, x2⟩ := Pa.out
  go_wp2_with fail
  have hT : true = ssB (q : Int) N zs q N xx := by
    unfold ssB
    simp [HSM.out.2 HIN.out]
  refine (implSS_is (HO.out.on (al1 (Below.refl _ _) _)) (HU.out.1.on (al1 HB.out _)) hT).mono ?_
  rintro e W ⟨rfl, hb'⟩
  have hb := up1 hb'
  have HRA := Lib.hid (HRA.out.on (HB.out.trans (hb.mono HB.out.size)))
  have HRB := Lib.hid (HRB.out.on (HB.out.trans (hb.mono HB.out.size)))
  have HB := Lib.hid (HB.out.trans (hb.mono HB.out.size))
  have Pa := Lib.hid (Pa.out.on hb)
  have Pb := Lib.hid (Pb.out.on hb)
  have hz2 : w.heap.size + 2 ≤ W.heap.size := by have := hb.size; omega
  have hsN : N * s ≤ 1024 := Nat.mul_le_mul hN32 hs32
  clear hb hb' hT HU HV HO HSR FS HSM lA x0 x1 x2
  obtain ⟨lA, x0, x1, x2⟩ := Pa.out
  obtain ⟨lB, y0, y1, y2⟩ := Pb.out
  have neA := Pa.out.ne
  have neB := Pb.out.ne
  go_wp2_with fail
  go_region_held3 (fun w' => w'.cell? ⟨w.heap.size, 0, none⟩ = some (.int .i64 (q : Int)) ∧ w'.cell? ⟨w.heap.size, 1, none⟩ = some (.int .i64 (N : Int)) ∧ w'.cell? ⟨w.heap.size, 2, none⟩ = some (.slice a1 r c1) ∧ w'.cell? ⟨w.heap.size + 1, 0, none⟩ = some (.int .i64 (q : Int)) ∧ w'.cell? ⟨w.heap.size + 1, 1, none⟩ = some (.int .i64 (N : Int)) ∧ w'.cell? ⟨w.heap.size + 1, 2, none⟩ = some (.slice a2 s c2)) (go_keep)
    (first
      | (go_at_call 78; refine (shapeOf_any (q : Int) (N : Int) _).mono ?_; rintro e wa ⟨rfl, hba'⟩; have hba : Below W.heap.size W wa := (by first | with_reducible exact hba' | with_reducible exact undrew hba'); obtain ⟨_, _, _, _⟩ := Pa.out.on hba; obtain ⟨_, _, _, _⟩ := Pb.out.on hba)
      | (go_at_call 55; go_loud (refine (basisCols_any (A := B) (HRB.out.on hba) HMB.out).mono ?_); rintro e wb ⟨v8, rfl, ho8, hb8⟩; have hbb : Below W.heap.size W wb := hba.trans (hb8.mono hba.size); obtain ⟨v8a, v8c, rfl⟩ := ho8.slice; obtain ⟨_, _, _, _⟩ := Pa.out.on hbb; obtain ⟨_, _, _, _⟩ := Pb.out.on hbb)
      | (go_at_call 79; refine (beyond_any (A := A) (B := B) (HRA.out.on hbb) (ho8.atC (by rw [flat_len]; omega)) HMA.out hs32).mono ?_; rintro e wc ⟨vz, rfl, hoz, hbz⟩; have hbc : Below W.heap.size W wc := hbb.trans (hbz.mono hbb.size); obtain ⟨vza, vzc, rfl⟩ := hoz.slice; obtain ⟨_, _, _, _⟩ := Pa.out.on hbc; obtain ⟨_, _, _, _⟩ := Pb.out.on hbc))
  all_goals
    have HO := Lib.hid (hoz.mono (show w.heap.size ≤ wb.heap.size by have := hbb.size; omega))
    have HB9 := Lib.hid (HB.out.trans (hbc.mono HB.out.size))
    clear hoz hbc hbb hba hba' hb8 ho8 hbz
    go_wp2_with fail
    go_ret2
    exact ⟨_, rfl, HO.out, HB9.out⟩
theorem implQuo_any {p n q m k : Int} {u v : Value} {xx yy Z : List (List Int)} {w : World} (hu : RowsD w u xx) (hv : RowsD w v yy) (h : QuoRes p n xx q m yy Z k) :
    Calls Try.prog 36 #[.agg #[.int .i64 p, .int .i64 n, u], .agg #[.int .i64 q, .int .i64 m, v]] w fun e w' => RetRC Z k w e w' := by
  rcases h with ⟨c, hc, h0, rfl, rfl⟩ | ⟨rfl, rfl, u', _, M, r, s, A, B, hA, hB, ⟨hin, rfl, rfl⟩ | ⟨hin, rfl, rfl⟩⟩
  · exact implQuo_b hu hv hc h0
  · obtain ⟨rfl, rfl⟩ : p = u' ∧ n = M := ⟨hA.p, hA.n⟩
    exact implQuo_n hu hv hA hB hin
  · obtain ⟨rfl, rfl⟩ : p = u' ∧ n = M := ⟨hA.p, hA.n⟩
    exact implQuo_y hu hv hA hB hin
end Go.Proofs.Ytpimnngomodnhaa
