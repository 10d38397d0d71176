/-
  The columns of a matrix as rows, by the model.
-/
import Derived.Test.YtlakkmhfaojebaaSpI
import Derived.Test.YtlakkmhfaojebaaSpH
namespace Go.Proofs.Ytlakkmhfaojebaa
open Go.RowKit
open Lin
set_option linter.unusedVariables false
set_option linter.unusedSectionVars false

/-- The first i numbers of the k-th column. -/
def colL {q : Nat} [NeZero q] (A : Mt q) (k i : Nat) : List Int := rowL i (turn A) k
theorem colL_succ {q : Nat} [NeZero q] (A : Mt q) (k i : Nat) : colL A k (i + 1) = colL A k i ++ [fv (A i k)] := by
  unfold colL rowL
  rw [List.range_succ, List.map_append]
  rfl
theorem colL_len {q : Nat} [NeZero q] (A : Mt q) (k i : Nat) : (colL A k i).length = i := rowL_len _ _ _
set_option maxRecDepth 100000 in
set_option maxHeartbeats 6400000 in
theorem l04Columns_any {q m n : Nat} [NeZero q] {A : Mt q} {L : Nat} {v : Value} {w : World} (hp : PtM w L q m n v) (hv : IntsC w v (flat m n A)) (hm : m ≤ 64) (hn : n ≤ 64) :
    Calls Try.prog 117 #[.pointer (some ⟨L, 0, none⟩)] w fun e w' => RetR w (rowsOf n m (turn A)) e w' := by
  have hmn : m * n ≤ 4096 := Nat.mul_le_mul hm hn
  obtain ⟨i0, hi0, hz0, hz1, hz2⟩ := info_parts info_r
  obtain ⟨i1, hi1, hy0, hy1, hy2⟩ := info_parts info_i
  have HV := Lib.hid hv
  have HP := Lib.hid hp
  obtain ⟨av, cv, rfl, -, -⟩ := hv.1
  obtain ⟨N0, hN0⟩ : ∃ N0, m * n = N0 := ⟨_, rfl⟩
  have HN0 := Lib.hid hN0
  simp only [flat_len, hN0] at HP HV ⊢
  rw [hN0] at hmn
  clear hv hp hN0
  have hmm := OwnRI.made w w.heap.size (Nat.le_refl _)
  have HM := Lib.hid hmm
  have bm := (Below.refl w.heap.size w).alloc (Nat.le_refl _) (.cells #[] 24)
  have HBM := Lib.hid bm
  clear bm hmm
  go_enter Try.func117, Try.ntmps117
  go_wp2_with fail
  go_loopw [4, 3] (fun si so wr => ∃ k : Nat, k ≤ n ∧ si = .int .i64 (k : Int) ∧ Hid (OwnRI w.heap.size wr so (rowsOf k m (turn A))) ∧ Hid (Below w.heap.size w wr)) (fun si _ _ => n - (intOf si).toNat)
  case atStart => exact ⟨0, Nat.zero_le _, rfl, HM.out, HBM.out⟩
  case round =>
    obtain ⟨k, hk, rfl, HX, HK⟩ := hrel
    rename World => wo
    obtain ⟨oa, oc, rfl⟩ := HX.out.slice
    have sk := HK.out.size
    have HRL : Hid ((rowsOf k m (turn A)).length = k) := rowsOf_len _ _ _
    simp only [HRL.out] at HX ⊢
    obtain ⟨lM, m0, m1, m2, m3⟩ := HP.out.on HK.out
    by_cases hlt : k < n
    · have k0 : (0 : Int) ≤ (k : Int) := by omega
      have k1 : (k : Int) < (n : Int) := by omega
      have vi : IntKind.i64.wrap ((k : Int) + 1) = (k : Int) + 1 := IntWalk.i64_in _ (by omega)
      have HCM : Hid (OwnI wo.heap.size (wo.alloc (.cells #[] 2)) (.slice (some ⟨wo.heap.size, 0, none⟩) 0 0) (colL A k 0)) := madeI wo wo.heap.size (Nat.le_refl _)
      have HBC0 : Hid (Below wo.heap.size wo (wo.alloc (.cells #[] 2))) := (Below.refl _ _).alloc (Nat.le_refl _) _
      go_wp2_with fail
      go_loopw [6, 5] (fun si sc wx => ∃ i : Nat, i ≤ m ∧ si = .int .i64 (i : Int) ∧ Hid (OwnI wo.heap.size wx sc (colL A k i)) ∧ Hid (Below wo.heap.size wo wx)) (fun si _ _ => m - (intOf si).toNat)
      case atStart => exact ⟨0, Nat.zero_le _, rfl, HCM.out, HBC0.out⟩
      case round =>
        obtain ⟨i, hi, rfl, HY, HG⟩ := hrel
        obtain ⟨ca, cc, rfl⟩ := HY.out.slice
        have HCL : Hid ((colL A k i).length = i) := colL_len _ _ _
        have hown := HY.out
        simp only [HCL.out] at hown HY ⊢
        have HKx := Lib.hid (HK.out.trans (HG.out.mono sk))
        have sx := HG.out.size
        clear m0 m1 m2 m3
        obtain ⟨lM', m0, m1, m2, m3⟩ := HP.out.on HKx.out
        by_cases hir : i < m
        · have i0' : (0 : Int) ≤ (i : Int) := by omega
          have i1' : (i : Int) < (m : Int) := by omega
          have hyl : i * n + k < N0 := by rw [← HN0.out]; exact idx_lt hir hlt
          obtain ⟨fb, fo, rfl, hfb, c2⟩ : ∃ b o, av = some ⟨b, o, none⟩ ∧ b < w.heap.size ∧ w.cell? ⟨b, o + (i * n + k), none⟩ = some (.int .i64 (fv (A i k))) := by
            obtain ⟨a', c', e', -, h | ⟨b, o, rfl, hb, h⟩⟩ := HV.out.1
            · exfalso; have h0 := flat_len m n A; rw [h, HN0.out] at h0; simp at h0; omega
            · have := h (i * n + k) (by rw [flat_len, HN0.out]; exact hyl)
              rw [flat_ij m n A hir hlt] at this
              simp only [Value.slice.injEq] at e'
              exact ⟨b, o, e'.1, hb, this⟩
          have d2 := (HKx.out.cell (p := ⟨fb, fo + (i * n + k), none⟩) hfb).trans c2
          obtain ⟨z1, hz1'⟩ : ∃ z, i * n = z := ⟨_, rfl⟩
          rw [hz1'] at hyl d2
          obtain ⟨z2, hz2'⟩ : ∃ z, z1 + k = z := ⟨_, rfl⟩
          rw [hz2'] at hyl d2
          have w1 : IntKind.i64.wrap ((i : Int) * (n : Int)) = (z1 : Int) := by rw [← Int.natCast_mul, hz1']; exact IntWalk.i64_in _ (by omega)
          have w2' : IntKind.i64.wrap ((z1 : Int) + (k : Int)) = (z2 : Int) := by rw [← Int.natCast_add, hz2']; exact IntWalk.i64_in _ (by omega)
          have a0 : (0 : Int) ≤ (z2 : Int) := by omega
          have a1 : (z2 : Int) < (N0 : Int) := by omega
          obtain ⟨y, hy⟩ : ∃ y, fv (A i k) = y := ⟨_, rfl⟩
          rw [hy] at d2
          have HCS : Hid (colL A k (i + 1) = colL A k i ++ [y]) := by show _ = _; rw [colL_succ, hy]
          have lg : ∀ g, (Value.slice ca i cc).ownBlock = some g → wo.heap.size ≤ g := fun g hg => (hown.out.lt g hg).1
          have nL : (Value.slice ca i cc).ownBlock ≠ some L := fun e => by have := lg L e; omega
          have nF : (Value.slice ca i cc).ownBlock ≠ some fb := fun e => by have := lg fb e; omega
          have hwo : wo.heap.size ≤ wr.heap.size := sx
          have hLw : L < wr.heap.size := lM'
          have hFw : fb < wr.heap.size := by omega
          obtain ⟨zs, hzs⟩ : ∃ zs, colL A k i = zs := ⟨_, rfl⟩
          rw [hzs] at hown HCS
          have hzl : zs.length = i := by rw [← hzs]; exact colL_len _ _ _
          have HZL := Lib.hid hzl
          have hownr := hown.out
          rw [HZL.out] at hownr
          clear hz1' hz2' hy c2 hzs hzl
          go_wp2_with fail
          go_region_held3 (fun w' => w'.cell? ⟨L, 3, none⟩ = some (.slice (some ⟨fb, fo, none⟩) N0 cv) ∧ w'.cell? ⟨L, 2, none⟩ = some (.int .i64 (n : Int)) ∧ w'.cell? ⟨fb, fo + z2, none⟩ = some (.int .i64 y))
            (first
              | go_keep
              | (go_split_ands
                 refine ⟨?_, ?_, ?_⟩
                 · (rw [hgrow.cell_far _ (by simp; omega) (Ne.symm nL)]; assumption)
                 · (rw [hgrow.cell_far _ (by simp; omega) (Ne.symm nL)]; assumption)
                 · (rw [hgrow.cell_far _ (by simp; omega) (Ne.symm nF)]; assumption)))
            ((refine step_append_lies _ (by rfl) _ _ _ (by rfl) wo.heap.size 2 i1 _ 1 8 Try.underlying24 hi1 hy0 hy1 hy2 rfl (by omega) _ i (iv zs) (by rfl) ((hownr.alloc _).drew)
                ⟨wr.heap.size, 0, none⟩ 1 1 [.int .i64 y] (by rfl) (by rfl) (World.news_of_block (cs := #[.int .i64 y]) (t := 2) (fr := (0, 0)) (heap_alloc_new wr _)) (by simp [Value.oneCell'])
                (by omega) (by unfold maxLen; omega) (by omega) (by simp; omega) (wr.heap.size + 1) (by simp) ?_; intro gg cap w1 hown1 hgrow hat hlt1))
          have hO : OwnI wo.heap.size w1 (.slice (some ⟨gg, 0, none⟩) (i + 1) cap) (zs ++ [y]) := pushI (by rw [HZL.out]; exact hown1)
          rw [← HCS.out] at hO
          have hB2 : Below wo.heap.size wo w1 := ((HG.out.alloc sx _).drew).grown hgrow (by simp; omega) (fun k hk => (hown.out.lt k hk).1)
          clear hown1 hgrow hown hat
          go_wp2
          go_roundw
          case rel => exact ⟨i + 1, by omega, by go_num, hO, hB2⟩
          case measure => simp [intOf]; omega
        · obtain rfl : i = m := by omega
          have HC := Lib.hid HY.out
          have HBC := Lib.hid HG.out
          obtain ⟨L0, hL⟩ := HX.out
          have HL := Lib.hid hL
          have HRO : Hid (rowsOf (k + 1) i (turn A) = rowsOf k i (turn A) ++ [colL A k i]) := rowsOf_succ _ _ _
          clear hown hL
          go_wp2_with (at_builtin; refine wpList_append_place _ rfl _ _ 28 rfl w.heap.size 24 i0 (.slice none 0 0) 24 Try.underlying28 hi0 hz0 hz1 hz2 rfl _ k L0 rfl (by have h := (HL.out.on HBC.out).row; rw [HRL.out] at h; exact h.alloc _) ⟨wr.heap.size, 0, none⟩ _ (.slice ca i cc) rfl (row_val _ _ _) (fun y hy => by simp at hy; rw [hy]; rfl) (by unfold maxLen; omega) (by omega) (by rw [World.size_alloc]; omega) ?_; intro v3 w4 hr3 hg3 hv3)
          have hp3 := OwnRI.push HL.out HC.out HBC.out sk (by rw [HRL.out]; exact hr3) hg3 (fun g hg => (hv3 g hg).imp id (fun h => by rw [World.size_alloc] at h; omega))
          rw [← HRO.out] at hp3
          have HX3 := Lib.hid hp3
          have HK3 := Lib.hid (below_pushR HK.out (Nat.le_refl _) sk HX.out HBC.out hg3)
          clear hp3 hr3 hg3 hv3 HX HK HL HC HBC
          go_wp2
          go_roundw
          case rel => exact ⟨k + 1, by omega, by go_num, HX3.out, HK3.out⟩
          case measure => simp [intOf]; omega
    · obtain rfl : k = n := by omega
      go_wp2
      go_ret
      exact ⟨_, rfl, HX.out, HK.out⟩
end Go.Proofs.Ytlakkmhfaojebaa
