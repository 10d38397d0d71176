/-
  Free columns and the rows of a kernel; a number in a list, by the model; the free columns of the program.
-/
import Derived.Test.YtpimnngomodnhaaSpG
import Derived.Test.YtpimnngomodnhaaSpA
import Derived.Deep.LoopGhost
namespace Go.Proofs.Ytpimnngomodnhaa
open Go.RowKit
open Lin
set_option linter.unusedVariables false
set_option linter.unusedSectionVars false

/-- The columns below k without a pivot. -/
def freeL (piv : List Nat) (k : Nat) : List Nat := (List.range k).filter (fun c => decide (c ∉ piv))
theorem freeL_in {piv : List Nat} {k : Nat} (h : k ∈ piv) : freeL piv (k + 1) = freeL piv k := by
  unfold freeL; rw [List.range_succ, List.filter_append]; simp [h]
theorem freeL_out {piv : List Nat} {k : Nat} (h : k ∉ piv) : freeL piv (k + 1) = freeL piv k ++ [k] := by
  unfold freeL; rw [List.range_succ, List.filter_append]; simp [h]
theorem freeL_len (piv : List Nat) (k : Nat) : (freeL piv k).length ≤ k := by
  unfold freeL
  have := List.length_filter_le (fun c => decide (c ∉ piv)) (List.range k)
  simpa using this
theorem freeL_lt {piv : List Nat} {k c : Nat} (h : c ∈ freeL piv k) : c < k ∧ c ∉ piv := by
  unfold freeL at h
  simpa using h
theorem pivI_app (a b : List Nat) : pivI (a ++ b) = pivI a ++ pivI b := by simp [pivI]
theorem pivI_at (l : List Nat) (i : Nat) (h : i < (pivI l).length) : (pivI l)[i] = ((l[i]'(by rw [pivI_len] at h; exact h) : Nat) : Int) := by simp [pivI]
theorem mem_pivI {l : List Nat} {k : Nat} : (k : Int) ∈ pivI l ↔ k ∈ l := by
  unfold pivI
  rw [List.mem_map]
  constructor
  · rintro ⟨a, h, e⟩
    have : a = k := by omega
    rwa [← this]
  · exact fun h => ⟨k, h, rfl⟩
section
variable {q : Nat} [NeZero q]
/-- The kernel's row of a free column. -/
noncomputable def kRow (n : Nat) (R : Mt q) (piv : List Nat) (k : Nat) : List Int := rowL n (fun _ => colV R piv k) 0
noncomputable def kerR (n : Nat) (R : Mt q) (piv : List Nat) (fs : List Nat) : List (List Int) := fs.map (kRow n R piv)
theorem kerR_len (n : Nat) (R : Mt q) (piv fs : List Nat) : (kerR n R piv fs).length = fs.length := by simp [kerR]
theorem kerR_app (n : Nat) (R : Mt q) (piv a : List Nat) (k : Nat) : kerR n R piv (a ++ [k]) = kerR n R piv a ++ [kRow n R piv k] := by simp [kerR]
theorem kRow_len (n : Nat) (R : Mt q) (piv : List Nat) (k : Nat) : (kRow n R piv k).length = n := rowL_len _ _ _
theorem kRow_at (n : Nat) (R : Mt q) (piv : List Nat) (k l : Nat) (h : l < (kRow n R piv k).length) : (kRow n R piv k)[l] = fv (colV R piv k l) := rowL_at _ _ _ _ _
theorem vecs_kerR (n : Nat) (R : Mt q) (piv fs : List Nat) : Vecs q n (kerR n R piv fs) := fun zs hz => by
  obtain ⟨k, -, rfl⟩ := List.mem_map.1 hz
  exact ⟨by rw [kRow_len], rowL_ok n _ 0⟩
theorem tot_kerR (n : Nat) (R : Mt q) (piv : List Nat) : ∀ fs : List Nat, tot (kerR n R piv fs) = fs.length * n
  | [] => by simp [kerR, tot]
  | k :: fs => by
    have := tot_kerR n R piv fs
    unfold kerR at this ⊢
    simp only [List.map_cons, tot, kRow_len, this, List.length_cons, Nat.succ_mul]
    omega
theorem fit_kerR {n : Nat} (R : Mt q) (piv : List Nat) {k : Nat} (hk : k ≤ 1024) (hn : n ≤ 1024) : FitR (kerR n R piv (freeL piv k)) := by
  have := freeL_len piv k
  refine ⟨by rw [kerR_len]; omega, ?_⟩
  rw [tot_kerR]
  exact Nat.le_trans (Nat.mul_le_mul (Nat.le_trans this hk) hn) (by decide)
/-- The cells of a row behind i pivots. -/
def KF (R : Mt q) (piv : List Nat) (k i l : Nat) : Value := .int .i64 (fv ((if l = k then 1 else 0) - sm i (fun t => if piv.getD t 0 = l then R t k else 0)))
theorem KF_zero (hq : 2 ≤ q) (R : Mt q) (piv : List Nat) (k l : Nat) : (if l = k then (.int .i64 1 : Value) else .int .i64 0) = KF R piv k 0 l := by
  unfold KF
  simp only [sm]
  by_cases h : l = k
  · rw [if_pos h, if_pos h, show (1 : Fin q) - 0 = 1 by grind, fv_one hq]
  · rw [if_neg h, if_neg h, show (0 : Fin q) - 0 = 0 by grind, fv_zero]
theorem KF_next {R : Mt q} {piv : List Nat} {k i x : Nat} (hi : i < piv.length) (hx : piv[i] = x) (hd : ∀ t u (h : t < u) (hu : u < piv.length), piv[t] < piv[u]) (hk : k ∉ piv) (l : Nat) :
    (if l = x then (.int .i64 (fv (-(R i k))) : Value) else KF R piv k i l) = KF R piv k (i + 1) l := by
  have hm : x ∈ piv := by rw [← hx]; exact List.getElem_mem hi
  unfold KF
  simp only [sm]
  by_cases h : l = x
  · subst h
    have hne : l ≠ k := fun e => hk (by rw [← e]; exact hm)
    rw [if_pos rfl, if_neg hne, sm_zero i _ (fun t ht => by
      rw [getD_at _ _ (by omega), if_neg (by have := hd t i ht hi; omega)]), getD_at _ _ hi, if_pos hx]
    congr 2
    grind
  · rw [if_neg h, getD_at piv i hi, if_neg (show ¬ piv[i] = l by omega)]
    congr 2
    grind
theorem KF_all (R : Mt q) (piv : List Nat) (k l : Nat) : KF R piv k piv.length l = .int .i64 (fv (colV R piv k l)) := rfl
end
/-! ### A number in a list -/
set_option maxRecDepth 100000 in
set_option maxHeartbeats 3200000 in
theorem implFree_any {piv : List Nat} {v : Value} {n : Nat} {w : World} (hv : IntsAt w v (pivI piv)) (hn : n ≤ 1024) :
    Calls Try.prog 44 #[v, .int .i64 (n : Int)] w fun e w' => ∃ u, e = .returned u ∧ OwnI w.heap.size w' u (pivI (freeL piv n)) ∧ Below w.heap.size w w' := by
  obtain ⟨i0, hi0, hz0, hz1, hz2⟩ := info_parts info_i
  have HV := Lib.hid hv
  obtain ⟨a, c, rfl, hl, hc⟩ := hv
  have HC := Lib.hid hc
  obtain ⟨r, hr⟩ : ∃ r, piv.length = r := ⟨_, rfl⟩
  have HR := Lib.hid hr
  simp only [pivI_len, hr] at hl ⊢
  clear hc hr
  go_enter Try.func44, Try.ntmps44
  go_wp2
  go_step3
  go_wp2
  go_step3
  go_wp2
  go_loopg [10, 5] n (fun g si so wr => ∃ k : Nat, k + g = n ∧ si = .int .i64 (k : Int) ∧ Hid (OwnI w.heap.size wr so (pivI (freeL piv k))) ∧ Hid (Below w.heap.size w wr))
  case atStart => exact ⟨0, by omega, rfl, OwnI.nul _ _, Below.refl _ _⟩
  case round =>
    obtain ⟨k, hkg, rfl, HO, HB⟩ := hrel
    cases gk with
    | zero =>
      have hkz : ¬ ((k : Int) < (n : Int)) := by omega
      obtain rfl : k = n := by omega
      go_wp2
      (try rw [Exit.noGoto_ret])
      go_ret
      exact ⟨_, rfl, HO.out, HB.out⟩
    | succ g =>
      have hkz : (k : Int) < (n : Int) := by omega
      go_wp2
      go_loopg [15] r (fun g2 sj wy => ∃ j : Nat, j + g2 = r ∧ sj = .int .i64 (j : Int) ∧ Hid (∀ t (h : t < piv.length), t < j → piv[t] ≠ k) ∧ wr = wy)
      case atStart => exact ⟨0, by omega, rfl, fun t _ ht => absurd ht (Nat.not_lt_zero _), rfl⟩
      case round =>
        obtain ⟨j, hjg, rfl, HJ, rfl⟩ := hrel
        cases gk with
        | zero =>
          have hjz : ¬ ((j : Int) < (r : Int)) := by omega
          have hout : k ∉ piv := fun hm => by
            obtain ⟨t, ht, e⟩ := List.getElem_of_mem hm
            exact HJ.out t ht (by have := HR.out; omega) e
          have hlk := freeL_len piv k
          obtain ⟨N, hN⟩ : ∃ N, (pivI (freeL piv k)).length = N := ⟨_, rfl⟩
          have hN2 : N ≤ k := by rw [← hN, pivI_len]; exact hlk
          obtain ⟨sa, sc, rfl⟩ := HO.out.slice
          have HO1 := HO.out.out
          rw [hN] at HO1
          have HOO := Lib.hid HO1
          have HF : Hid (pivI (freeL piv (k + 1)) = pivI (freeL piv k) ++ [(k : Int)]) := by show _ = _; rw [freeL_out hout, pivI_app]; rfl
          have HN := Lib.hid hN
          have sB := HB.out.size
          simp only [hN]
          clear HO1 hN hlk hout
          go_wp2_with (at_builtin; refine wpList_append_own _ rfl _ _ 24 rfl w.heap.size 2 i0 (.int .i64 0) 1 8 Try.underlying24 hi0 hz0 hz1 hz2 rfl (by decide) _ N (iv (pivI (freeL piv k))) rfl (HOO.out.alloc _) ⟨wr.heap.size, 0, none⟩ 1 1 [.int .i64 (k : Int)] rfl rfl (cell_one_new _ _ _) (fun x hx => by simp at hx; subst hx; rfl) (by unfold maxLen; omega) (by omega) (by simp; omega) ?_; intro v3 w3 hr3 hg3 hn3)
          have HX : Hid (OwnI w.heap.size w3 v3 (pivI (freeL piv (k + 1)))) := by
            show OwnI _ _ _ _
            rw [HF.out]
            have h := hr3
            unfold OwnI
            rw [iv_app, List.length_append, HN.out]
            exact h
          have HB3 : Hid (Below w.heap.size w w3) := (HB.out.alloc sB _).grown hg3 (by simp; omega) (fun g hg => (HOO.out.lt g hg).1)
          go_wp2
          go_roundg g
          case measure => omega
          case rel => exact ⟨k + 1, by omega, by go_num, HX.out, HB3.out⟩
        | succ g2 =>
          have hjz : (j : Int) < (r : Int) := by omega
          have j0 : (0 : Int) ≤ (j : Int) := by omega
          have hjp : j < piv.length := by rw [HR.out]; omega
          obtain ⟨b, o, rfl, hb, c1⟩ : ∃ b o, a = some ⟨b, o, none⟩ ∧ b < w.heap.size ∧ w.cell? ⟨b, o + j, none⟩ = some (.int .i64 ((piv[j] : Nat) : Int)) := by
            rcases HC.out with h | ⟨b, o, rfl, hb, h⟩
            · exfalso; have h0 : piv.length = 0 := by rw [← pivI_len, h]; rfl
              omega
            · have := h j (by rw [pivI_len]; exact hjp)
              rw [pivI_at] at this
              exact ⟨b, o, rfl, hb, this⟩
          have c2 := (HB.out.cell (p := ⟨b, o + j, none⟩) hb).trans c1
          obtain ⟨x, hx⟩ : ∃ x, piv[j] = x := ⟨_, rfl⟩
          rw [hx] at c2
          have HX : Hid (x ∈ piv ∧ ∀ h : j < piv.length, piv[j] = x) := ⟨by rw [← hx]; exact List.getElem_mem hjp, fun _ => hx⟩
          clear hx c1 hjp hb
          by_cases e : x = k
          · have HF : Hid (pivI (freeL piv (k + 1)) = pivI (freeL piv k)) := by show _ = _; rw [freeL_in (by rw [← e]; exact HX.out.1)]
            have eb : ((x : Int) == (k : Int)) = true := by simp; omega
            clear e
            go_wp2
            go_roundg g
            case measure => omega
            case rel => exact ⟨k + 1, by omega, by go_num, by rw [HF.out]; exact HO.out, HB.out⟩
          · have eb : ((x : Int) == (k : Int)) = false := by simp; omega
            have HJ2 : Hid (∀ t (h : t < piv.length), t < j + 1 → piv[t] ≠ k) := by
              intro t h ht
              by_cases et : t = j
              · subst et; rw [HX.out.2]; exact e
              · exact HJ.out t h (by omega)
            clear e
            go_wp2
            go_roundg g2
            case measure => omega
            case rel => exact ⟨j + 1, by omega, by go_num, HJ2, (by first | rfl | trivial)⟩
end Go.Proofs.Ytpimnngomodnhaa
