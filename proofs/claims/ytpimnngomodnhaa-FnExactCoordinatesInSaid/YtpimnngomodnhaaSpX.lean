/-
  Membership and coordinates by the model.
-/
import Derived.Test.YtpimnngomodnhaaSpW
import Derived.Test.YtpimnngomodnhaaSpV
namespace Go.Proofs.Ytpimnngomodnhaa
open Go.RowKit
open Lin
set_option linter.unusedVariables false
set_option linter.unusedSectionVars false

set_option maxRecDepth 100000 in
set_option maxHeartbeats 6400000 in
theorem l04Has_is {q N r : Nat} [NeZero q] {A : Mt q} {x : Nat → Fin q} {L : Nat} {u v : Value} {T : Bool} {w : World} (hp : PtV w L q N u) (hu : RowsC w u r (rowL N A)) (hx : IntsC w v (bL N x)) (hq : IsPr (q : Int)) (hr : r ≤ 32) (hN : N ≤ 32) (hT : (((red (r + 1) (adj r A x) N).piv.length : Int) == (r : Int)) = T) :
    Calls Try.prog 70 #[.pointer (some ⟨L, 0, none⟩), v] w fun e w' => e = .returned (.bool T) ∧ Below w.heap.size w w' := by
  obtain ⟨i0, hi0, hz0, hz1, hz2⟩ := info_parts info_r
  have HT := Lib.hid hT
  have HQ := Lib.hid hq
  have HX := Lib.hid hx
  have HP := Lib.hid hp
  obtain ⟨Ls, hL, hsrc, h1, hI⟩ := hu.list
  have HSRC := Lib.hid hsrc
  have H1 := Lib.hid h1
  have HI : Hid (∀ i (h : i < Ls.length), IntsC w Ls[i] (rowL N A i)) := hI
  have HL := Lib.hid hL
  obtain ⟨a, c, rfl, -, -⟩ := hu
  obtain ⟨a2, c2, rfl, -, -⟩ := hx.1
  obtain ⟨lA, x0, x1, x2⟩ := hp
  simp only [bL_len] at HX ⊢
  have hmade : (w.alloc (.cells #[] 24)).ownsRow w.heap.size 24 1 (.slice (some ⟨w.heap.size, 0, none⟩) 0 0) 0 [] := World.ownsRow_made w #[] 0 (Nat.le_refl _) (Nat.zero_le _) rfl
  have HM := Lib.hid hmade
  clear hT hq hx hsrc h1 hI hL hmade
  go_enter Try.func70, Try.ntmps70
  go_wp2_with (first
    | (at_builtin; refine wp_append_src rfl _ _ 28 rfl w.heap.size 24 i0 (.slice none 0 0) 24 Try.underlying28 hi0 hz0 hz1 hz2 rfl _ 0 [] rfl HM.out _ Ls rfl (HSRC.out.on ((Below.refl _ _).alloc (Nat.le_refl _) _)) H1.out (by omega) (by omega) (by simp) ?_; intro v2 w2 hv2 hg2; have hb2 : Below w.heap.size w w2 := ((Below.refl w.heap.size w).alloc (Nat.le_refl _) _).grown hg2 (by simp) (fun k hk => (HM.out.lt k hk).1); have hs2 := hb2.size; rw [HL.out, Nat.zero_add, List.nil_append] at hv2; have hv2s : ∃ a c, v2 = .slice a r c := (by obtain ⟨_, ⟨h, h'⟩ | ⟨g, cap, cur, h, _⟩⟩ := hv2 <;> exact ⟨_, _, by rw [h] <;> (try rw [h'])⟩); obtain ⟨v2a, v2c, rfl⟩ := hv2s)
    | (at_builtin; refine wp_append_src rfl _ _ 28 rfl w.heap.size 24 i0 (.slice none 0 0) 24 Try.underlying28 hi0 hz0 hz1 hz2 rfl _ r Ls rfl (hv2.alloc _) _ [.slice a2 N c2] rfl (row_src _ _) (fun y hy => by simp at hy; rw [hy]; rfl) (by omega) (by omega) (by simp; omega) ?_; intro v3 w3 hv3 hg3; have hb3 : Below w.heap.size w w3 := (hb2.alloc hs2 _).grown hg3 (by simp; omega) (fun k hk => (hv2.lt k hk).1); have hs3 := hb3.size))
  have hrc : RowsC w3 v3 (r + 1) (rowL N (adj r A x)) := by
    refine RowsC.of_own2 hv3 (by omega) fun i u hiu => ?_
    rw [rowL_adj]
    have hlen := HL.out
    by_cases e : i < r
    · rw [if_pos e]
      rw [List.getElem?_append_left (by omega)] at hiu
      have hh := HI.out i (by omega)
      rw [List.getElem?_eq_getElem (by omega)] at hiu
      injection hiu with hiu
      rw [hiu] at hh
      exact hh.on hb3
    · rw [if_neg e]
      have hin := (List.getElem?_eq_some_iff.1 hiu).1
      rw [List.length_append, hlen] at hin
      obtain rfl : i = r := by simp at hin; omega
      rw [List.getElem?_append_right (by omega)] at hiu
      have : u = Value.slice a2 N c2 := by rw [hlen, Nat.sub_self] at hiu; simpa using hiu.symm
      rw [this]
      exact HX.out.on hb3
  have HRC := Lib.hid hrc
  obtain ⟨va, vc, rfl, -, -⟩ := hrc
  have HB3 := Lib.hid hb3
  have HP3 := Lib.hid (HP.out.on hb3)
  obtain ⟨M, hM⟩ : ∃ M, (basOf (r + 1) N (adj r A x)).length = M := ⟨_, rfl⟩
  have eb : ((M : Int) == (r : Int)) = T := by
    rw [← HT.out, ← hM]
    unfold basOf
    rw [rowsOf_len]
  have HM2 := Lib.hid hM
  have hrN : (r + 1) * N ≤ 1048576 := Nat.le_trans (Nat.mul_le_mul (show r + 1 ≤ 64 by omega) hN) (by decide)
  clear x0 x1 x2 lA hv2 hg2 hb2 hv3 hg3 hM
  obtain ⟨lA, x0, x1, x2⟩ := HP3.out
  have neA := HP3.out.ne
  go_region_held3 (fun w' => w'.cell? ⟨L, 0, none⟩ = some (.int .i64 (q : Int)) ∧ w'.cell? ⟨L, 1, none⟩ = some (.int .i64 (N : Int)) ∧ w'.cell? ⟨L, 2, none⟩ = some (.slice a r c)) (go_keep)
    (first
      | (go_at_call 90; refine (l04Basis_any (A := adj r A x) HRC.out.drew HQ.out (by omega) (by omega) hrN).mono ?_; rintro e wa ⟨va2, rfl, hoa, hba'⟩; have hba : Below w3.heap.size w3 wa := undrew hba'; obtain ⟨vaa, vac, rfl⟩ := hoa.slice; simp only [HM2.out] at hoa ⊢; obtain ⟨_, _, _, _⟩ := HP3.out.on hba; have := (HP3.out.on hba).ne))
  all_goals
    have HB4 := Lib.hid (HB3.out.trans (hba.mono HB3.out.size))
    go_wp2_with fail
    go_ret
    exact ⟨rfl, HB4.out⟩
/-- Where the first number stands that is not 0. -/
def FirstAt (zs : List Int) (f : Nat) : Prop := f < zs.length ∧ (∀ j, j < f → zs.getD j 0 = 0) ∧ zs.getD f 0 ≠ 0
set_option maxRecDepth 100000 in
set_option maxHeartbeats 1600000 in
theorem l04First_any {v : Value} {zs : List Int} {f : Nat} {w : World} (hv : IntsAt w v zs) (hf : FirstAt zs f) :
    Calls Try.prog 73 #[v] w fun e w' => e = .returned (.int .i64 (f : Int)) ∧ w = w' := by
  obtain ⟨hf1, hf2, hf3⟩ := hf
  have HF2 := Lib.hid hf2
  have HF3 : Hid (zs.getD f 0 = 0 → False) := hf3
  obtain ⟨a, c, rfl, hl, hc⟩ := hv
  obtain ⟨b, o, rfl, hb, hc⟩ : ∃ b o, a = some ⟨b, o, none⟩ ∧ b < w.heap.size ∧ ∀ j (h : j < zs.length), w.cell? ⟨b, o + j, none⟩ = some (.int .i64 (zs.getD j 0)) := by
    rcases hc with h | ⟨b, o, rfl, hb, h⟩
    · rw [h] at hf1; exact absurd hf1 (Nat.not_lt_zero _)
    · exact ⟨b, o, rfl, hb, fun j hj => by rw [getD_in hj]; exact h j hj⟩
  have HC := Lib.hid hc
  obtain ⟨n, hn⟩ : ∃ n, zs.length = n := ⟨_, rfl⟩
  have HN := Lib.hid hn
  rw [hn] at hf1 hl ⊢
  clear hc hn hf2 hf3
  go_enter Try.func73, Try.ntmps73
  go_wp2
  go_loopw [3] (fun i wr => ∃ k : Nat, k ≤ f ∧ i = .int .i64 (k : Int) ∧ w = wr) (fun i _ => f - (intOf i).toNat)
  case atStart => exact ⟨0, Nat.zero_le _, rfl, rfl⟩
  case round =>
    obtain ⟨k, hk, rfl, rfl⟩ := hrel
    have i0 : (0 : Int) ≤ (k : Int) := by omega
    have i1 : (k : Int) < (n : Int) := by omega
    have d1 : w.cell? ⟨b, o + k, none⟩ = some (.int .i64 (zs.getD k 0)) := HC.out k (by have := HN.out; omega)
    obtain ⟨y, hy⟩ : ∃ y, zs.getD k 0 = y := ⟨_, rfl⟩
    have HY := Lib.hid hy
    rw [hy] at d1
    by_cases hlt : k < f
    · have eb : (y == 0) = true := by rw [← hy, HF2.out k hlt]; rfl
      clear hy
      go_wp2_with fail
      go_roundw
      case rel => exact ⟨k + 1, by omega, by go_num, (by first | rfl | trivial)⟩
      case measure => simp [intOf]; omega
    · obtain rfl : k = f := by omega
      have eb : (y == 0) = false := by simp only [beq_eq_false_iff_ne]; rw [← hy]; exact HF3.out
      clear hy
      go_wp2_with fail
      go_ret
      exact ⟨rfl, rfl⟩
/-- The first numbers of the vector at the pivots. -/
noncomputable def cooL {q : Nat} [NeZero q] (x : Nat → Fin q) (piv : List Nat) (r : Nat) : List Int := (List.range r).map fun t => fv (x (piv.getD t 0))
theorem cooL_len {q : Nat} [NeZero q] (x : Nat → Fin q) (piv : List Nat) (r : Nat) : (cooL x piv r).length = r := by simp [cooL]
theorem cooL_succ {q : Nat} [NeZero q] (x : Nat → Fin q) (piv : List Nat) (r : Nat) : cooL x piv (r + 1) = cooL x piv r ++ [fv (x (piv.getD r 0))] := by unfold cooL; rw [List.range_succ, List.map_append]; rfl
theorem coo_cases {q N r : Nat} [NeZero q] {A : Mt q} {zz : List (List Int)} {ys Z : List Int} {k : Int} (hA : VIs q N zz q N r A) (h : SolRes q N r (flat N r (turn A)) ys Z k) :
    (¬ Vec1 q N ys ∧ Z = [] ∧ k = 2) ∨ (∃ x : Nat → Fin q, ys = bL N x ∧ (((red (r + 1) (adj r A x) N).piv.length : Int) == (r : Int)) = false ∧ Z = [] ∧ k = 3) ∨ (∃ x : Nat → Fin q, ys = bL N x ∧ (((red (r + 1) (adj r A x) N).piv.length : Int) == (r : Int)) = true ∧ Z = cooL x (red r A N).piv r ∧ k = 0) := by
  rcases h with ⟨c0, hk, hc, rfl, rfl⟩ | ⟨u', iu, m, n, A', b, hM, rfl, hs⟩
  · rcases hk with ⟨h, _⟩ | ⟨_, h, rfl⟩ | ⟨_, _, h⟩
    · exact absurd hA.turn.ok h
    · exact .inl ⟨h, rfl, rfl⟩
    · exact absurd h hc
  · obtain rfl : u' = q := by have := hM.p; omega
    obtain rfl : m = N := by have := hM.r; omega
    obtain rfl : n = r := by have := hM.c; omega
    have hz := hM.zs
    have e : ∀ i j, i < n → j < m → turn A' i j = (red n A m).A i j := fun i j hi hj => by
      rw [hA.red i j hi hj]
      exact (flat_inj hz j i hj hi).symm
    obtain ⟨s1, s2, s3⟩ := coord_sys (fd_of hA.pr) (m := n) (n := m) (A := A) b (turn A') n e hA.piv.symm
    have hh := has_iff (fd_of hA.pr) (m := n) (n := m) (A := A) (x := b)
    rw [hA.piv] at hh
    rw [show turn (turn A') = A' from rfl] at s1 s2 s3
    rcases hs with ⟨h1, rfl, rfl⟩ | ⟨h1, rfl, rfl⟩
    · have hin := s2.1 h1
      refine .inr (.inr ⟨b, rfl, by rw [hh.2 hin]; simp, ?_, rfl⟩)
      refine List.ext_getElem (by rw [solL_len, cooL_len]) fun t h1 h2 => ?_
      rw [solL_at, s3 hin t (by rw [solL_len] at h1; exact h1)]
      simp [cooL]
    · refine .inr (.inl ⟨b, rfl, ?_, rfl, rfl⟩)
      have hnin : ¬ In n m A b := fun h => h1 (s2.2 h)
      have : (red (n + 1) (adj n A b) m).piv.length ≠ n := fun h => hnin (hh.1 h)
      simp only [beq_eq_false_iff_ne]
      omega
end Go.Proofs.Ytpimnngomodnhaa
