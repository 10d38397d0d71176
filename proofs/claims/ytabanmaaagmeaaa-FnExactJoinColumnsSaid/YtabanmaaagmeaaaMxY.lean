/-
  Contracts of ApplyMatrix of the model.
-/
import Derived.Test.YtabanmaaagmeaaaMxX
namespace Go.Proofs.Ytabanmaaagmeaaa
open Go.RowKit
open Lin
set_option linter.unusedVariables false
set_option linter.unusedSectionVars false

theorem pushI {B : Nat} {w : World} {v : Value} {zs : List Int} {z : Int} (h : w.ownsRow B 2 1 v (zs.length + 1) (iv zs ++ [.int .i64 z])) : OwnI B w v (zs ++ [z]) := by
  unfold OwnI iv at *; rw [List.length_append, List.map_append]; exact h
theorem madeI (w : World) (B : Nat) (hB : B ≤ w.heap.size) : OwnI B (w.alloc (.cells #[] 2)) (.slice (some ⟨w.heap.size, 0, none⟩) 0 0) [] :=
  World.ownsRow_made w #[] 0 hB (by unfold maxLen; omega) rfl
theorem below_pushI {B0 B : Nat} {w0 w w1 : World} {v : Value} {zs : List Int} {o : Obj} (hb : Below B0 w0 w) (hle : B0 ≤ B) (hB : B ≤ w.heap.size) (h : OwnI B w v zs) (hg : (w.alloc o).grownBy w1 v.ownBlock) : Below B0 w0 w1 :=
  (hb.alloc (by omega) o).grown hg (by simp; omega) (fun k hk => by have := (h.out.lt k hk).1; omega)
theorem row_int (w : World) (z : Int) (t : TypeId) : ∀ (j : Nat) (u : Value), [Value.int .i64 z][j]? = some u → (w.alloc (.cells #[.int .i64 z] t)).cell? ((⟨w.heap.size, 0, none⟩ : Addr).add j) = some u := by
  intro j u hu
  have hj : j = 0 := by
    have := (List.getElem?_eq_some_iff.1 hu).1
    simpa using this
  subst hj
  have e : (⟨w.heap.size, 0, none⟩ : Addr).add 0 = ⟨w.heap.size, 0, none⟩ := by simp [Addr.add]
  rw [e, World.cell?_alloc_at _ _ _ _ rfl]
  exact hu
theorem flat_col {q : Nat} [NeZero q] (i : Nat) (F : Mt q) : flat (i + 1) 1 F = flat i 1 F ++ [fv (F i 0)] := by
  simp [flat, List.range_succ, Nat.div_one, Nat.mod_one]
theorem drew_below {B : Nat} {a w : World} (h : Below B a w) : Below B a w.drew := ⟨h.os, h.tape, h.output, h.size, h.block⟩
theorem OwnI.drew {B : Nat} {w : World} {v : Value} {zs : List Int} (h : OwnI B w v zs) : OwnI B w.drew v zs := h
/-- Numbers and a code. -/
def RetLC (zs : List Int) (k : Int) (w : World) (e : Ending) (w' : World) : Prop := ∃ v, e = .returned (.tuple #[v, .int .i64 k]) ∧ OwnI w.heap.size w' v zs ∧ Below w.heap.size w w'
def RetL (zs : List Int) (w : World) (e : Ending) (w' : World) : Prop := ∃ v, e = .returned v ∧ OwnI w.heap.size w' v zs ∧ Below w.heap.size w w'

set_option maxRecDepth 100000 in
set_option maxHeartbeats 6400000 in
theorem l03Apply_any {q m n : Nat} [NeZero q] {A B : Mt q} {L : Nat} {v u : Value} {w : World} (hp : PtM w L q m n v) (hv : IntsAt w v (flat m n A)) (hv2 : IntsAt w u (flat n 1 B)) (hq2 : 2 ≤ q) (hq : q ≤ 251) (hm : m ≤ 32) (hn : n ≤ 32) :
    Calls Try.prog 94 #[.pointer (some ⟨L, 0, none⟩), u] w fun e w' => RetL (flat m 1 (muC n A B)) w e w' := by
  obtain ⟨i0, hi', hz0, hz1, hz2⟩ := info_parts info2
  have hN1 := side_mul hm hn
  have HV := Lib.hid hv
  have HV2 := Lib.hid hv2
  obtain ⟨a1, cp, rfl, -, -⟩ := hv
  obtain ⟨a2, cp2, rfl, -, -⟩ := hv2
  simp only [flat_len, Nat.mul_one] at hp HV HV2 ⊢
  have Pa := Lib.hid hp
  have lL := hp.1
  have kz : ¬ (q : Int) = 0 := by omega
  obtain ⟨lA, x0, x1, x2, x3⟩ := hp
  go_enter Try.func94, Try.ntmps94
  go_wp2_with fail
  clear lA x0 x1 x2 x3
  go_loopw [5, 6] (fun o s wr => ∃ i : Nat, i ≤ m ∧ s = .int .i64 (i : Int) ∧ Hid (OwnI w.heap.size wr o (flat i 1 (muC n A B))) ∧ Hid (Below w.heap.size w wr)) (fun _ s _ => m - (intOf s).toNat)
  case atStart => exact ⟨0, Nat.zero_le _, rfl, madeI _ _ (Nat.le_refl _), (Below.refl _ _).alloc (Nat.le_refl _) _⟩
  case round =>
    obtain ⟨i, hi, rfl, HO, HB⟩ := hrel
    obtain ⟨lA, x0, x1, x2, x3⟩ := Pa.out.on HB.out
    by_cases hlt : i < m
    · have i1 : (i : Int) < (m : Int) := by omega
      go_wp2_with fail
      clear lA x0 x1 x2 x3
      go_loopw [7, 8] (fun s8 s9 wr => ∃ (j : Nat) (S : Int), j ≤ n ∧ s9 = .int .i64 (j : Int) ∧ s8 = .int .i64 S ∧ 0 ≤ S ∧ S ≤ (j : Int) * 63001 ∧ Hid (S % q = fv (sm j (fun j => A i j * B j 0))) ∧ Hid (OwnI w.heap.size wr u5 (flat i 1 (muC n A B))) ∧ Hid (Below w.heap.size w wr)) (fun _ s _ => n - (intOf s).toNat)
      case atStart => exact ⟨0, 0, Nat.zero_le _, rfl, rfl, by omega, by omega, by show _ = _; rw [show sm 0 (fun j => A i j * B j 0) = 0 from rfl, fv_zero]; simp, HO.out, HB.out⟩
      case round =>
        clear HO HB
        obtain ⟨j, S, hj, rfl, rfl, hS0, hS1, HS, HO, HB⟩ := hrel
        obtain ⟨lA, x0, x1, x2, x3⟩ := Pa.out.on HB.out
        by_cases hjt : j < n
        · have j1 : (j : Int) < (n : Int) := by omega
          have ha1 := idx_lt hlt hjt
          have hv := HV.out
          obtain ⟨_, _, e, _, h1 | ⟨b1, o1, e1, hb1', K1⟩⟩ := hv
          · have := congrArg List.length h1; rw [flat_len] at this; simp at this; omega
          obtain ⟨rfl, -, rfl⟩ : a1 = _ ∧ _ ∧ cp = _ := by injection e with e1 e2 e3; exact ⟨e1, e2, e3⟩
          subst e1
          clear e
          have hv2 := HV2.out
          obtain ⟨_, _, e, _, h1 | ⟨b2, o2, e1, hb2', K2⟩⟩ := hv2
          · have := congrArg List.length h1; rw [flat_len] at this; simp at this; omega
          obtain ⟨rfl, -, rfl⟩ : a2 = _ ∧ _ ∧ cp2 = _ := by injection e with e1 e2 e3; exact ⟨e1, e2, e3⟩
          subst e1
          clear e
          have c1 : wr.cell? ⟨b1, o1 + (i * n + j), none⟩ = some (.int .i64 (fv (A i j))) := by
            rw [(HB.out.cell (p := ⟨b1, o1 + (i * n + j), none⟩) hb1'), flat_cells K1 _ ha1]; unfold cellF; rw [idx_div hjt, idx_mod hjt]
          have c2 : wr.cell? ⟨b2, o2 + j, none⟩ = some (.int .i64 (fv (B j 0))) := by
            rw [(HB.out.cell (p := ⟨b2, o2 + j, none⟩) hb2'), flat_cells K2 _ (by omega)]; unfold cellF; rw [Nat.div_one, Nat.mod_one]
          have bx := fv_nn (A i j)
          have by' := fv_nn (B j 0)
          have bx2 := fv_lt (A i j)
          have by2 := fv_lt (B j 0)
          obtain ⟨X, hX⟩ : ∃ X, fv (A i j) = X := ⟨_, rfl⟩
          obtain ⟨Y, hY⟩ : ∃ Y, fv (B j 0) = Y := ⟨_, rfl⟩
          have HS2 := Lib.hid (muC_next HS.out hX hY)
          rw [hX] at c1 bx bx2
          rw [hY] at c2 by' by2
          have p0 : 0 ≤ X * Y := Int.mul_nonneg bx by'
          have p1 : X * Y ≤ 251 * 251 := Int.mul_le_mul (by omega) (by omega) by' (by omega)
          obtain ⟨Z, hZ⟩ : ∃ Z, X * Y = Z := ⟨_, rfl⟩
          rw [hZ] at p0 p1 HS2
          have v1 : IntKind.i64.wrap (X * Y) = Z := by rw [hZ]; exact IntWalk.i64_in _ (by omega)
          have v2 : IntKind.i64.wrap (S + Z) = S + Z := IntWalk.i64_in _ (by omega)
          obtain ⟨M1, hM1⟩ : ∃ M, m * n = M := ⟨_, rfl⟩
          obtain ⟨x, hx⟩ : ∃ x, i * n = x := ⟨_, rfl⟩
          obtain ⟨s, hs⟩ : ∃ s, x + j = s := ⟨_, rfl⟩
          rw [hx, hs] at ha1 c1
          rw [hM1] at ha1 x3 hN1
          have w1 : IntKind.i64.wrap ((i : Int) * (n : Int)) = (x : Int) := by rw [← Int.natCast_mul, hx]; exact IntWalk.i64_in _ (by omega)
          have w2 : IntKind.i64.wrap ((x : Int) + (j : Int)) = (s : Int) := by rw [← Int.natCast_add, hs]; exact IntWalk.i64_in _ (by omega)
          have u0 : (0 : Int) ≤ (s : Int) := by omega
          have u1 : (s : Int) < (M1 : Int) := by omega
          have HO2 : Hid (OwnI w.heap.size wr.drew u5 (flat i 1 (muC n A B))) := HO.out.drew
          have HB2 : Hid (Below w.heap.size w wr.drew) := drew_below HB.out
          clear hx hs hM1 hX hY hZ HO HB HV HV2 HS K1 K2
          go_wp2
          go_region
          go_wp2
          go_roundw
          case rel => exact ⟨j + 1, S + Z, by omega, by go_num, rfl, by omega, by omega, HS2.out, HO2.out, HB2.out⟩
          case measure => simp [intOf]; omega
        · obtain rfl : j = n := by omega
          have v2 : S.tmod q = S % q := Int.tmod_eq_emod_of_nonneg hS0
          have HN : Hid (flat i 1 (muC j A B) ++ [S % q] = flat (i + 1) 1 (muC j A B)) := by
            show _ = _
            rw [flat_col, HS.out]; rfl
          obtain ⟨Z, hZ⟩ : ∃ Z, S % q = Z := ⟨_, rfl⟩
          rw [hZ] at v2 HN
          have hlen : (flat i 1 (muC j A B)).length + 1 ≤ 65 := by rw [flat_len]; omega
          have hsz := HB.out.size
          obtain ⟨zs, hzs⟩ : ∃ zs, flat i 1 (muC j A B) = zs := ⟨_, rfl⟩
          rw [hzs] at HO hlen HN
          clear hzs hZ HS HV HV2
          have hown := HO.out
          go_wp2_with (at_builtin; refine wpList_append_own _ rfl _ _ 25 rfl w.heap.size 2 i0 (.int .i64 0) 1 8 Try.underlying25 hi' hz0 hz1 hz2 rfl (by decide) _ _ _ rfl (hown.out.alloc _) ⟨wr.heap.size, 0, none⟩ 1 1 [.int .i64 Z] rfl rfl ?ah1 ?ah2 ?ah3 ?ah4 ?ah5 ?_)
          try (case ah1 => exact row_int _ _ _)
          case ah2 => first | rfl | (intro u hu; simp at hu; subst hu; rfl)
          case ah3 => unfold maxLen; omega
          case ah4 => omega
          case ah5 => first | omega | (simp; omega)
          intro v2 w2 hown2 hgrow _
          have hO := pushI hown2
          rw [HN.out] at hO
          have hB2 := below_pushI HB.out (Nat.le_refl _) hsz hown hgrow
          have HO2 := Lib.hid hO
          have HB2 := Lib.hid hB2
          clear hown2 hgrow hown HB HO HN hO hB2
          go_wp2
          go_roundw
          case rel => exact ⟨i + 1, by omega, by go_num, HO2.out, HB2.out⟩
          case measure => simp [intOf]; omega
    · obtain rfl : i = m := by omega
      go_wp2
      go_ret
      exact ⟨_, rfl, HO.out, HB.out⟩
end Go.Proofs.Ytabanmaaagmeaaa
