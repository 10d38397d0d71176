/-
  Grow and Concat of the library at slices of rows.
-/
import Derived.Test.YtpimnngomodnhaaSpU
namespace Go.Proofs.Ytpimnngomodnhaa
open Go.RowKit
open Lin
set_option linter.unusedVariables false
set_option linter.unusedSectionVars false

set_option maxRecDepth 100000 in
set_option maxHeartbeats 1600000 in
theorem growS_nil (w : World) : Calls Try.prog 125 #[.slice none 0 0, .int .i64 0] w fun e w' => ∃ v, e = .returned v ∧ w'.ownsRow w.heap.size 24 1 v 0 [] ∧ Below w.heap.size w w' := by
  go_enter Try.func125, Try.ntmps125
  go_wp2
  go_ret
  exact ⟨_, rfl, World.ownsRow_nil _ _ _ _, Below.refl _ _⟩
set_option maxRecDepth 100000 in
set_option maxHeartbeats 1600000 in
theorem growS_some (n : Nat) (w : World) (hn : n ≤ 2097152) (h0 : 0 < n) : Calls Try.prog 125 #[.slice none 0 0, .int .i64 (n : Int)] w fun e w' => ∃ v, e = .returned v ∧ w'.ownsRow w.heap.size 24 1 v 0 [] ∧ Below w.heap.size w w' := by
  obtain ⟨i0, hi, hz0, hz1, hz2⟩ := info_parts info_r
  have h1 : ¬ ((n : Int) < 0) := by omega
  have h2 : IntKind.i64.wrap (n : Int) = n := IntWalk.i64_in _ (by omega)
  have h3 : (n : Int) > 0 := by omega
  have happ := Lib.run_append_nil_zeros (P := Try.prog) w 28 3 28 24 i0 (.slice none 0 0) .i64 .i64 Try.underlying28 Try.underlying3 hi hz0 n h0 (by omega) (by omega) (by rw [hz2]; omega)
  have hge := grownCap_ge w n 0 24
  have hle := grownCap_le_maxLen w n 0 24 (by unfold maxLen; omega)
  obtain ⟨cp, hcp⟩ : ∃ cp, grownCap w n 0 24 = cp := ⟨_, rfl⟩
  rw [hcp] at happ hge hle
  clear hcp
  go_enter Try.func125, Try.ntmps125
  go_wp2_with (at_builtin; refine Lib.wpList_append_run _ rfl _ _ _ _ rfl _ _ rfl rfl _ _ happ ?_)
  go_ret
  refine ⟨_, rfl, ⟨rfl, .inr ⟨w.heap.size, cp, _, rfl, Nat.le_refl _, heap_alloc_new w.drew _, Nat.zero_le _, hle, ?_, by simp⟩⟩, ⟨rfl, rfl, rfl, by simp, fun k hk => Deep.blk_alloc_lt w.drew _ k hk⟩⟩
  simp only [Array.size_append, size_zeroCells]
  simp; omega
theorem growS_any (n : Nat) (w : World) (hn : n ≤ 2097152) : Calls Try.prog 125 #[.slice none 0 0, .int .i64 (n : Int)] w fun e w' => ∃ v, e = .returned v ∧ w'.ownsRow w.heap.size 24 1 v 0 [] ∧ Below w.heap.size w w' := by
  by_cases h0 : n = 0
  · subst h0; exact growS_nil w
  · exact growS_some n w hn (by omega)
set_option maxRecDepth 100000 in
set_option maxHeartbeats 3200000 in
theorem concatS_any {u1 u2 : Value} {xs ys : List Value} {b c : Nat} (w : World) (hb : b < w.heap.size) (c1 : w.cell? ⟨b, 0, none⟩ = some u1) (c2 : w.cell? ⟨b, 1, none⟩ = some u2) (hx : SrcAt w u1 xs) (hy : SrcAt w u2 ys) (hl : xs.length + ys.length ≤ 2097152) (o1 : ∀ u ∈ xs, u.oneCell' = true) (o2 : ∀ u ∈ ys, u.oneCell' = true) :
    Calls Try.prog 105 #[.slice (some ⟨b, 0, none⟩) 2 2] w fun e w' => ∃ v, e = .returned v ∧ w'.ownsRow w.heap.size 24 1 v (xs.length + ys.length) (xs ++ ys) ∧ Below w.heap.size w w' := by
  obtain ⟨i0, hi, hz0, hz1, hz2⟩ := info_parts info_r
  have HX := Lib.hid hx
  have HY := Lib.hid hy
  have O1 := Lib.hid o1
  have O2 := Lib.hid o2
  obtain ⟨ax, cx, rfl, hlx, -⟩ := hx
  obtain ⟨ay, cy, rfl, hly, -⟩ := hy
  clear o1 o2
  obtain ⟨X, hX⟩ : ∃ X, xs.length = X := ⟨_, rfl⟩
  obtain ⟨Y, hY⟩ : ∃ Y, ys.length = Y := ⟨_, rfl⟩
  have HLX := Lib.hid hX
  have HLY := Lib.hid hY
  rw [hX] at c1 hl hlx HX ⊢
  rw [hY] at c2 hl hly HY ⊢
  clear hX hY
  have e0 : (0 : Int) < 2 := by omega
  have e1 : (1 : Int) < 2 := by omega
  have s1 : IntKind.i64.wrap ((X : Int) + (Y : Int)) = ((X + Y : Nat) : Int) := by rw [Int.natCast_add]; exact IntWalk.i64_in _ (by omega)
  have s2 : ¬ ((X : Int) < 0) := by omega
  have s3 : ¬ (((X + Y : Nat) : Int) < 0) := by omega
  have s4 : IntKind.i64.wrap (X : Int) = (X : Int) := IntWalk.i64_in _ (by omega)
  go_enter Try.func105, Try.ntmps105
  go_wp2
  go_loopw [3, 11] (fun s i wr => w = wr ∧ ((s = .int .i64 0 ∧ i = .int .i64 0) ∨ (s = .int .i64 (X : Int) ∧ i = .int .i64 1) ∨ (s = .int .i64 ((X + Y : Nat) : Int) ∧ i = .int .i64 2))) (fun _ i _ => 2 - (intOf i).toNat)
  case atStart => exact ⟨rfl, .inl ⟨rfl, rfl⟩⟩
  case round =>
    obtain ⟨rfl, ⟨rfl, rfl⟩ | ⟨rfl, rfl⟩ | ⟨rfl, rfl⟩⟩ := hrel
    · go_wp2
      go_roundw
      case rel => exact ⟨by first | rfl | trivial, .inr (.inl ⟨rfl, rfl⟩)⟩
      case measure => simp [intOf]
    · go_wp2
      go_roundw
      case rel => exact ⟨by first | rfl | trivial, .inr (.inr ⟨rfl, rfl⟩)⟩
      case measure => simp [intOf]
    · go_wp2_with fail
      refine (growS_any (X + Y) _ hl).mono ?_
      rintro e w1 ⟨v0, rfl, hv0, hbw⟩
      have HV0 := Lib.hid hv0
      have HB0 := Lib.hid hbw
      have d1 := (hbw.cell (p := ⟨b, 0, none⟩) hb).trans c1
      have d2 := (hbw.cell (p := ⟨b, 1, none⟩) hb).trans c2
      clear hv0 hbw
      go_wp2_with fail
      go_loopw [6, 27] (fun v i wz => Hid (Below w.heap.size w wz) ∧ ((i = .int .i64 0 ∧ Hid (wz.ownsRow w.heap.size 24 1 v 0 [])) ∨ (i = .int .i64 1 ∧ Hid (wz.ownsRow w.heap.size 24 1 v X xs)) ∨ (i = .int .i64 2 ∧ Hid (wz.ownsRow w.heap.size 24 1 v (X + Y) (xs ++ ys))))) (fun _ i _ => 2 - (intOf i).toNat)
      case atStart => exact ⟨HB0.out, .inl ⟨rfl, HV0.out⟩⟩
      case round =>
        clear d1 d2
        obtain ⟨HB, ⟨rfl, HV⟩ | ⟨rfl, HV⟩ | ⟨rfl, HV⟩⟩ := hrel
        · have d1 := (HB.out.cell (p := ⟨b, 0, none⟩) hb).trans c1
          have hsz := HB.out.size
          go_wp2_with (at_builtin; go_loud (refine wp_append_src rfl _ _ 28 rfl w.heap.size 24 i0 (.slice none 0 0) 24 Try.underlying28 hi hz0 hz1 hz2 rfl _ 0 [] rfl HV.out _ xs rfl (HX.out.on HB.out) O1.out (by omega) (by omega) hsz ?_; rw [HLX.out]; intro v2 w2 hv2 hg2))
          have HV2 : Hid (w2.ownsRow w.heap.size 24 1 v2 X xs) := by show World.ownsRow _ _ _ _ _ _ _; simpa using hv2
          have HB2 := Lib.hid (HB.out.grown hg2 hsz (fun k hk => (HV.out.lt k hk).1))
          clear hv2 hg2 HV HB d1
          go_wp2
          go_roundw
          case rel => exact ⟨HB2.out, .inr (.inl ⟨rfl, HV2.out⟩)⟩
          case measure => simp [intOf]
        · have d2 := (HB.out.cell (p := ⟨b, 1, none⟩) hb).trans c2
          have hsz := HB.out.size
          go_wp2_with (at_builtin; go_loud (refine wp_append_src rfl _ _ 28 rfl w.heap.size 24 i0 (.slice none 0 0) 24 Try.underlying28 hi hz0 hz1 hz2 rfl _ X xs rfl HV.out _ ys rfl (HY.out.on HB.out) O2.out (by omega) (by omega) hsz ?_; rw [HLY.out]; intro v2 w2 hv2 hg2))
          have HV2 := Lib.hid hv2
          have HB2 := Lib.hid (HB.out.grown hg2 hsz (fun k hk => (HV.out.lt k hk).1))
          clear hv2 hg2 HV HB d2
          go_wp2
          go_roundw
          case rel => exact ⟨HB2.out, .inr (.inr ⟨rfl, HV2.out⟩)⟩
          case measure => simp [intOf]
        · go_wp2
          go_ret
          exact ⟨_, rfl, HV.out, HB.out⟩
end Go.Proofs.Ytpimnngomodnhaa
