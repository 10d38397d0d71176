/-
  Rows beside one another.
-/
import Derived.Test.YtabanmaaagmeaaaMxCd
namespace Go.Proofs.Ytabanmaaagmeaaa
open Go.RowKit
open Lin
set_option linter.unusedVariables false
set_option linter.unusedSectionVars false

theorem OwnI.al {B : Nat} {w : World} {v : Value} {zs : List Int} {o : Obj} (h : OwnI B w v zs) : OwnI B (w.alloc o) v zs := h.on ((Below.refl _ _).alloc (Nat.le_refl _) o)
theorem cell_new0 (w : World) (x y : Value) (t : TypeId) : (w.alloc (.cells #[x, y] t)).cell? ⟨w.heap.size, 0, none⟩ = some x := by rw [World.cell?_alloc_at _ _ _ _ rfl]; rfl
theorem cell_new1 (w : World) (x y : Value) (t : TypeId) : (w.alloc (.cells #[x, y] t)).cell? ⟨w.heap.size, 1, none⟩ = some y := by rw [World.cell?_alloc_at _ _ _ _ rfl]; rfl
/-- k rows made, in blocks from B on. -/
def MadeR (B : Nat) (w : World) (H m k : Nat) (R : Nat → List Int) : Prop :=
  ∃ V : Nat → Value, w.rowIs H 25 m (fun t => if t < k then V t else .slice none 0 0) ∧ ∀ t, t < k → OwnI B w (V t) (R t)
theorem MadeR.zero {B : Nat} {w : World} {H m : Nat} {R : Nat → List Int} (h : w.rowIs H 25 m (fun _ => .slice none 0 0)) : MadeR B w H m 0 R :=
  ⟨fun _ => .slice none 0 0, h.congr fun t _ => by rw [if_neg (by omega)], fun t ht => absurd ht (Nat.not_lt_zero _)⟩
theorem MadeR.next {B : Nat} {w w' : World} {H m k : Nat} {R : Nat → List Int} {v : Value} (h : MadeR B w H m k R) (hb : Below w.heap.size w w') (ho : OwnI B w' v (R k)) (hH : H < B) : MadeR B (w'.setCell ⟨H, k, none⟩ v) H m (k + 1) R := by
  obtain ⟨V, hr, hV⟩ := h
  refine ⟨fun t => if t = k then v else V t, ((rowIs_on hr hb).set k v).congr fun t _ => ?_, fun t ht => ?_⟩
  · by_cases e : t = k
    · subst e; rw [if_pos rfl, if_pos (by omega)]; simp
    · rw [if_neg e]
      by_cases h : t < k
      · rw [if_pos h, if_pos (by omega)]; simp [e]
      · rw [if_neg h, if_neg (by omega)]
  · by_cases e : t = k
    · subst e; simp only [if_true]; exact ho.setOut hH _
    · simp only [e, if_false]; exact ((hV t (by omega)).on hb).setOut hH _
theorem MadeR.rows {B : Nat} {w : World} {H m : Nat} {R : Nat → List Int} (h : MadeR B w H m m R) (hm : m ≤ 4096) (hl : ∀ i, i < m → (R i).length ≤ 1048576) : RowsC w (.slice (some ⟨H, 0, none⟩) m m) m R := by
  obtain ⟨V, hr, hV⟩ := h
  refine ⟨_, m, rfl, hm, .inr ⟨H, 0, rfl, .inr hr.lt, fun i hi => ⟨V i, ?_, (hV i hi).atC (hl i hi)⟩⟩⟩
  rw [Nat.zero_add, hr.cell hi, if_pos hi]
set_option maxRecDepth 100000 in
set_option maxHeartbeats 6400000 in
theorem besides_any {m : Nat} {R1 R2 : Nat → List Int} {v1 v2 : Value} {w : World} (h1 : RowsC w v1 m R1) (h2 : RowsC w v2 m R2) (hm : m ≤ 32) (l1 : ∀ i, i < m → (R1 i).length ≤ 1024) (l2 : ∀ i, i < m → (R2 i).length ≤ 1024) :
    Calls Try.prog 75 #[v1, v2] w fun e w' => ∃ H, e = .returned (.slice (some ⟨H, 0, none⟩) m m) ∧ w.heap.size ≤ H ∧ MadeR (H + 1) w' H m m (fun i => R1 i ++ R2 i) ∧ Below w.heap.size w w' := by
  have hmk := run_make_row' (P := Try.prog) 64 25 (.slice none 0 0) 24 Try.underlying64 info_s rfl .i64 .i64 m (by omega) (by omega)
  have H1 := Lib.hid h1
  have H2 := Lib.hid h2
  have L1 := Lib.hid l1
  have L2 := Lib.hid l2
  obtain ⟨a1, k1, rfl, -, -⟩ := h1
  obtain ⟨a2, k2, rfl, -, -⟩ := h2
  clear l1 l2
  go_enter Try.func75, Try.ntmps75
  go_wp2_with fail
  have hrow := World.rowIs_made w (.slice none 0 0) m 25
  have bb := (Below.refl w.heap.size w).alloc (Nat.le_refl _) (.cells (madeCells #[.slice none 0 0] m) 25)
  generalize hW : World.alloc w (.cells (madeCells #[.slice none 0 0] m) 25) = W1 at hrow bb ⊢
  obtain ⟨H, hH⟩ : ∃ H, w.heap.size = H := ⟨_, rfl⟩
  rw [hH] at hrow ⊢
  have HB := Lib.hid bb
  have HR := Lib.hid hrow
  have hs1 : H + 1 ≤ W1.heap.size := by rw [← hW, ← hH]; simp
  clear hrow bb hW hmk
  go_loopw [12] (fun i wr => ∃ k : Nat, k ≤ m ∧ i = .int .i64 (k : Int) ∧ Hid (MadeR (H + 1) wr H m k (fun i => R1 i ++ R2 i)) ∧ Hid (W1.grownBy wr (some H))) (fun i _ => m - (intOf i).toNat)
  case atStart => exact ⟨0, Nat.zero_le _, rfl, MadeR.zero HR.out, grown_refl _ _⟩
  case round =>
    obtain ⟨k, hk, rfl, HX, HG⟩ := hrel
    by_cases hlt : k < m
    · have HBW := Lib.hid (below_gb HB.out HG.out (by omega) (by omega))
      have hsz := HG.out.size
      obtain ⟨_, _, e, _, h0 | ⟨Ha, oa, e2, hHa, hca⟩⟩ := H1.out
      · omega
      simp only [Value.slice.injEq, true_and] at e
      obtain ⟨rfl, rfl⟩ := e
      subst e2
      obtain ⟨_, _, e, _, h0 | ⟨Hb, ob, e2, hHb, hcb⟩⟩ := H2.out
      · omega
      simp only [Value.slice.injEq, true_and] at e
      obtain ⟨rfl, rfl⟩ := e
      subst e2
      have hHa' : Ha < w.heap.size := by omega
      have hHb' : Hb < w.heap.size := by omega
      obtain ⟨u1, hu1, i1⟩ := hca k hlt
      obtain ⟨u2, hu2, i2⟩ := hcb k hlt
      have d1 := (HBW.out.cell (p := ⟨Ha, oa + k, none⟩) hHa').trans hu1
      have d2 := (HBW.out.cell (p := ⟨Hb, ob + k, none⟩) hHb').trans hu2
      have I1 := Lib.hid (i1.on HBW.out)
      have I2 := Lib.hid (i2.on HBW.out)
      obtain ⟨⟨ax, cx, rfl, -, -⟩, -⟩ := i1
      obtain ⟨⟨ay, cy, rfl, -, -⟩, -⟩ := i2
      have g1 := L1.out k hlt
      have g2 := L2.out k hlt
      obtain ⟨V, hr, hV⟩ := HX.out
      have HRW := Lib.hid hr
      have d3 := hr.cell hlt
      have d4 := hr.frozen k
      rw [if_neg (Nat.lt_irrefl _)] at d3
      have n1 : ¬ H = Ha := by omega
      have n2 : ¬ H = Hb := by omega
      have n3 : ¬ Ha = H := by omega
      have n4 : ¬ Hb = H := by omega
      have n5 : ¬ wr.heap.size = Ha := by omega
      have n6 : ¬ wr.heap.size = Hb := by omega
      have n7 : ¬ wr.heap.size = H := by omega
      have k0 : (0 : Int) ≤ (k : Int) := by omega
      have k3 : (k : Int) < (m : Int) := by omega
      clear hca hcb hu1 hu2 hr hV
      go_wp2_with fail
      go_region_held3 (fun w' => w'.cell? ⟨Ha, oa + k, none⟩ = some (.slice ax (R1 k).length cx) ∧ w'.cell? ⟨Hb, ob + k, none⟩ = some (.slice ay (R2 k).length cy)) (go_keep)
        (first
          | (go_at_call 108; refine (concatI_ok (b := wr.heap.size) (c := 2) _ (by simp) (cell_new0 wr.drew _ _ _) (cell_new1 wr.drew _ _ _) (I1.out.drew).al (I2.out.drew).al (by omega)).mono ?_; rintro e wc ⟨vc, rfl, hoc, hbc⟩; have hbw : Below wr.heap.size wr wc := up1 (undrew hbc); obtain ⟨vca, vcc, rfl⟩ := hoc.slice; rw [List.length_append] at hoc; have := (hbw.cell (p := ⟨Ha, oa + k, none⟩) (show Ha < _ by omega)).trans d1; have := (hbw.cell (p := ⟨Hb, ob + k, none⟩) (show Hb < _ by omega)).trans d2; have hrc := rowIs_on HRW.out hbw; have hce := hrc.cell hlt; have hfe := hrc.frozen k; rw [if_neg (Nat.lt_irrefl _)] at hce; clear hrc))
      have HX2 : Hid (MadeR (H + 1) (wc.setCell ⟨H, k, none⟩ (.slice vca ((R1 k).length + (R2 k).length) vcc)) H m (k + 1) (fun i => R1 i ++ R2 i)) := HX.out.next hbw (hoc.mono (by simp; omega)) (by omega)
      have HG2 : Hid (W1.grownBy (wc.setCell ⟨H, k, none⟩ (.slice vca ((R1 k).length + (R2 k).length) vcc)) (some H)) := gb_set (gb_trans HG.out (gb_below hbw (some H))) _
      clear HX HG hoc hbw hbc HRW
      go_wp2
      go_roundw
      case rel => exact ⟨k + 1, by omega, by go_num, HX2.out, HG2.out⟩
      case measure => simp [intOf]; omega
    · obtain rfl : k = m := by omega
      go_wp2
      go_ret
      exact ⟨_, rfl, by omega, HX.out, below_gb HB.out HG.out (by omega) (by omega)⟩
end Go.Proofs.Ytabanmaaagmeaaa
