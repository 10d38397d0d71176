/-
  Contracts of the laws' own helpers for rows of numbers: a copy, equality, marks, the count.
-/
import Derived.Test.YtdihcmohpbgmmaaDoorSsA
import Derived.StillTactics

namespace Go.Proofs.YtdihcmohpbgmmaaDoor
open Go.RowKit
set_option linter.unusedVariables false

theorem info_r : (Tryd.prog.info? 40).map (fun i => (i.zero, i.size, i.bytes)) = some (some (.slice none 0 0), 1, 24) := by kernel_rfl
/-- A row of values as an own row. -/
theorem ownsRow_of {B g n : Nat} {w : World} {F : Nat → Value} (h : w.rowIs g 40 n F) (hB : B ≤ g) (hl : n ≤ 9223372036854775807) : w.ownsRow B 40 1 (.slice (some ⟨g, 0, none⟩) n n) n ((List.range n).map F) := by
  obtain ⟨c, hc, hn, hi⟩ := h
  refine ⟨by simp, .inr ⟨g, n, c, rfl, hB, hc, Nat.le_refl _, by unfold maxLen; omega, by omega, ?_⟩⟩
  refine List.ext_getElem (by simp [hn]) fun j h1 h2 => ?_
  have hj : j < n := by simpa using h2
  have := hi j hj
  rw [getElem?_pos c j (by omega)] at this
  injection this with this
  rw [List.getElem_take]
  show c[j] = _
  rw [this]
  simp
/-- k of n rows made, each in a block of its own behind H. -/
structure MadeX (w : World) (H n k : Nat) (zz : Nat → List Int) (V : Nat → Value) : Prop where
  row : w.rowIs H 40 n (fun t => if t < k then V t else .slice none 0 0)
  own : ∀ t, t < k → OwnI (H + 1) w (V t) (zz t)
  sep : ∀ s t g, s < k → t < k → (V s).ownBlock = some g → (V t).ownBlock = some g → s = t
theorem MadeX.zero {w : World} {H n : Nat} {zz : Nat → List Int} (h : w.rowIs H 40 n (fun _ => .slice none 0 0)) : MadeX w H n 0 zz (fun _ => .slice none 0 0) :=
  ⟨h.congr fun t _ => by rw [if_neg (by omega)], fun t ht => absurd ht (Nat.not_lt_zero _), fun s t g hs => absurd hs (Nat.not_lt_zero _)⟩
theorem MadeX.next {w w' : World} {H n k : Nat} {zz : Nat → List Int} {V : Nat → Value} {v : Value} (h : MadeX w H n k zz V) (hb : Below w.heap.size w w') (ho : OwnI w.heap.size w' v (zz k)) : MadeX (w'.setCell ⟨H, k, none⟩ v) H n (k + 1) zz (fun t => if t = k then v else V t) := by
  have hH := h.row.lt
  have lo : ∀ t g, t < k → (V t).ownBlock = some g → g < w.heap.size := fun t g ht hg => ((h.own t ht).out.lt g hg).2
  have hv : ∀ g, v.ownBlock = some g → w.heap.size ≤ g := fun g hg => (ho.out.lt g hg).1
  refine ⟨((rowIs_on h.row hb).set k v).congr fun t _ => ?_, fun t ht => ?_, fun s t g hs ht h1 h2 => ?_⟩
  · by_cases e : t = k
    · subst e; rw [if_pos rfl, if_pos (by omega)]; simp
    · rw [if_neg e]
      by_cases h : t < k
      · rw [if_pos h, if_pos (by omega)]; simp [e]
      · rw [if_neg h, if_neg (by omega)]
  · by_cases e : t = k
    · subst e; simp only [if_true]; exact (ho.mono (by omega)).setOut (by omega) _
    · simp only [e, if_false]; exact ((h.own t (by omega)).on hb).setOut (by omega) _
  · by_cases e : s = k
    · by_cases e2 : t = k
      · omega
      · simp only [e, e2, if_true, if_false] at h1 h2
        have := hv g h1; have := lo t g (by omega) h2; omega
    · by_cases e2 : t = k
      · simp only [e, e2, if_true, if_false] at h1 h2
        have := hv g h2; have := lo s g (by omega) h1; omega
      · simp only [e, e2, if_false] at h1 h2
        exact h.sep s t g (by omega) (by omega) h1 h2
theorem MadeX.own_all {w : World} {H : Nat} {zz : List (List Int)} {V : Nat → Value} {f : Nat → List Int} {B : Nat} (h : MadeX w H zz.length zz.length f V) (hf : ∀ i (h : i < zz.length), f i = zz[i]) (hB : B ≤ H) (hl : zz.length ≤ 1048576) : OwnRI B w (.slice (some ⟨H, 0, none⟩) zz.length zz.length) zz := by
  have hH := h.row.lt
  have hr : w.rowIs H 40 zz.length V := h.row.congr fun t ht => if_pos ht
  have get : ∀ i u, ((List.range zz.length).map V)[i]? = some u → i < zz.length ∧ u = V i := fun i u hu => by
    have hi : i < zz.length := by have := (List.getElem?_eq_some_iff.1 hu).1; simpa using this
    refine ⟨hi, ?_⟩
    rw [List.getElem?_map, List.getElem?_range hi] at hu
    simpa using hu.symm
  refine ⟨(List.range zz.length).map V, by simp, ownsRow_of hr hB (by omega), fun i u zs h1 h2 => ?_, fun i u g h1 h2 => ?_, fun i j u x g h1 h2 h3 h4 => ?_, Nat.le_refl _, fun g hg => ?_, fun i u g h1 h2 => ?_⟩
  · obtain ⟨hi, rfl⟩ := get i u h1
    have := h.own i hi
    rw [hf i hi] at this
    rw [List.getElem?_eq_getElem hi] at h2
    injection h2 with h2
    rw [← h2]
    exact this.mono (by omega)
  · obtain ⟨hi, rfl⟩ := get i u h1
    have := ((h.own i hi).out.lt g h2).1
    intro e
    simp [Value.ownBlock] at e
    omega
  · obtain ⟨hi, rfl⟩ := get i u h1
    obtain ⟨hj, rfl⟩ := get j x h2
    exact h.sep i j g hi hj h3 h4
  · simp [Value.ownBlock] at hg; omega
  · obtain ⟨hi, rfl⟩ := get i u h1
    exact ((h.own i hi).out.lt g h2).2
/-- How a call ends that hands back rows of its own. -/
def RetR (w : World) (zz : List (List Int)) (e : Ending) (w' : World) : Prop := ∃ v, e = .returned v ∧ OwnRI w.heap.size w' v zz ∧ Below w.heap.size w w'
set_option maxRecDepth 100000 in
set_option maxHeartbeats 3200000 in
theorem toR_any {v : Value} {zz : List (List Int)} {w : World} (hv : RowsAt w v zz) :
    Calls Tryd.prog 22 #[v] w fun e w' => RetR w zz e w' := by
  obtain ⟨a1, k1, rfl, hl, hv2⟩ := hv
  have HV := Lib.hid hv2
  clear hv2
  have hmk := run_make_row' (P := Tryd.prog) 22 40 (.slice none 0 0) 24 Tryd.underlying22 info_r rfl .i64 .i64 zz.length (by omega) (by omega)
  go_enter Tryd.func22, Tryd.ntmps22
  go_wp2_with fail
  have hrow := World.rowIs_made w (.slice none 0 0) zz.length 40
  have bb := (Below.refl w.heap.size w).alloc (Nat.le_refl _) (.cells (madeCells #[.slice none 0 0] zz.length) 40)
  generalize hW : World.alloc w (.cells (madeCells #[.slice none 0 0] zz.length) 40) = W1 at hrow bb ⊢
  obtain ⟨H, hH⟩ : ∃ H, w.heap.size = H := ⟨_, rfl⟩
  have HH := Lib.hid hH
  rw [hH] at hrow ⊢
  have HB := Lib.hid bb
  have HR := Lib.hid hrow
  have hs1 : H + 1 ≤ W1.heap.size := by rw [← hW, ← hH]; simp
  clear hrow bb hW hmk
  go_loopw [4] (fun i wr => ∃ (k : Nat) (V : Nat → Value), k ≤ zz.length ∧ i = .int .i64 (k : Int) ∧ Hid (MadeX wr H zz.length k (fun i => zz.getD i []) V) ∧ Hid (W1.grownBy wr (some H))) (fun i _ => zz.length - (intOf i).toNat)
  case atStart => exact ⟨0, _, Nat.zero_le _, rfl, MadeX.zero HR.out, grown_refl _ _⟩
  case round =>
    obtain ⟨k, V, hk, rfl, HX, HG⟩ := hrel
    by_cases hlt : k < zz.length
    · have HBW := Lib.hid (below_gb HB.out HG.out (by omega) (by omega))
      have hsz := HG.out.size
      obtain ⟨b, off, ha, hb, hc⟩ : ∃ b off, a1 = some ⟨b, off, none⟩ ∧ b < w.heap.size ∧ ∀ i (h : i < zz.length), ∃ u, w.cell? ⟨b, off + i, none⟩ = some u ∧ IntsAt w u zz[i] := by
        rcases HV.out with h | h
        · rw [h] at hlt; simp at hlt
        · exact h
      subst ha
      obtain ⟨u, hu, hi⟩ := hc k hlt
      have d1 := (HBW.out.cell (p := ⟨b, off + k, none⟩) hb).trans hu
      have HI := Lib.hid (hi.on HBW.out)
      obtain ⟨ua, uc, rfl⟩ := hi.slice
      have d3 := HX.out.row.cell hlt
      have d4 := HX.out.row.frozen k
      rw [if_neg (Nat.lt_irrefl _)] at d3
      have e1 : zz.getD k [] = zz[k] := by simp [List.getD, List.getElem?_eq_getElem hlt]
      have HE := Lib.hid e1
      obtain ⟨zk, hzk⟩ : ∃ z, zz[k] = z := ⟨_, rfl⟩
      rw [hzk] at d1 HI HE
      have k0 : (0 : Int) ≤ (k : Int) := by omega
      have k3 : (k : Int) < (zz.length : Int) := by omega
      clear hc hu hi e1 hzk
      go_wp2_with fail
      refine (toI_any HI.out).mono ?_
      rintro e wc ⟨vc, rfl, hoc, hbc⟩
      obtain ⟨vca, vcc, rfl⟩ := hoc.slice
      have HX2 := Lib.hid (HX.out.next (v := .slice vca zk.length vcc) hbc (by show OwnI _ _ _ (zz.getD k []); rw [HE.out]; exact hoc))
      have HG2 : Hid (W1.grownBy (wc.setCell ⟨H, k, none⟩ (.slice vca zk.length vcc)) (some H)) := gb_set (grown_trans HG.out (gb_below hbc (some H))) _
      have d5 := (rowIs_on HX.out.row hbc).cell hlt
      have d6 := (rowIs_on HX.out.row hbc).frozen k
      rw [if_neg (Nat.lt_irrefl _)] at d5
      clear HX HG hoc d3 d4 hbc
      go_wp2
      go_roundw
      case rel => exact ⟨k + 1, _, by omega, by go_num, HX2.out, HG2.out⟩
      case measure => simp [intOf]; omega
    · obtain rfl : k = zz.length := by omega
      go_wp2
      go_ret
      exact ⟨_, rfl, HX.out.own_all (fun i hi => by simp [List.getD, List.getElem?_eq_getElem hi]) (by have := HH.out; omega) hl, below_gb HB.out HG.out (by have := HH.out; omega) (by omega)⟩

/-! ### Equality -/
theorem IntsAt.drewN {w : World} {v : Value} {zs : List Int} (h : IntsAt w v zs) (n : Nat) : IntsAt (w.drewN n) v zs := h
theorem RowsAt.cells {w : World} {v : Value} {zz : List (List Int)} (h : RowsAt w v zz) (h0 : 0 < zz.length) : ∃ b off cap, v = .slice (some ⟨b, off, none⟩) zz.length cap ∧ b < w.heap.size ∧ ∀ i (h : i < zz.length), ∃ u, w.cell? ⟨b, off + i, none⟩ = some u ∧ IntsAt w u zz[i] := by
  obtain ⟨a, cap, rfl, _, h | ⟨b, off, rfl, hb, hc⟩⟩ := h
  · rw [h] at h0; simp at h0
  · exact ⟨b, off, cap, rfl, hb, hc⟩
set_option maxRecDepth 100000 in
set_option maxHeartbeats 1600000 in
theorem eqR_some {b1 o1 c1 b2 o2 c2 : Nat} {zz : List (List Int)} {w : World} (hl : zz.length ≤ 1048576)
    (h1 : ∀ i (h : i < zz.length), ∃ u, w.cell? ⟨b1, o1 + i, none⟩ = some u ∧ IntsAt w u zz[i]) (h2 : ∀ i (h : i < zz.length), ∃ u, w.cell? ⟨b2, o2 + i, none⟩ = some u ∧ IntsAt w u zz[i]) :
    Calls Tryd.prog 24 #[.slice (some ⟨b1, o1, none⟩) zz.length c1, .slice (some ⟨b2, o2, none⟩) zz.length c2] w fun e w' => e = .returned (.bool true) ∧ ∃ n, w' = w.drewN n := by
  have H1 := Lib.hid h1
  have H2 := Lib.hid h2
  clear h1 h2
  go_enter Tryd.func24, Tryd.ntmps24
  go_wp2
  go_loopw [5] (fun i wr => ∃ k : Nat, k ≤ zz.length ∧ i = .int .i64 (k : Int) ∧ Hid (∃ n, wr = w.drewN n)) (fun i _ => zz.length - (intOf i).toNat)
  case atStart => exact ⟨0, Nat.zero_le _, rfl, 0, rfl⟩
  case round =>
    obtain ⟨k, hk, rfl, HN⟩ := hrel
    by_cases hlt : k < zz.length
    · obtain ⟨x1, d1, i1⟩ : ∃ u, wr.cell? ⟨b1, o1 + k, none⟩ = some u ∧ IntsAt wr u zz[k] := by
        obtain ⟨n, e⟩ := HN.out
        obtain ⟨u, h1, h2⟩ := H1.out k hlt
        exact ⟨u, by rw [e]; exact h1, by rw [e]; exact h2⟩
      obtain ⟨x2, d2, i2⟩ : ∃ u, wr.cell? ⟨b2, o2 + k, none⟩ = some u ∧ IntsAt wr u zz[k] := by
        obtain ⟨n, e⟩ := HN.out
        obtain ⟨u, h1, h2⟩ := H2.out k hlt
        exact ⟨u, by rw [e]; exact h1, by rw [e]; exact h2⟩
      have I1 := Lib.hid i1
      have I2 := Lib.hid i2
      obtain ⟨a1, q1, rfl⟩ := i1.slice
      obtain ⟨a2, q2, rfl⟩ := i2.slice
      obtain ⟨zk, hzk⟩ : ∃ z, zz[k] = z := ⟨_, rfl⟩
      rw [hzk] at d1 d2 I1 I2
      have i0 : 0 ≤ (k : Int) := by omega
      have i1' : (k : Int) < zz.length := by omega
      clear i1 i2 hzk
      go_wp2
      go_quiet ((go_at_call 32; exact Calls.quiet_of (eqI_any (IntsAt.drewN I1.out _) (IntsAt.drewN I2.out _))))
      go_wp2
      go_roundw
      case rel => exact ⟨k + 1, by omega, by go_num, by obtain ⟨n, e⟩ := HN.out; exact ⟨_, by rw [e, World.drewN_drewN]⟩⟩
      case measure => simp [intOf]; omega
    · go_wp2
      go_ret
      exact ⟨rfl, HN.out⟩
theorem eqR_none (a1 a2 : Option Addr) (c1 c2 : Nat) (w : World) :
    Calls Tryd.prog 24 #[.slice a1 0 c1, .slice a2 0 c2] w fun e w' => e = .returned (.bool true) ∧ ∃ n, w' = w.drewN n := by
  go_enter Tryd.func24, Tryd.ntmps24
  go_wp2
  refine wp_loop_rounds 1 ?_
  rw [rounds_succ]
  go_wp2
  go_ret
  exact ⟨rfl, 0, rfl⟩
theorem eqRn_any {v1 v2 : Value} {zz : List (List Int)} {w : World} (h1 : RowsAt w v1 zz) (h2 : RowsAt w v2 zz) :
    Calls Tryd.prog 24 #[v1, v2] w fun e w' => e = .returned (.bool true) ∧ ∃ n, w' = w.drewN n := by
  by_cases h0 : zz = []
  · subst h0
    obtain ⟨a1, c1, rfl⟩ := h1.slice
    obtain ⟨a2, c2, rfl⟩ := h2.slice
    exact eqR_none a1 a2 c1 c2 w
  · have h0 : 0 < zz.length := List.length_pos_iff.2 h0
    have hl : zz.length ≤ 1048576 := by obtain ⟨_, _, _, hl, _⟩ := h1; exact hl
    obtain ⟨b1, o1, c1, rfl, _, k1⟩ := h1.cells h0
    obtain ⟨b2, o2, c2, rfl, _, k2⟩ := h2.cells h0
    exact eqR_some hl k1 k2
theorem eqR_any {v1 v2 : Value} {zz : List (List Int)} {w : World} (h1 : RowsAt w v1 zz) (h2 : RowsAt w v2 zz) :
    Calls Tryd.prog 24 #[v1, v2] w fun e w' => e = .returned (.bool true) ∧ Below w.heap.size w w' :=
  (eqRn_any h1 h2).mono fun e w' ⟨he, n, hn⟩ => ⟨he, by rw [hn]; exact below_drewX (Below.refl _ _) n⟩

/-! ### The count -/
/-- What is left behind k rows. -/
def leftR (left : Int) (zz : List (List Int)) (k : Nat) : Int := left - (zz.length : Int) - (tot (zz.take k) : Int)
theorem leftR_succ (left : Int) (zz : List (List Int)) (k : Nat) (h : k < zz.length) : leftR left zz (k + 1) = leftR left zz k - (zz[k].length : Int) := by
  unfold leftR; rw [tot_take_succ zz k h]; omega
/-- How the count ends. -/
def RetSz (left : Int) (zz : List (List Int)) (w : World) (e : Ending) (w' : World) : Prop :=
  e = .returned (.int .i64 (if (zz.length : Int) + (tot zz : Int) ≤ left then left - (zz.length : Int) - (tot zz : Int) else -1)) ∧ Below w.heap.size w w'
theorem leftR_all (left : Int) (zz : List (List Int)) : leftR left zz zz.length = left - (zz.length : Int) - (tot zz : Int) := by unfold leftR; rw [List.take_length]
set_option maxRecDepth 100000 in
set_option maxHeartbeats 1600000 in
theorem szR_some {v : Value} {zz : List (List Int)} {left : Int} {w : World} (hv : RowsRaw w v zz) (h : left ≤ 1048576) (h1 : (zz.length : Int) ≤ left) :
    Calls Tryd.prog 20 #[v, .int .i64 left] w fun e w' => RetSz left zz w e w' := by
  obtain ⟨a, cap, rfl, hl, hv2⟩ := hv
  have HV := Lib.hid hv2
  clear hv2
  have w0 : IntKind.i64.wrap (left - (zz.length : Int)) = left - (zz.length : Int) := IntWalk.i64_in _ (by omega)
  have hz0 : leftR left zz 0 = left - (zz.length : Int) := by unfold leftR; simp [tot]
  have HZ0 := Lib.hid hz0
  clear hz0
  go_enter Tryd.func20, Tryd.ntmps20
  go_wp2
  go_loopw [1, 5] (fun m i wr => ∃ k : Nat, k ≤ zz.length ∧ 0 ≤ leftR left zz k ∧ leftR left zz k ≤ left ∧ i = .int .i64 (k : Int) ∧ m = .int .i64 (leftR left zz k) ∧ Hid (Below w.heap.size w wr)) (fun _ i _ => zz.length - (intOf i).toNat)
  case atStart => exact ⟨0, Nat.zero_le _, by rw [HZ0.out]; omega, by rw [HZ0.out]; omega, rfl, by rw [HZ0.out], Below.refl _ _⟩
  case round =>
    obtain ⟨k, hk, hp, hq, rfl, rfl, HB⟩ := hrel
    by_cases hlt : k < zz.length
    · obtain ⟨b, off, ha, hb, hc⟩ : ∃ b off, a = some ⟨b, off, none⟩ ∧ b < w.heap.size ∧ ∀ i (h : i < zz.length), ∃ u, w.cell? ⟨b, off + i, none⟩ = some u ∧ IntsRaw w u zz[i] := by
        rcases HV.out with h | h
        · rw [h] at hlt; simp at hlt
        · exact h
      subst ha
      obtain ⟨u, hu, hi⟩ := hc k hlt
      have d1 := (HB.out.cell (p := ⟨b, off + k, none⟩) hb).trans hu
      obtain ⟨ua, uc, rfl, hul, _⟩ := hi
      have HS := Lib.hid (leftR_succ left zz k hlt)
      have hrl := tot_row_le zz k hlt
      have htl := tot_take_le zz (k + 1)
      have HT : Hid (leftR left zz (k + 1) < 0 → left < (zz.length : Int) + (tot zz : Int)) := fun h => by unfold leftR at h; omega
      obtain ⟨zk, hzk⟩ : ∃ z, zz[k] = z := ⟨_, rfl⟩
      rw [hzk] at d1 hul HS
      obtain ⟨y, hy⟩ : ∃ y, leftR left zz k = y := ⟨_, rfl⟩
      rw [hy] at hp hq HS ⊢
      have i0 : 0 ≤ (k : Int) := by omega
      have i1 : (k : Int) < zz.length := by omega
      clear hc hu hzk hy hrl htl
      by_cases hfit : (zk.length : Int) ≤ y
      · have g0 : ¬ (y - (zk.length : Int) < 0) := by omega
        go_wp2_with fail
        refine (szI_yes ua uc _ (by omega) hfit).mono ?_
        rintro e w' ⟨rfl, rfl⟩
        have HB2 := Lib.hid HB.out
        go_wp2
        go_roundw
        case rel => exact ⟨k + 1, by omega, by rw [HS.out]; omega, by rw [HS.out]; omega, by go_num, by rw [HS.out], HB2.out⟩
        case measure => simp [intOf]; omega
      · go_wp2_with fail
        refine (szI_no ua uc _ hp (by omega) hul (by omega)).mono ?_
        rintro e w' ⟨rfl, rfl⟩
        have hne : left < (zz.length : Int) + (tot zz : Int) := HT.out (by rw [HS.out]; omega)
        have HN := Lib.hid hne
        have HB2 := Lib.hid HB.out
        clear hne
        go_wp2
        go_ret
        exact ⟨by rw [if_neg (by have := HN.out; omega)]; rfl, HB2.out⟩
    · obtain rfl : k = zz.length := by omega
      have ha := leftR_all left zz
      rw [ha] at hp hq ⊢
      have hy : (zz.length : Int) + (tot zz : Int) ≤ left := by omega
      have HY := Lib.hid hy
      clear ha hy
      obtain ⟨y, hy⟩ : ∃ y, left - (zz.length : Int) - (tot zz : Int) = y := ⟨_, rfl⟩
      have HYY := Lib.hid hy
      rw [hy] at hp hq ⊢
      clear hy
      go_wp2
      go_ret
      exact ⟨by rw [if_pos HY.out, HYY.out]; rfl, HB.out⟩
theorem szR_short {v : Value} {zz : List (List Int)} {left : Int} {w : World} (hv : RowsRaw w v zz) (h : left ≤ 1048576) (h0 : 0 ≤ left) (h1 : left < (zz.length : Int)) :
    Calls Tryd.prog 20 #[v, .int .i64 left] w fun e w' => e = .returned (.int .i64 (-1)) ∧ Below w.heap.size w w' := by
  obtain ⟨a, cap, rfl, hl, -⟩ := hv
  have w0 : IntKind.i64.wrap (left - (zz.length : Int)) = left - (zz.length : Int) := IntWalk.i64_in _ (by omega)
  go_enter Tryd.func20, Tryd.ntmps20
  go_wp2
  go_ret
  exact ⟨rfl, Below.refl _ _⟩
theorem szR_yes {v : Value} {zz : List (List Int)} {left : Int} {w : World} (hv : RowsRaw w v zz) (h : left ≤ 1048576) (h1 : (zz.length : Int) + (tot zz : Int) ≤ left) :
    Calls Tryd.prog 20 #[v, .int .i64 left] w fun e w' => e = .returned (.int .i64 (left - (zz.length : Int) - (tot zz : Int))) ∧ Below w.heap.size w w' := by
  refine (szR_some hv h (by omega)).mono ?_
  rintro e w' ⟨rfl, hb⟩
  exact ⟨by rw [if_pos h1], hb⟩
theorem szR_no {v : Value} {zz : List (List Int)} {left : Int} {w : World} (hv : RowsRaw w v zz) (h : left ≤ 1048576) (h0 : 0 ≤ left) (h1 : left < (zz.length : Int) + (tot zz : Int)) :
    Calls Tryd.prog 20 #[v, .int .i64 left] w fun e w' => e = .returned (.int .i64 (-1)) ∧ Below w.heap.size w w' := by
  by_cases h2 : (zz.length : Int) ≤ left
  · refine (szR_some hv h h2).mono ?_
    rintro e w' ⟨rfl, hb⟩
    exact ⟨by rw [if_neg (by omega)], hb⟩
  · exact szR_short hv h h0 (by omega)

/-! ### Marks -/
/-- Rows that hold the marks k, k + 1, .. -/
def marksR (k : Int) : List (List Int) → List (List Int)
  | [] => []
  | z :: zz => marks k z.length :: marksR (k + (z.length : Int)) zz
theorem marksR_len : ∀ (k : Int) (zz : List (List Int)), (marksR k zz).length = zz.length
  | _, [] => rfl
  | k, z :: zz => by simp only [marksR, List.length_cons]; rw [marksR_len]
theorem tot_marksR : ∀ (k : Int) (zz : List (List Int)), tot (marksR k zz) = tot zz
  | _, [] => rfl
  | k, z :: zz => by simp only [marksR, tot]; rw [tot_marksR, marks_len]
theorem marksR_fit {zz : List (List Int)} (h : FitR zz) (k : Int) : FitR (marksR k zz) := by
  unfold FitR; rw [marksR_len, tot_marksR]; exact h
theorem marksR_at : ∀ (k : Int) (zz : List (List Int)) (i : Nat) (h : i < zz.length), (marksR k zz)[i]'(by rw [marksR_len]; exact h) = marks (k + (tot (zz.take i) : Int)) zz[i].length
  | _, [], _, h => absurd h (Nat.not_lt_zero _)
  | k, z :: zz, 0, _ => by simp [marksR, tot]
  | k, z :: zz, i + 1, h => by
    simp only [marksR, List.getElem_cons_succ, List.take_succ_cons, tot]
    rw [marksR_at (k + (z.length : Int)) zz i (by simpa using h)]
    congr 1
    omega
/-- k rows marked. -/
def MarkedR (zz : List (List Int)) (k : Int) (n : Nat) : List (List Int) := (marksR k zz).take n ++ zz.drop n
theorem markedR_zero (zz : List (List Int)) (k : Int) : MarkedR zz k 0 = zz := by simp [MarkedR]
theorem markedR_all (zz : List (List Int)) (k : Int) : MarkedR zz k zz.length = marksR k zz := by
  unfold MarkedR; rw [List.drop_length, List.append_nil, List.take_of_length_le (by rw [marksR_len]; exact Nat.le_refl _)]
theorem markedR_len (zz : List (List Int)) (k : Int) (n : Nat) (h : n ≤ zz.length) : (MarkedR zz k n).length = zz.length := by
  unfold MarkedR; rw [List.length_append, List.length_take, List.length_drop, marksR_len]; omega
theorem markedR_at (zz : List (List Int)) (k : Int) (n i : Nat) (h : i < zz.length) : (MarkedR zz k n)[i]? = some (if i < n then marks (k + (tot (zz.take i) : Int)) zz[i].length else zz[i]) := by
  unfold MarkedR
  have hm := marksR_len k zz
  by_cases e : i < n
  · rw [if_pos e, List.getElem?_append_left (by rw [List.length_take]; omega), List.getElem?_take_of_lt e, List.getElem?_eq_getElem (by omega), marksR_at k zz i h]
  · rw [if_neg e, List.getElem?_append_right (by rw [List.length_take]; omega), List.getElem?_drop, List.length_take]
    rw [show n + (i - min n (marksR k zz).length) = i by omega, List.getElem?_eq_getElem h]
/-- How the marking of rows ends. -/
def RetMR (B E : Nat) (w : World) (v : Value) (zz : List (List Int)) (k : Int) (e : Ending) (w' : World) : Prop :=
  e = .returned (.int .i64 (k + (tot zz : Int))) ∧ OwnRX B E w' v (marksR k zz) ∧ Fr B E w w'
/-- One row turned, its block apart from all others. -/
theorem OwnR.turn {B E : Nat} {w w' : World} {v u : Value} {L : List Value} {zz yy : List (List Int)} {i : Nat} {ys : List Int} (h : OwnR B E w v L zz) (hu : L[i]? = some u) (hg : w.grownBy w' u.ownBlock) (ho : OwnI B w' u ys) (hl : yy.length = zz.length) (hy : ∀ j, j ≠ i → yy[j]? = zz[j]?) (hyi : yy[i]? = some ys) : OwnR B E w' v L yy := by
  refine ⟨h.len.trans hl.symm, ?_, fun j x zs h1 h2 => ?_, h.off, h.sep, Nat.le_trans h.le hg.size, h.top, h.tops⟩
  · rw [hl]
    refine h.row.kept hg ?_
    cases hv : v.ownBlock with
    | none => exact .inl rfl
    | some g => exact .inr fun e => h.off i u g hu e.symm hv
  · by_cases e : j = i
    · subst e
      rw [hu] at h1
      injection h1 with h1
      rw [hyi] at h2
      injection h2 with h2
      rw [← h1, ← h2]; exact ho
    · rw [hy j e] at h2
      refine (h.own j x zs h1 h2).out.kept hg ?_
      cases hx : x.ownBlock with
      | none => exact .inl rfl
      | some g => exact .inr fun e2 => e (h.sep j i x u g h1 hu hx e2.symm)
set_option maxRecDepth 100000 in
set_option maxHeartbeats 1600000 in
theorem markR_some {B E g cap : Nat} {L : List Value} {zz : List (List Int)} {k : Int} {w : World} (h : OwnR B E w (.slice (some ⟨g, 0, none⟩) zz.length cap) L zz) (hf : FitR zz) (hk0 : 0 ≤ k) (hk1 : k ≤ 900000000) :
    Calls Tryd.prog 25 #[.slice (some ⟨g, 0, none⟩) zz.length cap, .int .i64 k] w fun e w' => RetMR B E w (.slice (some ⟨g, 0, none⟩) zz.length cap) zz k e w' := by
  have hl := hf.1
  have htt := hf.2
  have HW := Lib.hid h
  have HF := Lib.hid hf
  clear h hf
  go_enter Tryd.func25, Tryd.ntmps25
  go_wp2
  go_loopw [1, 5] (fun m i wr => ∃ n : Nat, n ≤ zz.length ∧ i = .int .i64 (n : Int) ∧ m = .int .i64 (k + (tot (zz.take n) : Int)) ∧ Hid (OwnR B E wr (.slice (some ⟨g, 0, none⟩) zz.length cap) L (MarkedR zz k n)) ∧ Hid (Fr B E w wr)) (fun _ i _ => zz.length - (intOf i).toNat)
  case atStart => exact ⟨0, Nat.zero_le _, rfl, by simp [tot], by rw [markedR_zero]; exact HW.out, Fr.refl _ _ _⟩
  case round =>
    obtain ⟨n, hn, rfl, rfl, HX, HR⟩ := hrel
    have htl := tot_take_le zz n
    by_cases hlt : n < zz.length
    · obtain ⟨u, hu⟩ : ∃ u, L[n]? = some u := ⟨_, List.getElem?_eq_getElem (by rw [HW.out.len]; exact hlt)⟩
      have hx := HX.out
      have hml := markedR_len zz k n hn
      have c1 : wr.cell? ⟨g, n, none⟩ = some u := by
        have hr := hx.row
        rw [hml] at hr
        rw [World.ownsRow.cellAt hr n (by omega)]; exact hu
      have hz := markedR_at zz k n n hlt
      rw [if_neg (Nat.lt_irrefl _)] at hz
      have hui := hx.own n u _ hu hz
      have hrl := HF.out.row _ (List.getElem_mem hlt)
      have HS := Lib.hid (tot_take_succ zz n hlt)
      have HUI := Lib.hid hui
      obtain ⟨ua, uc, rfl⟩ := hui.slice
      have HU := Lib.hid hu
      have HT : Hid (∀ w', wr.grownBy w' (Value.ownBlock (.slice ua zz[n].length uc)) → OwnI B w' (.slice ua zz[n].length uc) (marks (k + (tot (zz.take n) : Int)) zz[n].length) → OwnR B E w' (.slice (some ⟨g, 0, none⟩) zz.length cap) L (MarkedR zz k (n + 1)) ∧ Fr B E wr w') := fun w' hg ho => by
        refine ⟨hx.turn hu hg ho ?_ (fun j hj => ?_) ?_, hg.os, hg.tape, hg.output, hg.size, fun b hb hd => hg.block b hb fun e => ?_⟩
        · rw [markedR_len _ _ _ (by omega), hml]
        · by_cases hjl : j < zz.length
          · rw [markedR_at _ _ _ _ hjl, markedR_at _ _ _ _ hjl]
            by_cases e : j < n
            · rw [if_pos e, if_pos (by omega)]
            · rw [if_neg e, if_neg (by omega)]
          · rw [List.getElem?_eq_none (by rw [markedR_len _ _ _ (by omega)]; omega), List.getElem?_eq_none (by rw [hml]; omega)]
        · rw [markedR_at _ _ _ _ hlt, if_pos (by omega)]
        · have h1 := hx.lo hu e.symm
          have h2 := hx.tops n _ b hu e.symm
          omega
      obtain ⟨zn, hzn⟩ : ∃ z, zz[n] = z := ⟨_, rfl⟩
      rw [hzn] at c1 HUI HS HT hrl
      obtain ⟨y, hy⟩ : ∃ y, tot (zz.take n) = y := ⟨_, rfl⟩
      rw [hy] at HS HT htl ⊢
      have i0 : 0 ≤ (n : Int) := by omega
      have i1 : (n : Int) < zz.length := by omega
      clear hx hz hui hu hzn hy
      go_wp2_with fail
      refine (markW_any (k + (y : Int)) HUI.out hrl (by omega) (by omega)).mono ?_
      rintro e w' ⟨rfl, ho, hb, hg⟩
      obtain ⟨h1, h2⟩ := HT.out w' hg ho
      have HX2 := Lib.hid h1
      have HR2 := Lib.hid (HR.out.trans h2)
      clear ho hb hg h1 h2 HX HR HT HUI
      go_wp2
      go_roundw
      case rel => exact ⟨n + 1, by omega, by go_num, by rw [HS.out]; go_num, HX2.out, HR2.out⟩
      case measure => simp [intOf]; omega
    · obtain rfl : n = zz.length := by omega
      have HX2 : Hid (OwnRX B E wr (.slice (some ⟨g, 0, none⟩) zz.length cap) (marksR k zz)) := ⟨L, by have := HX.out; rw [markedR_all] at this; exact this⟩
      rw [List.take_length]
      clear HX
      go_wp2
      go_ret
      exact ⟨rfl, HX2.out, HR.out⟩
theorem markR_none {B E : Nat} {k : Int} {w : World} (hE : E ≤ w.heap.size) :
    Calls Tryd.prog 25 #[.slice none 0 0, .int .i64 k] w fun e w' => RetMR B E w (.slice none 0 0) [] k e w' := by
  go_enter Tryd.func25, Tryd.ntmps25
  go_wp2
  refine wp_loop_rounds 1 ?_
  rw [rounds_succ]
  go_wp2
  go_ret
  exact ⟨by simp [tot], ⟨[], rfl, World.ownsRow_nil _ _ _ _, fun i u zs h _ => by simp at h, fun i u g h _ => by simp at h, fun i j u x g h _ _ _ => by simp at h, hE, fun g h => by simp [Value.ownBlock] at h, fun i u g h _ => by simp at h⟩, Fr.refl _ _ _⟩
theorem markR_any {B E : Nat} {v : Value} {zz : List (List Int)} (k : Int) {w : World} (h : OwnRX B E w v zz) (hf : FitR zz) (hk0 : 0 ≤ k) (hk1 : k ≤ 900000000) :
    Calls Tryd.prog 25 #[v, .int .i64 k] w fun e w' => RetMR B E w v zz k e w' := by
  obtain ⟨L, h⟩ := h
  rcases h.form with ⟨rfl, rfl⟩ | ⟨g, cap, rfl, _⟩
  · exact markR_none h.le
  · exact markR_some h hf hk0 hk1
set_option maxRecDepth 100000 in
set_option maxHeartbeats 400000 in
theorem heldW_some (b off cap n : Nat) (k : Int) (w : World) (hl : n ≤ 1048576) (hk0 : 0 ≤ k) (hk1 : k ≤ 1000000000) (h1 : ∀ j, j < n → w.cell? ⟨b, off + j, none⟩ = some (.int .i64 (k + (j : Int)))) :
    Calls Tryd.prog 34 #[.slice (some ⟨b, off, none⟩) n cap, .int .i64 k] w fun e w' => e = .returned (.int .i64 (k + (n : Int))) ∧ w = w' := by
  have H1 := Lib.hid h1
  clear h1
  go_enter Tryd.func34, Tryd.ntmps34
  go_wp2
  go_loop [1, 5] (fun m i => ∃ j : Nat, j ≤ n ∧ i = .int .i64 (j : Int) ∧ m = .int .i64 (k + (j : Int))) (fun _ i => n - (intOf i).toNat)
  case atStart => exact ⟨0, Nat.zero_le _, rfl, by simp⟩
  case round =>
    obtain ⟨j, hj, rfl, rfl⟩ := hrel
    by_cases hlt : j < n
    · have c1 := H1.out j hlt
      have eb : (k + (j : Int) != k + (j : Int)) = false := by simp
      go_wp2
      go_round
      case rel => exact ⟨j + 1, by omega, by go_num, by go_num⟩
      case measure => simp [intOf]; omega
    · obtain rfl : j = n := by omega
      go_wp2
      go_ret
      exact ⟨rfl, rfl⟩
theorem heldW_any {v : Value} {n : Nat} {k : Int} {w : World} (h : IntsAt w v (marks k n)) (hk0 : 0 ≤ k) (hk1 : k ≤ 1000000000) :
    Calls Tryd.prog 34 #[v, .int .i64 k] w fun e w' => e = .returned (.int .i64 (k + (n : Int))) ∧ w = w' := by
  obtain ⟨a, c, rfl, hl, h⟩ := h
  rw [marks_len] at hl ⊢
  rcases h with h | ⟨b, off, rfl, _, h⟩
  · have : n = 0 := by have := congrArg List.length h; rw [marks_len] at this; simpa using this
    subst this
    exact (heldI_none a c k w).mono fun e w' ⟨he, hw⟩ => ⟨by rw [he]; simp, hw⟩
  · refine heldW_some b off c n k w hl hk0 hk1 (fun j hj => ?_)
    have hj' : j < (marks k n).length := by rw [marks_len]; exact hj
    rw [h j hj']
    have := marks_at k n j hj
    rw [List.getElem?_eq_getElem hj'] at this
    injection this with this
    rw [this]
set_option maxRecDepth 100000 in
set_option maxHeartbeats 1600000 in
theorem heldR_any {v : Value} {zz : List (List Int)} {k : Int} {w : World} (h : RowsAt w v (marksR k zz)) (hf : FitR zz) (hk0 : 0 ≤ k) (hk1 : k ≤ 900000000) :
    Calls Tryd.prog 64 #[v, .int .i64 k] w fun e w' => e = .returned (.int .i64 (k + (tot zz : Int))) ∧ Below w.heap.size w w' := by
  obtain ⟨a, cap, rfl, hl, hv2⟩ := h
  have htt := hf.2
  rw [marksR_len] at hl ⊢
  have HV := Lib.hid hv2
  clear hv2 hf
  go_enter Tryd.func64, Tryd.ntmps64
  go_wp2
  go_loopw [1, 5] (fun m i wr => ∃ n : Nat, n ≤ zz.length ∧ i = .int .i64 (n : Int) ∧ m = .int .i64 (k + (tot (zz.take n) : Int)) ∧ Hid (Below w.heap.size w wr)) (fun _ i _ => zz.length - (intOf i).toNat)
  case atStart => exact ⟨0, Nat.zero_le _, rfl, by simp [tot], Below.refl _ _⟩
  case round =>
    obtain ⟨n, hn, rfl, rfl, HB⟩ := hrel
    have htl := tot_take_le zz n
    by_cases hlt : n < zz.length
    · obtain ⟨b, off, ha, hb, hc⟩ : ∃ b off, a = some ⟨b, off, none⟩ ∧ b < w.heap.size ∧ ∀ i (h : i < (marksR k zz).length), ∃ u, w.cell? ⟨b, off + i, none⟩ = some u ∧ IntsAt w u (marksR k zz)[i] := by
        rcases HV.out with h | h
        · have := marksR_len k zz; rw [h] at this; simp at this; omega
        · exact h
      subst ha
      obtain ⟨u, hu, hi⟩ := hc n (by rw [marksR_len]; exact hlt)
      rw [marksR_at k zz n hlt] at hi
      have d1 := (HB.out.cell (p := ⟨b, off + n, none⟩) hb).trans hu
      have HI := Lib.hid (hi.on HB.out)
      obtain ⟨ua, uc, rfl⟩ := hi.slice
      have HS := Lib.hid (tot_take_succ zz n hlt)
      have hrl := tot_take_le zz (n + 1)
      rw [tot_take_succ zz n hlt] at hrl
      rw [marks_len] at d1 HI
      obtain ⟨zn, hzn⟩ : ∃ z, zz[n] = z := ⟨_, rfl⟩
      rw [hzn] at d1 HI HS hrl
      obtain ⟨y, hy⟩ : ∃ y, tot (zz.take n) = y := ⟨_, rfl⟩
      rw [hy] at HI HS htl hrl ⊢
      have i0 : 0 ≤ (n : Int) := by omega
      have i1 : (n : Int) < zz.length := by omega
      clear hc hu hi hzn hy
      go_wp2_with fail
      refine (heldW_any HI.out (by omega) (by omega)).mono ?_
      rintro e w' ⟨rfl, rfl⟩
      have HB2 := Lib.hid HB.out
      go_wp2
      go_roundw
      case rel => exact ⟨n + 1, by omega, by go_num, by rw [HS.out]; go_num, HB2.out⟩
      case measure => simp [intOf]; omega
    · obtain rfl : n = zz.length := by omega
      rw [List.take_length]
      go_wp2
      go_ret
      exact ⟨rfl, HB.out⟩
end Go.Proofs.YtdihcmohpbgmmaaDoor
