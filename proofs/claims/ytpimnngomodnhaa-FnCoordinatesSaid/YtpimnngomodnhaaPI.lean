/-
  A prime and a length, rows and a space are drawn, by the model.
  A space is drawn, by the model.
  A space is bent, by the model.
  A space is bent, by the model: the call.
  A space and a vector are drawn, by the model.
  DrawCoordinatesIn, DrawSpaceOf.
-/
import Derived.Test.YtpimnngomodnhaaMDs
import Derived.Test.YtpimnngomodnhaaSpG
import Derived.Test.YtpimnngomodnhaaSpH
import Derived.Test.YtpimnngomodnhaaGbv
import Derived.Test.YtpimnngomodnhaaVis
import Derived.Test.YtpimnngomodnhaaSpP
namespace Go.Proofs.Ytpimnngomodnhaa
open Go.RowKit
open Lin
set_option linter.unusedVariables false
set_option linter.unusedSectionVars false

/-- A row more at the end, in blocks of its own. -/
theorem OwnR.pushE {B E : Nat} {w1 w2 : World} {v v2 u : Value} {zz : List (List Int)} {zs : List Int} {o : Obj} {L : List Value} (h : OwnR B E w1 v L zz) (hu : OwnI E w1 u zs) (hB : B ≤ E)
    (hr : w2.ownsRow B 24 1 v2 (zz.length + 1) (L ++ [u])) (hg : (w1.alloc o).grownBy w2 v.ownBlock) (hv : ∀ g, v2.ownBlock = some g → v.ownBlock = some g ∨ w1.heap.size ≤ g) : OwnRI B w2 v2 (zz ++ [zs]) := by
  have hs1 := h.le
  have hs2 := hg.size
  rw [World.size_alloc] at hs2
  have kept : ∀ (x : Value) (ys : List Int), OwnI B w1 x ys → (∀ g, x.ownBlock = some g → v.ownBlock ≠ some g) → OwnI B w2 x ys := fun x ys hx hne => by
    have hx' := World.ownsRow.alloc hx.out o
    refine hx'.kept hg ?_
    cases hxo : x.ownBlock with
    | none => exact .inl rfl
    | some g => exact .inr (fun e => hne g hxo e.symm)
  have lo : ∀ (i : Nat) (x : Value) (g : Nat), L[i]? = some x → x.ownBlock = some g → g < E := fun i x g h1 h2 => h.tops i x g h1 h2
  have hug : ∀ g, u.ownBlock = some g → E ≤ g ∧ g < w1.heap.size := fun g hg => hu.out.lt g hg
  have hvg : ∀ g, v.ownBlock = some g → g < E := fun g hg => h.top g hg
  have spl : ∀ (i : Nat) (x : Value), (L ++ [u])[i]? = some x → L[i]? = some x ∨ (i = L.length ∧ x = u) := fun i x hx => by
    rcases Nat.lt_trichotomy i L.length with hi | hi | hi
    · rw [List.getElem?_append_left hi] at hx; exact .inl hx
    · subst hi; rw [List.getElem?_append_right (Nat.le_refl _)] at hx; simp at hx; exact .inr ⟨rfl, hx.symm⟩
    · rw [List.getElem?_append_right (by omega)] at hx
      have : i - L.length ≠ 0 := by omega
      obtain ⟨k, hk⟩ : ∃ k, i - L.length = k + 1 := ⟨i - L.length - 1, by omega⟩
      rw [hk] at hx; simp at hx
  refine ⟨L ++ [u], by simp [h.len], by simpa using hr, fun i x ys h1 h2 => ?_, fun i x g h1 h2 h3 => ?_, fun i j x y g h1 h2 h3 h4 => ?_, Nat.le_refl _, fun g hg => (hr.lt g hg).2, fun i x g h1 h2 => ?_⟩
  · rcases spl i x h1 with h1' | ⟨rfl, rfl⟩
    · have hi : i < zz.length := by rw [← h.len]; exact (List.getElem?_eq_some_iff.1 h1').1
      rw [List.getElem?_append_left hi] at h2
      exact kept x ys (h.own i x ys h1' h2) fun g hg => h.off i x g h1' hg
    · rw [h.len, List.getElem?_append_right (Nat.le_refl _)] at h2
      simp at h2
      subst h2
      exact kept x zs (hu.mono hB) fun g hg e => by have := (hug g hg).1; have := hvg g e; omega
  · rcases spl i x h1 with h1' | ⟨rfl, rfl⟩
    · rcases hv g h3 with e | e
      · exact h.off i x g h1' h2 e
      · have := lo i x g h1' h2; omega
    · have := hug g h2
      rcases hv g h3 with e | e
      · have := hvg g e; omega
      · omega
  · rcases spl i x h1 with h1' | ⟨rfl, rfl⟩
    · rcases spl j y h2 with h2' | ⟨rfl, rfl⟩
      · exact h.sep i j x y g h1' h2' h3 h4
      · have := lo i x g h1' h3; have := hug g h4; omega
    · rcases spl j y h2 with h2' | ⟨rfl, rfl⟩
      · have := lo j y g h2' h4; have := hug g h3; omega
      · rfl
  · rcases spl i x h1 with h1' | ⟨rfl, rfl⟩
    · have := lo i x g h1' h2; omega
    · have := hug g h2; omega

/-- A prime and a length that were drawn. -/
def RetDz (p : Nat) (a : Option Addr) (len cap K : Nat) (w : World) (e : Ending) (w' : World) : Prop :=
  ∃ q N : Nat, IsPr (q : Int) ∧ N ≤ 32 ∧ e = .returned (.tuple #[.int .i64 (q : Int), .int .i64 (N : Int)]) ∧ Sc p a len cap K w' ∧ w.grownBy w' (some p)
set_option maxRecDepth 100000 in
set_option maxHeartbeats 1600000 in
theorem l04DrawSize_any {p len cap K : Nat} {a : Option Addr} {w : World} (hK : K ≤ 800000000) (h : Sc p a len cap K w) :
    Calls Try.prog 62 #[.pointer (some ⟨p, 0, none⟩)] w fun e w' => RetDz p a len cap (K + 6) w e w' := by
  have H := Lib.hid h
  clear h
  go_enter Try.func62, Try.ntmps62
  go_wp2_with fail
  refine (among_lit [2, 2, 3, 5, 251] _ _ 5 rfl rfl (by simp) (by simp) (by omega) H.out).mono ?_
  rintro e w1 ⟨r, hr, rfl, hs, hg⟩
  obtain ⟨q, rfl, hq⟩ := pr_draw (r := r) (by simp only [List.mem_cons, List.not_mem_nil, or_false] at hr ⊢; omega)
  have HS := Lib.hid hs
  have HG := Lib.hid hg
  have HQ := Lib.hid hq
  clear hs hg hr hq
  go_wp2_with fail
  refine (one_any 20 (by omega) (by omega) HS.out).mono ?_
  rintro e w2 ⟨b, rfl, hs, hg⟩
  have HS := Lib.hid hs
  have HG := Lib.hid (sgb_trans HG.out hg)
  clear hs hg
  cases b with
  | true =>
    go_wp2_with fail
    go_ret2
    exact ⟨q, 32, HQ.out, by omega, rfl, HS.out.up (by omega), HG.out⟩
  | false =>
    go_wp2_with fail
    refine (pick_any 6 (by omega) (by omega) HS.out).mono ?_
    rintro e w3 ⟨x, hx, rfl, hs, hg⟩
    obtain ⟨N, rfl⟩ : ∃ N : Nat, x = N := ⟨x.toNat, by omega⟩
    have HS := Lib.hid hs
    have HG := Lib.hid (sgb_trans HG.out hg)
    clear hs hg
    go_wp2_with fail
    go_ret2
    exact ⟨q, N, HQ.out, by omega, rfl, HS.out.up (by omega), HG.out⟩
theorem sclC_okN {p c : Int} (hp : 2 ≤ p) (xs : List Int) : NumOk p (sclC p c xs) := fun j hj => by
  have hl : j < xs.length := by rw [sclC_len] at hj; exact hj
  have e : (sclC p c xs)[j] = c * xs[j]'hl % p := by simp [sclC]
  have h0 := Int.emod_nonneg (c * xs[j]'hl) (show p ≠ 0 by omega)
  have h1 := Int.emod_lt_of_pos (c * xs[j]'hl) (show 0 < p by omega)
  rw [e]
  exact ⟨h0, by omega⟩
theorem Vecs.snoc {p n : Int} {zz : List (List Int)} {zs : List Int} (h : Vecs p n zz) (h1 : Vec1 p n zs) : Vecs p n (zz ++ [zs]) := fun x hx => by
  rcases List.mem_append.1 hx with h2 | h2
  · exact h x h2
  · rw [List.mem_singleton.1 h2]; exact h1
/-- Rows that were drawn. -/
def RetDR (q N : Nat) (p : Nat) (a : Option Addr) (len cap K : Nat) (w : World) (e : Ending) (w' : World) : Prop :=
  ∃ v zz, e = .returned v ∧ zz.length ≤ 4 ∧ Vecs (q : Int) (N : Int) zz ∧ OwnRI w.heap.size w' v zz ∧ Sc p a len cap K w' ∧ w.grownBy w' (some p)
set_option maxRecDepth 100000 in
set_option maxHeartbeats 6400000 in
theorem l04DrawRows_any {p len cap K q N : Nat} {a : Option Addr} {w : World} (hq : IsPr (q : Int)) (hN : N ≤ 32) (hK : K ≤ 700000000) (h : Sc p a len cap K w) :
    Calls Try.prog 63 #[.pointer (some ⟨p, 0, none⟩), .int .i64 (q : Int), .int .i64 (N : Int)] w fun e w' => RetDR q N p a len cap (K + 300) w e w' := by
  obtain ⟨i0, hi0, iz0, iz1, iz2⟩ := info_parts info_r
  have hpw := h.2.1
  have q2 : 2 ≤ q := by have := hq.1; omega
  have q3 : q ≤ 251 := by have := hq.2.1; omega
  have H := Lib.hid (h.alloc (.cells #[] 24))
  have G0 : Hid (w.grownBy (w.alloc (.cells #[] 24)) (some p)) := sgb_alloc _ _ _
  have O0 := Lib.hid (OwnRI.made w w.heap.size (Nat.le_refl _))
  clear h hq
  go_enter Try.func63, Try.ntmps63
  go_wp2_with fail
  refine (pick_any 5 (by omega) (by omega) H.out).mono ?_
  rintro e w1 ⟨x, hx, rfl, hs, hg⟩
  obtain ⟨n0, rfl⟩ : ∃ n0 : Nat, x = n0 := ⟨x.toNat, by omega⟩
  have hn0 : n0 ≤ 4 := by omega
  have HS := Lib.hid hs
  have HG := Lib.hid (sgb_trans G0.out hg)
  have HO : Hid (OwnRI w.heap.size w1 (.slice (some ⟨w.heap.size, 0, none⟩) 0 0) []) := OwnRX.wide (OwnRX.fr O0.out (fr_gb hg) (.inr hpw)) hg.size (Nat.le_refl _)
  clear hs hg hx G0 O0 H
  go_wp2
  go_loopw [8, 7] (fun sk sv wr => ∃ (k : Nat) (zz : List (List Int)), k ≤ 4 ∧ sk = .int .i64 (k : Int) ∧ zz.length + k ≤ 4 ∧ Hid (Vecs (q : Int) (N : Int) zz) ∧ Hid (OwnRI w.heap.size wr sv zz) ∧ Hid (Sc p a len cap (K + 2 + 70 * (4 - k)) wr) ∧ Hid (w.grownBy wr (some p))) (fun sk _ _ => (intOf sk).toNat)
  case atStart => exact ⟨n0, [], hn0, rfl, by simpa using hn0, Lib.hid (fun z hz => by simp at hz), HO, Lib.hid (HS.out.up (by omega)), HG⟩
  case round =>
    obtain ⟨k, zz, hk, rfl, hkz, HVS, HO, HS, HG⟩ := hrel
    have hsz := HG.out.size
    obtain ⟨z, hz⟩ : ∃ z, zz.length = z := ⟨_, rfl⟩
    obtain ⟨sa, sc, rfl⟩ := HO.out.slice
    have HZL := Lib.hid hz
    rw [hz] at hkz
    simp only [hz] at HO ⊢
    clear hz
    cases k with
    | zero =>
      go_wp2
      go_ret
      exact ⟨_, zz, rfl, by rw [HZL.out]; omega, HVS.out, HO.out, HS.out.up (by omega), HG.out⟩
    | succ k =>
      have k1 : (0 : Int) < ((k + 1 : Nat) : Int) := by omega
      have vk : IntKind.i64.wrap (((k + 1 : Nat) : Int) - 1) = (k : Int) := by rw [IntWalk.i64_in _ (by omega)]; omega
      obtain ⟨L, hL⟩ := HO.out
      have HL := Lib.hid hL
      clear hL
      go_wp2_with fail
      refine (drawVector_any N q (by omega) (by omega) (by omega) HS.out).mono ?_
      rintro e w2 ⟨v2, us, rfl, hul, huz, ho, hs, hg⟩
      have HV : Hid (Vec1 (q : Int) (N : Int) us) := ⟨by omega, fun j hj => by have h := huz _ (List.getElem_mem hj); have := h.2 (by omega); omega⟩
      have HL := Lib.hid (HL.out.fr (fr_gb hg) (.inr hpw))
      have HS := Lib.hid hs
      have HG := Lib.hid (sgb_trans HG.out hg)
      obtain ⟨ua, uc, rfl⟩ := ho.slice
      simp only [hul] at ho ⊢
      have HU := Lib.hid ho
      have hz2 := hg.size
      clear ho hs hg hul huz
      go_wp2_with fail
      refine (one_any 3 (by omega) (by omega) HS.out).mono ?_
      rintro e w3 ⟨b, rfl, hs, hg⟩
      have HL := Lib.hid (HL.out.fr (fr_gb hg) (.inr hpw))
      have HS := Lib.hid hs
      have HG := Lib.hid (sgb_trans HG.out hg)
      have HU := Lib.hid (HU.out.keptP hg (fun j hj e => by have := (HU.out.out.lt j e).1; injection hj with hj; omega))
      have hz3 := hg.size
      clear hs hg
      cases b with
      | false =>
        go_wp2_with (at_builtin; refine wpList_append_place _ rfl _ _ 28 rfl w.heap.size 24 i0 (.slice none 0 0) 24 Try.underlying28 hi0 iz0 iz1 iz2 rfl _ z L rfl (by have h := HL.out.row; rw [HZL.out] at h; exact h.alloc _) ⟨w3.heap.size, 0, none⟩ _ (.slice ua N uc) rfl (row_val _ _ _) (fun y hy => by simp at hy; rw [hy]; rfl) (by unfold maxLen; omega) (by omega) (by rw [World.size_alloc]; omega) ?_; intro vz wz hrz hgz hvz)
        have hvb : ∀ b, Value.ownBlock (.slice sa z sc) = some b → w.heap.size ≤ b := fun b hb => (HL.out.row.lt b hb).1
        have hpz := OwnR.pushE HL.out HU.out (by omega) (by rw [HZL.out]; exact hrz) hgz (fun g hg => (hvz g hg).imp id (fun h => by rw [World.size_alloc] at h; omega))
        have HO2 := Lib.hid hpz
        have HVS2 := Lib.hid (HVS.out.snoc HV.out)
        have HG2 := Lib.hid (gb_pushS HG.out hgz hvb)
        have hlow := HS.out.2.1
        have HS2 : Hid (Sc p a len cap (K + 2 + 70 * (4 - k)) wz) := ((HS.out.alloc _).low ⟨hgz.os, hgz.tape, hgz.output, hgz.size, fun b hb => hgz.block b (by simp; omega) (fun e => by have := hvb b e.symm; omega)⟩).up (by omega)
        clear hpz hrz hgz hvz hvb hlow HO HL HU HV HVS HG HS
        go_wp2
        go_roundw
        case rel => exact ⟨k, zz ++ [us], by omega, by go_num, by rw [List.length_append, HZL.out]; simp; omega, HVS2, HO2, HS2, HG2⟩
        case measure => simp [intOf]; try omega
      | true =>
        by_cases h0 : z = 0
        · subst h0
          go_wp2_with (at_builtin; refine wpList_append_place _ rfl _ _ 28 rfl w.heap.size 24 i0 (.slice none 0 0) 24 Try.underlying28 hi0 iz0 iz1 iz2 rfl _ 0 L rfl (by have h := HL.out.row; rw [HZL.out] at h; exact h.alloc _) ⟨w3.heap.size, 0, none⟩ _ (.slice ua N uc) rfl (row_val _ _ _) (fun y hy => by simp at hy; rw [hy]; rfl) (by unfold maxLen; omega) (by omega) (by rw [World.size_alloc]; omega) ?_; intro vz wz hrz hgz hvz)
          have hvb : ∀ b, Value.ownBlock (.slice sa 0 sc) = some b → w.heap.size ≤ b := fun b hb => (HL.out.row.lt b hb).1
          have hpz := OwnR.pushE HL.out HU.out (by omega) (by rw [HZL.out]; exact hrz) hgz (fun g hg => (hvz g hg).imp id (fun h => by rw [World.size_alloc] at h; omega))
          have HO2 := Lib.hid hpz
          have HVS2 := Lib.hid (HVS.out.snoc HV.out)
          have HG2 := Lib.hid (gb_pushS HG.out hgz hvb)
          have hlow := HS.out.2.1
          have HS2 : Hid (Sc p a len cap (K + 2 + 70 * (4 - k)) wz) := ((HS.out.alloc _).low ⟨hgz.os, hgz.tape, hgz.output, hgz.size, fun b hb => hgz.block b (by simp; omega) (fun e => by have := hvb b e.symm; omega)⟩).up (by omega)
          clear hpz hrz hgz hvz hvb hlow HO HL HU HV HVS HG HS
          go_wp2
          go_roundw
          case rel => exact ⟨k, zz ++ [us], by omega, by go_num, by rw [List.length_append, HZL.out]; simp; omega, HVS2, HO2, HS2, HG2⟩
          case measure => simp [intOf]; try omega
        · have z1 : (0 : Int) < (z : Int) := by omega
          have hzl := HZL.out
          obtain ⟨g, gc, e, hg0, hg1, hg2, hc⟩ : ∃ g cap, (.slice sa z sc : Value) = .slice (some ⟨g, 0, none⟩) zz.length cap ∧ w.heap.size ≤ g ∧ g < wr.heap.size ∧ g < w3.heap.size ∧ ∀ j u, L[j]? = some u → w3.cell? ⟨g, j, none⟩ = some u := by
            rcases HL.out.form with ⟨e, _⟩ | h
            · rw [e] at hzl; simp at hzl; omega
            · exact h
          simp only [Value.slice.injEq] at e
          obtain ⟨rfl, -, rfl⟩ := e
          have hL0 : 0 < L.length := by rw [HL.out.len]; omega
          obtain ⟨r0, hr0⟩ : ∃ r0, L[0]? = some r0 := ⟨_, List.getElem?_eq_getElem hL0⟩
          obtain ⟨ys, hys⟩ : ∃ ys, zz[0]? = some ys := ⟨_, List.getElem?_eq_getElem (by omega)⟩
          have hown := HL.out.own 0 r0 ys hr0 hys
          have hV0 := HVS.out ys (List.mem_of_getElem? hys)
          have hyl : ys.length = N := by have := hV0.1; omega
          obtain ⟨ra, rc, rfl⟩ := hown.slice
          have d3 := hc 0 _ hr0
          rw [hyl] at d3
          have hyi := hown.at (by omega)
          rw [hyl] at hyi
          have HYI := Lib.hid hyi
          have HYV := Lib.hid hV0
          have HYL := Lib.hid hyl
          have HR0 := Lib.hid hr0
          have HYS := Lib.hid hys
          have ngp : ¬ g = p := by omega
          clear hc hown hV0 hyi hyl hr0 hys hL0 hzl
          go_wp2_with fail
          go_region_held3 (fun w' => w'.cell? ⟨g, 0, none⟩ = some (.slice ra N rc)) (go_keep)
            (first
              | (go_at_call 64; go_loud (refine (pick_any (K := K + 2 + 70 * (4 - (k + 1)) + 2 * N + 2) (q : Int) (by omega) (by omega) (by first | with_reducible exact HS.out | with_reducible exact Sc.drew HS.out)).mono ?_; rintro e w4 ⟨x, hx, rfl, hs, hg'⟩; have hg : w3.grownBy w4 (some p) := ⟨hg'.os, hg'.tape, hg'.output, hg'.size, hg'.block⟩; have d4 := (gbv_cell hg hg2 (fun k hk e => by injection hk with hk; omega) 0).trans d3; have HL4 := Lib.hid (HL.out.fr (fr_gb hg) (.inr hpw))))
              | (go_at_call 59; go_loud (have hy4 : IntsAt w4 (.slice ra N rc) ys := (by have h := (HL4.out.own 0 _ ys HR0.out HYS.out).at (by rw [HYL.out]; omega); rw [HYL.out] at h; exact h); refine (specScl_any (c := x) (p := (q : Int)) (xs := ys) (by omega) (by omega) (by omega) (by omega) (by first | with_reducible exact hy4 | with_reducible exact IntsAt.drew hy4) (by rw [HYL.out]; omega) HYV.out.2).mono ?_; rintro e w5 ⟨v5, rfl, ho5, hb5'⟩; have hb5 : Below w4.heap.size w4 w5 := (by first | with_reducible exact hb5' | with_reducible exact undrew hb5'); obtain ⟨ta, tc, rfl⟩ := ho5.slice; have d5 := (hb5.cell (p := ⟨g, 0, none⟩) (show g < w4.heap.size by have := hg.size; omega)).trans d4; simp only [sclC_len, HYL.out] at ho5 ⊢)))
          all_goals
            have HU := Lib.hid (ho5.mono (show wr.heap.size ≤ _ by have := hg.size; first | omega | (simp; omega)))
            have HV : Hid (Vec1 (q : Int) (N : Int) (sclC (q : Int) x ys)) := ⟨by rw [sclC_len, HYL.out], sclC_okN (by omega) _⟩
            have HL := Lib.hid (HL4.out.on hb5)
            have HS := Lib.hid (hs.below hb5)
            have HG := Lib.hid (sgb_trans (sgb_trans HG.out hg) (gb_of_below hb5))
            have hz5 : w3.heap.size ≤ w5.heap.size := by have h1 := hg.size; have h2 := hb5.size; omega
            clear ho5 hb5 hb5' hs hg hg' HL4 HYI HYV HYL HR0 HYS d5 d4 d3
            go_wp2_with (at_builtin; refine wpList_append_place _ rfl _ _ 28 rfl w.heap.size 24 i0 (.slice none 0 0) 24 Try.underlying28 hi0 iz0 iz1 iz2 rfl _ z L rfl (by have h := HL.out.row; rw [HZL.out] at h; exact h.alloc _) ⟨w5.heap.size, 0, none⟩ _ (.slice ta N tc) rfl (row_val _ _ _) (fun y hy => by simp at hy; rw [hy]; rfl) (by unfold maxLen; omega) (by omega) (by rw [World.size_alloc]; omega) ?_; intro vz wz hrz hgz hvz)
            have hvb : ∀ b, Value.ownBlock (.slice (some ⟨g, 0, none⟩) z sc) = some b → w.heap.size ≤ b := fun b hb => (HL.out.row.lt b hb).1
            have hpz := OwnR.pushE HL.out HU.out (by omega) (by rw [HZL.out]; exact hrz) hgz (fun g hg => (hvz g hg).imp id (fun h => by rw [World.size_alloc] at h; omega))
            have HO2 := Lib.hid hpz
            have HVS2 := Lib.hid (HVS.out.snoc HV.out)
            have HG2 := Lib.hid (gb_pushS HG.out hgz hvb)
            have hlow := HS.out.2.1
            have HS2 : Hid (Sc p a len cap (K + 2 + 70 * (4 - k)) wz) := ((HS.out.alloc _).low ⟨hgz.os, hgz.tape, hgz.output, hgz.size, fun b hb => hgz.block b (by simp; omega) (fun e => by have := hvb b e.symm; omega)⟩).up (by omega)
            clear hpz hrz hgz hvz hvb hlow HO HL HU HV HVS HG HS
            go_wp2
            go_roundw
            case rel => exact ⟨k, zz ++ [sclC (q : Int) x ys], by omega, by go_num, by rw [List.length_append, HZL.out]; simp; omega, HVS2, HO2, HS2, HG2⟩
            case measure => simp [intOf]; try omega
end Go.Proofs.Ytpimnngomodnhaa

namespace Go.Proofs.Ytpimnngomodnhaa
open Go.RowKit
open Lin
set_option linter.unusedVariables false
set_option linter.unusedSectionVars false

/-- A space that was drawn. -/
def RetDO (q N : Nat) [NeZero q] (p : Nat) (a : Option Addr) (len cap K : Nat) (w : World) (e : Ending) (w' : World) : Prop :=
  ∃ (v : Value) (m : Nat) (A : Mt q), m ≤ 4 ∧ e = .returned (.agg #[.int .i64 (q : Int), .int .i64 (N : Int), v]) ∧ OwnRI w.heap.size w' v (basOf m N A) ∧ Sc p a len cap K w' ∧ w.grownBy w' (some p)
theorem fit_vecs {p : Int} {N : Nat} {zz : List (List Int)} (h : Vecs p (N : Int) zz) (hl : zz.length ≤ 64) (hN : N ≤ 64) : FitR zz := by
  refine ⟨by omega, ?_⟩
  have e : tot zz = zz.length * N := by
    clear hl
    induction zz with
    | nil => simp [tot]
    | cons z zz ih =>
      have h1 := (h z (by simp)).1
      have h2 := ih (fun x hx => h x (by simp [hx]))
      have h3 : tot (z :: zz) = z.length + tot zz := by simp [tot]
      rw [h3, h2, List.length_cons, Nat.succ_mul]; omega
  rw [e]
  have := Nat.mul_le_mul hl hN
  omega
set_option maxRecDepth 100000 in
set_option maxHeartbeats 3200000 in
theorem l04DrawOk_any {p len cap K q N : Nat} [NeZero q] {a : Option Addr} {w : World} (hq : IsPr (q : Int)) (hN : N ≤ 32) (hK : K ≤ 700000000) (h : Sc p a len cap K w) :
    Calls Try.prog 91 #[.pointer (some ⟨p, 0, none⟩), .int .i64 (q : Int), .int .i64 (N : Int)] w fun e w' => RetDO q N p a len cap (K + 300) w e w' := by
  have hpw := h.2.1
  have HQ := Lib.hid hq
  have HS := Lib.hid (h.alloc (.cells #[.int .i64 0, .int .i64 0, .slice none 0 0] 32))
  have Pr0 := Lib.hid (PtV.new w 0 0 (.slice none 0 0) 32)
  have Fr0 : Hid (Fz (w.alloc (.cells #[.int .i64 0, .int .i64 0, .slice none 0 0] 32)) w.heap.size) := Fz.new w _ _
  have hz0 : (w.alloc (.cells #[.int .i64 0, .int .i64 0, .slice none 0 0] 32)).heap.size = w.heap.size + 1 := by simp
  have G0 : Hid (w.grownBy (w.alloc (.cells #[.int .i64 0, .int .i64 0, .slice none 0 0] 32)) (some p)) := sgb_alloc _ _ _
  clear h hq
  go_enter Try.func91, Try.ntmps91
  go_wp2_with fail
  refine (l04DrawRows_any HQ.out hN (by omega) HS.out).mono ?_
  rintro e w1 ⟨v1, zz, rfl, hzl, hzv, ho, hs, hg⟩
  have hfit := fit_vecs hzv (by omega) (by omega)
  have HD := Lib.hid ((ho.atD hfit).mat hzv)
  have hz1 := hg.size
  rw [hz0] at hz1
  have Fr : Hid (Fz w1 w.heap.size) := Fr0.out.gb Pr0.out.1 hg (by omega)
  have Pr := Lib.hid (Pr0.out.gb hg (by omega))
  have HG := Lib.hid (sgb_trans G0.out hg)
  have HS := Lib.hid hs
  obtain ⟨M, hM⟩ : ∃ M, zz.length = M := ⟨_, rfl⟩
  obtain ⟨A, hA⟩ : ∃ A : Mt q, mat q zz = A := ⟨_, rfl⟩
  rw [hM, hA] at HD
  rw [hM] at hzl
  have hMN : M * N ≤ 1048576 := Nat.le_trans (Nat.mul_le_mul hzl hN) (by decide)
  clear ho hs hg hzv hfit hM hA Pr0 Fr0 G0
  go_wp2_with fail
  refine (l04Space_any HD.out HQ.out (by omega) (by omega) hMN).mono ?_
  rintro e w2 ⟨v2, rfl, ho, hb⟩
  have hz2 := hb.size
  have Fr : Hid (Fz w2 w.heap.size) := Fr.out.on Pr.out.1 hb
  have Pr := Lib.hid (Pr.out.on hb)
  have HG := Lib.hid (sgb_trans HG.out (gb_of_below hb))
  have HS := Lib.hid (HS.out.below hb)
  have HO := Lib.hid ho
  obtain ⟨va, vc, rfl⟩ := ho.slice
  have HQ3 := Lib.hid (Pr.out.set3 q N (.slice va (basOf M N A).length vc))
  obtain ⟨lR, r0, r1, r2⟩ := Pr.out
  have f0 := Fr.out 0
  have f1 := Fr.out 1
  have f2 := Fr.out 2
  clear ho hb
  go_wp2_with fail
  obtain ⟨_, q0, q1, q2⟩ := HQ3.out
  refine bodyPost_ret (v := .agg #[.int .i64 q, .int .i64 N, .slice va (basOf M N A).length vc]) (by simp [results, Try.results91, go_sem, q0, q1, q2]) rfl ⟨_, M, A, hzl, rfl, ?_, ?_, ?_⟩
  · refine OwnRI.mono (B := w1.heap.size) ?_ (by omega)
    iterate 3 (refine OwnRI.setOut ?_ (by omega) _)
    exact HO.out
  · iterate 3 (refine Sc.setn ?_ (by omega) _)
    exact HS.out.up (by omega)
  · iterate 3 (refine gb_setn ?_ (by omega) _)
    exact HG.out
end Go.Proofs.Ytpimnngomodnhaa

namespace Go.Proofs.Ytpimnngomodnhaa
open Go.RowKit
open Lin
set_option linter.unusedVariables false
set_option linter.unusedSectionVars false

/-- What a call keeps that draws from block p and writes into blocks from B on and before E. -/
def K3 (p B E : Nat) (w w' : World) : Prop :=
  w'.os = w.os ∧ w'.tape = w.tape ∧ w'.output = w.output ∧ w.heap.size ≤ w'.heap.size ∧ ∀ k, k < w.heap.size → k ≠ p → (k < B ∨ E ≤ k) → w'.heap[k]? = w.heap[k]?
theorem K3.refl (p B E : Nat) (w : World) : K3 p B E w w := ⟨rfl, rfl, rfl, Nat.le_refl _, fun _ _ _ _ => rfl⟩
theorem K3.gb {p B E : Nat} {w0 w w' : World} {r : Option Nat} (h : K3 p B E w0 w) (hg : w.grownBy w' r) (hr : ∀ g, r = some g → g = p ∨ (B ≤ g ∧ g < E) ∨ w0.heap.size ≤ g) : K3 p B E w0 w' :=
  ⟨hg.os.trans h.1, hg.tape.trans h.2.1, hg.output.trans h.2.2.1, Nat.le_trans h.2.2.2.1 hg.size, fun k hk hp hd =>
    (hg.block k (Nat.lt_of_lt_of_le hk h.2.2.2.1) (fun e => by rcases hr k e.symm with h1 | h1 | h1 <;> omega)).trans (h.2.2.2.2 k hk hp hd)⟩
theorem K3.draw {p B E : Nat} {w0 w w' : World} (h : K3 p B E w0 w) (hg : w.grownBy w' (some p)) : K3 p B E w0 w' := h.gb hg (fun g e => .inl (Option.some.inj e).symm)
theorem K3.al {p B E : Nat} {w0 w : World} (h : K3 p B E w0 w) (o : Obj) : K3 p B E w0 (w.alloc o) := h.gb (sgb_alloc w o none) (fun g e => by cases e)
theorem K3.set {p B E : Nat} {w0 w : World} (h : K3 p B E w0 w) {b o : Nat} (x : Value) (hb : (B ≤ b ∧ b < E) ∨ w0.heap.size ≤ b) : K3 p B E w0 (w.setCell ⟨b, o, none⟩ x) :=
  h.gb (gb_set (grown_refl w (some b)) x) (fun g e => by rw [← Option.some.inj e]; exact .inr hb)
theorem K3.below {p B E : Nat} {w0 w : World} (h : K3 p B E w0 w) (hp : p < w0.heap.size) {D : Nat} (hD : D ≤ p) (hB : D ≤ B) : Below D w0 w :=
  ⟨h.1, h.2.1, h.2.2.1, h.2.2.2.1, fun k hk => h.2.2.2.2 k (by omega) (by omega) (by omega)⟩
theorem K3.own {p B E D : Nat} {w0 w : World} {v : Value} {zs : List Int} (h : K3 p B E w0 w) (ho : OwnI D w0 v zs) (hE : E ≤ D) (hp : p < D) : OwnI D w v zs := by
  obtain ⟨hx, ⟨rfl, hn⟩ | ⟨g, cap, cur, rfl, hB, hcur, r⟩⟩ := ho
  · exact ⟨hx, .inl ⟨rfl, hn⟩⟩
  · refine ⟨hx, .inr ⟨g, cap, cur, rfl, hB, ?_, r⟩⟩
    rw [h.2.2.2.2 g (Array.getElem?_eq_some_iff.1 hcur).1 (by omega) (by omega)]; exact hcur
theorem OwnRX.setOff {B E : Nat} {w : World} {v : Value} {zz : List (List Int)} (h : OwnRX B E w v zz) {b o : Nat} (hb : b < B ∨ E ≤ b) (x : Value) : OwnRX B E (w.setCell ⟨b, o, none⟩ x) v zz :=
  OwnRX.fr h (setC_cells w b o x) (by omega)
theorem tot_le {n : Nat} : ∀ zz : List (List Int), (∀ zs ∈ zz, zs.length ≤ n) → tot zz ≤ zz.length * n
  | [], _ => by simp [tot]
  | z :: zz, h => by
    have h1 := h z (by simp)
    have h2 := tot_le zz (fun x hx => h x (by simp [hx]))
    have h3 : tot (z :: zz) = z.length + tot zz := by simp [tot]
    rw [h3, List.length_cons, Nat.succ_mul]; omega
theorem fit_le {zz : List (List Int)} (hl : zz.length ≤ 64) (h : ∀ zs ∈ zz, zs.length ≤ 64) : FitR zz := by
  refine ⟨by omega, Nat.le_trans (tot_le zz h) ?_⟩
  have := Nat.mul_le_mul hl (Nat.le_refl 64)
  omega
/-- A number of a row is written. -/
theorem OwnR.setRow {B E i g n c : Nat} {w : World} {v : Value} {L : List Value} {zz : List (List Int)} {zs : List Int} (h : OwnR B E w v L zz) (h1 : L[i]? = some (.slice (some ⟨g, 0, none⟩) n c)) (h2 : zz[i]? = some zs) (x : Int) :
    OwnR B E (w.setCell ⟨g, 0, none⟩ (.int .i64 x)) v L (zz.set i (zs.set 0 x)) := by
  have ho := h.own i _ _ h1 h2
  have hn : n = zs.length := by obtain ⟨a', c', e⟩ := ho.slice; injection e
  subst hn
  have hlt := ho.out.lt g rfl
  have hst := (World.ownsRow.stored (u := .int .i64 x) ho.out 0).1
  have hs : OwnI B (w.setCell ⟨g, 0, none⟩ (.int .i64 x)) (.slice (some ⟨g, 0, none⟩) zs.length c) (zs.set 0 x) := by
    unfold OwnI
    rw [List.length_set]
    have e : iv (zs.set 0 x) = (iv zs).set 0 (.int .i64 x) := by unfold iv; rw [List.map_set]
    rw [e]
    exact hst
  have hgs := gb_set (grown_refl w (some g)) (o := 0) (.int .i64 x)
  refine ⟨by rw [List.length_set]; exact h.len, ?_, fun j u ys hj hy => ?_, h.off, h.sep, by simpa using h.le, h.top, h.tops⟩
  · rw [List.length_set]
    refine World.ownsRow.kept h.row hgs ?_
    cases hv : v.ownBlock with
    | none => exact .inl rfl
    | some b => exact .inr (fun e => h.off i _ g h1 rfl (by rw [hv, e]))
  · by_cases e : j = i
    · subst e
      rw [h1] at hj
      obtain rfl := Option.some.inj hj
      have hi : j < zz.length := (List.getElem?_eq_some_iff.1 h2).1
      rw [List.getElem?_set_self hi] at hy
      obtain rfl := Option.some.inj hy
      exact hs
    · rw [List.getElem?_set_ne (fun h => e h.symm)] at hy
      have hu := h.own j u ys hj hy
      refine hu.keptP hgs (fun k hk hub => ?_)
      obtain rfl := Option.some.inj hk
      exact e (h.sep j i u _ g hj h1 hub rfl)
/-- A space that was bent. -/
def RetBd (p B E : Nat) (w : World) (e : Ending) (w' : World) : Prop :=
  ∃ (P N : Int) (v : Value) (zz : List (List Int)), e = .returned (.agg #[.int .i64 P, .int .i64 N, v]) ∧ OwnRI B w' v zz ∧ zz.length ≤ 40 ∧ (∀ zs ∈ zz, zs.length ≤ 40) ∧ K3 p B E w w'
/-- A call has made two variables, a space and an empty one, behind block w0.heap.size. -/
structure SpW (w0 : World) (p : Nat) (a : Option Addr) (len cap K B E : Nat) (w : World) (P N : Int) (v : Value) (zz : List (List Int)) : Prop where
  pr : PtV w (w0.heap.size + 1) 0 0 (.slice none 0 0)
  fr : Fz w (w0.heap.size + 1)
  pm : PtV w w0.heap.size P N v
  fm : Fz w w0.heap.size
  own : OwnRX B E w v zz
  sc : Sc p a len cap K w
  k3 : K3 p B E w0 w
  pB : p < B
  BE : E ≤ w0.heap.size
  pw : p < w0.heap.size
section
variable {w0 w w' : World} {p : Nat} {a : Option Addr} {len cap K B E : Nat} {P N : Int} {v : Value} {zz : List (List Int)}
theorem SpW.draw (h : SpW w0 p a len cap K B E w P N v zz) {K' : Nat} (hg : w.grownBy w' (some p)) (hs : Sc p a len cap K' w') : SpW w0 p a len cap K' B E w' P N v zz := by
  have h1 := h.pw; have h2 := h.pB
  exact ⟨h.pr.gb hg (by omega), h.fr.gb h.pr.1 hg (by omega), h.pm.gb hg (by omega), h.fm.gb h.pm.1 hg (by omega), h.own.fr (fr_gb hg) (.inr h2), hs, h.k3.draw hg, h2, h.BE, h1⟩
theorem SpW.setM0 (h : SpW w0 p a len cap K B E w P N v zz) (x : Int) : SpW w0 p a len cap K B E (w.setCell ⟨w0.heap.size, 0, none⟩ (.int .i64 x)) x N v zz := by
  have h1 := h.pw; have h2 := h.BE
  have f := setC_cells w w0.heap.size 0 (.int .i64 x)
  obtain ⟨l, c0, c1, c2⟩ := h.pm
  refine ⟨h.pr.fr f (by omega), h.fr.set _, ⟨by simpa using l, World.cell?_setCell_same' _ _ _ (by rw [c0]; rfl), ?_, ?_⟩, h.fm.set _, h.own.setOff (.inr h2) _, h.sc.setn (by omega) _, h.k3.set _ (.inr (Nat.le_refl _)), h.pB, h2, h1⟩
  · exact (World.cell?_setCell_other _ _ _ _ (by intro k; injection k with _ k _; omega)).trans c1
  · exact (World.cell?_setCell_other _ _ _ _ (by intro k; injection k with _ k _; omega)).trans c2
theorem SpW.setM1 (h : SpW w0 p a len cap K B E w P N v zz) (x : Int) : SpW w0 p a len cap K B E (w.setCell ⟨w0.heap.size, 1, none⟩ (.int .i64 x)) P x v zz := by
  have h1 := h.pw; have h2 := h.BE
  have f := setC_cells w w0.heap.size 1 (.int .i64 x)
  obtain ⟨l, c0, c1, c2⟩ := h.pm
  refine ⟨h.pr.fr f (by omega), h.fr.set _, ⟨by simpa using l, ?_, World.cell?_setCell_same' _ _ _ (by rw [c1]; rfl), ?_⟩, h.fm.set _, h.own.setOff (.inr h2) _, h.sc.setn (by omega) _, h.k3.set _ (.inr (Nat.le_refl _)), h.pB, h2, h1⟩
  · exact (World.cell?_setCell_other _ _ _ _ (by intro k; injection k with _ k _; omega)).trans c0
  · exact (World.cell?_setCell_other _ _ _ _ (by intro k; injection k with _ k _; omega)).trans c2
theorem SpW.setRow (h : SpW w0 p a len cap K B E w P N v zz) {L : List Value} {i g n c : Nat} {zs : List Int} (hL : OwnR B E w v L zz) (h1 : L[i]? = some (.slice (some ⟨g, 0, none⟩) n c)) (h2 : zz[i]? = some zs) (x : Int) :
    SpW w0 p a len cap K B E (w.setCell ⟨g, 0, none⟩ (.int .i64 x)) P N v (zz.set i (zs.set 0 x)) := by
  have k1 := hL.tops i _ g h1 rfl
  have k2 := (hL.lo h1 (g := g) rfl).1
  have k3 := h.BE; have k4 := h.pB
  have f := setC_cells w g 0 (.int .i64 x)
  exact ⟨h.pr.fr f (by omega), h.fr.set _, h.pm.fr f (by omega), h.fm.set _, ⟨L, hL.setRow h1 h2 x⟩, h.sc.setn (by omega) _, h.k3.set _ (.inl ⟨k2, k1⟩), k4, k3, h.pw⟩
theorem SpW.ret (h : SpW w0 p a len cap K B E w P N v zz) (hl : zz.length ≤ 40) (hr : ∀ zs ∈ zz, zs.length ≤ 40) :
    RetBd p B E w0 (.returned (.agg #[.int .i64 P, .int .i64 N, v])) (((w.setCell ⟨w0.heap.size + 1, 0, none⟩ (.int .i64 P)).setCell ⟨w0.heap.size + 1, 1, none⟩ (.int .i64 N)).setCell ⟨w0.heap.size + 1, 2, none⟩ v) := by
  have h2 := h.BE
  refine ⟨P, N, v, zz, rfl, ?_, hl, hr, ?_⟩
  · have hp := h.pr.1
    exact OwnRX.wide (((h.own.setOff (.inr (by omega)) _).setOff (.inr (by omega)) _).setOff (.inr (by omega)) _) (by simp only [World.size_setCell]; omega) (Nat.le_refl _)
  · exact ((h.k3.set _ (.inr (by omega))).set _ (.inr (by omega))).set _ (.inr (by omega))
end
theorem min_any (a b : Int) (w : World) :
    Calls Try.prog 123 #[.int .i64 a, .int .i64 b] w fun e w' => e = .returned (.int .i64 (if a < b then a else b)) ∧ w = w' := by
  by_cases h : a < b
  · rw [if_pos h]
    go_enter Try.func123, Try.ntmps123
    go_wp2
    go_ret
    exact ⟨rfl, rfl⟩
  · rw [if_neg h]
    have h' : decide (a < b) = false := by simpa using h
    clear h
    go_enter Try.func123, Try.ntmps123
    go_wp2
    go_ret
    exact ⟨rfl, rfl⟩
end Go.Proofs.Ytpimnngomodnhaa

namespace Go.Proofs.Ytpimnngomodnhaa
open Go.RowKit
open Lin
set_option linter.unusedVariables false
set_option linter.unusedSectionVars false

theorem PtV.gbvN {a w : World} {L : Nat} {g : Option Nat} {p n : Int} {v : Value} (h : PtV a L p n v) (hg : a.grownBy w g) (hne : ∀ k, g = some k → k ≠ L) : PtV w L p n v := by
  rcases g with _ | k
  · exact h.on ⟨hg.os, hg.tape, hg.output, hg.size, fun i hi => hg.block i hi (by simp)⟩
  · exact h.gb hg (fun e => hne k rfl e.symm)
/-- A variable that has been made and not yet been filled: its block, apart from a row's. -/
theorem OwnR.setNot {B E b o : Nat} {w : World} {v : Value} {L : List Value} {zz : List (List Int)} (h : OwnR B E w v L zz) (h1 : v.ownBlock ≠ some b) (h2 : ∀ (i : Nat) (u : Value), L[i]? = some u → u.ownBlock ≠ some b) (x : Value) : OwnR B E (w.setCell ⟨b, o, none⟩ x) v L zz := by
  have hgs := gb_set (grown_refl w (some b)) (o := o) x
  refine ⟨h.len, ?_, fun j u ys hj hy => (h.own j u ys hj hy).keptP hgs (fun k hk hub => h2 j u hj (by rw [hub, ← Option.some.inj hk])), h.off, h.sep, by simpa using h.le, h.top, h.tops⟩
  refine World.ownsRow.kept h.row hgs ?_
  cases hv : v.ownBlock with
  | none => exact .inl rfl
  | some k => exact .inr (fun e => h1 (by rw [hv]; exact e))
/-- A row of numbers of its own, made behind all rows, is put at the end. -/
theorem OwnR.pushL {B E : Nat} {w1 w2 : World} {v v2 u : Value} {zz : List (List Int)} {zs : List Int} {L : List Value} (h : OwnR B E w1 v L zz) (hu : OwnI E w1 u zs) (hB : B ≤ E)
    (hr : w2.ownsRow B 24 1 v2 (zz.length + 1) (L ++ [u])) (hg : w1.grownBy w2 v.ownBlock) (hv : ∀ g, v2.ownBlock = some g → v.ownBlock = some g ∨ (E ≤ g ∧ u.ownBlock ≠ some g)) : OwnR B w2.heap.size w2 v2 (L ++ [u]) (zz ++ [zs]) := by
  have hug : ∀ g, u.ownBlock = some g → E ≤ g ∧ g < w1.heap.size := fun g hg => hu.out.lt g hg
  have spl : ∀ (i : Nat) (x : Value), (L ++ [u])[i]? = some x → L[i]? = some x ∨ (i = L.length ∧ x = u) := fun i x hx => by
    rcases Nat.lt_trichotomy i L.length with hi | hi | hi
    · rw [List.getElem?_append_left hi] at hx; exact .inl hx
    · subst hi; rw [List.getElem?_append_right (Nat.le_refl _)] at hx; simp at hx; exact .inr ⟨rfl, hx.symm⟩
    · rw [List.getElem?_append_right (by omega)] at hx
      obtain ⟨k, hk⟩ : ∃ k, i - L.length = k + 1 := ⟨i - L.length - 1, by omega⟩
      rw [hk] at hx; simp at hx
  refine ⟨by simp [h.len], by simpa using hr, fun i x ys h1 h2 => ?_, fun i x g h1 h2 h3 => ?_, fun i j x y g h1 h2 h3 h4 => ?_, Nat.le_refl _, fun g hg => (hr.lt g hg).2, fun i x g h1 h2 => ?_⟩
  · rcases spl i x h1 with h1' | ⟨rfl, rfl⟩
    · have hi : i < zz.length := by rw [← h.len]; exact (List.getElem?_eq_some_iff.1 h1').1
      rw [List.getElem?_append_left hi] at h2
      exact (h.own i x ys h1' h2).keptP hg fun k hk hx => h.off i x k h1' hx hk
    · rw [h.len, List.getElem?_append_right (Nat.le_refl _)] at h2
      simp at h2
      subst h2
      exact (hu.mono hB).keptP hg fun k hk hx => by have := (hug k hx).1; have := h.top k hk; omega
  · rcases spl i x h1 with h1' | ⟨rfl, rfl⟩
    · rcases hv g h3 with e | e
      · exact h.off i x g h1' h2 e
      · have := h.tops i x g h1' h2; omega
    · rcases hv g h3 with e | e
      · have := hug g h2; have := h.top g e; omega
      · exact e.2 h2
  · rcases spl i x h1 with h1' | ⟨rfl, rfl⟩
    · rcases spl j y h2 with h2' | ⟨rfl, rfl⟩
      · exact h.sep i j x y g h1' h2' h3 h4
      · have := h.tops i x g h1' h3; have := hug g h4; omega
    · rcases spl j y h2 with h2' | ⟨rfl, rfl⟩
      · have := h.tops j y g h2' h4; have := hug g h3; omega
      · rfl
  · have hsz := hg.size
    rcases spl i x h1 with h1' | ⟨rfl, rfl⟩
    · have := h.tops i x g h1' h2; have := h.le; omega
    · have := hug g h2; omega
theorem row_valN (w : World) (u : Value) (t : TypeId) (n : Nat) (hn : n = w.heap.size) : ∀ (j : Nat) (x : Value), [u][j]? = some x → (w.alloc (.cells #[u] t)).cell? ((⟨n, 0, none⟩ : Addr).add j) = some x := by
  subst hn; exact row_val w u t
theorem OwnR.rowOn {B E z : Nat} {w w' : World} {v : Value} {L : List Value} {zz : List (List Int)} (h : OwnR B E w v L zz) (hz : zz.length = z) (hb : Below w.heap.size w w') : w'.ownsRow B 24 1 v z L := by
  have h1 := (h.on hb).row
  rw [hz] at h1; exact h1
theorem SpW.push {w0 w W w5 : World} {p : Nat} {a : Option Addr} {len cap K B E n gg z cp : Nat} {P N : Int} {v : Value} {zz : List (List Int)} {L : List Value} {zs : List Int} (h : SpW w0 p a len cap K B E w P N v zz) (hL : OwnR B E w v L zz)
    (hz : zz.length = z) (hb : Below w.heap.size w W) (hu : OwnI w.heap.size W (.slice (some ⟨w.heap.size, 0, none⟩) n n) zs) (hr : w5.ownsRow B 24 1 (.slice (some ⟨gg, 0, none⟩) (z + 1) cp) (z + 1) (L ++ [.slice (some ⟨w.heap.size, 0, none⟩) n n]))
    (hg : W.grownBy w5 v.ownBlock) (hat : v.ownBlock = some gg ∨ gg = w.heap.size + 2) (hB : B ≤ w0.heap.size) (hl : z ≤ 32) (hrow : ∀ ys ∈ zz, ys.length ≤ 40) (hzs : zs.length ≤ 40) :
    RetBd p B E w0 (.returned (.agg #[.int .i64 P, .int .i64 N, .slice (some ⟨gg, 0, none⟩) (z + 1) cp])) ((((w5.setCell ⟨w0.heap.size, 2, none⟩ (.slice (some ⟨gg, 0, none⟩) (z + 1) cp)).setCell ⟨w0.heap.size + 1, 0, none⟩ (.int .i64 P)).setCell ⟨w0.heap.size + 1, 1, none⟩ (.int .i64 N)).setCell ⟨w0.heap.size + 1, 2, none⟩ (.slice (some ⟨gg, 0, none⟩) (z + 1) cp)) := by
  have h1 := h.BE
  have h2 := h.pr.1
  have hBw : B ≤ w.heap.size := by omega
  have hO := OwnR.pushL (zs := zs) ((hL.on hb).wide (show E ≤ w.heap.size by omega) hb.size) hu hBw (by rw [hz]; exact hr) hg (fun g hgg => by
    simp only [Value.ownBlock, Option.some.injEq] at hgg
    subst hgg
    rcases hat with k | k
    · exact .inl k
    · exact .inr ⟨by omega, by rw [k]; simp [Value.ownBlock]⟩)
  have hgg : gg < E ∨ w.heap.size < gg := by
    rcases hat with k | k
    · exact .inl (hL.top gg k)
    · exact .inr (by omega)
  have hnb : ∀ b, w0.heap.size ≤ b → b ≤ w0.heap.size + 1 → (Value.slice (some ⟨gg, 0, none⟩) (z + 1) cp).ownBlock ≠ some b ∧ ∀ (i : Nat) (u : Value), (L ++ [.slice (some ⟨w.heap.size, 0, none⟩) n n])[i]? = some u → u.ownBlock ≠ some b := fun b b0 b1 => by
    refine ⟨by simp only [Value.ownBlock]; intro e; have := Option.some.inj e; omega, fun i u hi e => ?_⟩
    rcases List.mem_append.1 (List.mem_of_getElem? hi) with hm | hm
    · obtain ⟨j, hj⟩ := List.getElem?_of_mem hm
      have := hL.tops j u b hj e
      omega
    · rw [List.mem_singleton.1 hm] at e
      simp only [Value.ownBlock] at e
      have := Option.some.inj e
      omega
  have k0 := hnb w0.heap.size (Nat.le_refl _) (by omega)
  have k1 := hnb (w0.heap.size + 1) (by omega) (Nat.le_refl _)
  have hk : K3 p B E w0 w5 := (h.k3.gb (gb_of_below (g := none) hb) (fun g e => by cases e)).gb hg (fun g e => .inr (.inl ⟨(hL.row.lt g e).1, hL.top g e⟩))
  have hlen : (zz ++ [zs]).length ≤ 40 := by rw [List.length_append, hz]; simp; omega
  have hrw : ∀ ys ∈ zz ++ [zs], ys.length ≤ 40 := fun ys hy => by
    rcases List.mem_append.1 hy with m | m
    · exact hrow ys m
    · rw [List.mem_singleton.1 m]; exact hzs
  refine ⟨P, N, _, zz ++ [zs], rfl, OwnRX.wide (B := B) (E := w5.heap.size) ⟨_, (((hO.setNot k0.1 k0.2 _).setNot k1.1 k1.2 _).setNot k1.1 k1.2 _).setNot k1.1 k1.2 _⟩ (by simp only [World.size_setCell]; exact Nat.le_refl _) (Nat.le_refl _), hlen, hrw, ?_⟩
  exact (((hk.set _ (.inr (Nat.le_refl _))).set _ (.inr (by omega))).set _ (.inr (by omega))).set _ (.inr (by omega))
theorem min_40 {n : Nat} (h : n ≤ 32) (w : World) : Calls Try.prog 123 #[.int .i64 40, .int .i64 (n : Int)] w fun e w' => e = .returned (.int .i64 (n : Int)) ∧ w = w' := by
  refine (min_any 40 (n : Int) w).mono ?_
  rintro e w' ⟨rfl, rfl⟩
  exact ⟨by rw [if_neg (by omega)], rfl⟩
theorem max_0 (n : Nat) (w : World) : Calls Try.prog 122 #[.int .i64 0, .int .i64 (n : Int)] w fun e w' => e = .returned (.int .i64 (n : Int)) ∧ w = w' := by
  refine (max_any 0 (n : Int) w).mono ?_
  rintro e w' ⟨rfl, rfl⟩
  exact ⟨by rw [if_neg (by omega)], rfl⟩
set_option maxRecDepth 100000 in
set_option maxHeartbeats 12800000 in
theorem l04Bend_any {p len cap K B E : Nat} {a : Option Addr} {w : World} {P N : Int} {v : Value} {zz : List (List Int)} (hK : K ≤ 700000000) (h : Sc p a len cap K w) (hpB : p < B) (hE : E ≤ w.heap.size) (hB : B ≤ w.heap.size) (ho : OwnRX B E w v zz) (hl : zz.length ≤ 32)
    (hr : ∀ zs ∈ zz, 0 < zs.length ∧ zs.length ≤ 32 ∧ ∀ z ∈ zs, 0 ≤ z ∧ z ≤ 250) (N0 : 0 ≤ N) (N1 : N ≤ 32) :
    Calls Try.prog 94 #[.pointer (some ⟨p, 0, none⟩), .agg #[.int .i64 P, .int .i64 N, v]] w fun e w' => RetBd p B E w e w' := by
  have hpw := h.2.1
  have hr := Lib.hid hr
  obtain ⟨va, vc, rfl⟩ := ho.slice
  have b1 := al1 (Below.refl w.heap.size w) (.cells #[.int .i64 P, .int .i64 N, .slice va zz.length vc] 32)
  have b2 := al1 (Below.refl (w.alloc (.cells #[.int .i64 P, .int .i64 N, .slice va zz.length vc] 32)).heap.size (w.alloc (.cells #[.int .i64 P, .int .i64 N, .slice va zz.length vc] 32))) (.cells #[.int .i64 0, .int .i64 0, .slice none 0 0] 32)
  have HH : Hid (SpW w p a len cap K B E ((w.alloc (.cells #[.int .i64 P, .int .i64 N, .slice va zz.length vc] 32)).alloc (.cells #[.int .i64 0, .int .i64 0, .slice none 0 0] 32)) P N (.slice va zz.length vc) zz) := by
    have e1 : (w.alloc (.cells #[.int .i64 P, .int .i64 N, .slice va zz.length vc] 32)).heap.size = w.heap.size + 1 := by simp
    have x1 := PtV.new (w.alloc (.cells #[.int .i64 P, .int .i64 N, .slice va zz.length vc] 32)) 0 0 (.slice none 0 0) 32
    have x2 : Fz ((w.alloc (.cells #[.int .i64 P, .int .i64 N, .slice va zz.length vc] 32)).alloc (.cells #[.int .i64 0, .int .i64 0, .slice none 0 0] 32)) (w.alloc (.cells #[.int .i64 P, .int .i64 N, .slice va zz.length vc] 32)).heap.size := Fz.new _ _ _
    rw [e1] at x1 x2
    exact ⟨x1, x2, PtV.new1 w P N _ 32 _, (Fz.new w _ _).on (by rw [e1]; omega) b2, (ho.on b1).on b2, (h.alloc _).alloc _, ((K3.refl p B E w).al _).al _, hpB, hE, hpw⟩
  clear b1 b2 h ho
  have n1 : ¬ w.heap.size + 1 = w.heap.size := by omega
  have n2 : ¬ w.heap.size = w.heap.size + 1 := by omega
  go_enter Try.func94, Try.ntmps94
  go_wp2_with fail
  generalize hW : (w.alloc (.cells #[.int .i64 P, .int .i64 N, .slice va zz.length vc] 32)).alloc (.cells #[.int .i64 0, .int .i64 0, .slice none 0 0] 32) = w1 at HH ⊢
  clear hW
  refine (pick_any 22 (by omega) (by omega) HH.out.sc).mono ?_
  rintro e w2 ⟨r, hrr, rfl, hs, hg⟩
  have HH := Lib.hid (HH.out.draw hg hs)
  clear hs hg
  by_cases h0 : r = 0
  · subst h0
    go_wp2_with fail
    refine (among_lit [4, 1, 257] _ _ 3 rfl rfl (by simp) (by simp) (by omega) HH.out.sc).mono ?_
    rintro e w3 ⟨x, hx, rfl, hs, hg⟩
    have HH := Lib.hid (HH.out.draw hg hs)
    have H4 := Lib.hid (HH.out.setM0 x)
    clear hs hg
    obtain ⟨lM, m0, m1, m2⟩ := HH.out.pm
    have g0 := HH.out.fm 0
    have g1 := HH.out.fm 1
    have g2 := HH.out.fm 2
    obtain ⟨lR, r0, r1, r2⟩ := HH.out.pr
    have f0 := HH.out.fr 0
    have f1 := HH.out.fr 1
    have f2 := HH.out.fr 2
    have HQ := Lib.hid (H4.out.pr.set3 x N (.slice va zz.length vc))
    go_wp2_with fail
    obtain ⟨_, q0, q1, q2⟩ := HQ.out
    refine bodyPost_ret (v := .agg #[.int .i64 x, .int .i64 N, (.slice va zz.length vc)]) (by simp [results, Try.results94, go_sem, q0, q1, q2]) rfl (H4.out.ret (by omega) (fun zs hz => by have := (hr.out zs hz).2.1; omega))
  · have e0 : (r == 0) = false := by simpa using h0
    by_cases h1 : r = 1
    · subst h1
      go_wp2_with fail
      refine (among_lit [-1, 32, 33] _ _ 3 rfl rfl (by simp) (by simp) (by omega) HH.out.sc).mono ?_
      rintro e w3 ⟨x, hx, rfl, hs, hg⟩
      have HH := Lib.hid (HH.out.draw hg hs)
      have H4 := Lib.hid (HH.out.setM1 x)
      clear hs hg
      obtain ⟨lM, m0, m1, m2⟩ := HH.out.pm
      have g0 := HH.out.fm 0
      have g1 := HH.out.fm 1
      have g2 := HH.out.fm 2
      obtain ⟨lR, r0, r1, r2⟩ := HH.out.pr
      have f0 := HH.out.fr 0
      have f1 := HH.out.fr 1
      have f2 := HH.out.fr 2
      have HQ := Lib.hid (H4.out.pr.set3 P x (.slice va zz.length vc))
      go_wp2_with fail
      obtain ⟨_, q0, q1, q2⟩ := HQ.out
      refine bodyPost_ret (v := .agg #[.int .i64 P, .int .i64 x, (.slice va zz.length vc)]) (by simp [results, Try.results94, go_sem, q0, q1, q2]) rfl (H4.out.ret (by omega) (fun zs hz => by have := (hr.out zs hz).2.1; omega))
    · have e1 : (r == 1) = false := by simpa using h1
      by_cases h2 : r = 2
      · subst h2
        obtain ⟨n, rfl⟩ : ∃ n : Nat, N = n := ⟨N.toNat, by omega⟩
        have hn : n ≤ 32 := by omega
        obtain ⟨i0, hi0, iz0, iz1, iz2⟩ := info_parts info_r
        have hmk := run_make_row' (P := Try.prog) 24 2 (.int .i64 0) 8 Try.underlying24 info_i rfl .i64 .i64 n (by omega) (by omega)
        obtain ⟨L, hL⟩ := HH.out.own
        have HL := Lib.hid hL
        obtain ⟨z, hz⟩ : ∃ z, zz.length = z := ⟨_, rfl⟩
        have HZL := Lib.hid hz
        rw [hz] at hl
        simp only [hz] at HH HL ⊢
        clear hz hL
        obtain ⟨lM, m0, m1, m2⟩ := HH.out.pm
        have g0 := HH.out.fm 0
        have g1 := HH.out.fm 1
        have g2 := HH.out.fm 2
        obtain ⟨lR, r0, r1, r2⟩ := HH.out.pr
        have f0 := HH.out.fr 0
        have f1 := HH.out.fr 1
        have f2 := HH.out.fr 2
        have n3 : ¬ w2.heap.size = w.heap.size := by omega
        have n4 : ¬ w2.heap.size + 1 = w.heap.size := by omega
        have n5 : ¬ w2.heap.size = w.heap.size + 1 := by omega
        have n6 : ¬ w2.heap.size + 1 = w.heap.size + 1 := by omega
        go_wp2_with fail
        go_region_law
          (first
            | (go_simp; go_at_call 123; refine (min_40 hn _).mono ?_; rintro e wa ⟨rfl, rfl⟩; dsimp only)
            | (go_simp; go_at_call 122; refine (max_0 n _).mono ?_; rintro e wa ⟨rfl, rfl⟩; dsimp only)
            | (refine step_append_lies _ (by rfl) _ _ _ (by rfl) B 24 i0 (.slice none 0 0) 1 24 Try.underlying28 hi0 iz0 iz1 iz2 (by rfl) (by omega) (.slice va z vc) z L (by rfl) (OwnR.rowOn HL.out HZL.out (by repeat (first | with_reducible exact Below.refl _ _ | with_reducible refine drew_below ?_ | with_reducible refine al1 ?_ _))) ⟨w2.heap.size + 1, 0, none⟩ 1 1 [.slice (some ⟨w2.heap.size, 0, none⟩) n n] (by rfl) (by rfl) (by first | with_reducible exact row_valN _ _ _ _ (by simp) | exact row_valN _ _ _ _ (by simp)) (by simp [Value.oneCell']) (by omega) (by unfold maxLen; omega) (by omega) (by simp; omega) (w2.heap.size + 2) (by simp) ?_; intro gg cap w5 hown5 hgrow hat hlt5; go_loud (have P5 := (HH.out.pm.on (by repeat (first | with_reducible exact Below.refl _ _ | with_reducible refine drew_below ?_ | with_reducible refine al1 ?_ _))).gbvN hgrow (fun k hk => by have := HL.out.top k hk; have := HH.out.BE; omega); have R5 := (HH.out.pr.on (by repeat (first | with_reducible exact Below.refl _ _ | with_reducible refine drew_below ?_ | with_reducible refine al1 ?_ _))).gbvN hgrow (fun k hk => by have := HL.out.top k hk; have := HH.out.BE; omega); have F5 : Fz w5 w.heap.size := Fz.gbv (HH.out.fm.on HH.out.pm.1 (by repeat (first | with_reducible exact Below.refl _ _ | with_reducible refine drew_below ?_ | with_reducible refine al1 ?_ _))) (HH.out.pm.on (by repeat (first | with_reducible exact Below.refl _ _ | with_reducible refine drew_below ?_ | with_reducible refine al1 ?_ _))).1 hgrow (fun k hk => by have := HL.out.top k hk; have := HH.out.BE; omega); have F6 : Fz w5 (w.heap.size + 1) := Fz.gbv (HH.out.fr.on HH.out.pr.1 (by repeat (first | with_reducible exact Below.refl _ _ | with_reducible refine drew_below ?_ | with_reducible refine al1 ?_ _))) (HH.out.pr.on (by repeat (first | with_reducible exact Below.refl _ _ | with_reducible refine drew_below ?_ | with_reducible refine al1 ?_ _))).1 hgrow (fun k hk => by have := HL.out.top k hk; have := HH.out.BE; omega); have F5 := Lib.hid F5; have F6 := Lib.hid F6; have P5 := Lib.hid P5; have R5 := Lib.hid R5; have fg0 := F5.out 0; have fg1 := F5.out 1; have fg2 := F5.out 2; have ff0 := F6.out 0; have ff1 := F6.out 1; have ff2 := F6.out 2; obtain ⟨_, _, _, _⟩ := P5.out; obtain ⟨_, _, _, _⟩ := R5.out)))
        all_goals
          have hu5 := (OwnI.zeros (B := w2.heap.size) (World.rowIs_made w2 (.int .i64 0) n 2) (Nat.le_refl _) (by omega)).on (al1 (Below.refl _ _) (.cells #[.slice (some ⟨w2.heap.size, 0, none⟩) n n] 24))
          have HRB := Lib.hid (HH.out.push HL.out HZL.out (by repeat (first | with_reducible exact Below.refl _ _ | with_reducible refine drew_below ?_ | with_reducible refine al1 ?_ _)) (by first | with_reducible exact hu5 | with_reducible exact hu5.drew | exact hu5) hown5 hgrow hat hB (by omega) (fun ys hy => by have := (hr.out ys hy).2.1; omega) (by rw [List.length_replicate]; omega))
          have R6 := Lib.hid ((R5.out.fr (setC_cells w5 w.heap.size 2 (.slice (some ⟨gg, 0, none⟩) (z + 1) cap)) (.inr (by omega))).set3 P (n : Int) (.slice (some ⟨gg, 0, none⟩) (z + 1) cap))
          clear hu5 hown5 hgrow hat
          go_wp2_with fail
          obtain ⟨_, q0, q1, q2⟩ := R6.out
          exact bodyPost_ret (v := .agg #[.int .i64 P, .int .i64 (n : Int), .slice (some ⟨gg, 0, none⟩) (z + 1) cap]) (by simp [results, Try.results94, go_sem, q0, q1, q2]) rfl HRB.out
      · have e2 : (r == 2) = false := by simpa using h2
        by_cases h3 : r = 3
        · subst h3
          by_cases hz : zz.length = 0
          · have H4 := HH
            have HZ := Lib.hid hz
            rw [hz] at HH
            have HH0 := Lib.hid HH.out
            clear hz
            simp only [HZ.out] at H4 ⊢
            obtain ⟨lM, m0, m1, m2⟩ := HH.out.pm
            have g0 := HH.out.fm 0
            have g1 := HH.out.fm 1
            have g2 := HH.out.fm 2
            obtain ⟨lR, r0, r1, r2⟩ := HH.out.pr
            have f0 := HH.out.fr 0
            have f1 := HH.out.fr 1
            have f2 := HH.out.fr 2
            have HQ := Lib.hid (HH0.out.pr.set3 P N (.slice va 0 vc))
            go_wp2_with fail
            obtain ⟨_, q0, q1, q2⟩ := HQ.out
            refine bodyPost_ret (v := .agg #[.int .i64 P, .int .i64 N, (.slice va 0 vc)]) (by simp [results, Try.results94, go_sem, q0, q1, q2]) rfl (HH0.out.ret (by omega) (fun zs hz => by have := (hr.out zs hz).2.1; omega))
          · have ll : (0 : Int) < (zz.length : Int) := by omega
            obtain ⟨L, hL⟩ := HH.out.own
            obtain ⟨g, gc, e, hg0, hg1, hg2, hc⟩ : ∃ g cap, (.slice va zz.length vc : Value) = .slice (some ⟨g, 0, none⟩) zz.length cap ∧ B ≤ g ∧ g < E ∧ g < w2.heap.size ∧ ∀ j u, L[j]? = some u → w2.cell? ⟨g, j, none⟩ = some u := by
              rcases hL.form with ⟨e, _⟩ | h
              · rw [e] at hz; simp at hz
              · exact h
            simp only [Value.slice.injEq] at e
            obtain ⟨rfl, -, rfl⟩ := e
            obtain ⟨r0, hr0⟩ : ∃ r0, L[0]? = some r0 := ⟨_, List.getElem?_eq_getElem (by rw [hL.len]; omega)⟩
            obtain ⟨ys, hys⟩ : ∃ ys, zz[0]? = some ys := ⟨_, List.getElem?_eq_getElem (by omega)⟩
            obtain ⟨y0, y1, y2⟩ := hr.out ys (List.mem_of_getElem? hys)
            have hown := hL.own 0 r0 ys hr0 hys
            obtain ⟨h, cap, e, k0, k1, k2, k3⟩ : ∃ g cap, r0 = .slice (some ⟨g, 0, none⟩) ys.length cap ∧ B ≤ g ∧ g < w2.heap.size ∧ (∀ j (h : j < ys.length), w2.cell? ⟨g, j, none⟩ = some (.int .i64 ys[j])) ∧ ∀ j, w2.frozen? ⟨g, j, none⟩ = false := by
              rcases hown.form with ⟨e, _⟩ | h
              · rw [e] at y0; simp at y0
              · exact h
            subst e
            have d0 := hc 0 _ hr0
            have hE1 := hL.tops 0 _ h hr0 rfl
            have c0 := k2 0 y0
            have f9 := k3 0
            obtain ⟨z0, hz0⟩ : ∃ z0, ys[0] = z0 := ⟨_, rfl⟩
            have hz1 := y2 _ (List.getElem_mem y0)
            rw [hz0] at c0 hz1
            have wz : IntKind.i64.wrap (z0 + 1) = z0 + 1 := IntWalk.i64_in _ (by omega)
            have H4 := Lib.hid (HH.out.setRow hL hr0 hys (z0 + 1))
            have hlen : (zz.set 0 (ys.set 0 (z0 + 1))).length = zz.length := List.length_set
            have hrow : Hid (∀ zs ∈ zz.set 0 (ys.set 0 (z0 + 1)), zs.length ≤ 40) := fun zs hzs => by
              rcases List.mem_or_eq_of_mem_set hzs with h | h
              · have := (hr.out zs h).2.1; omega
              · rw [h, List.length_set]; omega
            have y3 : (0 : Int) < (ys.length : Int) := by omega
            have nM : ¬ h = w.heap.size := by omega
            have nM' : ¬ w.heap.size = h := by omega
            have nR : ¬ h = w.heap.size + 1 := by omega
            have nR' : ¬ w.heap.size + 1 = h := by omega
            clear hc hown k2 k3 y2 hz0 hr0 hys
            have HLEN := Lib.hid hlen
            clear hlen
            obtain ⟨lM, m0, m1, m2⟩ := HH.out.pm
            have g0 := HH.out.fm 0
            have g1 := HH.out.fm 1
            have g2 := HH.out.fm 2
            obtain ⟨lR, r0, r1, r2⟩ := HH.out.pr
            have f0 := HH.out.fr 0
            have f1 := HH.out.fr 1
            have f2 := HH.out.fr 2
            have HQ := Lib.hid (H4.out.pr.set3 P N (.slice (some ⟨g, 0, none⟩) zz.length vc))
            go_wp2_with fail
            obtain ⟨_, q0, q1, q2⟩ := HQ.out
            refine bodyPost_ret (v := .agg #[.int .i64 P, .int .i64 N, (.slice (some ⟨g, 0, none⟩) zz.length vc)]) (by simp [results, Try.results94, go_sem, q0, q1, q2]) rfl (H4.out.ret (by rw [HLEN.out]; omega) hrow.out)
        · have e3 : (r == 3) = false := by simpa using h3
          obtain ⟨lM, m0, m1, m2⟩ := HH.out.pm
          have g0 := HH.out.fm 0
          have g1 := HH.out.fm 1
          have g2 := HH.out.fm 2
          obtain ⟨lR, r0, r1, r2⟩ := HH.out.pr
          have f0 := HH.out.fr 0
          have f1 := HH.out.fr 1
          have f2 := HH.out.fr 2
          have HQ := Lib.hid (HH.out.pr.set3 P N (.slice va zz.length vc))
          go_wp2_with fail
          obtain ⟨_, q0, q1, q2⟩ := HQ.out
          refine bodyPost_ret (v := .agg #[.int .i64 P, .int .i64 N, (.slice va zz.length vc)]) (by simp [results, Try.results94, go_sem, q0, q1, q2]) rfl (HH.out.ret (by omega) (fun zs hz => by have := (hr.out zs hz).2.1; omega))
end Go.Proofs.Ytpimnngomodnhaa

namespace Go.Proofs.Ytpimnngomodnhaa
open Go.RowKit
open Lin
set_option linter.unusedVariables false
set_option linter.unusedSectionVars false

theorem PtV.k3 {w w' : World} {L p B E : Nat} {P N : Int} {v : Value} (h : PtV w L P N v) (hk : K3 p B E w w') (hp : L ≠ p) (hd : L < B ∨ E ≤ L) : PtV w' L P N v := by
  obtain ⟨l, c0, c1, c2⟩ := h
  have e := hk.2.2.2.2 L l hp hd
  exact ⟨Nat.lt_of_lt_of_le l hk.2.2.2.1, (World.cell?_of_block e).trans c0, (World.cell?_of_block e).trans c1, (World.cell?_of_block e).trans c2⟩
theorem Fz.k3 {w w' : World} {L p B E : Nat} (h : Fz w L) (l : L < w.heap.size) (hk : K3 p B E w w') (hp : L ≠ p) (hd : L < B ∨ E ≤ L) : Fz w' L := fun o => by
  have e := hk.2.2.2.2 L l hp hd
  exact (World.frozen?_of_block e).trans (h o)
theorem K3.grown {w0 w w' : World} {p B E : Nat} (hk : K3 p B E w w') (hg : w0.grownBy w (some p)) (hB : w0.heap.size ≤ B) : w0.grownBy w' (some p) :=
  ⟨hk.1.trans hg.os, hk.2.1.trans hg.tape, hk.2.2.1.trans hg.output, Nat.le_trans hg.size hk.2.2.2.1, fun k hk' hne =>
    (hk.2.2.2.2 k (Nat.lt_of_lt_of_le hk' hg.size) (fun e => hne (by rw [e])) (.inl (by omega))).trans (hg.block k hk' hne)⟩
/-- A call that draws has made a space and an empty variable. -/
structure InW (w0 : World) (p : Nat) (a : Option Addr) (len cap K R V B : Nat) (w : World) (P N : Int) (v : Value) (zz : List (List Int)) : Prop where
  pr : PtV w R 0 0 (.slice none 0 0)
  fr : Fz w R
  pm : PtV w V P N v
  own : OwnRX B V w v zz
  sc : Sc p a len cap K w
  gb : w0.grownBy w (some p)
  pR : p < R
  hR : w0.heap.size = R
  RB : R < B
  BV : B ≤ V
section
variable {w0 w w' : World} {p : Nat} {a : Option Addr} {len cap K R V B : Nat} {P N : Int} {v : Value} {zz : List (List Int)}
theorem InW.draw (h : InW w0 p a len cap K R V B w P N v zz) {K' : Nat} (hg : w.grownBy w' (some p)) (hs : Sc p a len cap K' w') : InW w0 p a len cap K' R V B w' P N v zz := by
  have h1 := h.pR; have h2 := h.RB; have h3 := h.BV
  exact ⟨h.pr.gb hg (by omega), h.fr.gb h.pr.1 hg (by omega), h.pm.gb hg (by omega), h.own.fr (fr_gb hg) (.inr (by omega)), hs, sgb_trans h.gb hg, h1, h.hR, h2, h3⟩
theorem InW.on (h : InW w0 p a len cap K R V B w P N v zz) (hb : Below w.heap.size w w') : InW w0 p a len cap K R V B w' P N v zz :=
  ⟨h.pr.on hb, h.fr.on h.pr.1 hb, h.pm.on hb, OwnRX.on h.own hb, h.sc.below hb, sgb_trans h.gb (gb_of_below hb), h.pR, h.hR, h.RB, h.BV⟩
theorem InW.up (h : InW w0 p a len cap K R V B w P N v zz) {K' : Nat} (hK : K ≤ K') : InW w0 p a len cap K' R V B w P N v zz := ⟨h.pr, h.fr, h.pm, h.own, h.sc.up hK, h.gb, h.pR, h.hR, h.RB, h.BV⟩
/-- What is kept when a list is grown whose block lies behind the space. -/
theorem InW.low (h : InW w0 p a len cap K R V B w P N v zz) (hb : Below (V + 1) w w') : InW w0 p a len cap K R V B w' P N v zz := by
  have h1 := h.pR; have h2 := h.RB; have h3 := h.BV; have h4 := h.hR
  have l := h.pm.1
  have f : Fr (V + 1) w.heap.size w w' := ⟨hb.os, hb.tape, hb.output, hb.size, fun k hk hd => hb.block k (by omega)⟩
  have f2 : Fr (V + 1) (V + 1 + w.heap.size) w w' := ⟨hb.os, hb.tape, hb.output, hb.size, fun k hk hd => hb.block k (by omega)⟩
  refine ⟨h.pr.fr f (.inl (by omega)), fun o => ?_, h.pm.fr f (.inl (by omega)), h.own.fr f2 (.inl (by omega)), h.sc.low ⟨hb.os, hb.tape, hb.output, hb.size, fun k hk => hb.block k (by omega)⟩, ?_, h1, h4, h2, h3⟩
  · exact (World.frozen?_of_block (hb.block R (by omega))).trans (h.fr o)
  · exact ⟨hb.os.trans h.gb.os, hb.tape.trans h.gb.tape, hb.output.trans h.gb.output, Nat.le_trans h.gb.size hb.size, fun k hk hne => (hb.block k (by omega)).trans (h.gb.block k hk hne)⟩
end
/-- A space and a vector that were drawn. -/
def RetDI (p : Nat) (w : World) (e : Ending) (w' : World) : Prop :=
  ∃ (P N : Int) (v : Value) (zz : List (List Int)) (v2 : Value) (xs : List Int), e = .returned (.tuple #[.agg #[.int .i64 P, .int .i64 N, v], v2]) ∧ OwnRI w.heap.size w' v zz ∧ zz.length ≤ 40 ∧ (∀ zs ∈ zz, zs.length ≤ 40) ∧ OwnI w.heap.size w' v2 xs ∧ xs.length ≤ 40 ∧ w.grownBy w' (some p)
set_option maxRecDepth 100000 in
set_option maxHeartbeats 12800000 in
theorem l04DrawIn_any {p len cap K : Nat} {a : Option Addr} {w : World} (hK : K ≤ 500000000) (h : Sc p a len cap K w) :
    Calls Try.prog 52 #[.pointer (some ⟨p, 0, none⟩)] w fun e w' => RetDI p w e w' := by
  obtain ⟨i0, hi0, iz0, iz1, iz2⟩ := info_parts info2
  have hpw := h.2.1
  have HS := Lib.hid (h.alloc (.cells #[.int .i64 0, .int .i64 0, .slice none 0 0] 32))
  have Pr0 := Lib.hid (PtV.new w 0 0 (.slice none 0 0) 32)
  have Fr0 : Hid (Fz (w.alloc (.cells #[.int .i64 0, .int .i64 0, .slice none 0 0] 32)) w.heap.size) := Fz.new w _ _
  have hz0 : (w.alloc (.cells #[.int .i64 0, .int .i64 0, .slice none 0 0] 32)).heap.size = w.heap.size + 1 := by simp
  have G0 : Hid (w.grownBy (w.alloc (.cells #[.int .i64 0, .int .i64 0, .slice none 0 0] 32)) (some p)) := sgb_alloc _ _ _
  clear h
  go_enter Try.func52, Try.ntmps52
  go_wp2_with fail
  refine (l04DrawSize_any (by omega) HS.out).mono ?_
  rintro e w1 ⟨q, N, hq, hN, rfl, hs, hg⟩
  have iq : NeZero q := ⟨by have := hq.1; omega⟩
  have q2 : 2 ≤ q := by have := hq.1; omega
  have q3 : q ≤ 251 := by have := hq.2.1; omega
  have HQ := Lib.hid hq
  have hz1 := hg.size
  rw [hz0] at hz1
  have Fr : Hid (Fz w1 w.heap.size) := Fr0.out.gb Pr0.out.1 hg (by omega)
  have Pr := Lib.hid (Pr0.out.gb hg (by omega))
  have HG := Lib.hid (sgb_trans G0.out hg)
  have HS := Lib.hid hs
  clear hs hg hq Pr0 Fr0 G0 hz0
  go_wp2_with fail
  refine (l04DrawOk_any HQ.out hN (by omega) HS.out).mono ?_
  rintro e w2 ⟨v, m, A, hm, rfl, ho, hs, hg⟩
  have hz2 := hg.size
  have HV : Hid (VIs q N (basOf m N A) q N (red m A N).piv.length (red m A N).A) := vis_basOf HQ.out hN m A
  have hrl := piv_le_rows (fd_of HQ.out) m N A
  have HROW : Hid (∀ zs ∈ basOf m N A, 0 < zs.length ∧ zs.length ≤ 32 ∧ ∀ z ∈ zs, 0 ≤ z ∧ z ≤ 250) := fun zs hzs => by
    have hve : Vec1 (q : Int) (N : Int) zs := vecs_rowsOf _ _ _ zs hzs
    have hl : zs.length = N := by have := hve.1; omega
    refine ⟨?_, by omega, fun z hz => ?_⟩
    · have h0 : 0 < (basOf m N A).length := List.length_pos_of_mem hzs
      have h1 : (basOf m N A).length ≤ N := by
        unfold basOf; rw [rowsOf_len]; exact piv_le_cols (fd_of HQ.out) m N A
      omega
    · obtain ⟨j, hj, rfl⟩ := List.getElem_of_mem hz
      have := hve.2 j hj
      omega
  have HVE : Hid (Vecs (q : Int) (N : Int) (basOf m N A)) := vecs_rowsOf _ _ _
  have hbl : (basOf m N A).length = (red m A N).piv.length := by unfold basOf; rw [rowsOf_len]
  obtain ⟨zz, hzz⟩ : ∃ zz, basOf m N A = zz := ⟨_, rfl⟩
  rw [hzz] at ho HV HVE HROW hbl
  obtain ⟨r, hr⟩ : ∃ r, (red m A N).piv.length = r := ⟨_, rfl⟩
  rw [hr] at hbl hrl
  have HRL := Lib.hid hbl
  obtain ⟨va, vc, rfl⟩ := ho.slice
  simp only [hbl] at ho ⊢
  have hr4 : r ≤ 4 := by omega
  have HH : Hid (InW w p a len cap (K + 306) w.heap.size w2.heap.size w1.heap.size (w2.alloc (.cells #[.int .i64 (q : Int), .int .i64 (N : Int), .slice va r vc] 32)) q N (.slice va r vc) zz) := by
    have bb := al1 (Below.refl w2.heap.size w2) (.cells #[.int .i64 (q : Int), .int .i64 (N : Int), .slice va r vc] 32)
    have pr := Pr.out.gb hg (by omega)
    have fr := Fr.out.gb Pr.out.1 hg (by omega)
    exact ⟨pr.on bb, fr.on pr.1 bb, PtV.new w2 _ _ _ _, OwnRX.on ho bb, (hs.below bb).up (by omega), sgb_trans (sgb_trans HG.out hg) (gb_of_below bb), hpw, rfl, by omega, hz2⟩
  clear ho hs hg hzz hr Pr Fr HS HG hbl hrl
  go_wp2_with fail
  generalize hW : World.alloc w2 (.cells #[.int .i64 (q : Int), .int .i64 (N : Int), .slice va r vc] 32) = w3 at HH ⊢
  have hz3 : w2.heap.size + 1 ≤ w3.heap.size := by rw [← hW]; simp
  clear hW
  refine (drawVector_any N q (by omega) (by omega) (by omega) HH.out.sc).mono ?_
  rintro e w4 ⟨v4, xs, rfl, hxl, hxz, ho, hs, hg⟩
  have HX : Hid (OwnI (w2.heap.size + 1) w4 v4 xs) := ho.mono hz3
  have HH := Lib.hid (HH.out.draw hg hs)
  have hz4 : w2.heap.size + 1 ≤ w4.heap.size := Nat.le_trans hz3 hg.size
  have hxl1 : xs.length ≤ 32 := by omega
  clear ho hs hg hxz hxl
  go_wp2_with fail
  refine (one_any 3 (by omega) (by omega) HH.out.sc).mono ?_
  rintro e w5 ⟨b, rfl, hs, hg⟩
  have nob : ∀ (x : Value) (ys : List Int) (wx : World), OwnI (w2.heap.size + 1) wx x ys → ∀ k, some p = some k → x.ownBlock ≠ some k := fun x ys wx hx k hk e => by have := (hx.out.lt k e).1; injection hk with hk; omega
  have HX := Lib.hid (HX.out.keptP hg (nob _ _ _ HX.out))
  have HH := Lib.hid (HH.out.draw hg hs)
  have hz5 : w2.heap.size + 1 ≤ w5.heap.size := Nat.le_trans hz4 hg.size
  clear hs hg
  have NOB := Lib.hid nob
  clear nob
  cases b with
  | true =>
    have hxl2 : xs.length ≤ 39 := by omega
    go_wp2_with fail
    refine (one_any 14 (by omega) (by omega) HH.out.sc).mono ?_
    rintro e w6 ⟨b, rfl, hs, hg⟩
    have HX := Lib.hid (HX.out.keptP hg (NOB.out _ _ _ HX.out))
    have HH := Lib.hid (HH.out.draw hg hs)
    have hz6 : w2.heap.size + 1 ≤ w6.heap.size := Nat.le_trans hz5 hg.size
    clear hs hg
    cases b with
    | false =>
      obtain ⟨lM, m0, m1, m2⟩ := HH.out.pm
      go_wp2_with fail
      refine (l04Bend_any (by omega) HH.out.sc (by have := HH.out.pR; have := HH.out.RB; omega) (by have := HH.out.pm.1; omega) (by have := HH.out.pm.1; have := HH.out.BV; omega) HH.out.own (by rw [HRL.out]; omega) HROW.out (by omega) (by omega)).mono ?_
      rintro e w9 ⟨P', N', v9, z9, rfl, ho9, hl9, hr9, hk9⟩
      have PR := Lib.hid (HH.out.pr.k3 hk9 (by have := HH.out.pR; omega) (.inl HH.out.RB))
      have FR := Lib.hid (HH.out.fr.k3 HH.out.pr.1 hk9 (by have := HH.out.pR; omega) (.inl HH.out.RB))
      have HX9 := Lib.hid (hk9.own HX.out (by omega) (by have := HH.out.pR; have := HH.out.RB; have := HH.out.BV; omega))
      have HG9 := Lib.hid (hk9.grown HH.out.gb (by have := HH.out.hR; have := HH.out.RB; omega))
      have HO9 := Lib.hid ho9
      have HL9 := Lib.hid hr9
      obtain ⟨xa9, xc9, rfl⟩ := ho9.slice
      obtain ⟨ya9, yc9, rfl⟩ := HX.out.slice
      have HQ := Lib.hid (PR.out.set3 P' N' (.slice xa9 z9.length xc9))
      obtain ⟨lR, r0, r1, r2⟩ := PR.out
      have f0 := FR.out 0
      have f1 := FR.out 1
      have f2 := FR.out 2
      have hRB := HH.out.RB
      have hRw := HH.out.hR
      have hBV := HH.out.BV
      clear ho9 hr9 hk9 lM m0 m1 m2
      go_wp2_with fail
      obtain ⟨_, q0, q1, q2⟩ := HQ.out
      refine bodyPost_ret (v := .tuple #[.agg #[.int .i64 P', .int .i64 N', .slice xa9 z9.length xc9], .slice ya9 (xs).length yc9]) (by simp [results, Try.results52, go_sem, q0, q1, q2]) rfl ⟨P', N', _, z9, _, xs, rfl, ?_, hl9, HL9.out, ?_, (by first | omega | (simp; omega)), ?_⟩
      · refine OwnRI.mono (B := w1.heap.size) ?_ (by omega)
        iterate 3 (refine OwnRI.setOut ?_ (by omega) _)
        exact HO9.out
      · refine OwnI.mono (B := w2.heap.size + 1) ?_ (by omega)
        iterate 3 (refine OwnI.setOut ?_ (by omega) _)
        exact HX9.out
      · iterate 3 (refine gb_setn ?_ (by omega) _)
        exact HG9.out
    | true =>
      obtain ⟨xa, xc, rfl⟩ := HX.out.slice
      go_wp2_with (at_builtin; refine wpList_append_place _ rfl _ _ 24 rfl (w2.heap.size + 1) 2 i0 (.int .i64 0) 8 Try.underlying24 hi0 iz0 iz1 iz2 rfl _ xs.length (iv xs) rfl (HX.out.out.alloc _) ⟨w6.heap.size, 0, none⟩ _ (.int .i64 0) rfl (row_int _ _ _) (fun y hy => by simp at hy; rw [hy]; rfl) (by unfold maxLen; omega) (by omega) (by rw [World.size_alloc]; omega) ?_; intro v7 w7 hr7 hg7 hv7; go_loud (have HXX := Lib.hid (pushI hr7); have HH := Lib.hid (HH.out.low (below_pushI (Below.refl _ _) (Nat.le_refl _) hz6 HX.out hg7)); obtain ⟨lM, m0, m1, m2⟩ := HH.out.pm; obtain ⟨xa7, xc7, e7⟩ := HXX.out.slice; rw [(show (xs ++ [(0 : Int)]).length = xs.length + 1 from by simp)] at e7; subst e7; clear hr7 hg7 hv7))
      have HX := HXX
      obtain ⟨lM, m0, m1, m2⟩ := HH.out.pm
      go_wp2_with fail
      refine (l04Bend_any (by omega) HH.out.sc (by have := HH.out.pR; have := HH.out.RB; omega) (by have := HH.out.pm.1; omega) (by have := HH.out.pm.1; have := HH.out.BV; omega) HH.out.own (by rw [HRL.out]; omega) HROW.out (by omega) (by omega)).mono ?_
      rintro e w9 ⟨P', N', v9, z9, rfl, ho9, hl9, hr9, hk9⟩
      have PR := Lib.hid (HH.out.pr.k3 hk9 (by have := HH.out.pR; omega) (.inl HH.out.RB))
      have FR := Lib.hid (HH.out.fr.k3 HH.out.pr.1 hk9 (by have := HH.out.pR; omega) (.inl HH.out.RB))
      have HX9 := Lib.hid (hk9.own HX.out (by omega) (by have := HH.out.pR; have := HH.out.RB; have := HH.out.BV; omega))
      have HG9 := Lib.hid (hk9.grown HH.out.gb (by have := HH.out.hR; have := HH.out.RB; omega))
      have HO9 := Lib.hid ho9
      have HL9 := Lib.hid hr9
      obtain ⟨xa9, xc9, rfl⟩ := ho9.slice
      have HQ := Lib.hid (PR.out.set3 P' N' (.slice xa9 z9.length xc9))
      obtain ⟨lR, r0, r1, r2⟩ := PR.out
      have f0 := FR.out 0
      have f1 := FR.out 1
      have f2 := FR.out 2
      have hRB := HH.out.RB
      have hRw := HH.out.hR
      have hBV := HH.out.BV
      clear ho9 hr9 hk9 lM m0 m1 m2
      go_wp2_with fail
      obtain ⟨_, q0, q1, q2⟩ := HQ.out
      refine bodyPost_ret (v := .tuple #[.agg #[.int .i64 P', .int .i64 N', .slice xa9 z9.length xc9], .slice xa7 (xs.length + 1) xc7]) (by simp [results, Try.results52, go_sem, q0, q1, q2]) rfl ⟨P', N', _, z9, _, (xs ++ [0]), rfl, ?_, hl9, HL9.out, ?_, (by first | omega | (simp; omega)), ?_⟩
      · refine OwnRI.mono (B := w1.heap.size) ?_ (by omega)
        iterate 3 (refine OwnRI.setOut ?_ (by omega) _)
        exact HO9.out
      · refine OwnI.mono (B := w2.heap.size + 1) ?_ (by omega)
        iterate 3 (refine OwnI.setOut ?_ (by omega) _)
        exact HX9.out
      · iterate 3 (refine gb_setn ?_ (by omega) _)
        exact HG9.out
  | false =>
    have hmk := run_make_row' (P := Try.prog) 24 2 (.int .i64 0) 8 Try.underlying24 info_i rfl .i64 .i64 N (by omega) (by omega)
    have HX : Hid (OwnI (w2.heap.size + 1) (w5.alloc (.cells (madeCells #[.int .i64 0] N) 2)) (.slice (some ⟨w5.heap.size, 0, none⟩) N N) (List.replicate N 0)) := OwnI.zeros (World.rowIs_made w5 (.int .i64 0) N 2) (by omega) (by omega)
    obtain ⟨lM, m0, m1, m2⟩ := HH.out.pm
    have HH := Lib.hid (HH.out.on (al1 (Below.refl _ _) (.cells (madeCells #[.int .i64 0] N) 2)))
    go_wp2_with fail
    generalize hW : World.alloc w5 (.cells (madeCells #[.int .i64 0] N) 2) = w6 at HX HH ⊢
    have hz6 : w2.heap.size + 1 ≤ w6.heap.size := by rw [← hW]; simp; omega
    clear hW hmk lM m0 m1 m2
    go_loopw [8, 7] (fun si sx wr => ∃ (k : Nat) (bs : List Int), k ≤ r ∧ si = .int .i64 (k : Int) ∧ bs.length = N ∧ Hid (NumOk (q : Int) bs) ∧ Hid (OwnI (w2.heap.size + 1) wr sx bs) ∧ Hid (InW w p a len cap (K + 400 + 2 * k) w.heap.size w2.heap.size w1.heap.size wr q N (.slice va r vc) zz) ∧ w2.heap.size + 1 ≤ wr.heap.size) (fun si _ _ => r - (intOf si).toNat)
    case atStart => exact ⟨0, List.replicate N 0, Nat.zero_le _, rfl, by simp, (fun j hj => by simp; omega), HX, Lib.hid (HH.out.up (by omega)), hz6⟩
    case round =>
      obtain ⟨k, bs, hk, rfl, hbl, HN, HX, HH, hzr⟩ := hrel
      obtain ⟨ba, bc, rfl⟩ := HX.out.slice
      have HBL := Lib.hid hbl
      simp only [hbl] at HX ⊢
      clear hbl
      by_cases hlt : k < r
      · have k0 : (0 : Int) ≤ (k : Int) := by omega
        have k1 : (k : Int) < (r : Int) := by omega
        obtain ⟨L, hL⟩ := HH.out.own
        have hzl := HRL.out
        obtain ⟨g, gc, e, hg0, hg1, hg2, hc⟩ : ∃ g cap, (.slice va r vc : Value) = .slice (some ⟨g, 0, none⟩) zz.length cap ∧ w1.heap.size ≤ g ∧ g < w2.heap.size ∧ g < wr.heap.size ∧ ∀ j u, L[j]? = some u → wr.cell? ⟨g, j, none⟩ = some u := by
          rcases hL.form with ⟨e, _⟩ | h
          · rw [e] at hzl; simp at hzl; omega
          · exact h
        simp only [Value.slice.injEq] at e
        obtain ⟨rfl, -, rfl⟩ := e
        obtain ⟨r0, hr0⟩ : ∃ r0, L[k]? = some r0 := ⟨_, List.getElem?_eq_getElem (by rw [hL.len]; omega)⟩
        obtain ⟨ys, hys⟩ : ∃ ys, zz[k]? = some ys := ⟨_, List.getElem?_eq_getElem (by omega)⟩
        have hown := hL.own k r0 ys hr0 hys
        have hve := HVE.out ys (List.mem_of_getElem? hys)
        have hyl : ys.length = N := by have := hve.1; omega
        obtain ⟨ra, rc, rfl⟩ := hown.slice
        have d0 := hc k _ hr0
        rw [hyl] at d0
        have hyi := hown
        rw [hyl] at hyi
        have HYI : Hid (OwnI w1.heap.size wr (.slice ra N rc) ys) := hyi
        have HYV := Lib.hid hve.2
        have HYL := Lib.hid hyl
        have hRB := HH.out.RB
        have hpR := HH.out.pR
        have ngp : ¬ g = p := by omega
        clear hc hown hve hyi hyl hr0 hys hzl hL
        obtain ⟨lM, m0, m1, m2⟩ := HH.out.pm
        go_wp2_with fail
        go_region_held3 (fun w' => w'.cell? ⟨w2.heap.size, 2, none⟩ = some (.slice (some ⟨g, 0, none⟩) r vc) ∧ w'.cell? ⟨g, k, none⟩ = some (.slice ra N rc)) (go_keep)
          (first
            | (go_at_call 64; go_loud (refine (pick_any (K := K + 400 + 2 * k) (q : Int) (by omega) (by omega) (by first | with_reducible exact HH.out.sc | with_reducible exact Sc.drew HH.out.sc)).mono ?_; rintro e w7 ⟨x, hx, rfl, hs, hg'⟩; have hg : wr.grownBy w7 (some p) := ⟨hg'.os, hg'.tape, hg'.output, hg'.size, hg'.block⟩; have d7 := (gbv_cell hg hg2 (fun k hk e => by injection hk with hk; omega) k).trans d0; have H7 := Lib.hid (HH.out.draw hg hs); have HX7 := Lib.hid (HX.out.keptP hg (NOB.out _ _ _ HX.out)); have HY7 := Lib.hid (HYI.out.keptP hg (fun j hj e => by have := (HYI.out.out.lt j e).1; injection hj with hj; omega)); obtain ⟨_, _, _, _⟩ := H7.out.pm))
            | (go_at_call 61; go_loud (have hx7 : IntsAt w7 (.slice ba N bc) bs := HX7.out.at (by rw [HBL.out]; omega); have hy7 : IntsAt w7 (.slice ra N rc) ys := HY7.out.at (by rw [HYL.out]; omega); refine (specAdd_any (c := x) (p := (q : Int)) (xs := bs) (ys := ys) (by omega) (by omega) (by omega) (by omega) (by first | with_reducible exact hx7 | with_reducible exact IntsAt.drew hx7) (by first | with_reducible exact hy7 | with_reducible exact IntsAt.drew hy7) (by rw [HBL.out, HYL.out]) (by rw [HBL.out]; omega) HN.out HYV.out).mono ?_; rintro e w8 ⟨v8, rfl, ho8, hb8'⟩; have hb8 : Below w7.heap.size w7 w8 := (by first | with_reducible exact hb8' | with_reducible exact undrew hb8'); have H8 := Lib.hid (H7.out.on hb8); have d8 := (hb8.cell (p := ⟨g, k, none⟩) (show g < w7.heap.size by have := hg.size; omega)).trans d7; obtain ⟨v8a, v8c, rfl⟩ := ho8.slice; obtain ⟨_, _, _, _⟩ := H8.out.pm)))
        all_goals
          have hl8 : (addC (q : Int) x bs ys).length = N := by rw [addC_len (by rw [HBL.out, HYL.out])]; exact HBL.out
          have HN8 := Lib.hid (addC_okN (c := x) (by omega : (2 : Int) ≤ q) bs ys)
          have HO8 : Hid (OwnI (w2.heap.size + 1) w8 _ (addC (q : Int) x bs ys)) := ho8.mono (show w2.heap.size + 1 ≤ w7.heap.size by have h1 := hg.size; omega)
          have hz8 : w2.heap.size + 1 ≤ w8.heap.size := by have h1 := hg.size; have h2 := hb8.size; omega
          have H8 := Lib.hid (H8.out.up (by omega : K + 400 + 2 * k + 2 ≤ K + 400 + 2 * (k + 1)))
          clear ho8 hb8 hb8' hs hg hg'
          go_wp2
          go_roundw
          case rel => exact ⟨k + 1, _, by omega, by go_num, hl8, HN8, HO8, H8, hz8⟩
          case measure => simp [intOf]; omega
      · obtain rfl : r = k := by omega
        obtain ⟨lM, m0, m1, m2⟩ := HH.out.pm
        have hN39 : N ≤ 39 := by omega
        rename World => w6'
        go_wp2_with fail
        refine (one_any 14 (by omega) (by omega) HH.out.sc).mono ?_
        clear lM m0 m1 m2
        rintro e w6 ⟨b, rfl, hs, hg⟩
        have HX := Lib.hid (HX.out.keptP hg (NOB.out _ _ _ HX.out))
        have HH := Lib.hid (HH.out.draw hg hs)
        have hz6 : w2.heap.size + 1 ≤ w6.heap.size := by have := hg.size; omega
        have hbl := HBL.out
        clear hs hg
        cases b with
        | false =>
          obtain ⟨lM, m0, m1, m2⟩ := HH.out.pm
          go_wp2_with fail
          refine (l04Bend_any (by omega) HH.out.sc (by have := HH.out.pR; have := HH.out.RB; omega) (by have := HH.out.pm.1; omega) (by have := HH.out.pm.1; have := HH.out.BV; omega) HH.out.own (by rw [HRL.out]; omega) HROW.out (by omega) (by omega)).mono ?_
          rintro e w9 ⟨P', N', v9, z9, rfl, ho9, hl9, hr9, hk9⟩
          have PR := Lib.hid (HH.out.pr.k3 hk9 (by have := HH.out.pR; omega) (.inl HH.out.RB))
          have FR := Lib.hid (HH.out.fr.k3 HH.out.pr.1 hk9 (by have := HH.out.pR; omega) (.inl HH.out.RB))
          have HX9 := Lib.hid (hk9.own HX.out (by omega) (by have := HH.out.pR; have := HH.out.RB; have := HH.out.BV; omega))
          have HG9 := Lib.hid (hk9.grown HH.out.gb (by have := HH.out.hR; have := HH.out.RB; omega))
          have HO9 := Lib.hid ho9
          have HL9 := Lib.hid hr9
          obtain ⟨xa9, xc9, rfl⟩ := ho9.slice
          have HQ := Lib.hid (PR.out.set3 P' N' (.slice xa9 z9.length xc9))
          obtain ⟨lR, r0, r1, r2⟩ := PR.out
          have f0 := FR.out 0
          have f1 := FR.out 1
          have f2 := FR.out 2
          have hRB := HH.out.RB
          have hRw := HH.out.hR
          have hBV := HH.out.BV
          clear ho9 hr9 hk9 lM m0 m1 m2
          go_wp2_with fail
          obtain ⟨_, q0, q1, q2⟩ := HQ.out
          refine bodyPost_ret (v := .tuple #[.agg #[.int .i64 P', .int .i64 N', .slice xa9 z9.length xc9], .slice ba N bc]) (by simp [results, Try.results52, go_sem, q0, q1, q2]) rfl ⟨P', N', _, z9, _, bs, rfl, ?_, hl9, HL9.out, ?_, (by first | omega | (simp; omega)), ?_⟩
          · refine OwnRI.mono (B := w1.heap.size) ?_ (by omega)
            iterate 3 (refine OwnRI.setOut ?_ (by omega) _)
            exact HO9.out
          · refine OwnI.mono (B := w2.heap.size + 1) ?_ (by omega)
            iterate 3 (refine OwnI.setOut ?_ (by omega) _)
            exact HX9.out
          · iterate 3 (refine gb_setn ?_ (by omega) _)
            exact HG9.out
        | true =>
          go_wp2_with (at_builtin; refine wpList_append_place _ rfl _ _ 24 rfl (w2.heap.size + 1) 2 i0 (.int .i64 0) 8 Try.underlying24 hi0 iz0 iz1 iz2 rfl _ N (iv bs) rfl (by have h := HX.out.out; rw [hbl] at h; exact h.alloc _) ⟨w6.heap.size, 0, none⟩ _ (.int .i64 0) rfl (row_int _ _ _) (fun y hy => by simp at hy; rw [hy]; rfl) (by unfold maxLen; omega) (by omega) (by rw [World.size_alloc]; omega) ?_; intro v7 w7 hr7 hg7 hv7; go_loud (have HXX := Lib.hid (pushI (by rw [hbl]; exact hr7)); have HH := Lib.hid (HH.out.low (below_pushI (Below.refl _ _) (Nat.le_refl _) hz6 HX.out hg7)); obtain ⟨lM, m0, m1, m2⟩ := HH.out.pm; obtain ⟨xa7, xc7, e7⟩ := HXX.out.slice; rw [(show (bs ++ [(0 : Int)]).length = N + 1 from by rw [List.length_append, hbl]; rfl)] at e7; subst e7; clear hr7 hg7 hv7))
          have HX := HXX
          obtain ⟨lM, m0, m1, m2⟩ := HH.out.pm
          go_wp2_with fail
          refine (l04Bend_any (by omega) HH.out.sc (by have := HH.out.pR; have := HH.out.RB; omega) (by have := HH.out.pm.1; omega) (by have := HH.out.pm.1; have := HH.out.BV; omega) HH.out.own (by rw [HRL.out]; omega) HROW.out (by omega) (by omega)).mono ?_
          rintro e w9 ⟨P', N', v9, z9, rfl, ho9, hl9, hr9, hk9⟩
          have PR := Lib.hid (HH.out.pr.k3 hk9 (by have := HH.out.pR; omega) (.inl HH.out.RB))
          have FR := Lib.hid (HH.out.fr.k3 HH.out.pr.1 hk9 (by have := HH.out.pR; omega) (.inl HH.out.RB))
          have HX9 := Lib.hid (hk9.own HX.out (by omega) (by have := HH.out.pR; have := HH.out.RB; have := HH.out.BV; omega))
          have HG9 := Lib.hid (hk9.grown HH.out.gb (by have := HH.out.hR; have := HH.out.RB; omega))
          have HO9 := Lib.hid ho9
          have HL9 := Lib.hid hr9
          obtain ⟨xa9, xc9, rfl⟩ := ho9.slice
          have HQ := Lib.hid (PR.out.set3 P' N' (.slice xa9 z9.length xc9))
          obtain ⟨lR, r0, r1, r2⟩ := PR.out
          have f0 := FR.out 0
          have f1 := FR.out 1
          have f2 := FR.out 2
          have hRB := HH.out.RB
          have hRw := HH.out.hR
          have hBV := HH.out.BV
          clear ho9 hr9 hk9 lM m0 m1 m2
          go_wp2_with fail
          obtain ⟨_, q0, q1, q2⟩ := HQ.out
          refine bodyPost_ret (v := .tuple #[.agg #[.int .i64 P', .int .i64 N', .slice xa9 z9.length xc9], .slice xa7 (N + 1) xc7]) (by simp [results, Try.results52, go_sem, q0, q1, q2]) rfl ⟨P', N', _, z9, _, (bs ++ [0]), rfl, ?_, hl9, HL9.out, ?_, (by first | omega | (simp; omega)), ?_⟩
          · refine OwnRI.mono (B := w1.heap.size) ?_ (by omega)
            iterate 3 (refine OwnRI.setOut ?_ (by omega) _)
            exact HO9.out
          · refine OwnI.mono (B := w2.heap.size + 1) ?_ (by omega)
            iterate 3 (refine OwnI.setOut ?_ (by omega) _)
            exact HX9.out
          · iterate 3 (refine gb_setn ?_ (by omega) _)
            exact HG9.out
end Go.Proofs.Ytpimnngomodnhaa

namespace Go.Proofs.Ytpimnngomodnhaa
open Go.RowKit
open Lin
set_option linter.unusedVariables false
set_option linter.unusedSectionVars false

/-- A space and a vector that were drawn for a law. -/
def RetCo (w : World) (e : Ending) (w' : World) : Prop :=
  ∃ (P N : Int) (v : Value) (zz : List (List Int)) (v2 : Value) (xs : List Int), e = .returned (.tuple #[.agg #[.int .i64 P, .int .i64 N, v], v2]) ∧ OwnRI w.heap.size w' v zz ∧ zz.length ≤ 40 ∧ (∀ zs ∈ zz, zs.length ≤ 40) ∧ OwnI w.heap.size w' v2 xs ∧ xs.length ≤ 40 ∧ Below w.heap.size w w'
set_option maxRecDepth 100000 in
set_option maxHeartbeats 3200000 in
theorem drawCoo_any (w : World) (a : Option Addr) (len cap : Nat) (h : Bytes w a len) :
    Calls Try.prog 18 #[.slice a len cap] w fun e w' => RetCo w e w' := by
  have H := Lib.hid (h.on (al1 (Below.refl _ _) (.cells #[.int .i64 0, .int .i64 0, .slice none 0 0] 32)))
  have Pr0 := Lib.hid (PtV.new w 0 0 (.slice none 0 0) 32)
  have Fr0 : Hid (Fz (w.alloc (.cells #[.int .i64 0, .int .i64 0, .slice none 0 0] 32)) w.heap.size) := Fz.new w _ _
  have hz0 : (w.alloc (.cells #[.int .i64 0, .int .i64 0, .slice none 0 0] 32)).heap.size = w.heap.size + 1 := by simp
  have HB0 := Lib.hid (al1 (Below.refl w.heap.size w) (.cells #[.int .i64 0, .int .i64 0, .slice none 0 0] 32))
  clear h
  go_enter Try.func18, Try.ntmps18
  go_wp2_with fail
  refine (from_any _ a len cap).mono ?_
  rintro e w1 hf
  obtain ⟨rfl, hsrc, hb, hp⟩ := hf
  have HS := Lib.hid (newSc H.out hsrc hb hp)
  have HB := Lib.hid (HB0.out.trans (hb.mono (by omega)))
  have Pr := Lib.hid (Pr0.out.on hb)
  have Fr : Hid (Fz w1 w.heap.size) := Fr0.out.on (by simp) hb
  rw [hz0] at HS hp
  clear hsrc hb Pr0 Fr0
  go_wp2_with fail
  refine (l04DrawIn_any (by omega) HS.out).mono ?_
  rintro e w2 ⟨P, N, v, zz, v2, xs, rfl, ho, hl, hr, ho2, hxl, hg⟩
  have hs1 := hg.size
  have Fr : Hid (Fz w2 w.heap.size) := Fr.out.gb Pr.out.1 hg (by omega)
  have Pr := Lib.hid (Pr.out.gb hg (by omega))
  have HO := Lib.hid ho
  have HO2 := Lib.hid ho2
  have HRR := Lib.hid hr
  have HB2 := Lib.hid (HB.out.trans (below_gb2 hg (by omega) (by omega)))
  obtain ⟨va, vc, rfl⟩ := ho.slice
  obtain ⟨ba, bc, rfl⟩ := ho2.slice
  obtain ⟨lR, r0, r1, r2⟩ := Pr.out
  have f0 := Fr.out 0
  have f1 := Fr.out 1
  have f2 := Fr.out 2
  have HQ := Lib.hid (Pr.out.set3 P N (.slice va zz.length vc))
  clear ho ho2 hg hr
  go_wp2_with fail
  obtain ⟨_, q0, q1, q2⟩ := HQ.out
  refine bodyPost_ret (v := .tuple #[.agg #[.int .i64 P, .int .i64 N, .slice va zz.length vc], .slice ba xs.length bc]) (by simp [results, Try.results18, go_sem, q0, q1, q2]) rfl ⟨P, N, _, zz, _, xs, rfl, ?_, hl, HRR.out, ?_, hxl, ?_⟩
  · refine OwnRI.mono (B := w1.heap.size) ?_ (by omega)
    iterate 3 (refine OwnRI.setOut ?_ (by omega) _)
    exact HO.out
  · refine OwnI.mono (B := w1.heap.size) ?_ (by omega)
    iterate 3 (refine OwnI.setOut ?_ (by omega) _)
    exact HO2.out
  · iterate 3 (refine Below.setC ?_ (by omega) _)
    exact HB2.out
/-- A prime, a length and rows that were drawn for a law. -/
def RetDW (w : World) (e : Ending) (w' : World) : Prop :=
  ∃ (P N : Int) (v : Value) (zz : List (List Int)), e = .returned (.tuple #[.int .i64 P, .int .i64 N, v]) ∧ OwnRI w.heap.size w' v zz ∧ zz.length ≤ 40 ∧ (∀ zs ∈ zz, zs.length ≤ 40) ∧ Below w.heap.size w w'
set_option maxRecDepth 100000 in
set_option maxHeartbeats 6400000 in
theorem drawRowsOf_any (w : World) (a : Option Addr) (len cap : Nat) (h : Bytes w a len) :
    Calls Try.prog 23 #[.slice a len cap] w fun e w' => RetDW w e w' := by
  obtain ⟨i0, hi0, iz0, iz1, iz2⟩ := info_parts info_r
  have H := Lib.hid h
  clear h
  go_enter Try.func23, Try.ntmps23
  go_wp2_with fail
  refine (from_any _ a len cap).mono ?_
  rintro e w1 hf
  obtain ⟨rfl, hsrc, hb, hp⟩ := hf
  have HS := Lib.hid (newSc H.out hsrc hb hp)
  have HB := Lib.hid hb
  have hs1 := hb.size
  clear hsrc hb
  go_wp2_with fail
  refine (l04DrawSize_any (by omega) HS.out).mono ?_
  rintro e w2 ⟨q, N, hq, hN, rfl, hs, hg⟩
  have HB := Lib.hid (HB.out.trans (below_gb2 hg (by omega) (by omega)))
  have HS := Lib.hid hs
  have HQ := Lib.hid hq
  have hs2 := HB.out.size
  have hpw := hs.2.1
  clear hs hg hq
  go_wp2_with fail
  refine (l04DrawRows_any HQ.out hN (by omega) HS.out).mono ?_
  rintro e w3 ⟨v, zz, rfl, hzl, hzv, ho, hs, hg⟩
  have HROW : Hid (∀ zs ∈ zz, zs.length ≤ 40) := fun zs hzs => by have := (hzv zs hzs).1; omega
  have HB := Lib.hid (HB.out.trans (below_gb2 hg (by omega) (by omega)))
  have HO := Lib.hid ho
  have HS := Lib.hid hs
  have hs3 := HB.out.size
  have hg3 := hg.size
  clear ho hs hg hzv
  go_wp2_with fail
  refine (pick_any 14 (by omega) (by omega) HS.out).mono ?_
  rintro e w4 ⟨r, hrr, rfl, hs, hg⟩
  have HB := Lib.hid (HB.out.trans (below_gb2 hg (by omega) (by omega)))
  have HO : Hid (OwnRI w2.heap.size w4 v zz) := OwnRX.wide (OwnRX.fr HO.out (fr_gb hg) (.inr hpw)) hg.size (Nat.le_refl _)
  have HS := Lib.hid hs
  have hs4 := HB.out.size
  have hg4 := hg.size
  obtain ⟨va, vc, rfl⟩ := HO.out.slice
  clear hs hg
  by_cases h0 : r = 0
  · subst h0
    obtain ⟨L, hL⟩ := HO.out
    have HL := Lib.hid hL
    clear hL
    have hu5 : Hid (OwnI w4.heap.size ((w4.alloc (.cells #[.int .i64 (q : Int)] 2)).alloc (.cells #[.slice (some ⟨w4.heap.size, 0, none⟩) 1 1] 24)) (.slice (some ⟨w4.heap.size, 0, none⟩) 1 1) [(q : Int)]) :=
      OwnI.on (OwnI.one w4 (q : Int) (Nat.le_refl _)) (al1 (Below.refl _ _) _)
    obtain ⟨z, hz⟩ : ∃ z, zz.length = z := ⟨_, rfl⟩
    have HZL := Lib.hid hz
    rw [hz] at hzl
    simp only [hz] at HL ⊢
    clear hz HO
    go_wp2_with (at_builtin; refine wpList_append_place _ rfl _ _ 28 rfl w2.heap.size 24 i0 (.slice none 0 0) 24 Try.underlying28 hi0 iz0 iz1 iz2 rfl _ z L rfl (OwnR.rowOn HL.out HZL.out (al1 (al1 (Below.refl _ _) _) _)) ⟨w4.heap.size + 1, 0, none⟩ _ (.slice (some ⟨w4.heap.size, 0, none⟩) 1 1) rfl (row_valN _ _ _ _ (by simp)) (fun y hy => by simp at hy; rw [hy]; rfl) (by unfold maxLen; omega) (by omega) (by rw [World.size_alloc, World.size_alloc]; omega) ?_; intro v5 w5 hr5 hg5 hv5)
    have hO := OwnR.pushL (E := w4.heap.size) (zs := [(q : Int)]) (HL.out.on (al1 (al1 (Below.refl _ _) _) _)) hu5.out (by omega) (by rw [HZL.out]; exact hr5) hg5 (fun g hgg => (hv5 g hgg).imp id (fun k => by
      rw [World.size_alloc, World.size_alloc] at k
      exact ⟨by omega, by simp only [Value.ownBlock]; intro e; have := Option.some.inj e; omega⟩))
    have hB5 : Below w.heap.size w w5 := (al1 (al1 HB.out _) _).grown hg5 (by rw [World.size_alloc, World.size_alloc]; omega) (fun k hk => by have := (HL.out.row.lt k hk).1; omega)
    have HO5 : Hid (OwnRI w2.heap.size w5 v5 (zz ++ [[(q : Int)]])) := ⟨_, hO⟩
    have HB5 := Lib.hid hB5
    clear hr5 hg5 hv5 hO hB5 hu5
    go_wp2_with fail
    refine bodyPost_ret (v := .tuple #[.int .i64 (q : Int), .int .i64 (N : Int), v5]) (by simp [results, Try.results23, go_sem]) rfl ⟨q, N, v5, zz ++ [[(q : Int)]], rfl, HO5.out.mono (by omega), (by rw [List.length_append, HZL.out]; simp; omega), (fun zs hzs => ?_), HB5.out⟩
    rcases List.mem_append.1 hzs with m | m
    · exact HROW.out zs m
    · rw [List.mem_singleton.1 m]; simp
  · have e0 : (r == 0) = false := by simpa using h0
    by_cases h1 : r = 1
    · subst h1
      go_wp2_with fail
      refine (among_lit [4, 0] _ _ 2 rfl rfl (by simp) (by simp) (by omega) HS.out).mono ?_
      rintro e w5 ⟨x, hx, rfl, hs, hg⟩
      have HB := Lib.hid (HB.out.trans (below_gb2 hg (by omega) (by omega)))
      have HO : Hid (OwnRI w2.heap.size w5 _ zz) := OwnRX.wide (OwnRX.fr HO.out (fr_gb hg) (.inr hpw)) hg.size (Nat.le_refl _)
      clear hs hg
      go_wp2_with fail
      refine bodyPost_ret (v := .tuple #[.int .i64 x, .int .i64 (N : Int), .slice va zz.length vc]) (by simp [results, Try.results23, go_sem]) rfl ⟨x, N, _, zz, rfl, HO.out.mono (by omega), by omega, HROW.out, HB.out⟩
    · have e1 : (r == 1) = false := by simpa using h1
      by_cases h2 : r = 2
      · subst h2
        go_wp2_with fail
        refine (among_lit [-1, 33] _ _ 2 rfl rfl (by simp) (by simp) (by omega) HS.out).mono ?_
        rintro e w5 ⟨x, hx, rfl, hs, hg⟩
        have HB := Lib.hid (HB.out.trans (below_gb2 hg (by omega) (by omega)))
        have HO : Hid (OwnRI w2.heap.size w5 _ zz) := OwnRX.wide (OwnRX.fr HO.out (fr_gb hg) (.inr hpw)) hg.size (Nat.le_refl _)
        clear hs hg
        go_wp2_with fail
        refine bodyPost_ret (v := .tuple #[.int .i64 (q : Int), .int .i64 x, .slice va zz.length vc]) (by simp [results, Try.results23, go_sem]) rfl ⟨q, x, _, zz, rfl, HO.out.mono (by omega), by omega, HROW.out, HB.out⟩
      · have e2 : (r == 2) = false := by simpa using h2
        go_wp2_with fail
        refine bodyPost_ret (v := .tuple #[.int .i64 (q : Int), .int .i64 (N : Int), .slice va zz.length vc]) (by simp [results, Try.results23, go_sem]) rfl ⟨q, N, _, zz, rfl, HO.out.mono (by omega), by omega, HROW.out, HB.out⟩
end Go.Proofs.Ytpimnngomodnhaa
