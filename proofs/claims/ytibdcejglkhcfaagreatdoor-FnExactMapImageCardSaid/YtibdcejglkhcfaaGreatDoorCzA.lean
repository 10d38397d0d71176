/-
  The sides of a simplex: as sets, and by the program.
-/
import Derived.Test.YtibdcejglkhcfaaGreatDoorPL
import Derived.Test.YtibdcejglkhcfaaGreatDoorCyB
namespace Go.Proofs.YtibdcejglkhcfaaGreatDoor
open Go.RowKit
set_option linter.unusedVariables false
set_option linter.unusedSimpArgs false

theorem row_oneU (w : World) (u : Value) (t : TypeId) (n : Nat) (hn : w.heap.size = n) : ∀ (j : Nat) (x : Value), [u][j]? = some x → (w.alloc (.cells #[u] t)).cell? ((⟨n, 0, none⟩ : Addr).add j) = some x := by subst hn; exact row_val w u t
theorem mem_dropAt {s : List Int} (h : Sim s) {k : Nat} (hk : k < s.length) {x : Int} : x ∈ dropAt s k ↔ x ∈ s ∧ x ≠ s[k] := by
  rw [dropAt_is, List.mem_eraseIdx_iff_getElem]
  constructor
  · rintro ⟨i, hi, hne, rfl⟩
    refine ⟨List.getElem_mem hi, fun e => ?_⟩
    rcases Nat.lt_or_gt_of_ne hne with hl | hl
    · have := (List.pairwise_iff_getElem.1 h.rise) i k hi hk hl; omega
    · have := (List.pairwise_iff_getElem.1 h.rise) k i hk hi hl; omega
  · rintro ⟨hm, hne⟩
    obtain ⟨i, hi, rfl⟩ := List.getElem_of_mem hm
    exact ⟨i, hi, fun e => by subst e; exact hne rfl, rfl⟩
theorem mask_one {v : Int} (h : 0 ≤ v ∧ v ≤ 9) : maskOf [v] < 65536 := by
  have := maskOf_lt [v] (fun x hx => by simp at hx; omega); omega
theorem mask_drop {s : List Int} (h : Sim s) {k : Nat} (hk : k < s.length) : maskOf s &&& (65535 - maskOf [s[k]]) = maskOf (dropAt s k) := by
  have hb := h.bd _ (List.getElem_mem hk)
  have hm := maskOf_lt s (fun v hv => h.bd v hv)
  apply Nat.eq_of_testBit_eq
  intro t
  rw [andn_bit (by omega) (mask_one hb), maskOf_bit s fun v hv => (h.bd v hv).1, maskOf_bit [s[k]] fun v hv => by simp at hv; omega,
    maskOf_bit (dropAt s k) fun v hv => (h.bd v ((mem_dropAt h hk).1 hv).1).1]
  rw [Bool.eq_iff_iff]
  simp only [Bool.and_eq_true, Bool.not_eq_true', decide_eq_true_eq, decide_eq_false_iff_not, mem_dropAt h hk, List.mem_singleton]
theorem mask_zero {s : List Int} (h : Sim s) {k : Nat} (hk : k < s.length) : maskOf (dropAt s k) = 0 ↔ s.length ≤ 1 := by
  constructor
  · intro e
    rcases Nat.lt_or_ge 1 s.length with h1 | h1
    · have hs := h.drop h1 hk
      have := hs.verts
      rw [e] at this
      have h2 := hs.pos
      rw [← this] at h2
      exact absurd h2 (by decide)
    · exact h1
  · intro h1
    have := dropAt_len hk
    have e : dropAt s k = [] := List.length_eq_zero_iff.1 (by omega)
    rw [e]; rfl
/-- The sides of a simplex that leave out one of its first k vertices. -/
def sideM (s : List Int) (k : Nat) : List Nat := if s.length ≤ 1 then [] else (List.range k).map fun i => maskOf (dropAt s i)
theorem sideM_len (s : List Int) (k : Nat) : (sideM s k).length ≤ k := by unfold sideM; split <;> simp
theorem sideM_next {s : List Int} {k : Nat} (h : 1 < s.length) : sideM s (k + 1) = sideM s k ++ [maskOf (dropAt s k)] := by
  unfold sideM; rw [if_neg (by omega), if_neg (by omega), List.range_succ, List.map_append]; rfl
theorem sideM_one {s : List Int} {k : Nat} (h : s.length ≤ 1) : sideM s k = [] := by unfold sideM; rw [if_pos h]
theorem sideM_zero (s : List Int) : sideM s 0 = [] := by unfold sideM; split <;> rfl
theorem OwnI.at1 {B : Nat} {w : World} {v : Value} {zs : List Int} (h : OwnI B w v zs) (h0 : 0 < zs.length) : ∃ g cap, v = .slice (some ⟨g, 0, none⟩) zs.length cap ∧ B ≤ g ∧ g < w.heap.size ∧ ∀ j (h : j < zs.length), w.cell? ⟨g, j, none⟩ = some (.int .i64 zs[j]) := by
  have ho := h
  obtain ⟨hx, ⟨rfl, hn⟩ | ⟨g, cap, cur, rfl, hB, hcur, r⟩⟩ := h
  · omega
  · refine ⟨g, cap, rfl, hB, (Array.getElem?_eq_some_iff.1 hcur).1, fun j hj => ?_⟩
    rw [World.ownsRow.cellAt ho.out j (by omega)]
    simp [iv, hj]
theorem OwnU.mono {B B' : Nat} {w : World} {v : Value} {fs : List Nat} (h : OwnU B w v fs) (hle : B' ≤ B) : OwnU B' w v fs := by
  obtain ⟨hx, h | ⟨g, cap, cur, e, hB, r⟩⟩ := h
  · exact ⟨hx, .inl h⟩
  · exact ⟨hx, .inr ⟨g, cap, cur, e, Nat.le_trans hle hB, r⟩⟩
set_option maxRecDepth 100000 in
set_option maxHeartbeats 3200000 in
theorem sides_any {s : List Int} (hsim : Sim s) {w : World} (hTz : Tz w) :
    Calls Tryz.prog 158 #[.int .u16 ((maskOf s : Nat) : Int)] w fun e w' => RetU (sideM s s.length) w e w' := by
  obtain ⟨i0, hi, iz0, iz1, iz2⟩ := info_parts info_u
  have hm := maskOf_lt s (fun v hv => hsim.bd v hv)
  have h4 := hsim.le
  have hmem := members_any hm hTz
  rw [hsim.verts] at hmem
  have HS := Lib.hid hsim
  obtain ⟨m, hmm⟩ : ∃ m, maskOf s = m := ⟨_, rfl⟩
  rw [hmm] at hm hmem ⊢
  have HM := Lib.hid hmm
  have HP := Lib.hid hsim.pos
  clear hmm hTz hsim
  go_enter Tryz.func158, Tryz.ntmps158
  go_wp2_with fail
  refine hmem.mono ?_
  rintro e w5 ⟨u, rfl, ho5, hb5⟩
  obtain ⟨g, uc, rfl, hgB, hgl, k1⟩ := ho5.at1 HP.out
  have K1 := Lib.hid k1
  have HB5 := Lib.hid hb5
  clear ho5 hb5 k1 hmem
  go_wp2_with fail
  go_loopw [3, 10] (fun sv si wr => ∃ (k : Nat), k ≤ s.length ∧ si = .int .i64 (k : Int) ∧ Hid (OwnU w5.heap.size wr sv (sideM s k)) ∧ Hid (Below w5.heap.size w5 wr)) (fun _ i _ => s.length - (intOf i).toNat)
  case atStart => exact ⟨0, Nat.zero_le _, rfl, by show OwnU _ _ _ _; rw [sideM_zero]; exact World.ownsRow_nil _ _ _ _, Below.refl _ _⟩
  case round =>
    obtain ⟨k, hk, rfl, HO, HB⟩ := hrel
    have hs := HB.out.size
    have i0' : 0 ≤ (k : Int) := by omega
    by_cases hlt : k < s.length
    · have i1 : (k : Int) < (s.length : Int) := by omega
      have c1 : wr.cell? ⟨g, k, none⟩ = some (.int .i64 s[k]) := (HB.out.cell (p := ⟨g, k, none⟩) hgl).trans (K1.out k hlt)
      have hbd := HS.out.bd _ (List.getElem_mem hlt)
      have hmd := mask_drop HS.out hlt
      have hmz := mask_zero HS.out hlt
      have hm1 := mask_one hbd
      rw [HM.out] at hmd
      have hsl := sideM_len s k
      have hand : bits BinOp.andNot IntKind.u16 (m : Int) ((maskOf [s[k]] : Nat) : Int) = ((maskOf (dropAt s k) : Nat) : Int) := by rw [andnot_u16 (by omega) hm1, hmd]
      have hset : Calls Tryz.prog 47 #[.slice (some ⟨wr.heap.size, 0, none⟩) 1 1] (wr.alloc (.cells #[.int .i64 s[k]] 2)) fun e w' => e = .returned (.int .u16 ((maskOf [s[k]] : Nat) : Int)) ∧ (wr.alloc (.cells #[.int .i64 s[k]] 2)) = w' :=
        setOf_some (l := [s[k]]) (by simp) (fun v hv => by simp at hv; omega) (fun j hj => by
          have hj0 : j = 0 := by simp at hj; exact hj
          subst hj0
          rw [World.cell?_alloc_at _ _ _ _ rfl]; rfl)
      have hd1 : maskOf (dropAt s k) < 65536 := by rw [← hmd]; exact Nat.lt_of_le_of_lt Nat.and_le_left (by omega)
      generalize s[k] = v at c1 hand hset
      generalize maskOf [v] = mv at hand hset
      rcases Nat.lt_or_ge 1 s.length with h1 | h1
      · have hn := sideM_next (k := k) h1
        have hne : maskOf (dropAt s k) ≠ 0 := fun e => by have := hmz.1 e; omega
        generalize maskOf (dropAt s k) = d at hand hn hne hd1
        have HN := Lib.hid hn
        have e0 : ((d : Int) != 0) = true := by simp; omega
        clear hmz hn hmd hm1
        go_wp2_with fail
        refine hset.mono ?_
        rintro e w2 ⟨rfl, rfl⟩
        clear hset
        have hown1 := World.ownsRow.alloc HO.out.out (.cells #[.int .i64 v] 2)
        go_wp2_with (at_builtin; refine wpList_append_own _ rfl _ _ 64 rfl w5.heap.size 68 i0 (.int .u16 0) 1 2 Tryz.underlying64 hi iz0 iz1 iz2 rfl (by decide) _ _ _ rfl (World.ownsRow.alloc hown1 (.cells #[.int .u16 (d : Int)] 68)) ⟨wr.heap.size + 1, 0, none⟩ 1 1 [.int .u16 (d : Int)] rfl rfl ?ah1 ?ah2 ?ah3 ?ah4 ?ah5 ?_)
        try (case ah1 => exact row_oneU _ _ _ _ (by simp))
        case ah2 => first | rfl | (intro u hu; simp at hu; subst hu; rfl)
        case ah3 => unfold maxLen; omega
        case ah4 => omega
        case ah5 => first | omega | (simp; omega)
        intro v2 w10 hown3 hgrow _
        have HO2 : Hid (OwnU w5.heap.size w10 v2 (sideM s (k + 1))) := by
          show OwnU _ _ _ _
          rw [HN.out]; exact pushUv hown3
        have HB2 := Lib.hid (below_pushUv (al1 HB.out (.cells #[.int .i64 v] 2)) (Nat.le_refl _) (by rw [World.size_alloc]; omega) hown1 hgrow)
        clear hown3 hgrow hown1
        go_wp2_with fail
        go_roundw
        case rel => exact ⟨k + 1, by omega, by go_num, HO2, HB2⟩
        case measure => simp [intOf]; omega
      · have hz := hmz.2 h1
        have hn : sideM s (k + 1) = sideM s k := by rw [sideM_one h1, sideM_one h1]
        rw [hz] at hand
        have HN := Lib.hid hn
        clear hmz hn hmd hm1 hz hd1
        go_wp2_with fail
        refine hset.mono ?_
        rintro e w2 ⟨rfl, rfl⟩
        clear hset
        have HB2 := Lib.hid (al1 HB.out (.cells #[.int .i64 v] 2))
        have HO2 : Hid (OwnU w5.heap.size (wr.alloc (.cells #[.int .i64 v] 2)) u3 (sideM s (k + 1))) := by
          show OwnU _ _ _ _
          rw [HN.out]; exact World.ownsRow.alloc HO.out.out _
        go_wp2_with fail
        go_roundw
        case rel => exact ⟨k + 1, by omega, by go_num, HO2, HB2⟩
        case measure => simp [intOf]; omega
    · obtain rfl : k = s.length := by omega
      go_wp2_with fail
      go_ret
      exact ⟨_, rfl, OwnU.mono HO.out HB5.out.size, HB5.out.trans (HB.out.mono HB5.out.size)⟩
end Go.Proofs.YtibdcejglkhcfaaGreatDoor
