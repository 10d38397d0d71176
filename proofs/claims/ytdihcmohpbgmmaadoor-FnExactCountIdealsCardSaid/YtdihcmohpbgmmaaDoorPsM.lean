/-
  The program's hasCircle.
-/
import Derived.Test.YtdihcmohpbgmmaaDoorPsL
import Derived.Test.YtdihcmohpbgmmaaDoorPsK
namespace Go.Proofs.YtdihcmohpbgmmaaDoor
open Go.RowKit
set_option linter.unusedVariables false
set_option linter.unusedSimpArgs false

section
variable {P : Program}
theorem wpList_load_midG {ops : Array Oper} {rest : List Oper} {op : Oper} {a : Act} {w : World} {Q : Exit → Act → World → Prop} (hw : Region.wanted op (yielded ops a.tmps) = true) (ty : TypeId) (x : Operand) (ho : op.op = .load ty x)
    (b o : Nat) (hx : a.eval x = .pointer (some ⟨b, o, none⟩)) (cs : List Value) (d : TypeDesc) (hc : w.rangeAt b o cs)
    (hu : P.underlying ty = some d) (hd : d.isRow = true) (hi : (P.info? ty).map (·.size) = some cs.length)
    (h : wpList P ops Q rest (a.put op.dst (.agg cs.toArray)) w) : wpList P ops Q (op :: rest) a w :=
  wpList_step fun K hK => by rw [if_pos hw]; exact wp_load_mid ty x ho b o hx cs d hc hu hd hi (hK _ _ h)
end
theorem maskOf_one (a : Nat) : maskOf [(a : Int)] = 1 <<< a := by simp [maskOf]
theorem maskOf_two (a b : Nat) : maskOf [(a : Int), (b : Int)] = 1 <<< a ||| 1 <<< b := by simp [maskOf]
theorem cells_one (w : World) (x : Int) (t : TypeId) : ∀ j (h : j < [x].length), (w.alloc (.cells #[.int .i64 x] t)).cell? ⟨w.heap.size, 0 + j, none⟩ = some (.int .i64 [x][j]) := fun j h => by
  obtain rfl : j = 0 := by simp at h; exact h
  rw [World.cell?_alloc_at _ _ _ _ rfl]; rfl
theorem cells_two (w : World) (x y : Int) (t : TypeId) : ∀ j (h : j < [x, y].length), (w.alloc (.cells #[.int .i64 x, .int .i64 y] t)).cell? ⟨w.heap.size, 0 + j, none⟩ = some (.int .i64 [x, y][j]) := fun j h => by
  have : j = 0 ∨ j = 1 := by simp at h; omega
  rcases this with rfl | rfl
  · rw [World.cell?_alloc_at _ _ _ _ rfl]; rfl
  · rw [World.cell?_alloc_at _ _ _ _ rfl]; rfl
set_option maxRecDepth 100000 in
set_option maxHeartbeats 3200000 in
theorem hasCircle_is {es : List (Nat × Nat)} {N : Nat} {lo up : Nat → Nat} {T : Bool} {w : World} (hN : N ≤ 12) (hes : ∀ e ∈ es, e.1 < N ∧ e.2 < N) (ho : OrdIs es N lo up) (hT : T = true ↔ Circ es N) :
    Calls Tryd.prog 62 #[ordV N lo up] w fun e w' => e = .returned (.bool T) ∧ Below w.heap.size w w' := by
  have HO := Lib.hid ho
  have HE := Lib.hid hes
  have HT := Lib.hid hT
  have P0 : Hid (PtO (w.alloc (.cells (ordC N lo up).toArray 64)) w.heap.size N lo up) := PtO.new w N lo up 64
  have B0 : Hid (Below w.heap.size w (w.alloc (.cells (ordC N lo up).toArray 64))) := (Below.refl _ w).alloc (Nat.le_refl _) _
  have HI := Lib.hid infoO
  have HL : Hid ((ordC N lo up).length = 25) := ordC_len N lo up
  clear ho hes hT
  unfold ordV
  obtain ⟨cs, hcs⟩ : ∃ cs, ordC N lo up = cs := ⟨_, rfl⟩
  have HCS := Lib.hid hcs
  rw [hcs] at P0 B0 HL ⊢
  clear hcs
  obtain ⟨l0, p00, -⟩ := P0.out
  go_enter Tryd.func62, Tryd.ntmps62
  go_wp2_with fail
  go_loopw [6] (fun si wr => ∃ (n : Nat), n ≤ N ∧ si = .int .i64 (n : Int) ∧ Hid (∀ a b, a < n → b < N → Rch es a b → Rch es b a → b = a) ∧ Hid (PtO wr w.heap.size N lo up) ∧ Hid (Below w.heap.size w wr)) (fun i _ => N - (intOf i).toNat)
  case atStart => exact ⟨0, Nat.zero_le _, rfl, fun a b h => by omega, P0, B0⟩
  case round =>
    clear P0 B0 l0 p00
    obtain ⟨n, hn, rfl, HC, HP, HB⟩ := hrel
    have n0 : 0 ≤ (n : Int) := by omega
    obtain ⟨lp, p0, -⟩ := HP.out
    by_cases hlt : n < N
    · have n1 : (n : Int) < (N : Int) := by omega
      have HLT : Hid (lo n < 65536) := by have := HO.out.ltL HE.out hN hlt; show lo n < 65536; omega
      have HUT : Hid (up n < 65536) := by have := HO.out.ltU HE.out hN hlt; show up n < 65536; omega
      have hat := circ_at HE.out hlt ((HO.out.up n hlt).and (HO.out.lo n hlt)) (MaskIs.bit n)
      rw [← maskOf_one n] at hat
      by_cases hc : ∀ b, b < N → Rch es n b → Rch es b n → b = n
      · have e0 : (((up n &&& lo n : Nat) : Int) != ((maskOf [(n : Int)] : Nat) : Int)) = false := by
          have := hat.2 hc
          rw [this]; simp
        have HC' : Hid (∀ a b, a < n + 1 → b < N → Rch es a b → Rch es b a → b = a) := fun a b ha hb h1 h2 => by
          by_cases e : a = n
          · subst e; exact hc b hb h1 h2
          · exact HC.out a b (by omega) hb h1 h2
        clear hat hc
        go_wp2_with (first | (refine wpList_load_mid rfl 64 (.tmp 1) rfl w.heap.size 0 rfl (ordC N lo up) _ HP.out.range Tryd.underlying64 rfl (by rw [ordC_len]; exact HI.out) ?_) | (go_at_call 85; refine (between_is (N := N) (lo := lo) (up := up) (a := n) (b := n) (by omega) (by omega) HLT.out HUT.out).mono ?_; rintro e w3 ⟨rfl, hb3⟩) | (go_at_call 70; refine (setOf_gen (l := [(n : Int)]) (by simp) (by intro v hv; simp at hv; subst hv; exact ⟨n0, by omega⟩) (cells_one _ _ _)).mono ?_; rintro e w5 ⟨rfl, rfl⟩))
        have hb4 : Below wr.heap.size wr (w3.alloc (.cells #[.int .i64 (n : Int)] 2)) := al1 hb3 _
        go_roundw
        case rel => exact ⟨n + 1, by omega, by go_num, HC', HP.out.on hb4, HB.out.trans (hb4.mono HB.out.size)⟩
        case measure => simp [intOf]; omega
      · have e0 : (((up n &&& lo n : Nat) : Int) != ((maskOf [(n : Int)] : Nat) : Int)) = true := by
          rw [bne_iff_ne]
          intro h
          exact hc (hat.1 (by exact_mod_cast h))
        obtain rfl : T = true := HT.out.2 (by
          apply Classical.byContradiction
          intro hn'
          exact hc fun b hb h1 h2 => (Circ.no hn' hlt hb h1 h2).symm)
        clear hat hc
        go_wp2_with (first | (refine wpList_load_mid rfl 64 (.tmp 1) rfl w.heap.size 0 rfl (ordC N lo up) _ HP.out.range Tryd.underlying64 rfl (by rw [ordC_len]; exact HI.out) ?_) | (go_at_call 85; refine (between_is (N := N) (lo := lo) (up := up) (a := n) (b := n) (by omega) (by omega) HLT.out HUT.out).mono ?_; rintro e w3 ⟨rfl, hb3⟩) | (go_at_call 70; refine (setOf_gen (l := [(n : Int)]) (by simp) (by intro v hv; simp at hv; subst hv; exact ⟨n0, by omega⟩) (cells_one _ _ _)).mono ?_; rintro e w5 ⟨rfl, rfl⟩))
        have hb4 : Below wr.heap.size wr (w3.alloc (.cells #[.int .i64 (n : Int)] 2)) := al1 hb3 _
        have HB4 := Lib.hid (HB.out.trans (hb4.mono HB.out.size))
        clear hb3 hb4
        go_ret
        exact ⟨rfl, HB4.out⟩
    · obtain rfl : T = false := by
        cases hT : T with
        | false => rfl
        | true =>
          obtain ⟨a, b, ha, hb, hne, h1, h2⟩ := HT.out.1 hT
          exact absurd (HC.out a b (by omega) hb h1 h2) (fun e => hne e.symm)
      obtain ⟨kt, hkt⟩ : ∃ kt : Int, kt = (n : Int) := ⟨_, rfl⟩
      have hk10 : ¬ kt < (N : Int) := by omega
      rw [← hkt]
      clear HC n0 hlt hkt hn n
      go_wp2_with fail
      go_ret
      exact ⟨rfl, HB.out⟩
/-- A list of rows of the call's own. -/
def RetL (Z : List (List Int)) (w : World) (e : Ending) (w' : World) : Prop := ∃ v, e = .returned v ∧ OwnRI w.heap.size w' v Z ∧ Below w.heap.size w w'
set_option maxRecDepth 100000 in
set_option maxHeartbeats 3200000 in
theorem covers_is {es : List (Nat × Nat)} {N : Nat} {lo up : Nat → Nat} {w : World} (hN : N ≤ 12) (hes : ∀ e ∈ es, e.1 < N ∧ e.2 < N) (ho : OrdIs es N lo up) :
    Calls Tryd.prog 63 #[ordV N lo up] w fun e w' => RetL (covL es N) w e w' := by
  obtain ⟨i0, hi0, iz0, iz1, iz2⟩ := info_parts info_r
  have HO := Lib.hid ho
  have HE := Lib.hid hes
  have P0 : Hid (PtO (w.alloc (.cells (ordC N lo up).toArray 64)) w.heap.size N lo up) := PtO.new w N lo up 64
  have B0 : Hid (Below w.heap.size w (w.alloc (.cells (ordC N lo up).toArray 64))) := (Below.refl _ w).alloc (Nat.le_refl _) _
  have HI := Lib.hid infoO
  clear ho hes
  unfold ordV
  obtain ⟨cs, hcs⟩ : ∃ cs, ordC N lo up = cs := ⟨_, rfl⟩
  have HCS := Lib.hid hcs
  rw [hcs] at P0 B0 ⊢
  clear hcs
  obtain ⟨l0, p00, -⟩ := P0.out
  go_enter Tryd.func63, Tryd.ntmps63
  go_wp2_with fail
  have hsz1 : w.heap.size + 1 ≤ (w.alloc (.cells cs.toArray 64)).heap.size := by simp
  go_loopw [3, 8] (fun so si wr => ∃ (n : Nat), n ≤ N ∧ si = .int .i64 (n : Int) ∧ Hid (OwnRI (w.heap.size + 1) wr so (covTo es N n)) ∧ Hid (PtO wr w.heap.size N lo up) ∧ Hid (Below w.heap.size w wr)) (fun _ i _ => N - (intOf i).toNat)
  case atStart => exact ⟨0, Nat.zero_le _, rfl, OwnRI.nul _ _, P0, B0⟩
  case round =>
    clear P0 B0 l0 p00 hsz1
    obtain ⟨n, hn, rfl, HX, HP, HB⟩ := hrel
    have n0 : 0 ≤ (n : Int) := by omega
    obtain ⟨lp, p0, -⟩ := HP.out
    by_cases hlt : n < N
    · have n1 : (n : Int) < (N : Int) := by omega
      have HXa : Hid (OwnRI (w.heap.size + 1) wr u3 (covTo es N n ++ covRow es n 0)) := by
        show OwnRI _ _ _ _
        rw [covRow_zero, List.append_nil]; exact HX.out
      obtain ⟨wo, rfl⟩ : ∃ wo, wo = wr := ⟨_, rfl⟩
      clear HX
      go_wp2_with fail
      go_loopw [3, 13] (fun so si wr => ∃ (m : Nat), m ≤ N ∧ si = .int .i64 (m : Int) ∧ Hid (OwnRI (w.heap.size + 1) wr so (covTo es N n ++ covRow es n m)) ∧ Hid (PtO wr w.heap.size N lo up) ∧ Hid (Below w.heap.size w wr)) (fun _ i _ => N - (intOf i).toNat)
      case atStart => exact ⟨0, Nat.zero_le _, rfl, HXa, HP, HB⟩
      case round =>
        clear HXa HB HP lp p0
        obtain ⟨m, hm, rfl, HX, HP, HB⟩ := hrel
        have m0 : 0 ≤ (m : Int) := by omega
        by_cases hlm : m < N
        · have m1 : (m : Int) < (N : Int) := by omega
          have HKP : Hid (¬ Cov es n m → OwnRI (w.heap.size + 1) wr u3 (covTo es N n ++ covRow es n (m + 1))) := fun h => by rw [covRow_no h]; exact HX.out
          by_cases hnm : n = m
          · have e0 : ((n : Int) != (m : Int)) = false := by subst hnm; simp
            have HY := Lib.hid (HKP.out fun h => h.1 hnm)
            clear HKP hnm HX
            go_wp2_with fail
            go_roundw
            case rel => exact ⟨m + 1, by omega, by go_num, HY, HP, HB⟩
            case measure => simp [intOf]; omega
          · have e0 : ((n : Int) != (m : Int)) = true := by rw [bne_iff_ne]; omega
            have HLT : Hid (lo m < 65536) := by have := HO.out.ltL HE.out hN hlm; show lo m < 65536; omega
            have HUT : Hid (up n < 65536) := by have := HO.out.ltU HE.out hN hlt; show up n < 65536; omega
            have hcv := cov_iff ((HO.out.up n hlt).and (HO.out.lo m hlm)) ((MaskIs.bit n).or (MaskIs.bit m)) hnm
            rw [← maskOf_two n m] at hcv
            by_cases hc : Cov es n m
            · have e1 : (((up n &&& lo m : Nat) : Int) == ((maskOf [(n : Int), (m : Int)] : Nat) : Int)) = true := by
                rw [hcv.2 hc]; simp
              have HCO := Lib.hid hc
              obtain ⟨L, hL⟩ := HX.out
              have HL := Lib.hid hL
              obtain ⟨z, hz⟩ : ∃ z, (covTo es N n ++ covRow es n m).length = z := ⟨_, rfl⟩
              have hz9 : z ≤ 168 := by
                rw [← hz, List.length_append]
                have h1 := covTo_len es N n
                have h2 := covRow_len es n m
                have h3 : n * N ≤ 12 * 12 := Nat.mul_le_mul (by omega) hN
                omega
              have HZL := Lib.hid hz
              obtain ⟨oa, oc, rfl⟩ := HL.out.slice
              have HL2 := Lib.hid HL.out
              rw [hz] at HL2 ⊢
              have hbs := HB.out.size
              have hlp := HP.out.1
              clear hL hz HKP HX HL hcv hc hnm
              go_wp2_with (first | (refine wpList_load_midG (by rfl) 64 (.tmp 1) rfl w.heap.size 0 rfl (ordC N lo up) _ HP.out.range Tryd.underlying64 rfl (by rw [ordC_len]; exact HI.out) ?_) | (go_at_call 85; refine (between_is (N := N) (lo := lo) (up := up) (a := n) (b := m) (by omega) (by omega) HLT.out HUT.out).mono ?_; rintro e w3 ⟨rfl, hb3⟩) | (go_at_call 70; refine (setOf_gen (l := [(n : Int), (m : Int)]) (by simp) (by intro v hv; simp at hv; rcases hv with rfl | rfl; exact ⟨n0, by omega⟩; exact ⟨m0, by omega⟩) (cells_two _ _ _ _)).mono ?_; rintro e w5 ⟨rfl, hw5⟩; have hb5 : Below wr.heap.size wr w5 := (by rw [← hw5]; exact al1 hb3 _); have hs5 := hb5.size; clear hw5) | (at_builtin; refine wpList_append_place _ rfl _ _ 22 rfl (w.heap.size + 1) 40 i0 (.slice none 0 0) 24 Tryd.underlying22 hi0 iz0 iz1 iz2 rfl _ z L rfl (by have h := ((HL2.out.on hb5).on (al1 (al1 (Below.refl _ _) (.cells #[.int .i64 (n : Int), .int .i64 (m : Int)] 2)) (.cells #[.slice (some ⟨w5.heap.size, 0, none⟩) 2 2] 40))).row; rw [HZL.out] at h; exact h) ⟨w5.heap.size + 1, 0, none⟩ _ (.slice (some ⟨w5.heap.size, 0, none⟩) 2 2) rfl (row_oneP _ _ _ _ (by simp)) (fun y hy => by simp at hy; rw [hy]; rfl) (by unfold maxLen; omega) (by omega) (by rw [World.size_alloc, World.size_alloc]; omega) ?_; intro v3 w4 hr3 hg3 hv3))
              have HU := Lib.hid (ownI_two w5 (n : Int) (m : Int))
              have hbu : Below w5.heap.size w5 (w5.alloc (.cells #[.int .i64 (n : Int), .int .i64 (m : Int)] 2)) := al1 (Below.refl _ _) _
              have hp3 := OwnRI.push ((HL2.out.on hb5).wide hs5 (Nat.le_refl _)) HU.out hbu (by omega) (by rw [HZL.out]; exact hr3) hg3 (fun g hg => (hv3 g hg).imp id (fun h => by rw [World.size_alloc, World.size_alloc] at h; rw [World.size_alloc]; omega))
              have hb4 : Below w.heap.size w w4 := ((((HB.out.trans (hb5.mono HB.out.size)).alloc (by omega) (.cells #[.int .i64 (n : Int), .int .i64 (m : Int)] 2)).alloc (by rw [World.size_alloc]; omega) (.cells #[.slice (some ⟨w5.heap.size, 0, none⟩) 2 2] 40))).grown hg3 (by rw [World.size_alloc, World.size_alloc]; omega) (fun k hk => by have := (HL2.out.row.lt k hk).1; omega)
              have hp4 : PtO w4 w.heap.size N lo up := by
                have h1 := (HP.out.on hb5).on (al1 (al1 (Below.refl _ _) (.cells #[.int .i64 (n : Int), .int .i64 (m : Int)] 2)) (.cells #[.slice (some ⟨w5.heap.size, 0, none⟩) 2 2] 40))
                exact h1.onL (Nat.lt_succ_self _) ((Below.refl _ _).grown hg3 (by rw [World.size_alloc, World.size_alloc]; omega) (fun k hk => by have := (HL2.out.row.lt k hk).1; omega))
              have HY : Hid (OwnRI (w.heap.size + 1) w4 v3 (covTo es N n ++ covRow es n (m + 1))) := by
                show OwnRI _ _ _ _
                rw [covRow_yes HCO.out, ← List.append_assoc]; exact hp3
              have HB4 := Lib.hid hb4
              have HP4 := Lib.hid hp4
              clear hp3 hb4 hp4 hr3 hg3 hv3 hbu
              go_wp2_with fail
              go_roundw
              case rel => exact ⟨m + 1, by omega, by go_num, HY, HP4, HB4⟩
              case measure => simp [intOf]; omega
            · have e1 : (((up n &&& lo m : Nat) : Int) == ((maskOf [(n : Int), (m : Int)] : Nat) : Int)) = false := by
                rw [beq_eq_false_iff_ne]
                intro h
                exact hc (hcv.1 (by exact_mod_cast h))
              have HY := Lib.hid (HKP.out hc)
              clear HKP HX hcv hc hnm
              go_wp2_with (first | (refine wpList_load_midG (by rfl) 64 (.tmp 1) rfl w.heap.size 0 rfl (ordC N lo up) _ HP.out.range Tryd.underlying64 rfl (by rw [ordC_len]; exact HI.out) ?_) | (go_at_call 85; refine (between_is (N := N) (lo := lo) (up := up) (a := n) (b := m) (by omega) (by omega) HLT.out HUT.out).mono ?_; rintro e w3 ⟨rfl, hb3⟩) | (go_at_call 70; refine (setOf_gen (l := [(n : Int), (m : Int)]) (by simp) (by intro v hv; simp at hv; rcases hv with rfl | rfl; exact ⟨n0, by omega⟩; exact ⟨m0, by omega⟩) (cells_two _ _ _ _)).mono ?_; rintro e w5 ⟨rfl, rfl⟩))
              have hb4 : Below wr.heap.size wr (w3.alloc (.cells #[.int .i64 (n : Int), .int .i64 (m : Int)] 2)) := al1 hb3 _
              go_roundw
              case rel => exact ⟨m + 1, by omega, by go_num, HY.out.on hb4, HP.out.on hb4, HB.out.trans (hb4.mono HB.out.size)⟩
              case measure => simp [intOf]; omega
        · have hmN : m = N := by omega
          have HY : Hid (OwnRI (w.heap.size + 1) wr u3 (covTo es N (n + 1))) := by
            show OwnRI _ _ _ _
            rw [covTo_next, ← hmN]
            have h := HX.out
            rw [hmN] at h ⊢
            exact h
          obtain ⟨kt, hkt⟩ : ∃ kt : Int, kt = (m : Int) := ⟨_, rfl⟩
          have hk10 : ¬ kt < (N : Int) := by omega
          rw [← hkt]
          clear HX m0 hlm hkt hm hmN m
          go_wp2_with fail
          go_roundw
          case rel => exact ⟨n + 1, by omega, by go_num, HY, HP, HB⟩
          case measure => simp [intOf]; omega
    · have hnN : n = N := by omega
      have HY : Hid (OwnRI (w.heap.size + 1) wr u3 (covL es N)) := by
        have h := HX.out
        rw [hnN] at h
        exact h
      obtain ⟨kt, hkt⟩ : ∃ kt : Int, kt = (n : Int) := ⟨_, rfl⟩
      have hk10 : ¬ kt < (N : Int) := by omega
      rw [← hkt]
      clear HX n0 hlt hkt hn hnN n
      go_wp2_with fail
      go_ret
      exact ⟨_, rfl, HY.out.mono (by omega), HB.out⟩
end Go.Proofs.YtdihcmohpbgmmaaDoor
