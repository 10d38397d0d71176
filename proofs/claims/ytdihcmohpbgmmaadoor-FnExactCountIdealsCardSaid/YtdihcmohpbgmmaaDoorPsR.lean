/-
  The next elements; MinimalOf of the program.
-/
import Derived.Test.YtdihcmohpbgmmaaDoorPsQ
namespace Go.Proofs.YtdihcmohpbgmmaaDoor
open Go.RowKit
set_option linter.unusedVariables false
set_option linter.unusedSimpArgs false

/-- An element that is not done, while all others below it are. -/
def NxtP (es : List (Nat × Nat)) (d a : Nat) : Prop := d.testBit a = false ∧ ∀ b, Rch es b a → b ≠ a → d.testBit b = true
theorem next_eq {es : List (Nat × Nat)} {N a d : Nat} {lo up : Nat → Nat} (hN : N ≤ 12) (hes : ∀ e ∈ es, e.1 < N ∧ e.2 < N) (ho : OrdIs es N lo up) (ha : a < N) (hd : d < 65536) : lo a &&& (65535 - d) = 1 <<< a ↔ NxtP es d a := by
  have hla : lo a < 65536 := by have := ho.ltL hes hN ha; omega
  have hbt : ∀ i, (lo a &&& (65535 - d)).testBit i = ((lo a).testBit i && !d.testBit i) := fun i => andn_bit hla hd
  constructor
  · intro e
    have hb : ∀ i, ((lo a).testBit i && !d.testBit i) = decide (a = i) := fun i => by
      rw [← hbt i, e, Nat.one_shiftLeft, Nat.testBit_two_pow]
    refine ⟨?_, fun b hr hne => ?_⟩
    · have := hb a
      simp at this
      exact this.2
    · have h1 := (ho.lo a ha b).2 hr
      have h2 := hb b
      rw [h1, decide_eq_false (fun e => hne e.symm)] at h2
      simpa using h2
  · rintro ⟨h1, h2⟩
    refine Nat.eq_of_testBit_eq fun i => ?_
    rw [hbt i, Nat.one_shiftLeft, Nat.testBit_two_pow]
    by_cases e : i = a
    · subst e
      rw [(ho.lo i ha i).2 (.refl _), h1]; simp
    · rw [decide_eq_false (fun e2 => e e2.symm)]
      cases h : (lo a).testBit i with
      | false => rfl
      | true => rw [h2 i ((ho.lo a ha i).1 h) e]; rfl
set_option maxRecDepth 100000 in
set_option maxHeartbeats 3200000 in
theorem next_any {es : List (Nat × Nat)} {N d : Nat} {lo up : Nat → Nat} {w : World} (hN : N ≤ 12) (hes : ∀ e ∈ es, e.1 < N ∧ e.2 < N) (ho : OrdIs es N lo up) (hd : d < 65536) :
    Calls Tryd.prog 69 #[ordV N lo up, .int .u16 (d : Int)] w fun e w' => RetN (selN (NxtP es d) N) w e w' := by
  obtain ⟨i0, hi, iz0, iz1, iz2⟩ := info_parts info2
  have HO := Lib.hid ho
  have HE := Lib.hid hes
  have P0 : Hid (PtO (w.alloc (.cells (ordC N lo up).toArray 64)) w.heap.size N lo up) := PtO.new w N lo up 64
  have B0 : Hid (Below w.heap.size w (w.alloc (.cells (ordC N lo up).toArray 64))) := (Below.refl _ w).alloc (Nat.le_refl _) _
  have O0 : Hid (OwnI (w.heap.size + 1) (w.alloc (.cells (ordC N lo up).toArray 64)) (.slice none 0 0) (selN (NxtP es d) 0)) := by
    show OwnI _ _ _ _
    rw [selN_zero]; exact World.ownsRow_nil _ _ _ _
  clear ho hes
  unfold ordV
  obtain ⟨cs, hcs⟩ : ∃ cs, ordC N lo up = cs := ⟨_, rfl⟩
  rw [hcs] at P0 B0 O0 ⊢
  clear hcs
  obtain ⟨l0, p00, -⟩ := P0.out
  go_enter Tryd.func69, Tryd.ntmps69
  go_wp2_with fail
  go_loopw [5, 9] (fun so si wr => ∃ (n : Nat), n ≤ N ∧ si = .int .i64 (n : Int) ∧ Hid (OwnI (w.heap.size + 1) wr so (selN (NxtP es d) n)) ∧ Hid (PtO wr w.heap.size N lo up) ∧ Hid (Below w.heap.size w wr)) (fun _ i _ => N - (intOf i).toNat)
  case atStart => exact ⟨0, Nat.zero_le _, rfl, O0, P0, B0⟩
  case round =>
    clear P0 B0 O0 l0 p00
    obtain ⟨n, hn, rfl, HX, HP, HB⟩ := hrel
    have n0 : 0 ≤ (n : Int) := by omega
    by_cases hlt : n < N
    · have n1 : (n : Int) < (N : Int) := by omega
      have n2 : (n : Int) < 12 := by omega
      have hla : lo n < 65536 := by have := HO.out.ltL HE.out hN hlt; omega
      have hne := next_eq hN HE.out HO.out hlt hd
      rw [← maskOf_one n] at hne
      have hbs := andnot_u16 hla hd
      obtain ⟨lw, q0, q1, -⟩ := HP.out
      have g1 := q1 n (by omega)
      have c1a : (wr.alloc (.cells #[.int .i64 (n : Int)] 2)).cell? ⟨wr.heap.size, 0, none⟩ = some (.int .i64 (n : Int)) := by rw [World.cell?_alloc_at _ _ _ _ rfl]; rfl
      have ne1 : ¬ wr.heap.size = w.heap.size := by omega
      have ne2 : ¬ w.heap.size = wr.heap.size := by omega
      have AL : Hid (Below wr.heap.size wr (wr.alloc (.cells #[.int .i64 (n : Int)] 2)).drew) := (al1 (Below.refl _ _) _).drew
      have HXA : Hid (OwnI (w.heap.size + 1) (wr.alloc (.cells #[.int .i64 (n : Int)] 2)).drew u5 (selN (NxtP es d) n)) := HX.out.on AL.out
      have HPA := Lib.hid (HP.out.on AL.out)
      have HBA := Lib.hid (HB.out.trans (AL.out.mono HB.out.size))
      have hsl : w.heap.size + 1 ≤ wr.heap.size := lw
      clear q0 q1 HX HP
      obtain ⟨la, hlae⟩ : ∃ x, lo n = x := ⟨_, rfl⟩
      rw [hlae] at g1 hbs hne hla
      clear hlae
      by_cases hc : NxtP es d n
      · have e0 : ((((la &&& (65535 - d) : Nat) : Int)) == ((maskOf [(n : Int)] : Nat) : Int)) = true := by rw [hne.2 hc]; simp
        have HCY := Lib.hid hc
        clear hc hne
        go_wp2_with fail
        go_region_held3 (fun w' => w'.cell? ⟨w.heap.size, 1 + n, none⟩ = some (.int .u16 (la : Int))) (go_keep) (first | (go_at_call 70; (refine (setOf_gen (l := [(n : Int)]) (by simp) (by intro v hv; simp at hv; subst hv; exact ⟨n0, by omega⟩) (by intro j h; obtain rfl : j = 0 := by { simp at h; omega }; exact c1a)).mono ?_); rintro e w5 ⟨rfl, rfl⟩))
        clear c1a ne1 ne2 g1
        generalize (wr.alloc (.cells #[.int .i64 (n : Int)] 2)).drew = Wa at HXA HPA HBA AL ⊢
        obtain ⟨ua, uc, rfl⟩ := HXA.out.slice
        have hzl := selN_len (NxtP es d) n
        have hown := HXA.out
        have hs := AL.out.size
        have hsa : w.heap.size + 1 ≤ Wa.heap.size := by omega
        go_wp2_with (at_builtin; refine wpList_append_own _ rfl _ _ 40 rfl (w.heap.size + 1) 2 i0 (.int .i64 0) 1 8 Tryd.underlying40 hi iz0 iz1 iz2 rfl (by decide) _ _ _ rfl (hown.out.alloc _) ⟨Wa.heap.size, 0, none⟩ 1 1 [.int .i64 (n : Int)] rfl rfl ?ah1 ?ah2 ?ah3 ?ah4 ?ah5 ?_)
        try (case ah1 => exact row_one _ _ _)
        case ah2 => first | rfl | (intro u hu; simp at hu; subst hu; rfl)
        case ah3 => unfold maxLen; omega
        case ah4 => omega
        case ah5 => first | omega | (simp; omega)
        intro v2 w10 hown3 hgrow _
        have hp3 := pushU hown3
        have hk3 := below_pushU HBA.out (Nat.le_succ _) hsa hown hgrow
        have hpo : PtO w10 w.heap.size N lo up := (HPA.out.on (al1 (Below.refl _ _) (.cells #[.int .i64 (n : Int)] 2))).onL (Nat.lt_succ_self _) ((Below.refl _ _).grown hgrow (by rw [World.size_alloc]; omega) (fun k hk => by have := (hown.out.lt k hk).1; omega))
        have HX : Hid (OwnI (w.heap.size + 1) w10 v2 (selN (NxtP es d) (n + 1))) := by
          show OwnI _ _ _ _
          rw [selN_yes HCY.out]; exact hp3
        have HB3 := Lib.hid hk3
        have HP3 := Lib.hid hpo
        clear hp3 hk3 hpo hown3 hgrow hown HXA
        go_wp2_with fail
        go_roundw
        case rel => exact ⟨n + 1, by omega, by go_num, HX, HP3, HB3⟩
        case measure => simp [intOf]; omega
      · have e0 : ((((la &&& (65535 - d) : Nat) : Int)) == ((maskOf [(n : Int)] : Nat) : Int)) = false := by
          rw [beq_eq_false_iff_ne]
          intro h
          exact hc (hne.1 (by exact_mod_cast h))
        have HY : Hid (OwnI (w.heap.size + 1) (wr.alloc (.cells #[.int .i64 (n : Int)] 2)).drew u5 (selN (NxtP es d) (n + 1))) := by
          show OwnI _ _ _ _
          rw [selN_no hc]; exact HXA.out
        clear hc hne HXA
        go_wp2_with fail
        go_region_held3 (fun w' => w'.cell? ⟨w.heap.size, 1 + n, none⟩ = some (.int .u16 (la : Int))) (go_keep) (first | (go_at_call 70; (refine (setOf_gen (l := [(n : Int)]) (by simp) (by intro v hv; simp at hv; subst hv; exact ⟨n0, by omega⟩) (by intro j h; obtain rfl : j = 0 := by { simp at h; omega }; exact c1a)).mono ?_); rintro e w5 ⟨rfl, rfl⟩))
        all_goals
          clear c1a ne1 ne2 g1
          go_wp2_with fail
          go_roundw
          case rel => exact ⟨n + 1, by omega, by go_num, HY, HPA, HBA⟩
          case measure => simp [intOf]; omega
    · have hnN : n = N := by omega
      have HY : Hid (OwnI (w.heap.size + 1) wr u5 (selN (NxtP es d) N)) := by
        have h := HX.out
        rw [hnN] at h
        exact h
      obtain ⟨kt, hkt⟩ : ∃ kt : Int, kt = (n : Int) := ⟨_, rfl⟩
      have hk10 : ¬ kt < (N : Int) := by omega
      rw [← hkt]
      clear HX n0 hlt hkt hn hnN n
      go_wp2_with fail
      go_ret
      exact ⟨_, rfl, HY.out.mono (by omega), HB.out⟩
theorem PtO.all25 {w : World} {L N : Nat} {lo up : Nat → Nat} (h : PtO w L N lo up) : L < w.heap.size ∧ w.cell? ⟨L, 0, none⟩ = some (.int .i64 (N : Int)) ∧
    (w.cell? ⟨L, 1, none⟩ = some (.int .u16 (lo 0 : Int)) ∧ w.cell? ⟨L, 2, none⟩ = some (.int .u16 (lo 1 : Int)) ∧ w.cell? ⟨L, 3, none⟩ = some (.int .u16 (lo 2 : Int)) ∧ w.cell? ⟨L, 4, none⟩ = some (.int .u16 (lo 3 : Int)) ∧ w.cell? ⟨L, 5, none⟩ = some (.int .u16 (lo 4 : Int)) ∧ w.cell? ⟨L, 6, none⟩ = some (.int .u16 (lo 5 : Int)) ∧ w.cell? ⟨L, 7, none⟩ = some (.int .u16 (lo 6 : Int)) ∧ w.cell? ⟨L, 8, none⟩ = some (.int .u16 (lo 7 : Int)) ∧ w.cell? ⟨L, 9, none⟩ = some (.int .u16 (lo 8 : Int)) ∧ w.cell? ⟨L, 10, none⟩ = some (.int .u16 (lo 9 : Int)) ∧ w.cell? ⟨L, 11, none⟩ = some (.int .u16 (lo 10 : Int)) ∧ w.cell? ⟨L, 12, none⟩ = some (.int .u16 (lo 11 : Int))) ∧
    (w.cell? ⟨L, 13, none⟩ = some (.int .u16 (up 0 : Int)) ∧ w.cell? ⟨L, 14, none⟩ = some (.int .u16 (up 1 : Int)) ∧ w.cell? ⟨L, 15, none⟩ = some (.int .u16 (up 2 : Int)) ∧ w.cell? ⟨L, 16, none⟩ = some (.int .u16 (up 3 : Int)) ∧ w.cell? ⟨L, 17, none⟩ = some (.int .u16 (up 4 : Int)) ∧ w.cell? ⟨L, 18, none⟩ = some (.int .u16 (up 5 : Int)) ∧ w.cell? ⟨L, 19, none⟩ = some (.int .u16 (up 6 : Int)) ∧ w.cell? ⟨L, 20, none⟩ = some (.int .u16 (up 7 : Int)) ∧ w.cell? ⟨L, 21, none⟩ = some (.int .u16 (up 8 : Int)) ∧ w.cell? ⟨L, 22, none⟩ = some (.int .u16 (up 9 : Int)) ∧ w.cell? ⟨L, 23, none⟩ = some (.int .u16 (up 10 : Int)) ∧ w.cell? ⟨L, 24, none⟩ = some (.int .u16 (up 11 : Int))) :=
  ⟨h.1, h.2.1, ⟨h.2.2.1 0 (by omega), h.2.2.1 1 (by omega), h.2.2.1 2 (by omega), h.2.2.1 3 (by omega), h.2.2.1 4 (by omega), h.2.2.1 5 (by omega), h.2.2.1 6 (by omega), h.2.2.1 7 (by omega), h.2.2.1 8 (by omega), h.2.2.1 9 (by omega), h.2.2.1 10 (by omega), h.2.2.1 11 (by omega)⟩, ⟨h.2.2.2 0 (by omega), h.2.2.2 1 (by omega), h.2.2.2 2 (by omega), h.2.2.2 3 (by omega), h.2.2.2 4 (by omega), h.2.2.2 5 (by omega), h.2.2.2 6 (by omega), h.2.2.2 7 (by omega), h.2.2.2 8 (by omega), h.2.2.2 9 (by omega), h.2.2.2 10 (by omega), h.2.2.2 11 (by omega)⟩⟩
theorem nxt_zero {es : List (Nat × Nat)} {a : Nat} : NxtP es 0 a ↔ ∀ b, Rch es b a → b = a := by
  constructor
  · rintro ⟨_, h⟩ b hb
    apply Classical.byContradiction
    intro e
    have := h b hb e
    simp at this
  · intro h
    exact ⟨by simp, fun b hb hne => absurd (h b hb) hne⟩
set_option maxRecDepth 100000 in
set_option maxHeartbeats 3200000 in
theorem implMin_no {n : Int} {v : Value} {zz : List (List Int)} {w : World} (hv : RowsAt w v zz) (h : ¬ OkP n zz) (hTz : Tz w) :
    Calls Tryd.prog 31 #[.agg #[.int .i64 n, v]] w fun e w' => RetNK [] 1 w e w' := by
  have HOK := Lib.hid h
  have HV := Lib.hid hv
  have TZ := Lib.hid hTz
  obtain ⟨va, vc, rfl⟩ := hv.slice
  have B0 : Hid (Below w.heap.size w (w.alloc (.cells #[.int .i64 n, .slice va zz.length vc] 27))) := al1 (Below.refl _ _) _
  have P0 : Hid (PtP (w.alloc (.cells #[.int .i64 n, .slice va zz.length vc] 27)) w.heap.size n (.slice va zz.length vc)) := PtP.new _ _ _ _
  clear hv hTz h
  go_enter Tryd.func31, Tryd.ntmps31
  go_wp2_with (go_at_call 67; refine Hid.out ?_)
  refine Lib.hid ?_
  refine (orderOf_no (HV.out.on B0.out) HOK.out (TZ.out.on B0.out)).mono ?_
  rintro e w1 ⟨rfl, hb1⟩
  obtain ⟨hov1, hov2⟩ := ord_var w1 0 (fun _ => 0) (fun _ => 0)
  have HO1 := Lib.hid hov1
  have HB := Lib.hid (B0.out.trans ((hb1.trans (hov2.mono hb1.size)).mono B0.out.size))
  have P1 := Lib.hid (P0.out.on (hb1.trans (hov2.mono hb1.size)))
  have HO3 := Lib.hid (ord_there2 w1 0 (fun _ => 0) (fun _ => 0))
  have HS1 := Lib.hid (ord_size 0 (fun _ => 0) (fun _ => 0))
  have HS2 := Lib.hid (ord_one 0 (fun _ => 0) (fun _ => 0))
  have HS3 := Lib.hid (ord_size2 0 (fun _ => 0) (fun _ => 0))
  clear hb1 hov1 hov2
  go_wp2_with (refine wpList_store_mid rfl 64 (.tmp 4) (.tmp 9) rfl w1.heap.size 0 (ordC 0 (fun _ => 0) (fun _ => 0)).toArray rfl rfl ?_ HS1.out HS2.out ?_; exact HO3.out; refine Hid.out ?_)
  refine Lib.hid ?_
  try rw [show (ordC 0 (fun _ => 0) (fun _ => 0)).toArray.toList = ordC 0 (fun _ => 0) (fun _ => 0) from rfl]
  generalize ((w1.alloc (.cells #[.int .i64 0, .int .u16 0, .int .u16 0, .int .u16 0, .int .u16 0, .int .u16 0, .int .u16 0, .int .u16 0, .int .u16 0, .int .u16 0, .int .u16 0, .int .u16 0, .int .u16 0, .int .u16 0, .int .u16 0, .int .u16 0, .int .u16 0, .int .u16 0, .int .u16 0, .int .u16 0, .int .u16 0, .int .u16 0, .int .u16 0, .int .u16 0, .int .u16 0] 64)).setCells w1.heap.size 0 (ordC 0 (fun _ => 0) (fun _ => 0))) = W at HO1 HB P1 ⊢
  obtain ⟨L, hL⟩ : ∃ L, w1.heap.size = L := ⟨_, rfl⟩
  rw [hL] at HO1 ⊢
  clear HO3 HS1 HS2 hL
  go_wp2_with fail
  go_ret2
  exact ⟨_, rfl, World.ownsRow_nil _ _ _ _, HB.out⟩
set_option maxRecDepth 100000 in
set_option maxHeartbeats 3200000 in
theorem implMin_ok {N : Nat} {v : Value} {zz : List (List Int)} {w : World} (hv : RowsAt w v zz) (h : OkP (N : Int) zz) (hTz : Tz w) :
    Calls Tryd.prog 31 #[.agg #[.int .i64 (N : Int), v]] w fun e w' => RetNK (selN (CovN zz) N) 0 w e w' := by
  have HOK := Lib.hid h
  obtain ⟨hN, HPI⟩ : N ≤ 12 ∧ Hid (PairsIn (N : Int) zz) := by
    obtain ⟨M, e, h1, h2⟩ := h.nat
    obtain rfl : N = M := by omega
    exact ⟨h1, h2⟩
  have HSE : Hid (selN (NxtP (esP zz) 0) N = selN (CovN zz) N) := selN_congr fun a ha => nxt_zero.trans (min_iff rfl h ha)
  have HV := Lib.hid hv
  have TZ := Lib.hid hTz
  obtain ⟨va, vc, rfl⟩ := hv.slice
  have B0 : Hid (Below w.heap.size w (w.alloc (.cells #[.int .i64 (N : Int), .slice va zz.length vc] 27))) := al1 (Below.refl _ _) _
  have P0 : Hid (PtP (w.alloc (.cells #[.int .i64 (N : Int), .slice va zz.length vc] 27)) w.heap.size (N : Int) (.slice va zz.length vc)) := PtP.new _ _ _ _
  clear hv hTz h
  go_enter Tryd.func31, Tryd.ntmps31
  go_wp2_with (go_at_call 67; refine Hid.out ?_)
  refine Lib.hid ?_
  refine (orderOf_ok (HV.out.on B0.out) HOK.out (TZ.out.on B0.out)).mono ?_
  rintro e w1 ⟨lo, up, rfl, hod, hb1⟩
  have HOD := Lib.hid hod
  clear hod
  obtain ⟨hov1, hov2⟩ := ord_var w1 N lo up
  have HO1 := Lib.hid hov1
  have HB := Lib.hid (B0.out.trans ((hb1.trans (hov2.mono hb1.size)).mono B0.out.size))
  have P1 := Lib.hid (P0.out.on (hb1.trans (hov2.mono hb1.size)))
  have HO3 := Lib.hid (ord_there2 w1 N lo up)
  have HS1 := Lib.hid (ord_size N lo up)
  have HS2 := Lib.hid (ord_one N lo up)
  have HS3 := Lib.hid (ord_size2 N lo up)
  clear hb1 hov1 hov2
  go_wp2_with (refine wpList_store_mid rfl 64 (.tmp 4) (.tmp 9) rfl w1.heap.size 0 (ordC N lo up).toArray rfl rfl ?_ HS1.out HS2.out ?_; exact HO3.out; refine Hid.out ?_)
  refine Lib.hid ?_
  try rw [show (ordC N lo up).toArray.toList = ordC N lo up from rfl]
  generalize ((w1.alloc (.cells #[.int .i64 0, .int .u16 0, .int .u16 0, .int .u16 0, .int .u16 0, .int .u16 0, .int .u16 0, .int .u16 0, .int .u16 0, .int .u16 0, .int .u16 0, .int .u16 0, .int .u16 0, .int .u16 0, .int .u16 0, .int .u16 0, .int .u16 0, .int .u16 0, .int .u16 0, .int .u16 0, .int .u16 0, .int .u16 0, .int .u16 0, .int .u16 0, .int .u16 0] 64)).setCells w1.heap.size 0 (ordC N lo up)) = W at HO1 HB P1 ⊢
  obtain ⟨L, hL⟩ : ∃ L, w1.heap.size = L := ⟨_, rfl⟩
  rw [hL] at HO1 ⊢
  clear HO3 HS1 HS2 hL
  go_wp2_with fail
  have HRG := Lib.hid HO1.out.range
  refine wp_region_held_drew (S := fun w' => w'.rangeAt L 0 (ordC N lo up)) (by kernel_rfl) ?hS (fun hHeld => ?rest)
  case hS => exact (World.rangeAt_drew _ _ _ _).2 HRG.out
  case rest =>
    refine wpAnyH_take (i := 0) (oi := _) (v := _) rfl (by kernel_rfl) (by kernel_rfl) (by kernel_rfl) (fun _ _ _ h => h) (yieldsIf_load_mid (by rfl) 64 (.tmp 4) rfl L 0 rfl (ordC N lo up) _ (fun w hw => hw) Tryd.underlying64 rfl HS3.out) (by assumption) ?_
    simp only [Act.put, List.setIfInBounds_toArray, List.set_cons_zero, List.set_cons_succ]
    refine wpAnyH_ready (rs := [1]) (by kernel_rfl) (by simp) ?_
    refine AllReadyH.cons (o := _) rfl (fun K hK => ?_) AllReadyH.nil
    go_simp
    go_at_call 70
    refine (setOf_none _).mono ?_
    rintro e w5 ⟨rfl, rfl⟩
    try go_wp2_with fail
    refine hK.out _ _ ?_ (fun hHeld2 => ?_)
    · exact (World.rangeAt_drew _ _ _ _).2 HRG.out
    · clear hK K
      try simp only [Act.put, List.setIfInBounds_toArray, List.set_cons_zero, List.set_cons_succ]
      refine wpAnyH_ready (rs := [2]) (by kernel_rfl) (by simp) ?_
      refine AllReadyH.cons (o := _) rfl (fun K hK => ?_) AllReadyH.nil
      go_simp
      refine (next_any (d := 0) hN HPI.out.lt HOD.out (by omega)).mono ?_
      rintro e w6 ⟨v6, rfl, ho6, hb6'⟩
      have hb6 : Below W.heap.size W w6 := undrew hb6'
      have hrg6 := (HO1.out.on hb6).range
      have HX : Hid (OwnI W.heap.size w6 v6 (selN (CovN zz) N)) := by
        have h := ho6
        rw [HSE.out] at h
        exact h
      have hsz := HB.out.size
      have HB6 := Lib.hid (HB.out.trans (hb6.mono HB.out.size))
      clear ho6 hb6 hb6'
      try go_wp2_with fail
      refine hK.out _ _ ?_ (fun hHeld3 => ?_)
      · exact hrg6
      · clear hK K
        try simp only [Act.put, List.setIfInBounds_toArray, List.set_cons_zero, List.set_cons_succ]
        refine wpAnyH_ready (rs := [3]) (by kernel_rfl) (by simp) ?_
        refine AllReadyH.cons (o := _) rfl (fun K hK => ?_) AllReadyH.nil
        go_simp
        refine hK.out _ _ ?_ (fun hHeld4 => ?_)
        · exact hrg6
        · clear hK K
          try simp only [Act.put, List.setIfInBounds_toArray, List.set_cons_zero, List.set_cons_succ]
          refine wpAnyH_ready (rs := [4]) (by kernel_rfl) (by simp) ?_
          refine AllReadyH.cons (o := _) rfl (fun K hK => ?_) AllReadyH.nil
          go_simp
          refine hK.out _ _ ?_ (fun hHeld5 => ?_)
          · exact hrg6
          · clear hK K
            try simp only [Act.put, List.setIfInBounds_toArray, List.set_cons_zero, List.set_cons_succ]
            refine wpAnyH_done (by kernel_rfl) ?_ _
            go_wp2_with fail
            go_ret2
            exact ⟨_, rfl, HX.out.mono hsz, HB6.out⟩
theorem implMin_is {n : Int} {v : Value} {zz : List (List Int)} {Z : List Int} {k : Int} {w : World} (hv : RowsAt w v zz) (h : MinIs n zz Z k) (hTz : Tz w) :
    Calls Tryd.prog 31 #[.agg #[.int .i64 n, v]] w fun e w' => RetNK Z k w e w' := by
  rcases h with ⟨ho, rfl, rfl⟩ | ⟨N, rfl, ho, rfl, rfl⟩
  · exact implMin_no hv ho hTz
  · exact implMin_ok hv ho hTz
end Go.Proofs.YtdihcmohpbgmmaaDoor
