/-
  GreedyCollapse of the model.
  GreedyCollapse of the program.
-/
import Derived.Test.YtibdcejglkhcfaaDoorPT
namespace Go.Proofs.YtibdcejglkhcfaaDoor
open Go.RowKit
set_option linter.unusedVariables false
set_option linter.unusedSimpArgs false

/-- Removing the first free pair, again and again. -/
inductive Grd : List (List Int) → Nat → List (List Int) → Nat → Prop
  | stop {zz : List (List Int)} {m : Nat} : frK zz zz.length = [] → Grd zz m zz m
  | step {zz R : List (List Int)} {m f s N : Nat} {t : List (Nat × Nat)} : frK zz zz.length = (f, s) :: t → Grd (wthK zz [(f : Int), (s : Int)] zz.length) (m + 1) R N → Grd zz m R N
theorem head_pair {zz : List (List Int)} {f s : Nat} {t : List (Nat × Nat)} (h : frK zz zz.length = (f, s) :: t) : ∃ hf : f < zz.length, gtK zz zz[f] f zz.length = [s] := by
  have hm : (f, s) ∈ frK zz zz.length := by rw [h]; simp
  obtain ⟨h1, h2⟩ := mem_frK hm
  refine ⟨h1, ?_⟩
  rwa [List.getD_eq_getElem?_getD, List.getElem?_eq_getElem h1, Option.getD_some] at h2
theorem pair_lt {zz : List (List Int)} {f s : Nat} {t : List (Nat × Nat)} (h : frK zz zz.length = (f, s) :: t) : f < s ∧ s < zz.length := by
  obtain ⟨hf, hg⟩ := head_pair h
  exact mem_gtK (i := s) (by rw [hg]; simp)
theorem pair_ok {zz : List (List Int)} {f s : Nat} {t : List (Nat × Nat)} (ho : OkC zz) (h : frK zz zz.length = (f, s) :: t) : OkC (wthK zz [(f : Int), (s : Int)] zz.length) := by
  obtain ⟨hf, hg⟩ := head_pair h
  exact wth_ok ho hf hg
theorem pair_len {zz : List (List Int)} {f s : Nat} {t : List (Nat × Nat)} (h : frK zz zz.length = (f, s) :: t) : (wthK zz [(f : Int), (s : Int)] zz.length).length + 2 = zz.length := by
  obtain ⟨h1, h2⟩ := pair_lt h
  exact wth_len h1 h2
theorem grd_has : ∀ (n : Nat) (zz : List (List Int)) (m : Nat), zz.length ≤ n → OkC zz → ∃ R N, Grd zz m R N ∧ OkC R
  | 0, zz, m, hn, ho => by
    have h0 : zz = [] := List.length_eq_zero_iff.1 (by omega)
    subst h0
    exact ⟨[], m, .stop rfl, ho⟩
  | n + 1, zz, m, hn, ho => by
    cases h : frK zz zz.length with
    | nil => exact ⟨zz, m, .stop h, ho⟩
    | cons p t =>
      obtain ⟨f, s⟩ := p
      obtain ⟨R, N, h1, h2⟩ := grd_has n _ (m + 1) (by have := pair_len h; omega) (pair_ok ho h)
      exact ⟨R, N, .step h h1, h2⟩
theorem Grd.okC {zz R : List (List Int)} {m N : Nat} (h : Grd zz m R N) : OkC zz → OkC R := by
  induction h with
  | stop _ => exact id
  | step h _ ih => exact fun ho => ih (pair_ok ho h)
theorem Grd.nil_inv {zz R : List (List Int)} {m N : Nat} (h : Grd zz m R N) (h0 : frK zz zz.length = []) : R = zz ∧ N = m := by
  cases h with
  | stop _ => exact ⟨rfl, rfl⟩
  | step h _ => rw [h0] at h; cases h
theorem Grd.cons_inv {zz R : List (List Int)} {m N f s : Nat} {t : List (Nat × Nat)} (h : Grd zz m R N) (h0 : frK zz zz.length = (f, s) :: t) : Grd (wthK zz [(f : Int), (s : Int)] zz.length) (m + 1) R N := by
  cases h with
  | stop h => rw [h0] at h; cases h
  | step h g =>
    rw [h0] at h
    injection h with e _
    injection e with e1 e2
    subst e1 e2
    exact g
theorem wth_nil (zz : List (List Int)) : wthK zz [] zz.length = zz := by
  have h : (List.range zz.length).map (fun i => zz.getD i []) = zz := by
    apply List.ext_getElem
    · simp
    · intro i h1 h2; simp [List.getD, h2]
  unfold wthK
  rw [List.filter_eq_self.2 (fun i _ => by simp)]
  exact h
def GrIs (zz yy : List (List Int)) (n c : Int) : Prop := (¬ OkC zz ∧ yy = [] ∧ n = 0 ∧ c = 1) ∨ (OkC zz ∧ (∃ m : Nat, n = (m : Int) ∧ Grd zz 0 yy m) ∧ c = 0)
theorem gr_has (zz : List (List Int)) : ∃ yy n c, GrIs zz yy n c := by
  by_cases h : OkC zz
  · obtain ⟨R, N, h1, _⟩ := grd_has zz.length zz 0 (Nat.le_refl _) h
    exact ⟨R, _, _, .inr ⟨h, ⟨N, rfl, h1⟩, rfl⟩⟩
  · exact ⟨_, _, _, .inl ⟨h, rfl, rfl, rfl⟩⟩
theorem GrIs.fit {zz yy : List (List Int)} {n c : Int} (h : GrIs zz yy n c) : FitR yy := by
  rcases h with ⟨_, rfl, _⟩ | ⟨ho, ⟨m, _, hg⟩, _⟩
  · exact ⟨by simp, by simp [tot]⟩
  · exact okC_fit (hg.okC ho)
def RetGr (yy : List (List Int)) (n c : Int) (w : World) (e : Ending) (w' : World) : Prop := ∃ v, e = .returned (.tuple #[.agg #[v], .int .i64 n, .int .i64 c]) ∧ OwnRI w.heap.size w' v yy ∧ Below w.heap.size w w'
/-- A variable that holds a complex of its own. -/
structure VarC (w : World) (L B : Nat) (v : Value) (zz : List (List Int)) : Prop where
  pt : PtC w L v
  fz : w.frozen? ⟨L, 0, none⟩ = false
  own : OwnRI B w v zz
theorem VarC.on {w w' : World} {L B : Nat} {v : Value} {zz : List (List Int)} (h : VarC w L B v zz) (hb : Below w.heap.size w w') : VarC w' L B v zz :=
  ⟨h.pt.on hb, (hb.frozen (p := ⟨L, 0, none⟩) h.pt.1).trans h.fz, OwnRI.on h.own hb⟩
theorem VarC.set {w : World} {L B B' : Nat} {v v' : Value} {zz zz' : List (List Int)} (h : VarC w L B v zz) (ho : OwnRI B' w v' zz') (hl : L < B') : VarC (w.setCell ⟨L, 0, none⟩ v') L B' v' zz' :=
  ⟨PtC.set (v' := v) h.pt v', (World.frozen?_setCell _ _ _ _).trans h.fz, OwnRI.setOut ho hl _⟩
theorem VarC.new {w : World} {B : Nat} {v : Value} {zz : List (List Int)} (t : TypeId) (ho : OwnRI B w v zz) : VarC (w.alloc (.cells #[v] t)) w.heap.size B v zz :=
  ⟨PtC.new w v t, World.frozen?_alloc_new w _ _ _, OwnRI.on ho ((Below.refl _ _).alloc (Nat.le_refl _) _)⟩
set_option maxRecDepth 100000 in
set_option maxHeartbeats 12800000 in
theorem specGr_is {u : Value} {zz yy : List (List Int)} {n c : Int} {w : World} (hu : RowsQ w u zz) (h : GrIs zz yy n c) :
    Calls Tryd.prog 32 #[.agg #[u]] w fun e w' => RetGr yy n c w e w' := by
  have HU := Lib.hid hu
  obtain ⟨a, cp, rfl, hl, k1⟩ := hu
  have hW1 : Below w.heap.size w ((w.alloc (.cells #[.slice a zz.length cp] 28)).alloc (.cells #[.slice none 0 0] 28)) := al1 ((Below.refl _ w).alloc (Nat.le_refl _) _) _
  have hP1 : PtC ((w.alloc (.cells #[.slice a zz.length cp] 28)).alloc (.cells #[.slice none 0 0] 28)) w.heap.size (.slice a zz.length cp) := PtC.new1 w _ _ _
  have hR1 := ResC.new (w.alloc (.cells #[.slice a zz.length cp] 28))
  rw [World.size_alloc] at hR1
  have hU1 := HU.out.on hW1
  obtain ⟨LR, hLR⟩ : ∃ LR, w.heap.size + 1 = LR := ⟨_, rfl⟩
  rw [hLR] at hR1
  have hlr : w.heap.size < LR := by omega
  have HLR := Lib.hid hLR
  clear k1 hLR
  rcases h with ⟨ho, rfl, rfl, rfl⟩ | ⟨ho, ⟨N, rfl, hg⟩, rfl⟩
  · go_enter Tryd.func32, Tryd.ntmps32
    go_wp2_with fail
    rw [HLR.out]
    generalize (w.alloc (.cells #[.slice a zz.length cp] 28)).alloc (.cells #[.slice none 0 0] 28) = W1 at hW1 hP1 hR1 hU1 ⊢
    have AL := Lib.hid hW1
    have P1 := Lib.hid hP1
    have R1 := Lib.hid hR1
    have U1 := Lib.hid hU1
    clear hW1 hP1 hR1 hU1
    refine (l05Ok_is P1.out U1.out (.inr ⟨rfl, ho⟩)).mono ?_
    rintro e w2 ⟨rfl, hb2⟩
    obtain ⟨⟨_, r2⟩, z2⟩ := R1.out.on hb2
    have HB2 := Lib.hid (AL.out.trans (hb2.mono AL.out.size))
    clear hb2
    go_wp2_with fail
    refine bodyPost_ret (v := .tuple #[.agg #[.slice none 0 0], .int .i64 0, .int .i64 1]) (by simp [results, Tryd.results32, go_sem, r2]) rfl ⟨_, rfl, OwnRI.nul _ _, HB2.out.setCell (p := ⟨LR, 0, none⟩) (Nat.le_of_lt hlr) _⟩
  · have HO := Lib.hid ho
    have HG := Lib.hid hg
    have h48 := ho.2
    go_enter Tryd.func32, Tryd.ntmps32
    go_wp2_with fail
    rw [HLR.out]
    generalize (w.alloc (.cells #[.slice a zz.length cp] 28)).alloc (.cells #[.slice none 0 0] 28) = W1 at hW1 hP1 hR1 hU1 ⊢
    have AL := Lib.hid hW1
    have P1 := Lib.hid hP1
    have R1 := Lib.hid hR1
    have U1 := Lib.hid hU1
    clear hW1 hP1 hR1 hU1 hg
    refine (l05Ok_is P1.out U1.out (.inl ⟨rfl, ho⟩)).mono ?_
    rintro e w2 ⟨rfl, hb2⟩
    have R2 := Lib.hid (R1.out.on hb2)
    have P2 := Lib.hid (P1.out.on hb2)
    have U2 := Lib.hid (U1.out.on hb2)
    have HB2 := Lib.hid (AL.out.trans (hb2.mono AL.out.size))
    have AB : Hid (Below w2.heap.size w2 (w2.alloc (.cells #[] 2))) := al1 (Below.refl _ _) _
    have HX0 : Hid (IntsAt (w2.alloc (.cells #[] 2)) (.slice (some ⟨w2.heap.size, 0, none⟩) 0 0) []) := ⟨_, 0, rfl, Nat.zero_le _, .inl rfl⟩
    clear hb2 ho
    go_wp2_with fail
    refine (l08Without_any (P2.out.on AB.out) (U2.out.on AB.out) HX0.out HO.out).mono ?_
    rintro e w5 ⟨v5, rfl, ho5, hb5'⟩
    have hb5 : Below w2.heap.size w2 w5 := AB.out.trans (hb5'.mono AB.out.size)
    rw [wth_nil] at ho5
    have hw2 : w2.heap.size ≤ (w2.alloc (.cells #[] 2)).heap.size := by simp
    obtain ⟨va, vc, rfl⟩ := ho5.slice
    have V0 := Lib.hid (VarC.new 28 (OwnRI.mono ho5 hw2))
    have B0 : Hid (Below w.heap.size w (w5.alloc (.cells #[.slice va zz.length vc] 28))) := (HB2.out.trans (hb5.mono HB2.out.size)).alloc (Nat.le_trans HB2.out.size hb5.size) _
    have R0 : Hid (ResC (w5.alloc (.cells #[.slice va zz.length vc] 28)) LR) := (R2.out.on hb5).on ((Below.refl _ _).alloc (Nat.le_refl _) _)
    have hlv : LR < w5.heap.size := Nat.lt_of_lt_of_le R2.out.1.1 hb5.size
    have hlb : LR < w2.heap.size := R2.out.1.1
    have hsw : w.heap.size ≤ w2.heap.size := HB2.out.size
    clear hb5' ho5 hb5 hw2
    go_wp2_with fail
    obtain ⟨Lv, hLv⟩ : ∃ Lv, w5.heap.size = Lv := ⟨_, rfl⟩
    have HLV := Lib.hid hLv
    rw [hLv] at V0 hlv ⊢
    generalize (w5.alloc (.cells #[.slice va zz.length vc] 28)) = W6 at V0 B0 R0 ⊢
    have hln : LR ≠ Lv := by omega
    have hwl : w.heap.size ≤ Lv := by omega
    have I0 : Hid (∃ (B : Nat) (v : Value) (xx : List (List Int)), VarC W6 Lv B v xx ∧ LR < B ∧ w.heap.size ≤ B ∧ OkC xx ∧ Grd xx 0 yy N ∧ 0 + xx.length ≤ 48) := ⟨_, _, zz, V0.out, hlb, hsw, HO.out, HG.out, by omega⟩
    clear V0 hLv
    go_loopw [6] (fun sm wr => ∃ (m : Nat), sm = .int .i64 (m : Int) ∧ m ≤ 48 ∧ Hid (∃ (B : Nat) (v : Value) (xx : List (List Int)), VarC wr Lv B v xx ∧ LR < B ∧ w.heap.size ≤ B ∧ OkC xx ∧ Grd xx m yy N ∧ m + xx.length ≤ 48) ∧ Hid (ResC wr LR) ∧ Hid (Below w.heap.size w wr)) (fun sm _ => 48 - (intOf sm).toNat)
    case atStart => exact ⟨0, rfl, by omega, I0, R0, B0⟩
    case round =>
      clear I0 R0 B0
      obtain ⟨m, rfl, hm48, HI, HR, HB⟩ := hrel
      obtain ⟨B, v, xx, hV, hB1, hB2, hok, hgd, hml⟩ := HI.out
      have hs := HB.out.size
      have HV := Lib.hid hV
      have HOK := Lib.hid hok
      obtain ⟨xa, xc, rfl⟩ := hV.own.slice
      have HQ := Lib.hid (OwnRI.atQ hV.own (okC_fit hok))
      clear hV HI
      go_wp2_with fail
      refine (l08Free_any HV.out.pt HQ.out.rows hok).mono ?_
      rintro e w7 ⟨v7, rfl, ho7, hb7⟩
      have V7 := Lib.hid (HV.out.on hb7)
      have R7 := Lib.hid (HR.out.on hb7)
      have Q7 := Lib.hid (HQ.out.on hb7)
      have HB7 := Lib.hid (HB.out.trans (hb7.mono hs))
      have hs7 := hb7.size
      have hLw : Lv < wr.heap.size := HV.out.pt.1
      cases hfr : frK xx xx.length with
      | nil =>
        obtain ⟨rfl, rfl⟩ := hgd.nil_inv hfr
        have hrr : frR yy yy.length = [] := by unfold frR; rw [hfr]; rfl
        rw [hrr] at ho7
        obtain ⟨ra, rc, rfl⟩ := ho7.slice
        have pv := V7.out.pt.2
        obtain ⟨⟨_, r7⟩, z7⟩ := R7.out
        have HOV := Lib.hid V7.out.own
        clear ho7 hb7 hfr hrr hgd hok
        go_wp2_with fail
        refine bodyPost_ret (v := .tuple #[.agg #[.slice xa yy.length xc], .int .i64 (N : Int), .int .i64 0]) (by simp [results, Tryd.results32, go_sem, r7]) rfl ⟨_, rfl, OwnRI.mono (OwnRI.setOut HOV.out hB1 _) hB2, HB7.out.setCell (p := ⟨LR, 0, none⟩) (Nat.le_of_lt hlr) _⟩
      | cons p t =>
        obtain ⟨f, s⟩ := p
        have hrr : ∃ tl, frR xx xx.length = [(f : Int), (s : Int)] :: tl := by unfold frR; rw [hfr]; exact ⟨_, rfl⟩
        obtain ⟨tl, htl⟩ := hrr
        rw [htl] at ho7
        have hpl := pair_len hfr
        have HG2 := Lib.hid (hgd.cons_inv hfr)
        have HP2 := Lib.hid (pair_ok hok hfr)
        have hfl : (([(f : Int), (s : Int)] :: tl).length ≤ 48) := by rw [← htl]; have := frR_len xx xx.length; omega
        have hrow7 : RowsAt w7 v7 ([(f : Int), (s : Int)] :: tl) := by
          rw [← htl] at ho7 ⊢
          exact OwnRI.at ho7 (by have := (FpIs.fit (zz := xx) (yy := frR xx xx.length) (c := 0) (.inr ⟨hok, rfl, rfl⟩)); exact this)
        obtain ⟨ra, rc, rfl, hrl, kr⟩ := hrow7.any
        obtain ⟨rb, ro, ru, rfl, hrb, cr, ir⟩ := kr 0 (by simp)
        simp only [Nat.add_zero, List.getElem_cons_zero] at cr ir
        have IR := Lib.hid ir
        obtain ⟨ia, ic, rfl⟩ := ir.slice
        have hl2 : ¬ ((([(f : Int), (s : Int)] :: tl).length : Int) == 0) = true := by simp; omega
        have hl2' : ((([(f : Int), (s : Int)] :: tl).length : Int) == 0) = false := by simpa using hl2
        have hl3 : (0 : Int) < ((([(f : Int), (s : Int)] :: tl).length : Nat) : Int) := by first | (simp; done) | (simp; omega)
        generalize ([(f : Int), (s : Int)] :: tl).length = ln at hl2' hl3 hfl hrl
        have w1 : IntKind.i64.wrap ((m : Int) + 1) = ((m + 1 : Nat) : Int) := by rw [show (m : Int) + 1 = ((m + 1 : Nat) : Int) by omega]; exact IntWalk.i64_in _ (by omega)
        clear ho7 hb7 hfr hgd hok kr ir hl2 htl
        go_wp2_with fail
        refine (l08Without_any V7.out.pt Q7.out IR.out HOK.out).mono ?_
        rintro e w9 ⟨v9, rfl, ho9, hb9⟩
        obtain ⟨qa, qc, rfl⟩ := ho9.slice
        have V9 := Lib.hid ((V7.out.on hb9).set ho9 (by omega))
        have R9 : Hid (ResC (w9.setCell ⟨Lv, 0, none⟩ (.slice qa (wthK xx [(f : Int), (s : Int)] xx.length).length qc)) LR) := ⟨PtC.far (R7.out.on hb9).1 hln _, (World.frozen?_setCell _ _ _ _).trans (R7.out.on hb9).2⟩
        have HB9 : Hid (Below w.heap.size w (w9.setCell ⟨Lv, 0, none⟩ (.slice qa (wthK xx [(f : Int), (s : Int)] xx.length).length qc))) := (HB7.out.trans (hb9.mono HB7.out.size)).setCell (p := ⟨Lv, 0, none⟩) hwl _
        have pv := (V7.out.on hb9).pt.2
        have fv := (V7.out.on hb9).fz
        have HI2 : Hid (∃ (B : Nat) (v : Value) (xx' : List (List Int)), VarC (w9.setCell ⟨Lv, 0, none⟩ (.slice qa (wthK xx [(f : Int), (s : Int)] xx.length).length qc)) Lv B v xx' ∧ LR < B ∧ w.heap.size ≤ B ∧ OkC xx' ∧ Grd xx' (m + 1) yy N ∧ (m + 1) + xx'.length ≤ 48) := ⟨_, _, _, V9.out, by omega, by omega, HP2.out, HG2.out, by omega⟩
        have hm47 : m + 1 ≤ 48 := by omega
        clear ho9 hb9 V9 hpl
        go_wp2_with fail
        go_roundw
        case rel => exact ⟨m + 1, by go_num, by omega, HI2, R9, HB9⟩
        case measure => simp [intOf]; omega
end Go.Proofs.YtibdcejglkhcfaaDoor

namespace Go.Proofs.YtibdcejglkhcfaaDoor
open Go.RowKit
set_option linter.unusedVariables false
set_option linter.unusedSimpArgs false

def RetP (L : List (Nat × Nat)) (w : World) (e : Ending) (w' : World) : Prop := ∃ v, e = .returned v ∧ OwnP w.heap.size w' v L ∧ Below w.heap.size w w'
theorem fprO_any {B : Nat} {v : Value} {zz : List (List Int)} {w : World} (ho : OkC zz) (h : OwnU B w v (zz.map maskOf)) :
    Calls Tryd.prog 53 #[v] w fun e w' => RetP (frK zz zz.length) w e w' := by
  obtain ⟨a, c, rfl, hk⟩ := h.sims
  exact freePairs_any ho hk
set_option maxRecDepth 100000 in
set_option maxHeartbeats 12800000 in
theorem implGr_is {u : Value} {zz yy : List (List Int)} {n c : Int} {w : World} (hu : RowsAt w u zz) (h : GrIs zz yy n c) (hTz : Tz w) :
    Calls Tryd.prog 33 #[.agg #[u]] w fun e w' => RetGr yy n c w e w' := by
  have HU := Lib.hid hu
  obtain ⟨a, cp, rfl⟩ := hu.slice
  have hW1 : Below w.heap.size w ((w.alloc (.cells #[.slice a zz.length cp] 28)).alloc (.cells #[.slice none 0 0] 28)) := al1 ((Below.refl _ w).alloc (Nat.le_refl _) _) _
  have hP1 : PtC ((w.alloc (.cells #[.slice a zz.length cp] 28)).alloc (.cells #[.slice none 0 0] 28)) w.heap.size (.slice a zz.length cp) := PtC.new1 w _ _ _
  have hR1 := ResC.new (w.alloc (.cells #[.slice a zz.length cp] 28))
  rw [World.size_alloc] at hR1
  have hU1 := HU.out.on hW1
  have hT1 := hTz.on hW1
  obtain ⟨LR, hLR⟩ : ∃ LR, w.heap.size + 1 = LR := ⟨_, rfl⟩
  rw [hLR] at hR1
  have hlr : w.heap.size < LR := by omega
  have HLR := Lib.hid hLR
  have p1 := hP1.2
  clear hLR hu hTz
  rcases h with ⟨ho, rfl, rfl, rfl⟩ | ⟨ho, ⟨N, rfl, hg⟩, rfl⟩
  · have HN := Lib.hid ho
    clear ho
    go_enter Tryd.func33, Tryd.ntmps33
    go_wp2_with fail
    rw [HLR.out]
    generalize (w.alloc (.cells #[.slice a zz.length cp] 28)).alloc (.cells #[.slice none 0 0] 28) = W1 at hW1 hP1 hR1 hU1 hT1 p1 ⊢
    have AL := Lib.hid hW1
    have P1 := Lib.hid hP1
    have R1 := Lib.hid hR1
    have U1 := Lib.hid hU1
    have T1 := Lib.hid hT1
    clear hW1 hP1 hR1 hU1 hT1 p1
    refine (implVal_is U1.out (.inr ⟨rfl, HN.out⟩) T1.out).mono ?_
    rintro e w2 ⟨rfl, hb2⟩
    obtain ⟨⟨_, r2⟩, z2⟩ := R1.out.on hb2
    have R2 := Lib.hid (R1.out.on hb2)
    have P2 := Lib.hid (P1.out.on hb2)
    have U2 := Lib.hid (U1.out.on hb2)
    have T2 := Lib.hid (T1.out.on hb2)
    have HB2 := Lib.hid (AL.out.trans (hb2.mono AL.out.size))
    clear hb2
    go_wp2_with fail
    refine bodyPost_ret (v := .tuple #[.agg #[.slice none 0 0], .int .i64 0, .int .i64 1]) (by simp [results, Tryd.results33, go_sem, r2]) rfl ⟨_, rfl, OwnRI.nul _ _, HB2.out.setCell (p := ⟨LR, 0, none⟩) (Nat.le_of_lt hlr) _⟩
  · have HO := Lib.hid ho
    have HG := Lib.hid hg
    have h48 := ho.2
    clear ho hg
    go_enter Tryd.func33, Tryd.ntmps33
    go_wp2_with fail
    rw [HLR.out]
    generalize (w.alloc (.cells #[.slice a zz.length cp] 28)).alloc (.cells #[.slice none 0 0] 28) = W1 at hW1 hP1 hR1 hU1 hT1 p1 ⊢
    have AL := Lib.hid hW1
    have P1 := Lib.hid hP1
    have R1 := Lib.hid hR1
    have U1 := Lib.hid hU1
    have T1 := Lib.hid hT1
    clear hW1 hP1 hR1 hU1 hT1 p1
    refine (implVal_is U1.out (.inl ⟨rfl, HO.out⟩) T1.out).mono ?_
    rintro e w2 ⟨rfl, hb2⟩
    obtain ⟨⟨_, r2⟩, z2⟩ := R1.out.on hb2
    have R2 := Lib.hid (R1.out.on hb2)
    have P2 := Lib.hid (P1.out.on hb2)
    have U2 := Lib.hid (U1.out.on hb2)
    have T2 := Lib.hid (T1.out.on hb2)
    have HB2 := Lib.hid (AL.out.trans (hb2.mono AL.out.size))
    clear hb2
    have p2 := P2.out.2
    clear r2 z2
    go_wp2_with fail
    refine (list_any U2.out HO.out).mono ?_
    rintro e w3 ⟨v3, rfl, ho3, hb3⟩
    obtain ⟨la, lc, rfl, _⟩ := ho3.sims
    have HO3 := Lib.hid ho3
    have HB3 := Lib.hid (HB2.out.trans (hb3.mono HB2.out.size))
    have R3 := Lib.hid (R2.out.on hb3)
    have T3 := Lib.hid (T2.out.on hb3)
    have hlb : LR < w2.heap.size := R2.out.1.1
    have hsw : w.heap.size ≤ w2.heap.size := HB2.out.size
    clear ho3 hb3 p2
    go_wp2_with fail
    refine (fprO_any HO.out HO3.out).mono ?_
    rintro e w4 ⟨v4, rfl, ho4, hb4⟩
    have HB4 := Lib.hid (HB3.out.trans (hb4.mono HB3.out.size))
    have R4 := Lib.hid (R3.out.on hb4)
    have T4 := Lib.hid (T3.out.on hb4)
    have I0 : Hid (∃ (B : Nat) (xx : List (List Int)), OwnU B w4 (.slice la zz.length lc) (xx.map maskOf) ∧ LR < B ∧ w.heap.size ≤ B ∧ OkC xx ∧ Grd xx 0 yy N ∧ 0 + xx.length ≤ 48 ∧ ∃ B2, OwnP B2 w4 v4 (frK xx xx.length)) := ⟨_, zz, OwnU.on HO3.out hb4, hlb, hsw, HO.out, HG.out, by omega, _, ho4⟩
    obtain ⟨pa, pc, rfl⟩ := ho4.slice
    clear ho4 hb4
    go_wp2_with fail
    go_loopw [5, 6, 7] (fun sl sm sp wr => ∃ (m : Nat), sm = .int .i64 (m : Int) ∧ m ≤ 48 ∧ Hid (∃ (B : Nat) (xx : List (List Int)), OwnU B wr sl (xx.map maskOf) ∧ LR < B ∧ w.heap.size ≤ B ∧ OkC xx ∧ Grd xx m yy N ∧ m + xx.length ≤ 48 ∧ ∃ B2, OwnP B2 wr sp (frK xx xx.length)) ∧ Hid (ResC wr LR) ∧ Hid (Tz wr) ∧ Hid (Below w.heap.size w wr)) (fun _ sm _ _ => 48 - (intOf sm).toNat)
    case atStart => exact ⟨0, rfl, by omega, I0, R4, T4, HB4⟩
    case round =>
      clear I0 R4 T4 HB4
      obtain ⟨m, rfl, hm48, HI, HR, HT, HB⟩ := hrel
      obtain ⟨B, xx, hU, hB1, hB2, hok, hgd, hml, B2, hP⟩ := HI.out
      have hs := HB.out.size
      obtain ⟨ua, uc, rfl, _⟩ := hU.sims
      obtain ⟨qa, qc, rfl⟩ := hP.slice
      have HUU := Lib.hid hU
      have HPP := Lib.hid hP
      have HOK := Lib.hid hok
      clear hU hP HI
      cases hfr : frK xx xx.length with
      | nil =>
        obtain ⟨rfl, rfl⟩ := hgd.nil_inv hfr
        have hok2 := hok
        clear hgd hfr
        have h0 : ¬ ((([] : List (Nat × Nat)).length : Int) > 0) := by simp
        go_wp2_with fail
        refine (cxO_any HOK.out HUU.out HT.out).mono ?_
        rintro e w7 ⟨v7, rfl, ho7, hb7⟩
        obtain ⟨va, vc, rfl⟩ := ho7.slice
        have HO7 := Lib.hid ho7
        have HB7 := Lib.hid (HB.out.trans (hb7.mono hs))
        have hR7 := HR.out.on hb7
        have hR8 := hR7.on ((Below.refl _ _).alloc (Nat.le_refl _) (.cells #[.slice va yy.length vc] 28))
        obtain ⟨⟨_, r8⟩, z8⟩ := hR8
        have HO8 := Lib.hid (OwnRI.on ho7 ((Below.refl _ _).alloc (Nat.le_refl _) (.cells #[.slice va yy.length vc] 28)))
        have HB8 : Hid (Below w.heap.size w (w7.alloc (.cells #[.slice va yy.length vc] 28))) := HB7.out.alloc HB7.out.size _
        have hlw : LR < wr.heap.size := HR.out.1.1
        have hl7 : LR ≠ w7.heap.size := by have := hR7.1.1; omega
        clear ho7 hb7 hR7
        go_wp2_with fail
        refine bodyPost_ret (v := .tuple #[.agg #[.slice va yy.length vc], .int .i64 (N : Int), .int .i64 0]) (by simp [results, Tryd.results33, go_sem, r8]) rfl ⟨_, rfl, OwnRI.mono (OwnRI.setOut HO8.out hlw _) hs, HB8.out.setCell (p := ⟨LR, 0, none⟩) (Nat.le_of_lt hlr) _⟩
      | cons p t =>
        obtain ⟨f, s⟩ := p
        rw [hfr] at HPP
        have hpl := pair_len hfr
        have HG2 := Lib.hid (hgd.cons_inv hfr)
        have HP2 := Lib.hid (pair_ok hok hfr)
        obtain ⟨hf, hg⟩ := head_pair hfr
        have HWT : Hid (∀ (B : Nat) (v : Value) (w1 : World), OwnU B w1 v (xx.map maskOf) → Calls Tryd.prog 58 #[v, .agg #[.int .i64 (f : Int), .int .i64 (s : Int)]] w1 fun e w' => RetU ((wthK xx [(f : Int), (s : Int)] xx.length).map maskOf) w1 e w') := fun B v w1 h => wthO_any HOK.out hf hg h
        have hfl : ((f, s) :: t).length ≤ 48 := by rw [← hfr]; have := frK_len xx xx.length; omega
        obtain ⟨g, cap, e, hgl, ks⟩ := HPP.out.at1 (by simp)
        injection e with e1 e2 e3
        subst e1 e3
        obtain ⟨ka, kb⟩ := ks 0 (by simp)
        simp only [Nat.mul_zero, Nat.zero_add, List.getElem_cons_zero] at ka kb
        have hl3 : ((((f, s) :: t).length : Nat) : Int) > 0 := by first | (simp; done) | (simp; omega)
        have hl4 : (0 : Int) < ((((f, s) :: t).length : Nat) : Int) := hl3
        generalize ((f, s) :: t).length = ln at hl3 hl4 hfl
        have w1 : IntKind.i64.wrap ((m : Int) + 1) = ((m + 1 : Nat) : Int) := by rw [show (m : Int) + 1 = ((m + 1 : Nat) : Int) by omega]; exact IntWalk.i64_in _ (by omega)
        have hm47 : m + 1 ≤ 48 := by omega
        clear hfr hgd hok ks hf hg
        go_wp2_with fail
        refine (HWT.out _ _ _ HUU.out).mono ?_
        rintro e w9 ⟨v9, rfl, ho9, hb9⟩
        obtain ⟨xa, xc, rfl, _⟩ := ho9.sims
        have HO9 := Lib.hid ho9
        have R9 := Lib.hid (HR.out.on hb9)
        have T9 := Lib.hid (HT.out.on hb9)
        have HB9 := Lib.hid (HB.out.trans (hb9.mono hs))
        have hlw : LR < wr.heap.size := HR.out.1.1
        clear ho9 hb9 ka kb
        go_wp2_with fail
        refine (fprO_any HP2.out HO9.out).mono ?_
        rintro e w11 ⟨v11, rfl, ho11, hb11⟩
        have R11 := Lib.hid (R9.out.on hb11)
        have T11 := Lib.hid (T9.out.on hb11)
        have HB11 := Lib.hid (HB9.out.trans (hb11.mono HB9.out.size))
        have HI2 : Hid (∃ (B : Nat) (xx' : List (List Int)), OwnU B w11 (.slice xa (wthK xx [(f : Int), (s : Int)] xx.length).length xc) (xx'.map maskOf) ∧ LR < B ∧ w.heap.size ≤ B ∧ OkC xx' ∧ Grd xx' (m + 1) yy N ∧ (m + 1) + xx'.length ≤ 48 ∧ ∃ B2, OwnP B2 w11 v11 (frK xx' xx'.length)) := ⟨_, _, OwnU.on HO9.out hb11, hlw, hs, HP2.out, HG2.out, by omega, _, ho11⟩
        clear ho11 hb11
        go_wp2_with fail
        go_roundw
        case rel => exact ⟨m + 1, by go_num, hm47, HI2, R11, T11, HB11⟩
        case measure => simp [intOf]; omega
end Go.Proofs.YtibdcejglkhcfaaDoor
