/-
  PartsOf of the model and of the program.
-/
import Derived.Test.YtljmfpifhbfdcaaDoorCzO
import Derived.Deep.MidRow
import Derived.Laws.OwnMore
namespace Go.Proofs.YtljmfpifhbfdcaaDoor
open Go.RowKit
set_option linter.unusedVariables false
set_option linter.unusedSimpArgs false

set_option maxRecDepth 100000 in
theorem specPrt_is {u : Value} {zz : List (List Int)} {yy : List Int} {c : Int} {w : World} (hu : RowsQ w u zz) (h : PrtIs zz yy c) :
    Calls Tryd.prog 47 #[.agg #[u]] w fun e w' => RetSI5 yy c w e w' := by
  have HU := Lib.hid hu
  obtain ⟨a, cp, rfl, hl, k1⟩ := hu
  have al0 : Below w.heap.size w (w.alloc (.cells #[.slice a zz.length cp] 27)) := (Below.refl _ w).alloc (Nat.le_refl _) _
  have P0 := Lib.hid (PtC.new w (.slice a zz.length cp) 27)
  have U0 := Lib.hid (HU.out.on al0)
  have AL := Lib.hid al0
  clear al0 k1
  rcases h with ⟨ho, rfl, rfl⟩ | ⟨ho, rfl, rfl⟩
  · have hvv := l05Ok_is P0.out U0.out (.inr ⟨rfl, ho⟩)
    clear ho
    go_enter Tryd.func47, Tryd.ntmps47
    go_wp2_with (go_at_call 49; refine hvv.mono ?_; rintro e w2 ⟨rfl, hb2⟩)
    go_ret2
    exact ⟨_, rfl, World.ownsRow_nil _ _ _ _, AL.out.trans (hb2.mono AL.out.size)⟩
  · have hvv := l05Ok_is P0.out U0.out (.inl ⟨rfl, ho⟩)
    have HO := Lib.hid ho
    clear ho
    go_enter Tryd.func47, Tryd.ntmps47
    go_wp2_with (go_at_call 49; refine hvv.mono ?_; rintro e w2 ⟨rfl, hb2⟩; have HB2 := Lib.hid hb2; have HA2 := Lib.hid (AL.out.trans (hb2.mono AL.out.size)))
    refine (l05Parts_any (P0.out.on HB2.out) (U0.out.on HB2.out) HO.out).mono ?_
    rintro e w4 ⟨v4, rfl, ho4, hb4⟩
    have HO4 := Lib.hid ho4
    have HB4 := Lib.hid hb4
    clear ho4 hb4 hvv
    go_wp2_with fail
    go_ret2
    exact ⟨_, rfl, OwnI.mono HO4.out HA2.out.size, HA2.out.trans (HB4.out.mono HA2.out.size)⟩

/-- An array of ten numbers. -/
def Arr (w : World) (g : Nat) (f : Nat → Int) : Prop := ∀ j, j < 10 → w.cell? ⟨g, j, none⟩ = some (.int .i64 (f j)) ∧ w.frozen? ⟨g, j, none⟩ = false
theorem Arr.at {w : World} {g : Nat} {f : Nat → Int} (h : Arr w g f) {j : Nat} (hj : j < 10) {x : Int} (e : f j = x) : w.cell? ⟨g, j, none⟩ = some (.int .i64 x) ∧ w.frozen? ⟨g, j, none⟩ = false := by subst e; exact h j hj
theorem Arr.set {w : World} {g : Nat} {f : Nat → Int} (h : Arr w g f) (i : Nat) (x : Int) : Arr (w.setCell ⟨g, i, none⟩ (.int .i64 x)) g (fun j => if j = i then x else f j) := fun j hj => by
  obtain ⟨h1, h2⟩ := h j hj
  refine ⟨?_, (World.frozen?_setCell _ _ _ _).trans h2⟩
  dsimp only
  by_cases e : j = i
  · subst e
    rw [if_pos rfl]
    exact World.cell?_setCell_same' _ _ _ (by rw [h1]; rfl)
  · rw [if_neg e, World.cell?_setCell_other _ _ _ _ (by intro h; injection h with _ h; exact e h.symm)]
    exact h1
theorem Arr.congr {w : World} {g : Nat} {f f' : Nat → Int} (h : Arr w g f) (hf : ∀ j, j < 10 → f j = f' j) : Arr w g f' := fun j hj => by
  rw [← hf j hj]; exact h j hj
theorem Arr.on {B : Nat} {w w' : World} {g : Nat} {f : Nat → Int} (h : Arr w g f) (hg : g < B) (hb : Below B w w') : Arr w' g f := fun j hj => by
  obtain ⟨h1, h2⟩ := h j hj
  exact ⟨(hb.cell (p := ⟨g, j, none⟩) hg).trans h1, (hb.frozen (p := ⟨g, j, none⟩) hg).trans h2⟩
def arrL (f : Nat → Int) : List Value := (List.range 10).map fun j => .int .i64 (f j)
theorem Arr.range {w : World} {g : Nat} {f : Nat → Int} (h : Arr w g f) : w.rangeAt g 0 (arrL f) := fun j v hv => by
  obtain ⟨hj, e⟩ := List.getElem?_eq_some_iff.1 hv
  have hj' : j < 10 := by simpa [arrL] using hj
  rw [Nat.zero_add, (h j hj').1, ← e]
  simp [arrL]
theorem arrL_len (f : Nat → Int) : (arrL f).length = 10 := by simp [arrL]
theorem arr_idx {f : Nat → Int} {k : Nat} (hk : k < 10) (w : World) : (Instr.index 84 (.agg (arrL f).toArray) (.int .i64 (k : Int))).run Tryd.prog w = .ok (.int .i64 (f k)) w := by
  have h1 : (k : Int) < 10 := by omega
  have h2 : (0 : Int) ≤ (k : Int) := by omega
  have h3 : k < (arrL f).toArray.size := by simp [arrL]; omega
  have h4 : (arrL f)[k]? = some (.int .i64 (f k)) := by simp [arrL, hk]
  unfold Instr.index
  go_simp
theorem prt_fill {n i : Nat} {p : List Int} {x : Int} (hn : p.length = n) (hi : i < n) (hx : p[i]? = some x) : (p.take i ++ List.replicate (n - i) 0).set i x = p.take (i + 1) ++ List.replicate (n - (i + 1)) 0 := by
  subst hn
  obtain ⟨hi, e⟩ := List.getElem?_eq_some_iff.1 hx
  apply List.ext_getElem
  · simp; omega
  · intro k h1 h2
    simp only [List.getElem_set, List.getElem_append, List.getElem_take, List.length_take, List.getElem_replicate]
    by_cases e1 : i = k
    · subst e1
      rw [if_pos rfl, dif_pos (by omega)]
      exact e.symm
    · rw [if_neg e1]
      by_cases e2 : k < i
      · rw [dif_pos (by omega), dif_pos (by omega)]
      · rw [dif_neg (by omega), dif_neg (by omega)]
theorem least64_is (a b : Int) (w : World) :
    Calls Tryd.prog 85 #[.int .i64 a, .int .i64 b] w fun e w' => e = .returned (.int .i64 (min a b)) ∧ w' = w := by
  by_cases h : b < a
  · have e : min a b = b := Int.min_eq_right (by omega)
    rw [e]
    go_enter Tryd.func85, Tryd.ntmps85
    go_wp2
    go_ret
    exact ⟨rfl, rfl⟩
  · have e : min a b = a := Int.min_eq_left (by omega)
    rw [e]
    go_enter Tryd.func85, Tryd.ntmps85
    go_wp2
    go_ret
    exact ⟨rfl, rfl⟩
set_option maxRecDepth 100000 in
set_option maxHeartbeats 12800000 in
theorem implPrt_is {u : Value} {zz : List (List Int)} {yy : List Int} {c : Int} {w : World} (hu : RowsAt w u zz) (h : PrtIs zz yy c) (hTz : Tz w) :
    Calls Tryd.prog 48 #[.agg #[u]] w fun e w' => RetSI5 yy c w e w' := by
  have HU := Lib.hid hu
  obtain ⟨a, cp, rfl, hl, k1⟩ := hu.any
  have K1 := Lib.hid k1
  have al0 : Below w.heap.size w (w.alloc (.cells #[.slice a zz.length cp] 27)) := (Below.refl _ w).alloc (Nat.le_refl _) _
  have P0 := Lib.hid (PtC.new w (.slice a zz.length cp) 27)
  have U0 := Lib.hid (HU.out.on al0)
  have AL := Lib.hid al0
  have TZ := Lib.hid (hTz.on al0)
  clear al0 k1 hu hTz
  rcases h with ⟨ho, rfl, rfl⟩ | ⟨ho, rfl, rfl⟩
  · have hvv := implSpx_is (d := 0) U0.out (.inl ⟨ho, rfl, rfl⟩) TZ.out
    clear ho
    go_enter Tryd.func48, Tryd.ntmps48
    have p1 := P0.out.2
    go_wp2_with fail
    refine hvv.mono ?_
    rintro e w2 ⟨v2, rfl, ho2, hb2⟩
    go_wp2_with fail
    go_ret2
    exact ⟨_, rfl, World.ownsRow_nil _ _ _ _, AL.out.trans (hb2.mono AL.out.size)⟩
  · have HI10 : Hid ((Tryd.prog.info? 84).map (·.size) = some 10) := by show _ = _; kernel_rfl
    have hv0 := implSpx_is (d := 0) U0.out (.inr (.inr ⟨ho, by omega, rfl, rfl⟩)) TZ.out
    have HO := Lib.hid ho
    have h48 := ho.2
    clear ho
    go_enter Tryd.func48, Tryd.ntmps48
    have p1 := P0.out.2
    go_wp2_with fail
    refine hv0.mono ?_
    rintro e w2 ⟨v2, rfl, ho2, hb2⟩
    obtain ⟨va, vc, rfl⟩ := ho2.slice
    have HO2 := Lib.hid ho2
    have HB2 := Lib.hid hb2
    have p2 := (P0.out.on hb2).2
    have hv1 := implSpx_is (d := 1) (U0.out.on hb2) (.inr (.inr ⟨HO.out, by omega, rfl, rfl⟩)) (TZ.out.on hb2)
    clear hv0 ho2 hb2
    go_wp2_with fail
    refine hv1.mono ?_
    rintro e w3 ⟨v3, rfl, ho3, hb3⟩
    obtain ⟨ea, ec, rfl⟩ := ho3.slice
    have HO3 := Lib.hid ho3
    have HB3 := Lib.hid hb3
    clear hv1 ho3 hb3
    go_wp2_with fail
    have hA0 : Arr (w3.alloc (.cells #[.int .i64 0, .int .i64 0, .int .i64 0, .int .i64 0, .int .i64 0, .int .i64 0, .int .i64 0, .int .i64 0, .int .i64 0, .int .i64 0] 84)) w3.heap.size (fun j => if j < 0 then (j : Int) else 0) := fun j hj => by
      rw [World.cell?_alloc_at _ _ _ _ (by simp), World.frozen?_alloc_at _ _ _ _ (by simp)]
      refine ⟨?_, rfl⟩
      dsimp only
      rw [if_neg (by omega)]
      obtain h | h | h | h | h | h | h | h | h | h : j = 0 ∨ j = 1 ∨ j = 2 ∨ j = 3 ∨ j = 4 ∨ j = 5 ∨ j = 6 ∨ j = 7 ∨ j = 8 ∨ j = 9 := by omega
      all_goals subst h; rfl
    have HA0 := Lib.hid hA0
    have HBa : Hid (Below w3.heap.size w3 (w3.alloc (.cells #[.int .i64 0, .int .i64 0, .int .i64 0, .int .i64 0, .int .i64 0, .int .i64 0, .int .i64 0, .int .i64 0, .int .i64 0, .int .i64 0] 84))) := (Below.refl _ w3).alloc (Nat.le_refl _) _
    have HBW : Hid (Below w.heap.size w w3) := (AL.out.trans (HB2.out.mono AL.out.size)).trans (HB3.out.mono (Nat.le_trans AL.out.size HB2.out.size))
    have HP3 := Lib.hid ((P0.out.on HB2.out).on HB3.out)
    have HV3 : Hid (OwnI w.heap.size w3 (.slice va (ofK zz 0 zz.length).length vc) (ofK zz 0 zz.length)) := OwnI.mono (HO2.out.on HB3.out) AL.out.size
    have HE3 : Hid (OwnI w.heap.size w3 (.slice ea (ofK zz 1 zz.length).length ec) (ofK zz 1 zz.length)) := OwnI.mono HO3.out (Nat.le_trans AL.out.size HB2.out.size)
    have HEA : Hid (∀ k, k < (ofK zz 1 zz.length).length → ∃ (j a b : Nat), ∃ h : j < zz.length, (ofK zz 1 zz.length)[k]? = some (j : Int) ∧ zz[j] = [(a : Int), (b : Int)] ∧ (esL zz)[k]? = some ((a : Int), (b : Int)) ∧ a < 10 ∧ b < 10) := fun k hk => by
      have hk' : k < (esL zz).length := by rw [esL_len]; exact hk
      obtain ⟨j, h, h1, h2, h3, h4, _, _⟩ := edg_at HO.out hk'
      obtain ⟨a0, a9⟩ := vsL_bd HO.out _ h3
      obtain ⟨b0, b9⟩ := vsL_bd HO.out _ h4
      obtain ⟨na, ha⟩ : ∃ n : Nat, (esL zz)[k].1 = (n : Int) := ⟨_, (Int.toNat_of_nonneg a0).symm⟩
      obtain ⟨nb, hb⟩ : ∃ n : Nat, (esL zz)[k].2 = (n : Int) := ⟨_, (Int.toNat_of_nonneg b0).symm⟩
      refine ⟨j, na, nb, h, by rw [List.getElem?_eq_getElem hk, h1], by rw [h2, ha, hb], by rw [List.getElem?_eq_getElem hk', ← ha, ← hb], by omega, by omega⟩
    have HVA : Hid (∀ i, i < (ofK zz 0 zz.length).length → ∃ (x : Nat), ∃ h : i < zz.length, (ofK zz 0 zz.length)[i]? = some (i : Int) ∧ zz[i] = [(x : Int)] ∧ (prtL zz)[i]? = some (parts (esL zz) x) ∧ x < 10) := fun i hi => by
      have hi' : i < (vsL zz).length := by rw [vsL_len]; exact hi
      obtain ⟨h, h1, h2⟩ := ver_at HO.out hi'
      obtain ⟨a0, a9⟩ := vsL_bd HO.out _ (List.getElem_mem hi')
      obtain ⟨na, ha⟩ : ∃ n : Nat, (vsL zz)[i] = (n : Int) := ⟨_, (Int.toNat_of_nonneg a0).symm⟩
      refine ⟨na, h, by rw [List.getElem?_eq_getElem hi, h1], by rw [h2, ha], ?_, by omega⟩
      unfold prtL
      rw [List.getElem?_map, List.getElem?_eq_getElem hi', ha]; rfl
    have HPL : Hid ((prtL zz).length = (ofK zz 0 zz.length).length) := by show _ = _; unfold prtL; rw [List.length_map, vsL_len]
    have HEL := Lib.hid (esL_len zz)
    have hel := ofK_len zz 1 zz.length
    have hvl := ofK_len zz 0 zz.length
    obtain ⟨ov, hov⟩ : ∃ ov, ofK zz 0 zz.length = ov := ⟨_, rfl⟩
    obtain ⟨eo, heo⟩ : ∃ eo, ofK zz 1 zz.length = eo := ⟨_, rfl⟩
    obtain ⟨pl, hpl⟩ : ∃ pl, prtL zz = pl := ⟨_, rfl⟩
    obtain ⟨es, hes⟩ : ∃ es, esL zz = es := ⟨_, rfl⟩
    rw [hov] at HV3 HVA HPL hvl ⊢
    rw [heo] at HE3 HEA HEL hel ⊢
    have HPZ := Lib.hid hpl
    rw [hpl] at HVA HPL
    rw [hes] at HEA HEL HVA
    clear hov heo hpl hes p1 p2 hA0
    generalize w3.alloc (.cells #[.int .i64 0, .int .i64 0, .int .i64 0, .int .i64 0, .int .i64 0, .int .i64 0, .int .i64 0, .int .i64 0, .int .i64 0, .int .i64 0] 84) = wa at HA0 HBa ⊢
    obtain ⟨g, hg⟩ : ∃ g, w3.heap.size = g := ⟨_, rfl⟩
    have HG := Lib.hid hg
    rw [hg] at HA0 ⊢
    clear hg
    go_loopw [32] (fun si wr => ∃ (k : Nat), k ≤ 10 ∧ si = .int .i64 (k : Int) ∧ Hid (Arr wr g (fun j => if j < k then (j : Int) else 0)) ∧ Hid (Below w3.heap.size w3 wr)) (fun i _ => 10 - (intOf i).toNat)
    case atStart => exact ⟨0, Nat.zero_le _, rfl, HA0, HBa⟩
    case round =>
      clear HA0 HBa
      obtain ⟨k, hk, rfl, HA, HB⟩ := hrel
      have k0 : 0 ≤ (k : Int) := by omega
      by_cases hlt : k < 10
      · have k1 : (k : Int) < 10 := by omega
        obtain ⟨f1, f2⟩ := HA.out k hlt
        have HN : Hid (Arr (wr.setCell ⟨g, k, none⟩ (.int .i64 (k : Int))) g (fun j => if j < k + 1 then (j : Int) else 0)) := by
          refine (HA.out.set k (k : Int)).congr fun j hj => ?_
          by_cases e : j = k
          · subst e; rw [if_pos rfl, if_pos (by omega)]
          · rw [if_neg e]
            by_cases e2 : j < k
            · rw [if_pos e2, if_pos (by omega)]
            · rw [if_neg e2, if_neg (by omega)]
        have HB' : Hid (Below w3.heap.size w3 (wr.setCell ⟨g, k, none⟩ (.int .i64 (k : Int)))) := HB.out.setCell (p := ⟨g, k, none⟩) (by rw [HG.out]; exact Nat.le_refl _) _
        go_wp2_with fail
        go_roundw
        case rel => exact ⟨k + 1, by omega, by go_num, HN, HB'⟩
        case measure => simp [intOf]; omega
      · have HA1 : Hid (Arr wr g (fun j => parts (es.take 0) (j : Int))) := HA.out.congr fun j hj => by
          rw [if_pos (by omega)]; rfl
        obtain ⟨kt, hkt⟩ : ∃ kt : Int, kt = (k : Int) := ⟨_, rfl⟩
        have hk10 : ¬ kt < 10 := by omega
        rw [← hkt]
        obtain ⟨wo, rfl⟩ : ∃ wo, wo = wr := ⟨_, rfl⟩
        clear HA k0 hlt hkt hk k
        go_wp2_with fail
        go_loopw [41] (fun si wr => ∃ (k : Nat), k ≤ eo.length ∧ si = .int .i64 (k : Int) ∧ Hid (Arr wr g (fun j => parts (es.take k) (j : Int))) ∧ Hid (Below w3.heap.size w3 wr)) (fun i _ => eo.length - (intOf i).toNat)
        case atStart => exact ⟨0, Nat.zero_le _, rfl, HA1, HB⟩
        case round =>
          clear HA1 HB
          obtain ⟨k, hk, rfl, HA, HB⟩ := hrel
          have k0 : 0 ≤ (k : Int) := by omega
          by_cases hlt : k < eo.length
          · have k1 : (k : Int) < (eo.length : Int) := by omega
            obtain ⟨j, na, nb, hj, hjk, hzj, hek, hna, hnb⟩ := HEA.out k hlt
            obtain ⟨hke, eke⟩ := List.getElem?_eq_some_iff.1 hek
            have hjk' : eo[k] = (j : Int) := by rw [List.getElem?_eq_getElem hlt] at hjk; injection hjk
            obtain ⟨gs, gc, e, hsB, hsl, es1⟩ := (HE3.out.on (HB.out.mono (Nat.le_refl _))).at1 (by omega)
            injection e with e1 e2 e3
            subst e1 e3
            clear e2
            have s1 := es1 k hlt
            rw [hjk'] at s1
            have p1 := (HP3.out.on HB.out).2
            have HBw := Lib.hid (HBW.out.trans (HB.out.mono HBW.out.size))
            obtain ⟨b2, o2, y, rfl, hb2, c1', i1'⟩ := K1.out j hj
            have c1 := (HBw.out.cell (p := ⟨b2, o2 + j, none⟩) hb2).trans c1'
            rw [hzj] at i1'
            obtain ⟨tb, tq, tc, rfl, htb, kt⟩ := (i1'.on HBw.out).at1 (by simp)
            have t0 := kt 0 (by simp)
            have t1 := kt 1 (by simp)
            simp only [List.getElem_cons_zero, List.getElem_cons_succ, Nat.add_zero, List.length_cons, List.length_nil, Nat.zero_add, Nat.reduceAdd] at t0 t1 c1
            have m0 : 0 ≤ (j : Int) := by omega
            have m1 : (j : Int) < (zz.length : Int) := by omega
            have a0 : 0 ≤ (na : Int) := by omega
            have a1 : (na : Int) < 10 := by omega
            have b0 : 0 ≤ (nb : Int) := by omega
            have b1 : (nb : Int) < 10 := by omega
            have HPS : Hid (parts (es.take (k + 1)) = mrg (parts (es.take k)) ((na : Int), (nb : Int))) := by
              show _ = _
              rw [List.take_succ_eq_append_getElem hke, eke, parts_snoc]
            obtain ⟨f, hf⟩ : ∃ f, parts (es.take k) = f := ⟨_, rfl⟩
            rw [hf] at HA HPS
            have HF : Hid (∀ x, mrg f ((na : Int), (nb : Int)) x = if f x = f (na : Int) ∨ f x = f (nb : Int) then min (f (na : Int)) (f (nb : Int)) else f x) := fun x => rfl
            obtain ⟨la, hla⟩ : ∃ la, f (na : Int) = la := ⟨_, rfl⟩
            obtain ⟨lb, hlb⟩ : ∃ lb, f (nb : Int) = lb := ⟨_, rfl⟩
            rw [hla, hlb] at HF
            obtain ⟨fa1, fa2⟩ := HA.out.at hna (x := la) hla
            obtain ⟨fb1, fb2⟩ := HA.out.at hnb (x := lb) hlb
            have HA2 : Hid (Arr wr g (fun j => if j < 0 then mrg f ((na : Int), (nb : Int)) (j : Int) else f (j : Int))) := HA.out.congr fun j hj => by rw [if_neg (by omega)]
            clear hla hlb hf kt es1 c1' i1' hjk hjk' hzj hek eke fa2 fb2
            go_wp2_with fail
            go_quiet (fail)
            have q0 := (HA.out.at (j := 0) (by omega) (x := f 0) rfl).1
            have q1 := (HA.out.at (j := 1) (by omega) (x := f 1) rfl).1
            have q2 := (HA.out.at (j := 2) (by omega) (x := f 2) rfl).1
            have q3 := (HA.out.at (j := 3) (by omega) (x := f 3) rfl).1
            have q4 := (HA.out.at (j := 4) (by omega) (x := f 4) rfl).1
            have q5 := (HA.out.at (j := 5) (by omega) (x := f 5) rfl).1
            have q6 := (HA.out.at (j := 6) (by omega) (x := f 6) rfl).1
            have q7 := (HA.out.at (j := 7) (by omega) (x := f 7) rfl).1
            have q8 := (HA.out.at (j := 8) (by omega) (x := f 8) rfl).1
            have q9 := (HA.out.at (j := 9) (by omega) (x := f 9) rfl).1
            have HAG : (#[.int .i64 (f 0), .int .i64 (f 1), .int .i64 (f 2), .int .i64 (f 3), .int .i64 (f 4), .int .i64 (f 5), .int .i64 (f 6), .int .i64 (f 7), .int .i64 (f 8), .int .i64 (f 9)] : Array Value) = (arrL fun j => f (j : Int)).toArray := rfl
            go_wp2_with fail
            clear q0 q1 q2 q3 q4 q5 q6 q7 q8 q9
            clear HAG
            have HIX : Hid (∀ v : Nat, v < 10 → ∀ w, (Instr.index 84 (.agg (arrL fun j => f (j : Int)).toArray) (.int .i64 (v : Int))).run Tryd.prog w = .ok (.int .i64 (f (v : Int))) w) := fun v hv w => arr_idx (f := fun j => f (j : Int)) hv w
            generalize (arrL fun j => f (j : Int)).toArray = ag at HIX ⊢
            obtain ⟨wi, hwi⟩ : ∃ wi, wi = wr.drewN nq := ⟨_, rfl⟩
            have HAi : Hid (Arr wi g (fun j => if j < 0 then mrg f ((na : Int), (nb : Int)) (j : Int) else f (j : Int))) := by subst hwi; exact HA2.out
            have HBi : Hid (Below w3.heap.size w3 wi) := by subst hwi; exact below_drewX HB.out nq
            rw [← hwi]
            clear hwi HA HA2 fa1 fb1 s1 p1 c1 t0 t1
            go_loopw [64] (fun si wr => ∃ (v : Nat), v ≤ 10 ∧ si = .int .i64 (v : Int) ∧ Hid (Arr wr g (fun j => if j < v then mrg f ((na : Int), (nb : Int)) (j : Int) else f (j : Int))) ∧ Hid (Below w3.heap.size w3 wr)) (fun i _ => 10 - (intOf i).toNat)
            case atStart => exact ⟨0, Nat.zero_le _, rfl, HAi, HBi⟩
            case round =>
              clear HAi HBi
              obtain ⟨v, hv, rfl, HA, HB⟩ := hrel
              have v0 : 0 ≤ (v : Int) := by omega
              by_cases hvl : v < 10
              · have v1 : (v : Int) < 10 := by omega
                have hix := HIX.out v hvl
                obtain ⟨x, hx⟩ : ∃ x, f (v : Int) = x := ⟨_, rfl⟩
                have HFv := Lib.hid (HF.out (v : Int))
                rw [hx] at hix HFv
                obtain ⟨cv, fv⟩ := HA.out.at hvl (x := x) (by rw [if_neg (by omega)]; exact hx)
                have HS : ∀ z, mrg f ((na : Int), (nb : Int)) (v : Int) = z → Arr (wr.setCell ⟨g, v, none⟩ (.int .i64 z)) g (fun j => if j < v + 1 then mrg f ((na : Int), (nb : Int)) (j : Int) else f (j : Int)) := fun z hz => by
                  refine (HA.out.set v z).congr fun j hj => ?_
                  by_cases e : j = v
                  · subst e; rw [if_pos rfl, if_pos (by omega), hz]
                  · rw [if_neg e]
                    by_cases e2 : j < v
                    · rw [if_pos e2, if_pos (by omega)]
                    · rw [if_neg e2, if_neg (by omega)]
                have HSK := Lib.hid HS
                have HBS : Hid (∀ z, Below w3.heap.size w3 (wr.setCell ⟨g, v, none⟩ z)) := fun z => HB.out.setCell (p := ⟨g, v, none⟩) (by rw [HG.out]; exact Nat.le_refl _) z
                have HKP : Hid (mrg f ((na : Int), (nb : Int)) (v : Int) = x → Arr wr g (fun j => if j < v + 1 then mrg f ((na : Int), (nb : Int)) (j : Int) else f (j : Int))) := fun e => by
                  refine HA.out.congr fun j hj => ?_
                  by_cases e1 : j = v
                  · subst e1; rw [if_neg (by omega), if_pos (by omega), e, hx]
                  · by_cases e2 : j < v
                    · rw [if_pos e2, if_pos (by omega)]
                    · rw [if_neg e2, if_neg (by omega)]
                clear HS hx
                have HL := Lib.hid (least64_is la lb)
                obtain ⟨mm, hmm⟩ : ∃ mm, min la lb = mm := ⟨_, rfl⟩
                rw [hmm] at HL HFv
                clear hmm
                by_cases e1 : x = la
                · have HZ := Lib.hid (HFv.out.trans (if_pos (.inl e1)))
                  subst e1
                  clear HFv HF
                  go_wp2_with (go_at_call 85; refine (HL.out _).mono ?_; rintro e w' ⟨rfl, rfl⟩)
                  go_roundw
                  case rel => exact ⟨v + 1, by omega, by go_num, HSK.out _ HZ.out, HBS.out _⟩
                  case measure => simp [intOf]; omega
                · by_cases e2 : x = lb
                  · have HZ := Lib.hid (HFv.out.trans (if_pos (.inr e2)))
                    subst e2
                    clear HFv HF
                    go_wp2_with (go_at_call 85; refine (HL.out _).mono ?_; rintro e w' ⟨rfl, rfl⟩)
                    go_roundw
                    case rel => exact ⟨v + 1, by omega, by go_num, HSK.out _ HZ.out, HBS.out _⟩
                    case measure => simp [intOf]; omega
                  · have HZ := Lib.hid (HFv.out.trans (if_neg (by rintro (h | h); exact e1 h; exact e2 h)))
                    have g1 : (x == la) = false := by rw [beq_eq_false_iff_ne]; exact e1
                    have g2 : (x == lb) = false := by rw [beq_eq_false_iff_ne]; exact e2
                    clear HFv HF HL
                    go_wp2_with fail
                    go_roundw
                    case rel => exact ⟨v + 1, by omega, by go_num, HKP.out HZ.out, HB⟩
                    case measure => simp [intOf]; omega
              · have HAk : Hid (Arr wr g (fun j => parts (es.take (k + 1)) (j : Int))) := by
                  show Arr _ _ _
                  rw [HPS.out]
                  exact HA.out.congr fun j hj => by rw [if_pos (by omega)]
                obtain ⟨vt, hvt⟩ : ∃ vt : Int, vt = (v : Int) := ⟨_, rfl⟩
                have hv10 : ¬ vt < 10 := by omega
                rw [← hvt]
                clear HA v0 hvl hvt hv v
                go_wp2_with fail
                go_roundw
                case rel => exact ⟨k + 1, by omega, by go_num, HAk, HB⟩
                case measure => simp [intOf]; omega
          · have hke : k = eo.length := by omega
            have HAz : Hid (Arr wr g (fun j => parts es (j : Int))) := by
              show Arr _ _ _
              rw [hke, List.take_of_length_le (by have := HEL.out; omega)] at HA
              exact HA.out
            obtain ⟨kt, hkt⟩ : ∃ kt : Int, kt = (k : Int) := ⟨_, rfl⟩
            have hk10 : ¬ kt < (eo.length : Int) := by omega
            rw [← hkt]
            obtain ⟨wz, rfl⟩ : ∃ wz, wz = wr := ⟨_, rfl⟩
            clear HA k0 hlt hkt hk hke k
            obtain ⟨i0, hi0, iz0, iz1, iz2⟩ := info_parts info2
            have h63 : ov.length ≤ maxLen := by unfold maxLen; omega
            obtain ⟨wm, hmk, hmo, hmg⟩ := run_makeSlice_full (P := Tryd.prog) (w := wz) wz.heap.size 38 2 i0 (.int .i64 0) 1 Tryd.underlying38 hi0 iz0 iz1 .i64 .i64 ov.length (by omega) (by rw [iz2]; omega) h63 (Nat.le_refl _)
            have HM0 : Hid (OwnI wz.heap.size wm (.slice (some ⟨wz.heap.size, 0, none⟩) ov.length ov.length) (pl.take 0 ++ List.replicate (ov.length - 0) 0)) := by
              have e : pl.take 0 ++ List.replicate (ov.length - 0) 0 = List.replicate ov.length (0 : Int) := by simp
              show OwnI _ _ _ _
              rw [e]
              unfold OwnI
              rw [List.length_replicate]
              have e2 : iv (List.replicate ov.length 0) = List.replicate ov.length (.int .i64 0) := by unfold iv; rw [List.map_replicate]
              rw [e2]
              simpa [Value.cells, toList_madeCells_one] using hmo
            have HMB : Hid (Below wz.heap.size wz wm) := (Below.refl _ wz).grown hmg (Nat.le_refl _) (fun q hq => by simp at hq)
            have HGZ : Hid (g < wz.heap.size) := World.block_lt_of_cell? _ ⟨g, 0, none⟩ (HAz.out 0 (by omega)).1
            have HBz := Lib.hid (HBW.out.trans (HB.out.mono HBW.out.size))
            have HPz := Lib.hid (HP3.out.on HB.out)
            have HVz : Hid (OwnI w.heap.size wz (.slice va ov.length vc) ov) := HV3.out.on HB.out
            clear hmo hmg
            go_wp2_with fail
            clear hmk
            obtain ⟨gp, hgp⟩ : ∃ gp, wz.heap.size = gp := ⟨_, rfl⟩
            have HGP := Lib.hid hgp
            rw [hgp] at HM0 ⊢
            clear hgp
            go_loopw [88] (fun si wr => ∃ (i : Nat), i ≤ ov.length ∧ si = .int .i64 (i : Int) ∧ Hid (OwnI gp wr (.slice (some ⟨gp, 0, none⟩) ov.length ov.length) (pl.take i ++ List.replicate (ov.length - i) 0)) ∧ Hid (Below wz.heap.size wz wr)) (fun i _ => ov.length - (intOf i).toNat)
            case atStart => exact ⟨0, Nat.zero_le _, rfl, HM0, HMB⟩
            case round =>
              clear HM0 HMB
              obtain ⟨i, hi, rfl, HY, HB⟩ := hrel
              have k0 : 0 ≤ (i : Int) := by omega
              by_cases hlt : i < ov.length
              · have k1 : (i : Int) < (ov.length : Int) := by omega
                obtain ⟨x, hiz, hvi, hzi, hpi, hx10⟩ := HVA.out i hlt
                have hvi' : ov[i] = (i : Int) := by rw [List.getElem?_eq_getElem hlt] at hvi; injection hvi
                obtain ⟨gs, gc, e, hsB, hsl, es1⟩ := (HVz.out.on HB.out).at1 (by omega)
                injection e with e1 e2 e3
                subst e1 e3
                clear e2
                have s1 := es1 i hlt
                rw [hvi'] at s1
                have p1 := (HPz.out.on HB.out).2
                have HBw := Lib.hid (HBz.out.trans (HB.out.mono HBz.out.size))
                obtain ⟨b2, o2, y, rfl, hb2, c1', i1'⟩ := K1.out i hiz
                have c1 := (HBw.out.cell (p := ⟨b2, o2 + i, none⟩) hb2).trans c1'
                rw [hzi] at i1'
                obtain ⟨tb, tq, tc, rfl, htb, kt⟩ := (i1'.on HBw.out).at1 (by simp)
                have t0 := kt 0 (by simp)
                simp only [List.getElem_cons_zero, Nat.add_zero, List.length_cons, List.length_nil, Nat.zero_add] at t0 c1
                have m1 : (i : Int) < (zz.length : Int) := by omega
                have a0 : 0 ≤ (x : Int) := by omega
                have a1 : (x : Int) < 10 := by omega
                obtain ⟨z, hz⟩ : ∃ z, parts es (x : Int) = z := ⟨_, rfl⟩
                obtain ⟨fa1, fa2⟩ := (HAz.out.on HGZ.out HB.out).at hx10 (x := z) hz
                rw [hz] at hpi
                have HPF := Lib.hid (prt_fill (i := i) HPL.out hlt hpi)
                have hll : (pl.take i ++ List.replicate (ov.length - i) 0).length = ov.length := by
                  have := HPL.out
                  simp; omega
                obtain ⟨og, oc', e, hgB, hgl, ks⟩ := HY.out.at1 (by omega)
                injection e with e1 e2 e3
                injection e1 with e1
                injection e1 with e1
                subst e1
                clear e2 e3
                obtain ⟨y0, yc⟩ : ∃ y, wr.cell? ⟨gp, i, none⟩ = some y := ⟨_, ks i (by omega)⟩
                have hyo := HY.out.out
                rw [hll] at hyo
                have ff1 : wr.frozen? ⟨gp, i, none⟩ = false := hyo.frozenAt i
                obtain ⟨h1, g1⟩ := HY.out.write hll.symm i z
                rw [HPF.out] at h1
                have HY1 := Lib.hid h1
                have HB1 : Hid (Below wz.heap.size wz (wr.setCell ⟨gp, i, none⟩ (.int .i64 z))) := HB.out.setCell (p := ⟨gp, i, none⟩) (by rw [HGP.out]; exact Nat.le_refl _) _
                clear hyo h1 g1 ks hll kt es1 c1' i1' hvi hvi' hzi hpi hz fa2
                go_wp2_with fail
                go_roundw
                case rel => exact ⟨i + 1, by omega, by go_num, HY1, HB1⟩
                case measure => simp [intOf]; omega
              · have hie : i = ov.length := by omega
                have HYz : Hid (OwnI gp wr (.slice (some ⟨gp, 0, none⟩) ov.length ov.length) pl) := by
                  have e : pl.take i ++ List.replicate (ov.length - i) 0 = pl := by
                    rw [hie, List.take_of_length_le (by have := HPL.out; omega), Nat.sub_self]; simp
                  have := HY.out
                  rw [e] at this
                  exact this
                have HBw := Lib.hid (HBz.out.trans (HB.out.mono HBz.out.size))
                have HZL : Hid (w.heap.size ≤ gp) := by show _ ≤ _; rw [← HGP.out]; exact HBz.out.size
                obtain ⟨kt, hkt⟩ : ∃ kt : Int, kt = (i : Int) := ⟨_, rfl⟩
                have hk10 : ¬ kt < (ov.length : Int) := by omega
                rw [← hkt]
                clear HY hie hkt hi hlt k0 i
                go_wp2_with fail
                go_ret2
                exact ⟨_, rfl, by rw [HPZ.out]; exact OwnI.mono HYz.out HZL.out, HBw.out⟩
end Go.Proofs.YtljmfpifhbfdcaaDoor
