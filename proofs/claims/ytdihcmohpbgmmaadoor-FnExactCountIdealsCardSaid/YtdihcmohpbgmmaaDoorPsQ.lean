/-
  MinimalOf of the model and of the program; the next elements.
-/
import Derived.Test.YtdihcmohpbgmmaaDoorPsP
namespace Go.Proofs.YtdihcmohpbgmmaaDoor
open Go.RowKit
set_option linter.unusedVariables false
set_option linter.unusedSimpArgs false

/-- A list of numbers below k with a property. -/
noncomputable def selN (P : Nat → Prop) (k : Nat) : List Int := by
  classical exact ((List.range k).filter fun a => decide (P a)).map fun (a : Nat) => (a : Int)
theorem selN_yes {P : Nat → Prop} {k : Nat} (h : P k) : selN P (k + 1) = selN P k ++ [(k : Int)] := by
  simp [selN, List.range_succ, List.filter_append, h]
theorem selN_no {P : Nat → Prop} {k : Nat} (h : ¬ P k) : selN P (k + 1) = selN P k := by
  simp [selN, List.range_succ, List.filter_append, h]
theorem selN_zero (P : Nat → Prop) : selN P 0 = [] := by simp [selN]
theorem selN_len (P : Nat → Prop) (k : Nat) : (selN P k).length ≤ k := by
  unfold selN
  rw [List.length_map]
  exact Nat.le_trans (List.length_filter_le _ _) (by simp)
theorem selN_congr {P Q : Nat → Prop} {k : Nat} (h : ∀ a, a < k → (P a ↔ Q a)) : selN P k = selN Q k := by
  unfold selN
  congr 1
  exact List.filter_congr fun a ha => by rw [decide_eq_decide]; exact h a (List.mem_range.1 ha)
theorem mem_selN {P : Nat → Prop} {k : Nat} {x : Int} : x ∈ selN P k ↔ ∃ a : Nat, a < k ∧ P a ∧ x = (a : Int) := by
  unfold selN
  simp only [List.mem_map, List.mem_filter, List.mem_range, decide_eq_true_eq]
  constructor
  · rintro ⟨a, ⟨h1, h2⟩, rfl⟩; exact ⟨a, h1, h2, rfl⟩
  · rintro ⟨a, h1, h2, rfl⟩; exact ⟨a, ⟨h1, h2⟩, rfl⟩
def CovN (zz : List (List Int)) (a : Nat) : Prop := ∀ p ∈ zz, p.getD 1 0 ≠ (a : Int)
/-- What MinimalOf answers. -/
def MinIs (n : Int) (zz : List (List Int)) (Z : List Int) (k : Int) : Prop := (¬ OkP n zz ∧ Z = [] ∧ k = 1) ∨ (∃ N : Nat, n = (N : Int) ∧ OkP n zz ∧ Z = selN (CovN zz) N ∧ k = 0)
theorem min_has (n : Int) (zz : List (List Int)) : ∃ Z k, MinIs n zz Z k := by
  by_cases h : OkP n zz
  · obtain ⟨N, e, _⟩ := h.nat
    exact ⟨_, _, .inr ⟨N, e, h, rfl, rfl⟩⟩
  · exact ⟨_, _, .inl ⟨h, rfl, rfl⟩⟩
theorem MinIs.fit {n : Int} {zz : List (List Int)} {Z : List Int} {k : Int} (h : MinIs n zz Z k) : Z.length ≤ 1048576 := by
  rcases h with ⟨_, rfl, _⟩ | ⟨N, e, ho, rfl, _⟩
  · simp
  · obtain ⟨M, e2, h1, _⟩ := ho.nat
    have := selN_len (CovN zz) N
    omega
theorem ownI_nilP (w : World) (B : Nat) (hB : B ≤ w.heap.size) : OwnI B (w.alloc (.cells #[] 2)) (.slice (some ⟨w.heap.size, 0, none⟩) 0 0) [] :=
  World.ownsRow_made w #[] 0 hB (Nat.zero_le _) rfl
/-- A list of numbers and a code. -/
def RetNK (Z : List Int) (k : Int) (w : World) (e : Ending) (w' : World) : Prop := ∃ v, e = .returned (.tuple #[v, .int .i64 k]) ∧ OwnI w.heap.size w' v Z ∧ Below w.heap.size w w'
set_option maxRecDepth 100000 in
set_option maxHeartbeats 3200000 in
theorem specMin_is {n : Int} {v : Value} {zz : List (List Int)} {Z : List Int} {k : Int} {w : World} (hv : RowsAt w v zz) (h : MinIs n zz Z k) :
    Calls Tryd.prog 30 #[.agg #[.int .i64 n, v]] w fun e w' => RetNK Z k w e w' := by
  obtain ⟨i0, hi, iz0, iz1, iz2⟩ := info_parts info2
  obtain ⟨va, vc, rfl, hl, k1⟩ := hv.anyP
  have HV := Lib.hid hv
  have K1 := Lib.hid k1
  have P0 : Hid (PtP (w.alloc (.cells #[.int .i64 n, .slice va zz.length vc] 27)) w.heap.size n (.slice va zz.length vc)) := PtP.new _ _ _ _
  have B0 : Hid (Below w.heap.size w (w.alloc (.cells #[.int .i64 n, .slice va zz.length vc] 27))) := al1 (Below.refl _ _) _
  clear hv k1
  rcases h with ⟨ho, rfl, rfl⟩ | ⟨N, rfl, ho, rfl, rfl⟩
  · have HOK : Hid (OkPIs n zz false) := .inr ⟨rfl, ho⟩
    clear ho
    go_enter Tryd.func30, Tryd.ntmps30
    go_wp2_with (go_at_call 52; refine (l06Ok_is P0.out (HV.out.on B0.out) HOK.out).mono ?_; rintro e w1 ⟨rfl, hb1⟩; have HB1 := Lib.hid (B0.out.trans (hb1.mono B0.out.size)); clear hb1)
    go_ret2
    exact ⟨_, rfl, World.ownsRow_nil _ _ _ _, HB1.out⟩
  · obtain ⟨hN, HPI⟩ : N ≤ 12 ∧ Hid (PairsIn (N : Int) zz) := by
      obtain ⟨M, e, h1, h2⟩ := ho.nat
      obtain rfl : N = M := by omega
      exact ⟨h1, h2⟩
    have HOK : Hid (OkPIs (N : Int) zz true) := .inl ⟨rfl, ho⟩
    clear ho
    go_enter Tryd.func30, Tryd.ntmps30
    go_wp2_with (go_at_call 52; refine (l06Ok_is P0.out (HV.out.on B0.out) HOK.out).mono ?_; rintro e w1 ⟨rfl, hb1⟩; have P1 := Lib.hid (P0.out.on hb1); have HB1 := Lib.hid (B0.out.trans (hb1.mono B0.out.size)); clear hb1)
    have AL : Hid (Below w1.heap.size w1 (w1.alloc (.cells #[] 2))) := al1 (Below.refl _ _) _
    have O0 : Hid (OwnI w1.heap.size (w1.alloc (.cells #[] 2)) (.slice (some ⟨w1.heap.size, 0, none⟩) 0 0) (selN (CovN zz) 0)) := by
      show OwnI _ _ _ _
      rw [selN_zero]; exact ownI_nilP w1 _ (Nat.le_refl _)
    go_loopw [4, 5] (fun so si wr => ∃ (a : Nat), a ≤ N ∧ si = .int .i64 (a : Int) ∧ Hid (OwnI w1.heap.size wr so (selN (CovN zz) a)) ∧ Hid (Below w1.heap.size w1 wr)) (fun _ i _ => N - (intOf i).toNat)
    case atStart => exact ⟨0, Nat.zero_le _, rfl, O0, AL⟩
    case round =>
      clear O0 AL
      obtain ⟨a, ha, rfl, HO, HB⟩ := hrel
      have a0 : 0 ≤ (a : Int) := by omega
      obtain ⟨lp, p0, p1⟩ := P1.out.on HB.out
      by_cases hlt : a < N
      · have a1 : (a : Int) < (N : Int) := by omega
        obtain ⟨wi, rfl⟩ : ∃ wi, wi = wr := ⟨_, rfl⟩
        go_wp2_with fail
        go_loopw [6, 7] (fun sb si wr => ∃ (i : Nat) (q : Bool), i ≤ zz.length ∧ si = .int .i64 (i : Int) ∧ sb = .bool q ∧ Hid (q = true ↔ ∀ j (h : j < zz.length), j < i → (zz[j]).getD 1 0 ≠ (a : Int)) ∧ wi = wr) (fun _ i _ => zz.length - (intOf i).toNat)
        case atStart => exact ⟨0, true, Nat.zero_le _, rfl, rfl, ⟨fun _ j _ h => by omega, fun _ => rfl⟩, rfl⟩
        case round =>
          obtain ⟨i, q, hil, rfl, rfl, HQ, rfl⟩ := hrel
          have i0' : 0 ≤ (i : Int) := by omega
          by_cases hli : i < zz.length
          · have i1 : (i : Int) < (zz.length : Int) := by omega
            obtain ⟨x, y, hzk, hed, hx, hy⟩ := HPI.out.at hli
            have HQ' : Hid (∀ r : Bool, (r = true ↔ (q = true ∧ y ≠ a)) → (r = true ↔ ∀ j (h : j < zz.length), j < i + 1 → (zz[j]).getD 1 0 ≠ (a : Int))) := fun r hr => by
              rw [hr, HQ.out]
              constructor
              · rintro ⟨h1, h2⟩ j hj hji
                by_cases e : j = i
                · subst e; rw [hzk]; simp; omega
                · exact h1 j hj (by omega)
              · intro h
                refine ⟨fun j hj hji => h j hj (by omega), ?_⟩
                have h5 := h i hli (by omega)
                rw [hzk] at h5
                intro e
                exact h5 (by rw [← e]; rfl)
            clear HQ
            cases q with
            | false =>
              have HX := Lib.hid (HQ'.out false (by simp))
              clear HQ' hzk
              go_wp2_with fail
              go_roundw
              case rel => exact ⟨i + 1, false, by omega, by go_num, rfl, HX, by first | rfl | trivial⟩
              case measure => simp [intOf]; omega
            | true =>
              obtain ⟨b, o, u, rfl, hb, c1', i1'⟩ := K1.out i hli
              have hbb := HB1.out.trans (HB.out.mono HB1.out.size)
              have c1 := (hbb.cell (p := ⟨b, o + i, none⟩) hb).trans c1'
              rw [hzk] at i1'
              obtain ⟨tb, tq, tc, rfl, htb, kt⟩ := (i1'.on hbb).atP (by simp)
              have t1 := kt 1 (by simp)
              simp only [List.getElem_cons_zero, List.getElem_cons_succ, List.length_cons, List.length_nil, Nat.zero_add, Nat.reduceAdd] at t1 c1
              have HX := Lib.hid (HQ'.out (!(y == a)) (by simp))
              obtain ⟨r, hr⟩ : ∃ r, (!(y == a)) = r := ⟨_, rfl⟩
              have e1 : ((y : Int) != (a : Int)) = r := by
                rw [← hr]
                by_cases e : y = a
                · subst e; simp
                · have : ¬ ((y : Int) = (a : Int)) := by omega
                  rw [show ((y : Int) != (a : Int)) = true from bne_iff_ne.2 this, show (y == a) = false from beq_eq_false_iff_ne.2 e]; rfl
              rw [hr] at HX
              clear HQ' hzk kt c1' i1' hbb hr
              go_wp2_with fail
              go_roundw
              case rel => exact ⟨i + 1, r, by omega, by go_num, by first | rfl | (simp only [e1]), HX, by first | rfl | trivial⟩
              case measure => simp [intOf]; omega
          · have HC : Hid (q = true ↔ CovN zz a) := by
              rw [show (q = true ↔ CovN zz a) = (q = true ↔ CovN zz a) from rfl]
              refine HQ.out.trans ⟨fun h p hp => ?_, fun h j hj _ => h _ (List.getElem_mem hj)⟩
              obtain ⟨j, hj, rfl⟩ := List.getElem_of_mem hp
              exact h j hj (by omega)
            obtain ⟨kt, hkt⟩ : ∃ kt : Int, kt = (i : Int) := ⟨_, rfl⟩
            have hk10 : ¬ kt < (zz.length : Int) := by omega
            rw [← hkt]
            clear HQ i0' hli hkt hil i
            cases q with
            | false =>
              have HX : Hid (OwnI w1.heap.size wi u4 (selN (CovN zz) (a + 1))) := by
                show OwnI _ _ _ _
                rw [selN_no (fun h => by have := HC.out.2 h; simp at this)]; exact HO.out
              go_wp2_with fail
              go_roundw
              case rel => exact ⟨a + 1, by omega, by go_num, HX, HB⟩
              case measure => simp [intOf]; omega
            | true =>
              have HCY := Lib.hid (HC.out.1 rfl)
              obtain ⟨ua, uc, rfl⟩ := HO.out.slice
              have hzl := selN_len (CovN zz) a
              have hown := HO.out
              have hs := HB.out.size
              clear HC
              go_wp2_with (at_builtin; refine wpList_append_own _ rfl _ _ 40 rfl w1.heap.size 2 i0 (.int .i64 0) 1 8 Tryd.underlying40 hi iz0 iz1 iz2 rfl (by decide) _ _ _ rfl (hown.out.alloc _) ⟨wi.heap.size, 0, none⟩ 1 1 [.int .i64 (a : Int)] rfl rfl ?ah1 ?ah2 ?ah3 ?ah4 ?ah5 ?_)
              try (case ah1 => exact row_one _ _ _)
              case ah2 => first | rfl | (intro u hu; simp at hu; subst hu; rfl)
              case ah3 => unfold maxLen; omega
              case ah4 => omega
              case ah5 => first | omega | (simp; omega)
              intro v2 w10 hown3 hgrow _
              have hp3 := pushU hown3
              have hk3 := below_pushU HB.out (Nat.le_refl _) hs hown hgrow
              have HX : Hid (OwnI w1.heap.size w10 v2 (selN (CovN zz) (a + 1))) := by
                show OwnI _ _ _ _
                rw [selN_yes HCY.out]; exact hp3
              have HB3 := Lib.hid hk3
              clear hp3 hk3 hown3 hgrow hown HO
              go_wp2_with fail
              go_roundw
              case rel => exact ⟨a + 1, by omega, by go_num, HX, HB3⟩
              case measure => simp [intOf]; omega
      · have haN : a = N := by omega
        have HX : Hid (OwnI w1.heap.size wr u4 (selN (CovN zz) N)) := by
          have h := HO.out
          rw [haN] at h
          exact h
        have HB9 := Lib.hid (HB1.out.trans (HB.out.mono HB1.out.size))
        have hs9 := HB1.out.size
        obtain ⟨kt, hkt⟩ : ∃ kt : Int, kt = (a : Int) := ⟨_, rfl⟩
        have hk10 : ¬ kt < (N : Int) := by omega
        rw [← hkt]
        clear HO a0 hlt hkt ha haN a
        go_wp2_with fail
        go_ret2
        exact ⟨_, rfl, HX.out.mono hs9, HB9.out⟩
end Go.Proofs.YtdihcmohpbgmmaaDoor
