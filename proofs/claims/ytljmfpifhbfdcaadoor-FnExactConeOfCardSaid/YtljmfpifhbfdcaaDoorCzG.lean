/-
  A number put to its place, cones plainly, and a complex of one vertex of the model's own.
-/
import Derived.Test.YtljmfpifhbfdcaaDoorCzD
namespace Go.Proofs.YtljmfpifhbfdcaaDoor
open Go.RowKit
set_option linter.unusedVariables false
set_option linter.unusedSimpArgs false

/-- A number put to its place, once. -/
def insL (n : Int) : List Int → List Int
  | [] => [n]
  | z :: zs => if z < n then z :: insL n zs else if z = n then z :: zs else n :: z :: zs
theorem insL_at {n : Int} : ∀ {zs : List Int} {i : Nat} (hi : i < zs.length), (∀ j (h : j < zs.length), j < i → zs[j] < n) → n ≤ zs[i] → insL n zs = zs.take i ++ (if zs[i] = n then [] else [n]) ++ zs.drop i
  | [], i, hi, _, _ => absurd hi (Nat.not_lt_zero i)
  | z :: zs, 0, hi, _, h => by
    have h' : n ≤ z := h
    unfold insL
    rw [if_neg (by omega)]
    by_cases e : z = n
    · rw [if_pos e, if_pos (by simpa using e)]; simp
    · rw [if_neg e, if_neg (by simpa using e)]; simp
  | z :: zs, i + 1, hi, ha, h => by
    have h0 : z < n := ha 0 (by simp) (by omega)
    have hi' : i < zs.length := by simpa using hi
    unfold insL
    rw [if_pos h0, insL_at hi' (fun j hj hji => ha (j + 1) (by simpa using hj) (by omega)) (by simpa using h)]
    simp
theorem insL_end {n : Int} : ∀ {zs : List Int}, (∀ z ∈ zs, z < n) → insL n zs = zs ++ [n]
  | [], _ => rfl
  | z :: zs, h => by
    unfold insL
    rw [if_pos (h z (by simp)), insL_end (fun x hx => h x (by simp [hx]))]; rfl
theorem mem_insL {n x : Int} : ∀ {zs : List Int}, x ∈ insL n zs ↔ x = n ∨ x ∈ zs
  | [] => by simp [insL]
  | z :: zs => by
    unfold insL
    split
    · rw [List.mem_cons, mem_insL, List.mem_cons]
      constructor
      · rintro (h | h | h)
        · exact .inr (.inl h)
        · exact .inl h
        · exact .inr (.inr h)
      · rintro (h | h | h)
        · exact .inr (.inl h)
        · exact .inl h
        · exact .inr (.inr h)
    · split
      · rename_i h1 h2
        subst h2
        rw [List.mem_cons]
        constructor
        · exact fun h => .inr h
        · rintro (h | h)
          · exact .inl h
          · exact h
      · rw [List.mem_cons]
theorem insL_rise {n : Int} : ∀ {zs : List Int}, zs.Pairwise (· < ·) → (insL n zs).Pairwise (· < ·)
  | [], _ => by simp [insL]
  | z :: zs, h => by
    have h' := List.pairwise_cons.1 h
    unfold insL
    split
    · rename_i h1
      refine List.pairwise_cons.2 ⟨fun x hx => ?_, insL_rise h'.2⟩
      rcases mem_insL.1 hx with e | e
      · subst e; exact h1
      · exact h'.1 x e
    · split
      · exact h
      · rename_i h1 h2
        refine List.pairwise_cons.2 ⟨fun x hx => ?_, h⟩
        rcases List.mem_cons.1 hx with e | e
        · omega
        · have := h'.1 x e; omega
theorem insL_len {n : Int} : ∀ (zs : List Int), (insL n zs).length ≤ zs.length + 1
  | [] => by simp [insL]
  | z :: zs => by
    unfold insL
    have := insL_len (n := n) zs
    split
    · simp; omega
    · split <;> simp
def PutInv (n : Int) (zs : List Int) (k : Nat) (d : Bool) (ys : List Int) : Prop :=
  (d = false ∧ ys = zs.take k ∧ ∀ j (h : j < zs.length), j < k → zs[j] < n) ∨ (d = true ∧ ys ++ zs.drop k = insL n zs)
theorem PutInv.len {n : Int} {zs : List Int} {k : Nat} {d : Bool} {ys : List Int} (h : PutInv n zs k d ys) : ys.length ≤ zs.length + 1 := by
  rcases h with ⟨_, rfl, _⟩ | ⟨_, e⟩
  · rw [List.length_take]; omega
  · have := insL_len (n := n) zs; rw [← e, List.length_append] at this; omega
theorem PutInv.small {n : Int} {zs : List Int} {k : Nat} {ys : List Int} (h : PutInv n zs k false ys) (hk : k < zs.length) (hs : zs[k] < n) : PutInv n zs (k + 1) false (ys ++ [zs[k]]) := by
  rcases h with ⟨_, rfl, ha⟩ | ⟨e, _⟩
  · refine .inl ⟨rfl, by rw [List.take_succ_eq_append_getElem hk], fun j hj hjk => ?_⟩
    by_cases e : j = k
    · subst e; exact hs
    · exact ha j hj (by omega)
  · cases e
theorem PutInv.same {n : Int} {zs : List Int} {k : Nat} {ys : List Int} (h : PutInv n zs k false ys) (hk : k < zs.length) (hs : zs[k] = n) : PutInv n zs (k + 1) true (ys ++ [zs[k]]) := by
  rcases h with ⟨_, rfl, ha⟩ | ⟨e, _⟩
  · refine .inr ⟨rfl, ?_⟩
    rw [insL_at hk ha (by omega), if_pos hs, List.append_nil, List.append_assoc, List.singleton_append, ← List.drop_eq_getElem_cons hk]
  · cases e
theorem PutInv.great {n : Int} {zs : List Int} {k : Nat} {ys : List Int} (h : PutInv n zs k false ys) (hk : k < zs.length) (hs : n < zs[k]) : PutInv n zs (k + 1) true ((ys ++ [n]) ++ [zs[k]]) := by
  rcases h with ⟨_, rfl, ha⟩ | ⟨e, _⟩
  · refine .inr ⟨rfl, ?_⟩
    rw [insL_at hk ha (by omega), if_neg (by omega), List.drop_eq_getElem_cons hk]; simp
  · cases e
theorem PutInv.after {n : Int} {zs : List Int} {k : Nat} {ys : List Int} (h : PutInv n zs k true ys) (hk : k < zs.length) : PutInv n zs (k + 1) true (ys ++ [zs[k]]) := by
  rcases h with ⟨e, _⟩ | ⟨_, e⟩
  · cases e
  · refine .inr ⟨rfl, ?_⟩
    rw [List.append_assoc, List.singleton_append, ← List.drop_eq_getElem_cons hk]; exact e
theorem PutInv.endNo {n : Int} {zs : List Int} {ys : List Int} (h : PutInv n zs zs.length false ys) : ys ++ [n] = insL n zs := by
  rcases h with ⟨_, rfl, ha⟩ | ⟨e, _⟩
  · rw [List.take_length, insL_end fun z hz => ?_]
    obtain ⟨j, hj, rfl⟩ := List.getElem_of_mem hz; exact ha j hj hj
  · cases e
theorem PutInv.endYes {n : Int} {zs : List Int} {ys : List Int} (h : PutInv n zs zs.length true ys) : ys = insL n zs := by
  rcases h with ⟨e, _⟩ | ⟨_, e⟩
  · cases e
  · simpa using e
set_option maxRecDepth 100000 in
set_option maxHeartbeats 6400000 in
theorem l00Put_any {v : Value} {zs : List Int} {n : Int} {w : World} (hv : IntsAt w v zs) :
    Calls Tryd.prog 80 #[v, .int .i64 n] w fun e w' => RetN (insL n zs) w e w' := by
  obtain ⟨i0, hi0, iz0, iz1, iz2⟩ := info_parts info2
  obtain ⟨a, c, rfl, hl, k1⟩ := hv.any
  have K1 := Lib.hid k1
  have hm : OwnI w.heap.size (w.alloc (.cells #[] 2)) (.slice (some ⟨w.heap.size, 0, none⟩) 0 0) [] := World.ownsRow_made (base := w.heap.size) (e := 2) (size := 1) w #[] 0 (Nat.le_refl _) (Nat.zero_le _) rfl
  have HM := Lib.hid hm
  have AL : Hid (Below w.heap.size w (w.alloc (.cells #[] 2))) := (Below.refl _ w).alloc (Nat.le_refl _) _
  clear k1 hm hv
  go_enter Tryd.func80, Tryd.ntmps80
  go_wp2_with fail
  go_loopw [5, 6, 7] (fun sv sd si wr => ∃ (k : Nat) (d : Bool) (ys : List Int), k ≤ zs.length ∧ si = .int .i64 (k : Int) ∧ sd = .bool d ∧ Hid (PutInv n zs k d ys) ∧ Hid (OwnI w.heap.size wr sv ys) ∧ Hid (Below w.heap.size w wr)) (fun _ _ i _ => zs.length - (intOf i).toNat)
  case atStart => exact ⟨0, false, [], Nat.zero_le _, rfl, rfl, .inl ⟨rfl, rfl, fun j _ h => absurd h (Nat.not_lt_zero j)⟩, HM, AL⟩
  case round =>
    clear HM AL
    obtain ⟨k, d, ys, hk, rfl, rfl, HI, HY, HB⟩ := hrel
    have hs := HB.out.size
    have i0' : 0 ≤ (k : Int) := by omega
    have hyl := HI.out.len
    by_cases hlt : k < zs.length
    · have i1 : (k : Int) < (zs.length : Int) := by omega
      obtain ⟨b, o, rfl, hb, g1'⟩ := K1.out k hlt
      have g1 : wr.cell? ⟨b, o + k, none⟩ = some (.int .i64 zs[k]) := (HB.out.cell (p := ⟨b, o + k, none⟩) hb).trans g1'
      obtain ⟨ya, yc, rfl⟩ := HY.out.slice
      have G1 := Lib.hid g1'
      clear g1'
      have arm := fun (x : Int) (W : World) (zl : List Int) (h : OwnI w.heap.size W (.slice ya zl.length yc) zl) => World.ownsRow.alloc h.out (.cells #[.int .i64 x] 2)
      cases d with
      | true =>
        have HN := Lib.hid (HI.out.after hlt)
        generalize zs[k] = x at g1 G1 HN
        go_wp2_with (at_builtin; refine wpList_append_own _ rfl _ _ 38 rfl w.heap.size 2 i0 (.int .i64 0) 1 8 Tryd.underlying38 hi0 iz0 iz1 iz2 rfl (by decide) _ _ _ rfl (World.ownsRow.alloc HY.out.out (.cells #[.int .i64 x] 2)) ⟨wr.heap.size, 0, none⟩ 1 1 [.int .i64 x] rfl rfl (row_oneS _ _ _ _ (by first | rfl | simp)) (by first | rfl | (intro u hu; simp at hu; subst hu; rfl)) (by unfold maxLen; omega) (by omega) (by first | omega | (simp; omega)) ?_; intro v2 w10 hown3 hgrow _)
        have HO2 : Hid (OwnI w.heap.size w10 v2 (ys ++ [x])) := pushU hown3
        have HB2 := Lib.hid (below_pushU HB.out (Nat.le_refl _) (by first | omega | (simp; omega)) HY.out hgrow)
        clear hown3 hgrow arm
        go_wp2_with fail
        go_roundw
        case rel => exact ⟨k + 1, true, _, by omega, by go_num, rfl, HN, HO2, HB2⟩
        case measure => simp [intOf]; omega
      | false =>
        rcases Int.lt_trichotomy zs[k] n with hc | hc | hc
        · have HN := Lib.hid (HI.out.small hlt hc)
          generalize zs[k] = x at g1 G1 HN hc
          have h1 : ¬ x ≥ n := by omega
          have h2 : decide (x ≥ n) = false := decide_eq_false h1
          go_wp2_with (at_builtin; refine wpList_append_own _ rfl _ _ 38 rfl w.heap.size 2 i0 (.int .i64 0) 1 8 Tryd.underlying38 hi0 iz0 iz1 iz2 rfl (by decide) _ _ _ rfl (World.ownsRow.alloc HY.out.out (.cells #[.int .i64 x] 2)) ⟨wr.heap.size, 0, none⟩ 1 1 [.int .i64 x] rfl rfl (row_oneS _ _ _ _ (by first | rfl | simp)) (by first | rfl | (intro u hu; simp at hu; subst hu; rfl)) (by unfold maxLen; omega) (by omega) (by first | omega | (simp; omega)) ?_; intro v2 w10 hown3 hgrow _)
          have HO2 : Hid (OwnI w.heap.size w10 v2 (ys ++ [x])) := pushU hown3
          have HB2 := Lib.hid (below_pushU HB.out (Nat.le_refl _) (by first | omega | (simp; omega)) HY.out hgrow)
          clear hown3 hgrow arm
          go_wp2_with fail
          go_roundw
          case rel => exact ⟨k + 1, false, _, by omega, by go_num, rfl, HN, HO2, HB2⟩
          case measure => simp [intOf]; omega
        · have HN := Lib.hid (HI.out.same hlt hc)
          generalize zs[k] = x at g1 G1 HN hc
          have h1 : x ≥ n := by omega
          have h2 : decide (x ≥ n) = true := decide_eq_true h1
          have h3 : ¬ x > n := by omega
          have h4 : decide (x > n) = false := decide_eq_false h3
          clear hc
          go_wp2_with (at_builtin; refine wpList_append_own _ rfl _ _ 38 rfl w.heap.size 2 i0 (.int .i64 0) 1 8 Tryd.underlying38 hi0 iz0 iz1 iz2 rfl (by decide) _ _ _ rfl (World.ownsRow.alloc HY.out.out (.cells #[.int .i64 x] 2)) ⟨wr.heap.size, 0, none⟩ 1 1 [.int .i64 x] rfl rfl (row_oneS _ _ _ _ (by first | rfl | simp)) (by first | rfl | (intro u hu; simp at hu; subst hu; rfl)) (by unfold maxLen; omega) (by omega) (by first | omega | (simp; omega)) ?_; intro v2 w10 hown3 hgrow _)
          have HO2 : Hid (OwnI w.heap.size w10 v2 (ys ++ [x])) := pushU hown3
          have HB2 := Lib.hid (below_pushU HB.out (Nat.le_refl _) (by first | omega | (simp; omega)) HY.out hgrow)
          clear hown3 hgrow arm
          go_wp2_with fail
          go_roundw
          case rel => exact ⟨k + 1, true, _, by omega, by go_num, rfl, HN, HO2, HB2⟩
          case measure => simp [intOf]; omega
        · have HN := Lib.hid (HI.out.great hlt hc)
          generalize zs[k] = x at g1 G1 HN hc
          have h1 : x ≥ n := by omega
          have h2 : decide (x ≥ n) = true := decide_eq_true h1
          have h3 : x > n := by omega
          have h4 : decide (x > n) = true := decide_eq_true h3
          go_wp2_with (first | (at_builtin; refine wpList_append_own _ rfl _ _ 38 rfl w.heap.size 2 i0 (.int .i64 0) 1 8 Tryd.underlying38 hi0 iz0 iz1 iz2 rfl (by decide) _ _ _ rfl (World.ownsRow.alloc HY.out.out (.cells #[.int .i64 n] 2)) ⟨wr.heap.size, 0, none⟩ 1 1 [.int .i64 n] rfl rfl (row_oneS _ _ _ _ (by first | rfl | simp)) (by first | rfl | (intro u hu; simp at hu; subst hu; rfl)) (by unfold maxLen; omega) (by omega) (by first | omega | (simp; omega)) ?_; intro v2 w10 hown3 hgrow _; have HO2 : Hid (OwnI w.heap.size w10 v2 (ys ++ [n])) := pushU hown3; have HB2 := Lib.hid (below_pushU HB.out (Nat.le_refl _) (by first | omega | (simp; omega)) HY.out hgrow); have g2 : w10.cell? ⟨b, o + k, none⟩ = some (.int .i64 x) := (HB2.out.cell (p := ⟨b, o + k, none⟩) hb).trans G1.out; have hyl2 : (ys ++ [n]).length ≤ zs.length + 2 := (by rw [List.length_append, List.length_singleton]; omega); have hs2 := HB2.out.size; clear hown3 hgrow; generalize ys ++ [n] = y2 at HO2 HN hyl2; obtain ⟨za, zc, rfl⟩ := HO2.out.slice) | (at_builtin; refine wpList_append_own _ rfl _ _ 38 rfl w.heap.size 2 i0 (.int .i64 0) 1 8 Tryd.underlying38 hi0 iz0 iz1 iz2 rfl (by decide) _ _ _ rfl (World.ownsRow.alloc HO2.out.out (.cells #[.int .i64 x] 2)) ⟨w10.heap.size, 0, none⟩ 1 1 [.int .i64 x] rfl rfl (row_oneS _ _ _ _ (by first | rfl | simp)) (by first | rfl | (intro u hu; simp at hu; subst hu; rfl)) (by unfold maxLen; omega) (by omega) (by first | omega | (simp; omega)) ?_; intro v3 w11 hown3 hgrow _))
          have HO3 : Hid (OwnI w.heap.size w11 v3 (y2 ++ [x])) := pushU hown3
          have HB3 := Lib.hid (below_pushU HB2.out (Nat.le_refl _) (by first | omega | (simp; omega)) HO2.out hgrow)
          clear hown3 hgrow
          go_wp2_with fail
          go_roundw
          case rel => exact ⟨k + 1, true, _, by omega, by go_num, rfl, HN, HO3, HB3⟩
          case measure => simp [intOf]; omega
    · obtain rfl : k = zs.length := by omega
      obtain ⟨ya, yc, rfl⟩ := HY.out.slice
      cases d with
      | true =>
        have HE := Lib.hid (HI.out.endYes)
        go_wp2_with fail
        go_ret
        exact ⟨_, rfl, by rw [← HE.out]; exact HY.out, HB.out⟩
      | false =>
        have HE := Lib.hid (HI.out.endNo)
        go_wp2_with (at_builtin; refine wpList_append_own _ rfl _ _ 38 rfl w.heap.size 2 i0 (.int .i64 0) 1 8 Tryd.underlying38 hi0 iz0 iz1 iz2 rfl (by decide) _ _ _ rfl (World.ownsRow.alloc HY.out.out (.cells #[.int .i64 n] 2)) ⟨wr.heap.size, 0, none⟩ 1 1 [.int .i64 n] rfl rfl (row_oneS _ _ _ _ (by first | rfl | simp)) (by first | rfl | (intro u hu; simp at hu; subst hu; rfl)) (by unfold maxLen; omega) (by omega) (by first | omega | (simp; omega)) ?_; intro v2 w10 hown3 hgrow _)
        have HO2 : Hid (OwnI w.heap.size w10 v2 (ys ++ [n])) := pushU hown3
        have HB2 := Lib.hid (below_pushU HB.out (Nat.le_refl _) (by first | omega | (simp; omega)) HY.out hgrow)
        clear hown3 hgrow
        go_wp2_with fail
        go_ret
        exact ⟨_, rfl, by rw [← HE.out]; exact HO2.out, HB2.out⟩
end Go.Proofs.YtljmfpifhbfdcaaDoor
