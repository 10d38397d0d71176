/-
  Posets, plainly: pairs of elements, covers in their order, what PosetOf answers, valid posets.
-/
import Derived.Test.YtdihcmohpbgmmaaDoorPsC
namespace Go.Proofs.YtdihcmohpbgmmaaDoor
open Go.RowKit
set_option linter.unusedVariables false
set_option linter.unusedSimpArgs false

/-- A pair of elements. -/
def PairIn (n : Int) (p : List Int) : Prop := ∃ a b : Int, p = [a, b] ∧ 0 ≤ a ∧ a < n ∧ 0 ≤ b ∧ b < n
def PairsIn (n : Int) (zz : List (List Int)) : Prop := ∀ p ∈ zz, PairIn n p
theorem pairIn_iff {n : Int} {p : List Int} : PairIn n p ↔ p.length = 2 ∧ 0 ≤ p.getD 0 0 ∧ p.getD 0 0 < n ∧ 0 ≤ p.getD 1 0 ∧ p.getD 1 0 < n := by
  constructor
  · rintro ⟨a, b, rfl, h⟩
    exact ⟨rfl, h⟩
  · rintro ⟨hl, h⟩
    match p, hl with
    | [a, b], _ => exact ⟨a, b, rfl, h⟩
def edP (p : List Int) : Nat × Nat := ((p.getD 0 0).toNat, (p.getD 1 0).toNat)
def esP (zz : List (List Int)) : List (Nat × Nat) := zz.map edP
theorem esP_take {zz : List (List Int)} {k : Nat} (hk : k < zz.length) : esP (zz.take (k + 1)) = esP (zz.take k) ++ [edP zz[k]] := by
  unfold esP; rw [List.take_succ_eq_append_getElem hk, List.map_append]; rfl
theorem PairsIn.at {n : Int} {zz : List (List Int)} (h : PairsIn n zz) {k : Nat} (hk : k < zz.length) : ∃ a b : Nat, zz[k] = [(a : Int), (b : Int)] ∧ edP zz[k] = (a, b) ∧ (a : Int) < n ∧ (b : Int) < n := by
  obtain ⟨a, b, e, h1, h2, h3, h4⟩ := h _ (List.getElem_mem hk)
  obtain ⟨na, rfl⟩ : ∃ m : Nat, a = (m : Int) := ⟨_, (Int.toNat_of_nonneg h1).symm⟩
  obtain ⟨nb, rfl⟩ : ∃ m : Nat, b = (m : Int) := ⟨_, (Int.toNat_of_nonneg h3).symm⟩
  exact ⟨na, nb, e, by rw [e]; rfl, h2, h4⟩
theorem PairsIn.lt {N : Nat} {zz : List (List Int)} (h : PairsIn (N : Int) zz) : ∀ e ∈ esP zz, e.1 < N ∧ e.2 < N := fun e he => by
  obtain ⟨p, hp, rfl⟩ := List.mem_map.1 he
  obtain ⟨k, hk, rfl⟩ := List.getElem_of_mem hp
  obtain ⟨a, b, _, e, h1, h2⟩ := h.at hk
  rw [e]
  exact ⟨by show a < N; omega, by show b < N; omega⟩

open Classical in
/-- The covers of a with elements below k. -/
noncomputable def covRow (es : List (Nat × Nat)) (a k : Nat) : List (List Int) := ((List.range k).filter fun b => decide (Cov es a b)).map fun (b : Nat) => [(a : Int), (b : Int)]
noncomputable def covTo (es : List (Nat × Nat)) (n a : Nat) : List (List Int) := (List.range a).flatMap fun x => covRow es x n
noncomputable def covL (es : List (Nat × Nat)) (n : Nat) : List (List Int) := covTo es n n
theorem covRow_yes {es : List (Nat × Nat)} {a k : Nat} (h : Cov es a k) : covRow es a (k + 1) = covRow es a k ++ [[(a : Int), (k : Int)]] := by
  simp [covRow, List.range_succ, List.filter_append, h]
theorem covRow_no {es : List (Nat × Nat)} {a k : Nat} (h : ¬ Cov es a k) : covRow es a (k + 1) = covRow es a k := by
  simp [covRow, List.range_succ, List.filter_append, h]
theorem covRow_zero (es : List (Nat × Nat)) (a : Nat) : covRow es a 0 = [] := rfl
theorem covTo_zero (es : List (Nat × Nat)) (n : Nat) : covTo es n 0 = [] := rfl
theorem covTo_next (es : List (Nat × Nat)) (n a : Nat) : covTo es n (a + 1) = covTo es n a ++ covRow es a n := by
  simp [covTo, List.range_succ]
theorem covRow_len (es : List (Nat × Nat)) (a k : Nat) : (covRow es a k).length ≤ k := by
  unfold covRow
  rw [List.length_map]
  exact Nat.le_trans (List.length_filter_le _ _) (by simp)
theorem covTo_len (es : List (Nat × Nat)) (n : Nat) : ∀ a, (covTo es n a).length ≤ a * n
  | 0 => by simp [covTo]
  | a + 1 => by
    have h1 := covTo_len es n a
    have h2 := covRow_len es a n
    rw [covTo_next, List.length_append, Nat.succ_mul]; omega
theorem mem_covL {es : List (Nat × Nat)} {n : Nat} {p : List Int} : p ∈ covL es n ↔ ∃ a b : Nat, a < n ∧ b < n ∧ Cov es a b ∧ p = [(a : Int), (b : Int)] := by
  unfold covL covTo covRow
  simp only [List.mem_flatMap, List.mem_map, List.mem_filter, List.mem_range, decide_eq_true_eq]
  constructor
  · rintro ⟨a, ha, b, ⟨hb, hc⟩, rfl⟩; exact ⟨a, b, ha, hb, hc, rfl⟩
  · rintro ⟨a, b, ha, hb, hc, rfl⟩; exact ⟨a, ha, b, ⟨hb, hc⟩, rfl⟩
theorem covL_in (es : List (Nat × Nat)) (n : Nat) : PairsIn (n : Int) (covL es n) := fun p hp => by
  obtain ⟨a, b, ha, hb, _, rfl⟩ := mem_covL.1 hp
  exact ⟨_, _, rfl, by omega, by omega, by omega, by omega⟩
theorem Circ.no {es : List (Nat × Nat)} {n : Nat} (h : ¬ Circ es n) {a b : Nat} (ha : a < n) (hb : b < n) (h1 : Rch es a b) (h2 : Rch es b a) : a = b := by
  apply Classical.byContradiction
  intro e
  exact h ⟨a, b, ha, hb, e, h1, h2⟩
/-- What PosetOf answers: the size, the covers and the code. -/
def PofIs (n : Int) (zz : List (List Int)) (m : Int) (yy : List (List Int)) (c : Int) : Prop :=
  (¬ ((0 ≤ n ∧ n ≤ 12) ∧ PairsIn n zz) ∧ m = 0 ∧ yy = [] ∧ c = 2) ∨
  (∃ N : Nat, n = (N : Int) ∧ N ≤ 12 ∧ PairsIn n zz ∧
    ((Circ (esP zz) N ∧ m = 0 ∧ yy = [] ∧ c = 6) ∨
     (¬ Circ (esP zz) N ∧ 30 < (covL (esP zz) N).length ∧ m = 0 ∧ yy = [] ∧ c = 5) ∨
     (¬ Circ (esP zz) N ∧ (covL (esP zz) N).length ≤ 30 ∧ m = n ∧ yy = covL (esP zz) N ∧ c = 0)))
theorem pof_has (n : Int) (zz : List (List Int)) : ∃ m yy c, PofIs n zz m yy c := by
  by_cases h : (0 ≤ n ∧ n ≤ 12) ∧ PairsIn n zz
  · obtain ⟨N, rfl⟩ : ∃ N : Nat, n = (N : Int) := ⟨_, (Int.toNat_of_nonneg h.1.1).symm⟩
    by_cases h1 : Circ (esP zz) N
    · exact ⟨_, _, _, .inr ⟨N, rfl, by omega, h.2, .inl ⟨h1, rfl, rfl, rfl⟩⟩⟩
    · by_cases h2 : (covL (esP zz) N).length ≤ 30
      · exact ⟨_, _, _, .inr ⟨N, rfl, by omega, h.2, .inr (.inr ⟨h1, h2, rfl, rfl, rfl⟩)⟩⟩
      · exact ⟨_, _, _, .inr ⟨N, rfl, by omega, h.2, .inr (.inl ⟨h1, by omega, rfl, rfl, rfl⟩)⟩⟩
  · exact ⟨_, _, _, .inl ⟨h, rfl, rfl, rfl⟩⟩
theorem PofIs.fit {n : Int} {zz : List (List Int)} {m : Int} {yy : List (List Int)} {c : Int} (h : PofIs n zz m yy c) : yy.length ≤ 30 := by
  rcases h with ⟨_, _, rfl, _⟩ | ⟨N, _, _, _, ⟨_, _, rfl, _⟩ | ⟨_, _, _, rfl, _⟩ | ⟨_, h, _, rfl, _⟩⟩
  · simp
  · simp
  · simp
  · exact h
/-- A valid poset. -/
def OkP (n : Int) (zz : List (List Int)) : Prop := ∃ N : Nat, n = (N : Int) ∧ N ≤ 12 ∧ zz.length ≤ 30 ∧ PairsIn n zz ∧ ¬ Circ (esP zz) N ∧ covL (esP zz) N = zz
/-- The program's way: PosetOf leaves it as it is. -/
theorem okP_pof {n : Int} {zz : List (List Int)} {m : Int} {yy : List (List Int)} {c : Int} (h : PofIs n zz m yy c) : OkP n zz ↔ c = 0 ∧ m = n ∧ yy = zz := by
  rcases h with ⟨h, rfl, rfl, rfl⟩ | ⟨N, rfl, hN, hp, h⟩
  · constructor
    · rintro ⟨N, rfl, hN, _, hp, _⟩
      exact absurd ⟨⟨by omega, by omega⟩, hp⟩ h
    · rintro ⟨h, _⟩; omega
  · rcases h with ⟨h1, rfl, rfl, rfl⟩ | ⟨h1, h2, rfl, rfl, rfl⟩ | ⟨h1, h2, rfl, rfl, rfl⟩
    · constructor
      · rintro ⟨M, e, _, _, _, hc, _⟩
        obtain rfl : N = M := by omega
        exact absurd h1 hc
      · rintro ⟨h, _⟩; omega
    · constructor
      · rintro ⟨M, e, _, hl, _, _, hv⟩
        obtain rfl : N = M := by omega
        rw [hv] at h2; omega
      · rintro ⟨h, _⟩; omega
    · constructor
      · rintro ⟨M, e, _, _, _, _, hv⟩
        obtain rfl : N = M := by omega
        exact ⟨rfl, rfl, hv⟩
      · rintro ⟨_, _, hv⟩
        exact ⟨N, rfl, hN, by rw [← hv]; exact h2, hp, h1, hv⟩
def OkPIs (n : Int) (zz : List (List Int)) (T : Bool) : Prop := (T = true ∧ OkP n zz) ∨ (T = false ∧ ¬ OkP n zz)
theorem okPIs_has (n : Int) (zz : List (List Int)) : ∃ T, OkPIs n zz T := by
  by_cases h : OkP n zz
  · exact ⟨_, .inl ⟨rfl, h⟩⟩
  · exact ⟨_, .inr ⟨rfl, h⟩⟩
/-- In a valid poset the least elements are those that cover none. -/
theorem min_iff {n : Int} {N : Nat} {zz : List (List Int)} (hn : n = (N : Int)) (ho : OkP n zz) {a : Nat} (ha : a < N) : (∀ b, Rch (esP zz) b a → b = a) ↔ ∀ p ∈ zz, p.getD 1 0 ≠ (a : Int) := by
  subst hn
  obtain ⟨M, e, _, _, hp, hc, hv⟩ := ho
  obtain rfl : N = M := by omega
  constructor
  · intro h p hpz e
    rw [← hv] at hpz
    obtain ⟨x, y, _, _, hxy, rfl⟩ := mem_covL.1 hpz
    have : y = a := by have : (y : Int) = (a : Int) := by simpa using e
                       omega
    subst this
    exact hxy.1 (h x hxy.2.1)
  · intro h b hb
    apply Classical.byContradiction
    intro hne
    cases hb with
    | refl => exact hne rfl
    | @step _ _ h1 he =>
      obtain ⟨p, hpz, hpe⟩ := List.mem_map.1 he
      have h2 := h p hpz
      obtain ⟨k, hk, rfl⟩ := List.getElem_of_mem hpz
      obtain ⟨x, y, e1, e2, _, _⟩ := hp.at hk
      rw [e2] at hpe
      injection hpe with e3 e4
      apply h2
      rw [e1, ← e4]; rfl
end Go.Proofs.YtdihcmohpbgmmaaDoor
