/-
  The opposite of a poset, plainly.
-/
import Derived.Test.YtochcpaahibijaaDoorPsP
namespace Go.Proofs.YtochcpaahibijaaDoor
open Go.RowKit
set_option linter.unusedVariables false
set_option linter.unusedSimpArgs false

def revP (p : List Int) : List Int := [p.getD 1 0, p.getD 0 0]
theorem Rch.rev {es es' : List (Nat × Nat)} (h : ∀ x y, (x, y) ∈ es → (y, x) ∈ es') {a b : Nat} (g : Rch es a b) : Rch es' b a := by
  induction g with
  | refl => exact .refl _
  | step _ he ih => exact (Rch.step (.refl _) (h _ _ he)).trans ih
theorem esP_rev (zz : List (List Int)) (x y : Nat) : (x, y) ∈ esP (zz.map revP) ↔ (y, x) ∈ esP zz := by
  unfold esP
  rw [List.map_map, List.mem_map, List.mem_map]
  constructor
  · rintro ⟨p, h, e⟩
    refine ⟨p, h, ?_⟩
    simp only [Function.comp, edP, revP, Prod.mk.injEq] at e ⊢
    exact ⟨e.2, e.1⟩
  · rintro ⟨p, h, e⟩
    refine ⟨p, h, ?_⟩
    simp only [Function.comp, edP, revP, Prod.mk.injEq] at e ⊢
    exact ⟨e.2, e.1⟩
theorem rch_rev {zz : List (List Int)} {a b : Nat} : Rch (esP (zz.map revP)) a b ↔ Rch (esP zz) b a :=
  ⟨fun h => h.rev fun x y he => (esP_rev zz x y).1 he, fun h => h.rev fun x y he => (esP_rev zz y x).2 he⟩
theorem cov_rev {zz : List (List Int)} {a b : Nat} : Cov (esP (zz.map revP)) a b ↔ Cov (esP zz) b a := by
  unfold Cov
  constructor
  · rintro ⟨h1, h2, h3⟩
    exact ⟨fun e => h1 e.symm, rch_rev.1 h2, fun x g1 g2 => (h3 x (rch_rev.2 g2) (rch_rev.2 g1)).symm⟩
  · rintro ⟨h1, h2, h3⟩
    exact ⟨fun e => h1 e.symm, rch_rev.2 h2, fun x g1 g2 => (h3 x (rch_rev.1 g2) (rch_rev.1 g1)).symm⟩
theorem circ_rev {zz : List (List Int)} {N : Nat} : Circ (esP (zz.map revP)) N ↔ Circ (esP zz) N := by
  unfold Circ
  constructor
  · rintro ⟨a, b, ha, hb, hne, h1, h2⟩; exact ⟨a, b, ha, hb, hne, rch_rev.1 h2, rch_rev.1 h1⟩
  · rintro ⟨a, b, ha, hb, hne, h1, h2⟩; exact ⟨a, b, ha, hb, hne, rch_rev.2 h2, rch_rev.2 h1⟩
theorem pairs_rev {n : Int} {zz : List (List Int)} (h : PairsIn n zz) : PairsIn n (zz.map revP) := fun p hp => by
  obtain ⟨q, hq, rfl⟩ := List.mem_map.1 hp
  obtain ⟨a, b, rfl, h1, h2, h3, h4⟩ := h q hq
  exact ⟨b, a, rfl, h3, h4, h1, h2⟩
theorem bef2 {a b c d : Int} (h : a < c ∨ a = c ∧ b < d) : befB [a, b] [c, d] = true := by
  rw [befB_iff]
  refine .inr ⟨rfl, ?_⟩
  rcases h with h | ⟨rfl, h⟩
  · have h1 : ¬ a = c := by omega
    simp [cmpL, h, h1]
  · simp [cmpL, h]
theorem covRow_ord (es : List (Nat × Nat)) (a : Nat) : ∀ k, Ord (covRow es a k)
  | 0 => by rw [covRow_zero]; exact List.Pairwise.nil
  | k + 1 => by
    by_cases h : Cov es a k
    · rw [covRow_yes h]
      refine List.pairwise_append.2 ⟨covRow_ord es a k, List.pairwise_singleton _ _, fun x hx y hy => ?_⟩
      rw [List.mem_singleton.1 hy]
      unfold covRow at hx
      obtain ⟨b, hb, rfl⟩ := List.mem_map.1 hx
      have := List.mem_range.1 (List.mem_filter.1 hb).1
      exact bef2 (.inr ⟨rfl, by omega⟩)
    · rw [covRow_no h]; exact covRow_ord es a k
theorem covTo_ord (es : List (Nat × Nat)) (n : Nat) : ∀ a, Ord (covTo es n a)
  | 0 => by rw [covTo_zero]; exact List.Pairwise.nil
  | a + 1 => by
    rw [covTo_next]
    refine List.pairwise_append.2 ⟨covTo_ord es n a, covRow_ord es a n, fun x hx y hy => ?_⟩
    unfold covTo at hx
    obtain ⟨b, hb, hx⟩ := List.mem_flatMap.1 hx
    unfold covRow at hx hy
    obtain ⟨c, _, rfl⟩ := List.mem_map.1 hx
    obtain ⟨d, _, rfl⟩ := List.mem_map.1 hy
    have := List.mem_range.1 hb
    exact bef2 (.inl (by omega))
theorem covL_ord (es : List (Nat × Nat)) (n : Nat) : Ord (covL es n) := covTo_ord es n n
theorem nodup_len : ∀ (D E : List (List Int)), D.Nodup → (∀ x ∈ D, x ∈ E) → D.length ≤ E.length
  | [], _, _, _ => Nat.zero_le _
  | x :: D, E, h, g => by
    obtain ⟨h1, h2⟩ := List.nodup_cons.1 h
    have hx := g x (by simp)
    have ih := nodup_len D (E.erase x) h2 fun y hy => (List.mem_erase_of_ne (fun e => h1 (by rw [← e]; exact hy))).2 (g y (by simp [hy]))
    rw [List.length_erase_of_mem hx] at ih
    have := List.length_pos_of_mem hx
    simp only [List.length_cons]; omega
/-- What DualPoset answers. -/
def DuaIs (n : Int) (zz : List (List Int)) (m : Int) (yy : List (List Int)) (k : Int) : Prop :=
  (¬ OkP n zz ∧ m = 0 ∧ yy = [] ∧ k = 1) ∨ (∃ N : Nat, n = (N : Int) ∧ OkP n zz ∧ m = n ∧ yy = covL (esP (zz.map revP)) N ∧ k = 0)
theorem dua_has (n : Int) (zz : List (List Int)) : ∃ m yy k, DuaIs n zz m yy k := by
  by_cases h : OkP n zz
  · obtain ⟨N, e, _⟩ := h.nat
    exact ⟨_, _, _, .inr ⟨N, e, h, rfl, rfl, rfl⟩⟩
  · exact ⟨_, _, _, .inl ⟨h, rfl, rfl, rfl⟩⟩
theorem mem_dual {N : Nat} {zz : List (List Int)} (h : OkP (N : Int) zz) (x : List Int) : x ∈ covL (esP (zz.map revP)) N ↔ x ∈ zz.map revP := by
  obtain ⟨M, e, _, _, hp, _, hv⟩ := h
  obtain rfl : N = M := by omega
  rw [mem_covL, List.mem_map]
  constructor
  · rintro ⟨a, b, ha, hb, hc, rfl⟩
    refine ⟨[(b : Int), (a : Int)], ?_, rfl⟩
    rw [← hv, mem_covL]
    exact ⟨b, a, hb, ha, cov_rev.1 hc, rfl⟩
  · rintro ⟨p, hpz, rfl⟩
    rw [← hv, mem_covL] at hpz
    obtain ⟨a, b, ha, hb, hc, rfl⟩ := hpz
    exact ⟨b, a, hb, ha, cov_rev.2 hc, rfl⟩
theorem dual_len {N : Nat} {zz : List (List Int)} (h : OkP (N : Int) zz) : (covL (esP (zz.map revP)) N).length ≤ 30 := by
  have h1 := nodup_len _ (zz.map revP) (covL_ord _ N).nodup fun x hx => (mem_dual h x).1 hx
  obtain ⟨M, e, _, hl, _⟩ := h
  rw [List.length_map] at h1
  omega
theorem dual_pof {N : Nat} {zz : List (List Int)} (h : OkP (N : Int) zz) : PofIs (N : Int) (zz.map revP) (N : Int) (covL (esP (zz.map revP)) N) 0 := by
  have hl := dual_len h
  obtain ⟨M, e, h1, _, h2, h3, _⟩ := h
  obtain rfl : N = M := by omega
  exact .inr ⟨N, rfl, h1, pairs_rev h2, .inr (.inr ⟨fun hc => h3 (circ_rev.1 hc), hl, rfl, rfl, rfl⟩)⟩
theorem DuaIs.fit {n : Int} {zz : List (List Int)} {m : Int} {yy : List (List Int)} {k : Int} (h : DuaIs n zz m yy k) : FitR yy := by
  rcases h with ⟨_, _, rfl, _⟩ | ⟨N, rfl, ho, _, rfl, _⟩
  · exact ⟨Nat.zero_le _, Nat.zero_le _⟩
  · exact (dual_pof ho).fitR
/-- The sorted pairs. -/
theorem dual_sorted {N : Nat} {zz ys : List (List Int)} (h : OkP (N : Int) zz) (hp : ys.Perm (zz.map revP)) (hs : ∀ i j (hi : i < ys.length) (hj : j < ys.length), i < j → befB ys[j] ys[i] = false) : ys = covL (esP (zz.map revP)) N := by
  have hnd : ys.Nodup := by
    refine hp.symm.nodup ?_
    obtain ⟨M, e, _, _, hpi, _, hv⟩ := h
    have hz : zz.Nodup := by rw [← hv]; exact (covL_ord _ _).nodup
    refine List.pairwise_map.2 (List.Pairwise.imp_of_mem ?_ hz)
    intro a b ha hb hne e2
    obtain ⟨x, y, rfl, _⟩ := hpi a ha
    obtain ⟨x', y', rfl, _⟩ := hpi b hb
    simp only [revP, List.getD_cons_zero, List.getD_cons_succ, List.cons.injEq, and_true] at e2
    exact hne (by rw [e2.1, e2.2])
  refine Ord.ext ?_ (covL_ord _ _) fun x => (hp.mem_iff).trans (mem_dual h x).symm
  refine List.pairwise_iff_getElem.2 fun i j hi hj hij => ?_
  have h1 := hs i j hi hj hij
  cases h2 : befB ys[i] ys[j] with
  | true => rfl
  | false =>
    have h3 := befB_total h2 h1
    exact absurd h3 (List.pairwise_iff_getElem.1 hnd i j hi hj hij)
end Go.Proofs.YtochcpaahibijaaDoor
