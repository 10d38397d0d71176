/-
  What a loop over the cells of a matrix has made of a product, cell by cell in any order.
-/
import Derived.Test.YtabanmaaagmeaaaMxB
import Derived.Test.YtabanmaaagmeaaaMxE
import Derived.Test.YtabanmaaagmeaaaMxM
namespace Go.Proofs.Ytabanmaaagmeaaa
open Go.RowKit
open Lin
set_option linter.unusedVariables false
set_option linter.unusedSectionVars false

/-- One multiple of a row added. -/
def muS {q : Nat} [NeZero q] (l : Nat) (A B : Mt q) (M : Mt q) (x : Nat) : Mt q := fun i j => if i = x / l then M i j + B (x % l) j * A (x / l) (x % l) else M i j
def muP {q : Nat} [NeZero q] {m l : Nat} (A B : Mt q) (pre : List (Fin (m * l))) : Mt q := (pre.map Fin.val).foldl (muS l A B) (fun _ _ => 0)
theorem muP_snoc {q : Nat} [NeZero q] {m l : Nat} (A B : Mt q) (pre : List (Fin (m * l))) (x : Fin (m * l)) : muP A B (pre ++ [x]) = muS l A B (muP A B pre) x.val := by
  simp [muP, List.map_append, List.foldl_append]
theorem muP_range {q : Nat} [NeZero q] {l : Nat} (A B : Mt q) (hl : 0 < l) (i j : Nat) : ∀ T, (List.range T).foldl (muS l A B) (fun _ _ => 0) i j = sm (min l (T - i * l)) (fun k => A i k * B k j)
  | 0 => by simp [sm]
  | T + 1 => by
    rw [List.range_succ, List.foldl_append]
    have ih := muP_range A B hl i j T
    simp only [List.foldl_cons, List.foldl_nil]
    show (if i = T / l then _ + B (T % l) j * A (T / l) (T % l) else _) = _
    rw [ih]
    have hd := Nat.div_add_mod T l
    have hm := Nat.mod_lt T hl
    have hc : l * (T / l) = T / l * l := Nat.mul_comm _ _
    by_cases e : i = T / l
    · subst e
      rw [if_pos rfl]
      have e1 : min l (T - T / l * l) = T % l := by omega
      have e2 : min l (T + 1 - T / l * l) = T % l + 1 := by omega
      rw [e1, e2]
      show _ = sm _ _ + _
      grind
    · rw [if_neg e]
      have e1 : min l (T + 1 - i * l) = min l (T - i * l) := by
        rcases Nat.lt_or_ge i (T / l) with h | h
        · have : (i + 1) * l ≤ T / l * l := Nat.mul_le_mul_right l h
          rw [Nat.succ_mul] at this; omega
        · have : (T / l + 1) * l ≤ i * l := Nat.mul_le_mul_right l (by omega)
          rw [Nat.succ_mul] at this; omega
      rw [e1]
theorem muP_done {q : Nat} [NeZero q] {m l : Nat} {A B : Mt q} {pre : List (Fin (m * l))} (h : pre.map Fin.val = List.range (m * l)) {i : Nat} (j : Nat) (hi : i < m) : muP A B pre i j = muC l A B i j := by
  unfold muP muC
  rw [h]
  by_cases hl : l = 0
  · subst hl; simp [sm]
  · rw [muP_range A B (by omega)]
    have : (i + 1) * l ≤ m * l := Nat.mul_le_mul_right l hi
    rw [Nat.succ_mul] at this
    rw [show min l (m * l - i * l) = l by omega]
/-- The product so far. -/
def MuF {q : Nat} [NeZero q] {m l : Nat} (n : Nat) (A B : Mt q) (pre : List (Fin (m * l))) (t : Nat) : Value := .int .i64 (fv (muP A B pre (t / n) (t % n)))
theorem muF_nil {q : Nat} [NeZero q] (m l n : Nat) (A B : Mt q) (t : Nat) : MuF (m := m) (l := l) n A B [] t = .int .i64 0 := by
  show Value.int .i64 (fv (0 : Fin q)) = _
  rw [fv_zero]
theorem muF_snoc {q : Nat} [NeZero q] {m l n : Nat} {A B : Mt q} {pre : List (Fin (m * l))} (x : Fin (m * l)) (t : Nat) (ht : t < m * n) :
    AddF (MuF n A B pre) (x.val / l * n) n (fun j => muP A B pre (x.val / l) j) (fun j => B (x.val % l) j) (A (x.val / l) (x.val % l)) t = MuF n A B (pre ++ [x]) t := by
  have hn : 0 < n := Nat.pos_of_ne_zero fun e => by subst e; simp at ht
  have hd := Nat.div_add_mod t n
  have hm := Nat.mod_lt t hn
  have hc : n * (t / n) = t / n * n := Nat.mul_comm _ _
  unfold AddF MuF
  rw [muP_snoc]
  unfold muS
  by_cases e : t / n = x.val / l
  · rw [← e, if_pos (by omega), if_pos rfl, show t - t / n * n = t % n by omega]
  · rw [if_neg e, if_neg]
    intro h
    apply e
    obtain ⟨j, hj⟩ : ∃ j, t = x.val / l * n + j := ⟨t - x.val / l * n, by omega⟩
    rw [hj, idxDiv (by omega)]
theorem muF_at {q : Nat} [NeZero q] {m l n : Nat} {A B : Mt q} {pre : List (Fin (m * l))} {i j : Nat} (hj : j < n) : MuF n A B pre (i * n + j) = .int .i64 (fv (muP A B pre i j)) := by
  unfold MuF; rw [idxDiv hj, idxMod hj]
theorem muF_done {q : Nat} [NeZero q] {m l n : Nat} {A B : Mt q} {pre : List (Fin (m * l))} (h : pre.map Fin.val = List.range (m * l)) {i j : Nat} (hi : i < m) (hj : j < n) : MuF n A B pre (i * n + j) = .int .i64 (fv (muC l A B i j)) := by
  rw [muF_at hj, muP_done h j hi]
/-- addMultiple at a row that is read from rows. -/
theorem addMul_at {q : Nat} [NeZero q] {gs os ms cs cb n N : Nat} {F : Nat → Value} {X Y : Nat → Fin q} {c : Fin q} {f : Int} {ar : Option Addr} {w : World} (hf : fv c = f) (hq2 : 2 ≤ q) (hq : q ≤ 251) (hn : n ≤ 1048576) (hrow : w.rowIs gs 2 N F) (hfit : os + n ≤ N) (hms : n ≤ ms) (hm2 : ms ≤ maxLen)
    (hX : ∀ j, j < n → F (os + j) = .int .i64 (fv (X j))) (hY : ∀ j, j < n → ∃ b o, ar = some ⟨b, o, none⟩ ∧ b ≠ gs ∧ b < w.heap.size ∧ w.cell? ⟨b, o + j, none⟩ = some (.int .i64 (fv (Y j)))) :
    Calls Try.prog 79 #[.slice (some ⟨gs, os, none⟩) ms cs, .slice ar n cb, .int .i64 f, .int .i64 (q : Int)] w fun e w' => RetAdd gs N (AddF F os n X Y c) w e w' := by
  by_cases h0 : n = 0
  · subst h0
    refine (addMul_nil f q w hrow).mono ?_
    rintro e w' ⟨h1, h2, h3⟩
    exact ⟨h1, h2.congr fun t _ => (addF_zero F os X Y c t).symm, h3⟩
  · obtain ⟨b, o, e, hb, hb2, _⟩ := hY 0 (by omega)
    subst e
    refine addMul_k hf hq2 hq hn hrow hfit hms hm2 hb hb2 hX fun j hj => ?_
    obtain ⟨b', o', e, _, _, h⟩ := hY j hj
    simp only [Option.some.injEq, Addr.mk.injEq, and_true] at e
    obtain ⟨rfl, rfl⟩ := e
    exact h
theorem keepC_gb {n₀ G : Nat} {W W' : World} (h : W.grownBy W' (some G)) (hn : n₀ ≤ W.heap.size) : KeepC n₀ G W W' := fun p hp hg => World.cell?_of_block (w := W) (h.block p.block (by omega) (fun e => hg (by injection e)))
theorem gb_trans {a b c : World} {g : Nat} (h : a.grownBy b (some g)) (k : b.grownBy c (some g)) : a.grownBy c (some g) :=
  ⟨k.os.trans h.os, k.tape.trans h.tape, k.output.trans h.output, Nat.le_trans h.size k.size, fun i hi hne => (k.block i (Nat.lt_of_lt_of_le hi h.size) hne).trans (h.block i hi hne)⟩
theorem gb_undrew {a b : World} {g : Nat} (h : a.drew.grownBy b (some g)) : a.grownBy b (some g) := ⟨h.os, h.tape, h.output, h.size, h.block⟩
end Go.Proofs.Ytabanmaaagmeaaa
