/-
  Which rows extend a space: pivots of the columns, ranks of the rows. Plain mathematics.
-/
import Derived.Test.YtpimnngomodnhaaSpM
namespace Go.Proofs.Ytpimnngomodnhaa.Lin
set_option linter.unusedVariables false
set_option linter.unusedSectionVars false
variable {p : Nat} [NeZero p]

open Classical in
/-- A row more: the rank grows if its column is a pivot of the turned matrix. -/
theorem rank_next (hf : FldP p) (n j : Nat) (S : Mt p) : (red (j + 1) S n).piv.length = (red j S n).piv.length + (if Piv (turn S) n j then 1 else 0) := by
  rw [← rank_turn hf (j + 1) n S, ← rank_turn hf j n S, red_piv hf n (turn S) (j + 1), red_piv hf n (turn S) j, List.range_succ, List.filter_append, List.length_append]
  by_cases h : Piv (turn S) n j <;> simp [h]
theorem ker_congr {m n : Nat} {A B : Mt p} (h : ∀ i j, i < m → j < n → A i j = B i j) (v : Nat → Fin p) : Ker m n A v ↔ Ker m n B v := by
  constructor <;> intro hv i hi <;> have := hv i hi <;> rw [← this] <;> exact sm_congr fun j hj => by rw [h i j hi hj]
theorem ker_succ {m n : Nat} {A : Mt p} (v : Nat → Fin p) : Ker (m + 1) n A v ↔ Ker m n A v ∧ sm n (fun j => A m j * v j) = 0 := by
  constructor
  · intro h
    exact ⟨fun i hi => h i (by omega), h m (by omega)⟩
  · rintro ⟨h1, h2⟩ i hi
    by_cases e : i < m
    · exact h1 i e
    · rw [show i = m by omega]; exact h2
/-- Two matrices that lead the same vectors to 0 have the same rank. -/
theorem rank_same (hf : FldP p) {m m' n : Nat} {A B : Mt p} (h : ∀ v, Ker m' n B v ↔ Ker m n A v) : (red m A n).piv.length = (red m' B n).piv.length := by rw [(red_same hf h).1]
/-- Rows T that lead the same vectors to 0 as the first j rows of S: one row more. -/
theorem grow_row (hf : FldP p) {t n j : Nat} {T S : Mt p} (h : ∀ v, Ker t n T v ↔ Ker j n S v) :
    (∀ v, Ker (t + 1) n (adj t T (S j)) v ↔ Ker (j + 1) n S v) ∧ ((red (t + 1) (adj t T (S j)) n).piv.length = (red t T n).piv.length ↔ ¬ Piv (turn S) n j) ∧ (¬ Piv (turn S) n j → ∀ v, Ker t n T v ↔ Ker (j + 1) n S v) ∧ (Piv (turn S) n j → (red (t + 1) (adj t T (S j)) n).piv.length = (red t T n).piv.length + 1) := by
  classical
  have h1 : ∀ v, Ker (t + 1) n (adj t T (S j)) v ↔ Ker (j + 1) n S v := fun v => by
    rw [ker_adj, ker_succ, h v]
  have e1 := rank_same hf h1
  have e0 := rank_same hf h
  have e2 := rank_next hf n j S
  refine ⟨h1, ?_, fun hp => ?_, fun hp => ?_⟩
  · rw [← e1, ← e0, e2]
    by_cases hp : Piv (turn S) n j
    · simp [hp]
    · simp [hp]
  · have hl : (red (t + 1) (adj t T (S j)) n).piv.length = (red t T n).piv.length := by rw [← e1, ← e0, e2]; simp [hp]
    have hin := (has_iff hf).1 hl
    intro v
    rw [← h1 v, ker_adj]
    exact ⟨fun hv => ⟨hv, hin v hv⟩, fun hv => hv.1⟩
  · rw [← e1, ← e0, e2]; simp [hp]
/-- All rows of B lie in the space of A exactly if the rows of both have its reduced rows. -/
theorem sub_iff (hf : FldP p) {m k n : Nat} {A B : Mt p} :
    (∀ i, i < k → In m n A (B i)) ↔ ∀ v, Ker (m + k) n (stack m A B) v ↔ Ker m n A v := by
  have hs : ∀ v, Ker (m + k) n (stack m A B) v ↔ Ker m n A v ∧ Ker k n B v := fun v => by
    constructor
    · intro h
      refine ⟨fun i hi => ?_, fun i hi => ?_⟩
      · have := h i (by omega); unfold stack at this; simp only [if_pos hi] at this; exact this
      · have := h (m + i) (by omega); unfold stack at this; simp only [if_neg (show ¬ m + i < m by omega), Nat.add_sub_cancel_left] at this; exact this
    · rintro ⟨h1, h2⟩ i hi
      unfold stack
      by_cases e : i < m
      · simp only [if_pos e]; exact h1 i e
      · simp only [if_neg e]; exact h2 (i - m) (by omega)
  constructor
  · intro h v
    rw [hs]
    exact ⟨fun hv => hv.1, fun hv => ⟨hv, fun i hi => h i hi v hv⟩⟩
  · intro h i hi v hv
    exact ((hs v).1 ((h v).2 hv)).2 i hi
end Go.Proofs.Ytpimnngomodnhaa.Lin
