/-
  What QuotientOf answers. Plain facts.
-/
import Derived.Test.YtpimnngomodnhaaSqH
import Derived.Test.YtpimnngomodnhaaSpQ
import Derived.Test.YtpimnngomodnhaaSpX
namespace Go.Proofs.Ytpimnngomodnhaa
open Go.RowKit
open Lin
set_option linter.unusedVariables false
set_option linter.unusedSectionVars false

section
variable {q : Nat} [NeZero q]
open Classical in
/-- The columns of both bases with a pivot, up to the one numbered k. -/
noncomputable def quoP (N s r : Nat) (A B : Mt q) (k : Nat) : List Nat := (List.range k).filter (fun c => decide (Piv (turn (stack s B A)) N c))
/-- The rows of A that extend B, by some pivots. -/
def quoR (N s : Nat) (A : Mt q) (ps : List Nat) : List (List Int) := (ps.filter (fun c => decide (s ≤ c))).map (fun c => rowL N A (c - s))
noncomputable def quoL (N s r : Nat) (A B : Mt q) : List (List Int) := quoR N s A (quoP N s r A B (s + r))
theorem quo_piv (hf : FldP q) (N s r : Nat) (A B : Mt q) : (red N (turn (stack s B A)) (s + r)).piv = quoP N s r A B (s + r) := red_piv hf _ _ _
theorem quoR_app (N s : Nat) (A : Mt q) (a b : List Nat) : quoR N s A (a ++ b) = quoR N s A a ++ quoR N s A b := by simp [quoR]
theorem quoR_one (N s : Nat) (A : Mt q) {c : Nat} (h : s ≤ c) : quoR N s A [c] = [rowL N A (c - s)] := by simp [quoR, h]
theorem quoR_not (N s : Nat) (A : Mt q) {c : Nat} (h : c < s) : quoR N s A [c] = [] := by
  unfold quoR
  have : ¬ s ≤ c := by omega
  simp [this]
theorem quoR_len (N s : Nat) (A : Mt q) (ps : List Nat) : (quoR N s A ps).length ≤ ps.length := by
  unfold quoR; rw [List.length_map]; exact List.length_filter_le _ _
theorem quoP_len (N s r : Nat) (A B : Mt q) (k : Nat) : (quoP N s r A B k).length ≤ k := by
  unfold quoP
  have := List.length_filter_le (fun c => @decide (Piv (turn (stack s B A)) N c) (Classical.propDecidable _)) (List.range k)
  simpa using this
theorem quoP_yes {N s r : Nat} {A B : Mt q} {k : Nat} (h : Piv (turn (stack s B A)) N k) : quoP N s r A B (k + 1) = quoP N s r A B k ++ [k] := by
  unfold quoP; rw [List.range_succ, List.filter_append]; simp [h]
theorem quoP_no {N s r : Nat} {A B : Mt q} {k : Nat} (h : ¬ Piv (turn (stack s B A)) N k) : quoP N s r A B (k + 1) = quoP N s r A B k := by
  unfold quoP; rw [List.range_succ, List.filter_append]; simp [h]
theorem vecs_quoR (N s : Nat) (A : Mt q) (ps : List Nat) : Vecs q N (quoR N s A ps) := fun zs hz => by
  obtain ⟨k, -, rfl⟩ := List.mem_map.1 hz
  exact ⟨by rw [rowL_len], rowL_ok N _ _⟩
theorem tot_quoR (N s : Nat) (A : Mt q) (ps : List Nat) : tot (quoR N s A ps) = (quoR N s A ps).length * N := by
  unfold quoR
  induction ps.filter (fun c => decide (s ≤ c)) with
  | nil => simp [tot]
  | cons k fs ih =>
    simp only [List.map_cons, tot, rowL_len, ih, List.length_cons, Nat.succ_mul]
    omega
theorem fit_quoR {N s : Nat} (A : Mt q) {ps : List Nat} (hk : ps.length ≤ 1024) (hn : N ≤ 1024) : FitR (quoR N s A ps) := by
  have h := quoR_len N s A ps
  refine ⟨by omega, ?_⟩
  rw [tot_quoR]
  exact Nat.le_trans (Nat.mul_le_mul (Nat.le_trans h hk) hn) (by decide)
/-- The first rows of both bases have no pivot exactly where B's reduced rows ... : below s all columns are pivots. -/
theorem stack_top {s : Nat} {A B : Mt q} {i j : Nat} (h : i < s) : stack s B A i j = B i j := by unfold stack; rw [if_pos h]
theorem stack_low {s : Nat} {A B : Mt q} {i j : Nat} : stack s B A (s + i) j = A i j := by
  unfold stack; rw [if_neg (by omega), Nat.add_sub_cancel_left]
/-- The space of B's rows lies in that of A's exactly if the sum is A. -/
theorem sum_same {p n p' n' : Int} {xx yy : List (List Int)} {N r s : Nat} {A B : Mt q} (hA : VIs p n xx q N r A) (hB : VIs p' n' yy q N s B) :
    sumOf r s N A B = xx ↔ ∀ i, i < s → In r N A (B i) := by
  have hf := fd_of hA.pr
  rw [sub_iff hf]
  have e1 : xx = basOf r N A := by
    rw [hA.zz]; unfold basOf; rw [hA.piv]
    exact (rowsOf_congr hA.red).symm
  constructor
  · intro h v
    have h2 : basOf (r + s) N (stack r A B) = basOf r N A := by rw [← e1]; exact h
    unfold basOf at h2
    have hl : (red (r + s) (stack r A B) N).piv.length = (red r A N).piv.length := by
      have := congrArg List.length h2
      rwa [rowsOf_len, rowsOf_len] at this
    rw [← ker_top hf (r + s) N (stack r A B) v, ← ker_top hf r N A v, hl]
    have he : ∀ i j, i < (red r A N).piv.length → j < N → (red (r + s) (stack r A B) N).A i j = (red r A N).A i j := fun i j hi hj => by
      have h3 := rowsOf_get (red r A N).piv.length N (red (r + s) (stack r A B) N).A i hi
      rw [hl] at h2
      rw [h2, rowsOf_get _ _ _ _ hi] at h3
      exact rowL_inj (Option.some.inj h3).symm j hj
    constructor <;> intro hv i hi <;> have := hv i hi <;> rw [← this] <;> exact sm_congr fun j hj => by rw [he i j hi hj]
  · intro h
    rw [e1]
    obtain ⟨h1, h2⟩ := red_same hf (m := r) (m' := r + s) (A := A) (B := stack r A B) (n := N) h
    unfold sumOf basOf
    rw [← h1]
    exact rowsOf_congr fun i j hi hj => (h2 i j hi hj).symm
end
/-- What QuotientOf answers. -/
def QuoRes (p n : Int) (xx : List (List Int)) (q m : Int) (yy : List (List Int)) (Z : List (List Int)) (k : Int) : Prop :=
  (∃ c, TwoK p n xx q m yy c ∧ c ≠ 0 ∧ Z = [] ∧ k = c) ∨ (p = q ∧ n = m ∧ ∃ (u : Nat) (_ : NeZero u) (M r s : Nat) (A B : Mt u), VIs p n xx u M r A ∧ VIs p n yy u M s B ∧
    ((¬ (∀ i, i < s → In r M A (B i)) ∧ Z = [] ∧ k = 6) ∨ ((∀ i, i < s → In r M A (B i)) ∧ Z = quoL M s r A B ∧ k = 0)))
theorem quoRes_has (p n : Int) (xx : List (List Int)) (q m : Int) (yy : List (List Int)) : ∃ Z k, QuoRes p n xx q m yy Z k := by
  obtain ⟨c, hc⟩ := twoK_has p n xx q m yy
  by_cases h0 : c = 0
  · subst h0
    rcases hc with ⟨_, h⟩ | ⟨_, _, _, h⟩ | ⟨h1, h2, rfl, rfl, _⟩
    · exact absurd h (by decide)
    · exact absurd h (by decide)
    · obtain ⟨u, i, M, r, s, A, B, hA, hB⟩ := two_form h1 h2
      by_cases hs : ∀ i, i < s → In r M A (B i)
      · exact ⟨_, _, .inr ⟨rfl, rfl, u, i, M, r, s, A, B, hA, hB, .inr ⟨hs, rfl, rfl⟩⟩⟩
      · exact ⟨_, _, .inr ⟨rfl, rfl, u, i, M, r, s, A, B, hA, hB, .inl ⟨hs, rfl, rfl⟩⟩⟩
  · exact ⟨_, _, .inl ⟨c, hc, h0, rfl, rfl⟩⟩
theorem QuoRes.fit {p n q m k : Int} {xx yy Z : List (List Int)} (h : QuoRes p n xx q m yy Z k) : FitR Z := by
  rcases h with ⟨_, _, _, rfl, _⟩ | ⟨_, _, u, _, M, r, s, A, B, hA, hB, ⟨_, rfl, _⟩ | ⟨_, rfl, _⟩⟩
  · exact FitR.nil
  · exact FitR.nil
  · have h1 := hA.n32; have h2 := hA.r32; have h3 := hB.r32
    exact fit_quoR _ (by have := quoP_len M s r A B (s + r); omega) (by omega)
end Go.Proofs.Ytpimnngomodnhaa
