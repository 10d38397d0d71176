/-
  Spaces over the numbers modulo a prime: reduced rows are determined by what they lead to 0; membership by ranks; systems of equations. Plain mathematics.
-/
import Derived.Test.YtpimnngomodnhaaPA
namespace Go.Proofs.Ytpimnngomodnhaa.Lin
set_option linter.unusedVariables false
set_option linter.unusedSectionVars false
variable {p : Nat} [NeZero p]

theorem ker_le {m k n : Nat} {A : Mt p} {v : Nat → Fin p} (hk : k ≤ n) : Ker m n A (fun j => if j < k then v j else 0) ↔ Ker m k A v := by
  have e : ∀ i, sm n (fun j => A i j * (if j < k then v j else 0)) = sm k (fun j => A i j * v j) := fun i => by
    obtain ⟨d, rfl⟩ : ∃ d, n = k + d := ⟨n - k, by omega⟩
    rw [sm_split, sm_congr (g := fun j => A i j * v j) (fun j hj => by rw [if_pos hj]), sm_zero d _ (fun j hj => by rw [if_neg (by omega)]; grind)]
    grind
  constructor
  · intro h i hi
    have := h i hi
    rwa [e] at this
  · intro h i hi
    rw [e]; exact h i hi
theorem filter_same {α : Type} {l : List α} {P Q : α → Bool} (h : ∀ x, P x = true → Q x = true) (hl : (l.filter P).length = (l.filter Q).length) : l.filter P = l.filter Q := by
  have e : (l.filter Q).filter P = l.filter P := by
    rw [List.filter_filter]
    refine List.filter_congr fun x _ => ?_
    cases hp : P x with
    | true => rw [h x hp]; rfl
    | false => rfl
  rw [← e] at hl ⊢
  exact List.filter_eq_self.2 (List.length_filter_eq_length_iff.1 hl)
/-- If one kernel lies in the other and the ranks are the same, so are the reduced rows. -/
theorem red_sub (hf : FldP p) {m m' n : Nat} {A B : Mt p} (h : ∀ v, Ker m' n B v → Ker m n A v) (hl : (red m A n).piv.length = (red m' B n).piv.length) :
    (red m A n).piv = (red m' B n).piv ∧ ∀ i j, i < (red m A n).piv.length → j < n → (red m A n).A i j = (red m' B n).A i j := by
  classical
  have hk : ∀ k, k ≤ n → ∀ v, Ker m' k B v → Ker m k A v := fun k hk v hv => (ker_le hk).1 (h _ ((ker_le hk).2 hv))
  have hp : (red m A n).piv = (red m' B n).piv := by
    have h1 := red_piv hf m A n
    have h2 := red_piv hf m' B n
    rw [h1, h2] at hl ⊢
    have e : ∀ (M : Mt p) (r : Nat), (List.range n).filter (fun k => decide (Piv M r k)) = (List.range n).filter (fun k => decide (k < n ∧ Piv M r k)) := fun M r => List.filter_congr fun k hk => by
      have hk := List.mem_range.1 hk
      simp [hk]
    rw [e A m, e B m'] at hl ⊢
    refine filter_same (fun k hk' => ?_) hl
    simp only [decide_eq_true_eq] at hk' ⊢
    exact ⟨hk'.1, fun v hv => hk'.2 v (hk (k + 1) (by omega) v hv)⟩
  refine ⟨hp, fun i j hi hj => ?_⟩
  have hI := red_inv hf m A n
  have hJ := red_inv hf m' B n
  have hle := hI.le
  have hlen := hI.len
  have h1 := hJ.col_ker (n := n) hj (Nat.le_refl _) (fun i a b => red_zero hf B i j a b hj)
  have h2 := (hI.ker n _).2 (h _ h1) i (by omega)
  rw [sm_col _ _ _ n i j hj (fun t ht => hJ.small t ht), ← hp,
    sm_one _ i _ hi (fun t ht hne => by rw [getD_at _ _ ht, hI.unit t ht i (by omega), if_neg (Ne.symm hne)]; grind), getD_at _ _ hi, hI.unit i hi i (by omega), if_pos rfl] at h2
  grind
theorem red_same (hf : FldP p) {m m' n : Nat} {A B : Mt p} (h : ∀ v, Ker m' n B v ↔ Ker m n A v) :
    (red m A n).piv = (red m' B n).piv ∧ ∀ i j, i < (red m A n).piv.length → j < n → (red m A n).A i j = (red m' B n).A i j := by
  have hp : (red m A n).piv = (red m' B n).piv := piv_congr hf fun k hk => piv_of_ker fun v => by
    rw [← ker_le (n := n) (by omega), ← ker_le (n := n) (A := B) (by omega)]
    exact (h _).symm
  exact red_sub hf (fun v => (h v).1) (by rw [hp])
/-- The rows that are not 0 lead the same vectors to 0. -/
theorem ker_top (hf : FldP p) (m n : Nat) (A : Mt p) (v : Nat → Fin p) : Ker (red m A n).piv.length n (red m A n).A v ↔ Ker m n A v := by
  have hI := red_inv hf m A n
  have hle := hI.le
  have hlen := hI.len
  rw [← hI.ker]
  constructor
  · intro h i hi
    by_cases e : i < (red m A n).piv.length
    · exact h i e
    · exact sm_zero _ _ fun j hj => by rw [red_zero hf A i j (by omega) hi hj]; grind
  · intro h i hi
    exact h i (by omega)
/-- Reduced rows are their own reduced form. -/
theorem red_idem (hf : FldP p) (m n : Nat) (A : Mt p) :
    (red (red m A n).piv.length (red m A n).A n).piv = (red m A n).piv ∧ ∀ i j, i < (red m A n).piv.length → j < n → (red (red m A n).piv.length (red m A n).A n).A i j = (red m A n).A i j := by
  obtain ⟨h1, h2⟩ := red_same hf (m := m) (m' := (red m A n).piv.length) (A := A) (B := (red m A n).A) (n := n) (fun v => ker_top hf m n A v)
  exact ⟨h1.symm, fun i j hi hj => (h2 i j hi hj).symm⟩
/-- The first number of a reduced row that is not 0 stands in its pivot's column. -/
theorem red_first (hf : FldP p) {m n : Nat} {A : Mt p} {i : Nat} (hi : i < (red m A n).piv.length) :
    (∀ j, j < (red m A n).piv[i] → (red m A n).A i j = 0) ∧ (red m A n).A i (red m A n).piv[i] = 1 ∧ (red m A n).piv[i] < n := by
  have hI := red_inv hf m A n
  have hle := hI.le
  have hlen := hI.len
  exact ⟨hI.ech i hi, by rw [hI.unit i hi i (by omega), if_pos rfl], hI.small i hi⟩

/-! ### Membership -/
/-- x is a sum of multiples of the rows, told by kernels. -/
def In (m n : Nat) (A : Mt p) (x : Nat → Fin p) : Prop := ∀ v, Ker m n A v → sm n (fun j => x j * v j) = 0
/-- The rows, and x behind them. -/
def adj (m : Nat) (A : Mt p) (x : Nat → Fin p) : Mt p := fun i j => if i < m then A i j else x j
theorem ker_adj {m n : Nat} {A : Mt p} {x v : Nat → Fin p} : Ker (m + 1) n (adj m A x) v ↔ Ker m n A v ∧ sm n (fun j => x j * v j) = 0 := by
  constructor
  · intro h
    refine ⟨fun i hi => ?_, ?_⟩
    · have := h i (by omega)
      unfold adj at this
      simp only [if_pos hi] at this
      exact this
    · have := h m (by omega)
      unfold adj at this
      simp only [Nat.lt_irrefl, if_false] at this
      exact this
  · rintro ⟨h1, h2⟩ i hi
    unfold adj
    by_cases e : i < m
    · simp only [if_pos e]; exact h1 i e
    · simp only [if_neg e]; exact h2
theorem has_iff (hf : FldP p) {m n : Nat} {A : Mt p} {x : Nat → Fin p} : (red (m + 1) (adj m A x) n).piv.length = (red m A n).piv.length ↔ In m n A x := by
  constructor
  · intro hl v hv
    obtain ⟨hp, hr⟩ := red_sub hf (m := m) (m' := m + 1) (A := A) (B := adj m A x) (n := n) (fun v hv => (ker_adj.1 hv).1) hl.symm
    refine (ker_adj (m := m) (A := A)).1 ?_ |>.2
    rw [← ker_top hf (m + 1) n (adj m A x), ← hp]
    intro i hi
    have h2 := (ker_top hf m n A v).2 hv i hi
    rw [← h2]
    exact sm_congr fun j hj => by rw [hr i j hi hj]
  · intro h
    have := (red_same hf (m := m) (m' := m + 1) (A := A) (B := adj m A x) (n := n) (fun v => ⟨fun hv => (ker_adj.1 hv).1, fun hv => ker_adj.2 ⟨hv, h v hv⟩⟩)).1
    rw [this]
/-- The numbers of a vector of the space at the pivots build it. -/
theorem In.build (hf : FldP p) {m n : Nat} {A : Mt p} {x : Nat → Fin p} (h : In m n A x) (j : Nat) (hj : j < n) :
    x j = sm (red m A n).piv.length (fun t => x ((red m A n).piv.getD t 0) * (red m A n).A t j) := by
  have hI := red_inv hf m A n
  have h1 := h _ (hI.col_ker (n := n) hj (Nat.le_refl _) (fun i a b => red_zero hf A i j a b hj))
  have h2 := sm_col (red m A n).A (fun _ => x) (red m A n).piv n 0 j hj (fun t ht => hI.small t ht)
  rw [h1] at h2
  grind
theorem In.of_sum (hf : FldP p) {m n : Nat} {A : Mt p} {x c : Nat → Fin p} (h : ∀ j, j < n → x j = sm (red m A n).piv.length (fun t => c t * (red m A n).A t j)) : In m n A x := by
  intro v hv
  have hk := (ker_top hf m n A v).2 hv
  rw [sm_congr (g := fun j => sm (red m A n).piv.length (fun t => c t * ((red m A n).A t j * v j))) (fun j hj => by
    rw [h j hj]
    have : ∀ k, sm k (fun t => c t * (red m A n).A t j) * v j = sm k (fun t => c t * ((red m A n).A t j * v j)) := fun k => by
      induction k with
      | zero => simp only [sm]; grind
      | succ k ih => simp only [sm]; rw [← ih]; grind
    exact this _), sm_comm]
  refine sm_zero _ _ fun t ht => ?_
  rw [sm_mul, hk t ht]; grind
/-- The coordinates are the numbers at the pivots. -/
theorem coord_at (hf : FldP p) {m n : Nat} {A : Mt p} {x c : Nat → Fin p} (h : ∀ j, j < n → x j = sm (red m A n).piv.length (fun t => c t * (red m A n).A t j)) (t : Nat) (ht : t < (red m A n).piv.length) : x (red m A n).piv[t] = c t := by
  have hI := red_inv hf m A n
  have hle := hI.le
  have hlen := hI.len
  rw [h _ (hI.small t ht), sm_one _ t _ ht (fun i hi hne => by rw [hI.unit t ht i (by omega), if_neg hne]; grind), hI.unit t ht t (by omega), if_pos rfl]
  grind

/-! ### Systems -/
/-- A matrix with a column behind it. -/
def sys (n : Nat) (A : Mt p) (b : Nat → Fin p) : Mt p := fun i j => if j < n then A i j else b i
/-- All rows without a pivot have 0 behind them. -/
def Solv (m n : Nat) (s : St p) : Prop := ∀ i, s.top ≤ i → i < m → s.A i n = 0
/-- The solution: what stands behind the pivot's row, at the pivot's column. -/
def solV (n : Nat) (s : St p) (l : Nat) : Fin p := sm s.piv.length (fun t => if s.piv.getD t 0 = l then s.A t n else 0)
theorem sys_sum {m n : Nat} {A : Mt p} {b y : Nat → Fin p} (i : Nat) : sm (n + 1) (fun j => sys n A b i j * y j) = sm n (fun j => A i j * y j) + b i * y n := by
  simp only [sm]
  rw [sm_congr (g := fun j => A i j * y j) (fun j hj => by unfold sys; rw [if_pos hj])]
  unfold sys
  rw [if_neg (Nat.lt_irrefl _)]
theorem solv_yes (hf : FldP p) {m n : Nat} {A : Mt p} {b : Nat → Fin p} (h : Solv m n (red m (sys n A b) n)) (i : Nat) (hi : i < m) : sm n (fun j => A i j * solV n (red m (sys n A b) n) j) = b i := by
  have hI := red_inv hf m (sys n A b) n
  have h1 := hI.col_ker (n := n + 1) (j := n) (by omega) (by omega) h i hi
  rw [sys_sum (m := m)] at h1
  have e0 : ∀ l, colV (red m (sys n A b) n).A (red m (sys n A b) n).piv n l = (if l = n then 1 else 0) - solV n (red m (sys n A b) n) l := fun l => rfl
  rw [e0, if_pos rfl, sm_congr (g := fun j => - (A i j * solV n (red m (sys n A b) n) j)) (fun j hj => by rw [e0, if_neg (by omega)]; grind), sm_neg] at h1
  have e1 : solV n (red m (sys n A b) n) n = 0 := by
    unfold solV
    refine sm_zero _ _ fun t ht => ?_
    rw [getD_at _ _ ht, if_neg (by have := hI.small t ht; omega)]
  rw [e1] at h1
  grind
theorem solv_of (hf : FldP p) {m n : Nat} {A : Mt p} {b x : Nat → Fin p} (h : ∀ i, i < m → sm n (fun j => A i j * x j) = b i) : Solv m n (red m (sys n A b) n) := by
  have hI := red_inv hf m (sys n A b) n
  intro i hi him
  have h1 : Ker m (n + 1) (sys n A b) (fun j => if j < n then x j else -1) := fun a ha => by
    rw [sys_sum (m := m), if_neg (Nat.lt_irrefl _), sm_congr (g := fun j => A a j * x j) (fun j hj => by rw [if_pos hj]), h a ha]; grind
  have h2 := (hI.ker (n + 1) _).2 h1 i him
  simp only [sm, Nat.lt_irrefl, if_false] at h2
  rw [sm_zero n _ (fun j hj => by rw [hI.zero i hi him j hj]; grind)] at h2
  grind
theorem step_solv (hf : FldP p) {m n : Nat} {A : Mt p} (h : Solv m n (red m A n)) : red m A (n + 1) = red m A n := by
  have hI := red_inv hf m A n
  obtain ⟨h1, h2, h3, h4⟩ := seek_is (red m A n).A n m (m - (red m A n).top) (red m A n).top (by have := hI.le; omega)
  show stepK m n (red m A n) = _
  unfold stepK
  rw [if_neg]
  intro hlt
  exact h4 hlt (h _ h1 hlt)
theorem step_not (hf : FldP p) {m n : Nat} {A : Mt p} (h : ¬ Solv m n (red m A n)) : (red m A (n + 1)).piv = (red m A n).piv ++ [n] := by
  have hI := red_inv hf m A n
  obtain ⟨h1, h2, h3, h4⟩ := seek_is (red m A n).A n m (m - (red m A n).top) (red m A n).top (by have := hI.le; omega)
  show (stepK m n (red m A n)).piv = _
  unfold stepK
  rw [if_pos]
  · rfl
  · refine Nat.lt_of_not_le fun hge => h fun i hi him => ?_
    exact h3 i hi (by omega)
theorem piv_full (hf : FldP p) {m k : Nat} {A : Mt p} (h : (red m A k).piv.length = k) : (red m A k).piv = List.range k := by
  classical
  rw [red_piv hf] at h ⊢
  exact List.filter_eq_self.2 (List.length_filter_eq_length_iff.1 (by rw [h, List.length_range]))
theorem sys_piv (hf : FldP p) (m n : Nat) (A : Mt p) (b : Nat → Fin p) : (red m (sys n A b) n).piv = (red m A n).piv := by
  refine piv_congr hf fun k hk => piv_of_ker fun v => ?_
  constructor <;> intro h i hi <;> have := h i hi <;> rw [← this] <;> exact sm_congr fun j hj => by unfold sys; rw [if_pos (by omega)]
/-- Coordinates by a system: the columns are reduced rows. -/
theorem coord_sys (hf : FldP p) {m n : Nat} {A : Mt p} (x : Nat → Fin p) (R : Mt p) (r : Nat) (hR : ∀ i j, i < r → j < n → R i j = (red m A n).A i j) (hr : r = (red m A n).piv.length) :
    (red n (sys r (turn R) x) r).piv = List.range r ∧ (Solv n r (red n (sys r (turn R) x) r) ↔ In m n A x) ∧ (In m n A x → ∀ t, t < r → solV r (red n (sys r (turn R) x) r) t = x ((red m A n).piv.getD t 0)) := by
  have hk : ∀ v, Ker r n R v ↔ Ker m n A v := fun v => by
    rw [← ker_top hf m n A v, ← hr]
    constructor <;> intro h i hi <;> have := h i hi <;> rw [← this] <;> exact sm_congr fun j hj => by rw [hR i j hi hj]
  have hrank : (red n (turn R) r).piv.length = r := by
    rw [rank_turn hf r n R, ← (red_same hf (m := m) (m' := r) (A := A) (B := R) hk).1, hr]
  have e1 : ∀ (c : Nat → Fin p) (i : Nat), sm r (fun j => turn R i j * c j) = sm r (fun j => c j * R j i) := fun c i => sm_congr fun j hj => by unfold turn; grind
  have back : ∀ c : Nat → Fin p, (∀ i, i < n → sm r (fun j => turn R i j * c j) = x i) → ∀ j, j < n → x j = sm (red m A n).piv.length (fun t => c t * (red m A n).A t j) := fun c h j hj => by
    rw [← h j hj, e1, ← hr]
    exact sm_congr fun t ht => by rw [hR t j ht hj]
  refine ⟨?_, ⟨fun h => ?_, fun h => ?_⟩, fun h t ht => ?_⟩
  · rw [sys_piv hf, piv_full hf hrank]
  · exact In.of_sum hf (back _ (fun i hi => solv_yes hf h i hi))
  · refine solv_of hf (x := fun t => x ((red m A n).piv.getD t 0)) fun i hi => ?_
    rw [e1, h.build hf i hi, ← hr]
    exact sm_congr fun t ht => by rw [hR t i ht hi]
  · have hs : Solv n r (red n (sys r (turn R) x) r) := by
      refine solv_of hf (x := fun t => x ((red m A n).piv.getD t 0)) fun i hi => ?_
      rw [e1, h.build hf i hi, ← hr]
      exact sm_congr fun t ht => by rw [hR t i ht hi]
    have := coord_at hf (back _ (fun i hi => solv_yes hf hs i hi)) t (by omega)
    rw [getD_at _ _ (by omega : t < (red m A n).piv.length)]
    exact this.symm
end Go.Proofs.Ytpimnngomodnhaa.Lin
