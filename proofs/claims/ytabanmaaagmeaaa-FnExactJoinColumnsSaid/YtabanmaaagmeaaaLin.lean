/-
  Linear algebra over the numbers modulo a prime (Fin p, where each number but 0 has an inverse): determinants, kernels, the reduction by rows, ranks, inverses. Plain mathematics.
-/
namespace Go.Proofs.Ytabanmaaagmeaaa.Lin
set_option linter.unusedVariables false
set_option linter.unusedSectionVars false
variable {p : Nat} [NeZero p]

/-- The sum of the first n numbers. -/
def sm : Nat → (Nat → Fin p) → Fin p
  | 0, _ => 0
  | n + 1, f => sm n f + f n
theorem sm_congr {n : Nat} {f g : Nat → Fin p} (h : ∀ i, i < n → f i = g i) : sm n f = sm n g := by
  induction n with
  | zero => rfl
  | succ n ih => simp only [sm]; rw [ih fun i hi => h i (by omega), h n (by omega)]
theorem sm_add (n : Nat) (f g : Nat → Fin p) : sm n (fun i => f i + g i) = sm n f + sm n g := by
  induction n with
  | zero => simp [sm]
  | succ n ih => simp only [sm]; rw [ih]; grind
theorem sm_mul (n : Nat) (c : Fin p) (f : Nat → Fin p) : sm n (fun i => c * f i) = c * sm n f := by
  induction n with
  | zero => simp only [sm]; grind
  | succ n ih => simp only [sm]; rw [ih]; grind
theorem sm_neg (n : Nat) (f : Nat → Fin p) : sm n (fun i => - f i) = - sm n f := by
  induction n with
  | zero => simp only [sm]; grind
  | succ n ih => simp only [sm]; rw [ih]; grind
theorem sm_zero (n : Nat) (f : Nat → Fin p) (h : ∀ i, i < n → f i = 0) : sm n f = 0 := by
  induction n with
  | zero => rfl
  | succ n ih => simp only [sm]; rw [ih fun i hi => h i (by omega), h n (by omega)]; grind
theorem sm_one (n k : Nat) (f : Nat → Fin p) (hk : k < n) (h : ∀ i, i < n → i ≠ k → f i = 0) : sm n f = f k := by
  induction n with
  | zero => omega
  | succ n ih =>
    simp only [sm]
    by_cases e : k = n
    · subst e; rw [sm_zero k f fun i hi => h i (by omega) (by omega)]; grind
    · rw [ih (by omega) fun i hi hne => h i (by omega) hne, h n (by omega) (by omega)]; grind
theorem sm_two (n a b : Nat) (f : Nat → Fin p) (ha : a < b) (hb : b < n) (h : ∀ i, i < n → i ≠ a → i ≠ b → f i = 0) : sm n f = f a + f b := by
  induction n with
  | zero => omega
  | succ n ih =>
    simp only [sm]
    by_cases e : b = n
    · subst e; rw [sm_one b a f ha fun i hi hne => h i (by omega) hne (by omega)]
    · rw [ih (by omega) fun i hi h1 h2 => h i (by omega) h1 h2, h n (by omega) (by omega) (by omega)]; grind
theorem sm_comm (m n : Nat) (f : Nat → Nat → Fin p) : sm m (fun i => sm n (fun j => f i j)) = sm n (fun j => sm m (fun i => f i j)) := by
  induction m with
  | zero => simp only [sm]; rw [sm_zero]; intros; rfl
  | succ m ih => simp only [sm]; rw [ih, sm_add]
theorem sm_split (m n : Nat) (f : Nat → Fin p) : sm (m + n) f = sm m f + sm n (fun i => f (m + i)) := by
  induction n with
  | zero => simp only [sm, Nat.add_zero]; grind
  | succ n ih => rw [← Nat.add_assoc]; simp only [sm]; rw [ih]; grind

/-! ### The determinant, along the first column -/
abbrev Mt (p : Nat) := Nat → Nat → Fin p
def skip (i r : Nat) : Nat := if r < i then r else r + 1
theorem skip_ne (i r : Nat) : skip i r ≠ i := by unfold skip; split <;> omega
def sgn (i : Nat) : Fin p := if i % 2 = 0 then 1 else -1
theorem sgn_succ (i : Nat) : (sgn (i + 1) : Fin p) = - sgn i := by
  unfold sgn
  by_cases h : i % 2 = 0
  · rw [if_pos h, if_neg (by omega)]
  · rw [if_neg h, if_pos (by omega)]; grind
def det : Nat → Mt p → Fin p
  | 0, _ => 1
  | n + 1, A => sm (n + 1) (fun i => sgn i * A i 0 * det n (fun r c => A (skip i r) (c + 1)))
theorem skip_lt {n i r : Nat} (hr : r < n) : skip i r < n + 1 := by unfold skip; split <;> omega
theorem det_congr : ∀ (n : Nat) (A B : Mt p), (∀ i j, i < n → j < n → A i j = B i j) → det n A = det n B
  | 0, _, _, _ => rfl
  | n + 1, A, B, h => by
    simp only [det]
    refine sm_congr fun i hi => ?_
    rw [h i 0 hi (by omega), det_congr n (fun r c => A (skip i r) (c + 1)) (fun r c => B (skip i r) (c + 1)) fun r c hr hc => h _ _ (skip_lt hr) (by omega)]
/-- The row among those that are left. -/
def back (i t : Nat) : Nat := if t < i then t else t - 1
theorem skip_back {i t : Nat} (h : t ≠ i) : skip i (back i t) = t := by
  unfold skip back
  by_cases h1 : t < i
  · rw [if_pos h1, if_pos h1]
  · rw [if_neg h1, if_neg (by omega)]; omega
theorem back_skip {i r t : Nat} (h : skip i r = t) : r = back i t := by unfold skip back at *; split at h <;> split <;> omega
theorem back_lt {n i t : Nat} (hi : i < n + 1) (ht : t < n + 1) (h : t ≠ i) : back i t < n := by unfold back; split <;> omega
theorem det_lin : ∀ (n t : Nat) (x : Fin p) (A B C : Mt p), t < n → (∀ i j, i ≠ t → A i j = C i j) → (∀ i j, i ≠ t → B i j = C i j) → (∀ j, C t j = A t j + x * B t j) → det n C = det n A + x * det n B
  | 0, t, _, _, _, _, h, _, _, _ => absurd h (Nat.not_lt_zero t)
  | n + 1, t, x, A, B, C, ht, hA, hB, hC => by
    simp only [det]
    rw [← sm_mul, ← sm_add]
    refine sm_congr fun i hi => ?_
    by_cases e : i = t
    · subst e
      have e1 : (fun r c => C (skip i r) (c + 1)) = (fun r c => A (skip i r) (c + 1)) := by funext r c; exact (hA _ _ (skip_ne i r)).symm
      have e2 : (fun r c => B (skip i r) (c + 1)) = (fun r c => A (skip i r) (c + 1)) := by funext r c; rw [hB _ _ (skip_ne i r), hA _ _ (skip_ne i r)]
      rw [e1, e2, hC]
      grind
    · have ih := det_lin n (back i t) x (fun r c => A (skip i r) (c + 1)) (fun r c => B (skip i r) (c + 1)) (fun r c => C (skip i r) (c + 1)) (back_lt hi ht (Ne.symm e))
        (fun r c hr => hA _ _ fun h => hr (back_skip h)) (fun r c hr => hB _ _ fun h => hr (back_skip h)) (fun c => by
          simp only [skip_back (Ne.symm e)]; exact hC _)
      rw [ih, hA i 0 e, hB i 0 e]
      grind
theorem det_adj : ∀ (n t : Nat) (A : Mt p), t + 1 < n → (∀ j, A t j = A (t + 1) j) → det n A = 0
  | 0, t, _, h, _ => absurd h (Nat.not_lt_zero _)
  | n + 1, t, A, ht, h => by
    simp only [det]
    rw [sm_two (n + 1) t (t + 1) _ (by omega) ht]
    · have e : (fun r c => A (skip t r) (c + 1)) = (fun r c => A (skip (t + 1) r) (c + 1)) := by
        funext r c
        unfold skip
        by_cases h1 : r < t
        · rw [if_pos h1, if_pos (by omega)]
        · by_cases h2 : r = t
          · subst h2; rw [if_neg (by omega), if_pos (by omega)]; exact (h _).symm
          · rw [if_neg (by omega), if_neg (by omega)]
      rw [e, sgn_succ, h 0]
      grind
    · intro i hi h1 h2
      have : det n (fun r c => A (skip i r) (c + 1)) = 0 := by
        by_cases hlt : i < t
        · refine det_adj n (t - 1) _ (by omega) fun j => ?_
          have e1 : skip i (t - 1) = t := by unfold skip; rw [if_neg (by omega)]; omega
          have e2 : skip i (t - 1 + 1) = t + 1 := by unfold skip; rw [if_neg (by omega)]; omega
          rw [e1, e2]; exact h _
        · refine det_adj n t _ (by omega) fun j => ?_
          have e1 : skip i t = t := by unfold skip; rw [if_pos (by omega)]
          have e2 : skip i (t + 1) = t + 1 := by unfold skip; rw [if_pos (by omega)]
          rw [e1, e2]; exact h _
      rw [this]; grind
/-- A with one row laid anew. -/
def row (A : Mt p) (t : Nat) (x : Nat → Fin p) : Mt p := fun i j => if i = t then x j else A i j
theorem row_at (A : Mt p) (t j : Nat) (x : Nat → Fin p) : row A t x t j = x j := by simp [row]
theorem row_ne (A : Mt p) {t i : Nat} (j : Nat) (x : Nat → Fin p) (h : i ≠ t) : row A t x i j = A i j := by simp [row, h]
theorem det_row (n t : Nat) (A : Mt p) (x y : Nat → Fin p) (c : Fin p) (ht : t < n) : det n (row A t fun j => x j + c * y j) = det n (row A t x) + c * det n (row A t y) :=
  det_lin n t c _ _ _ ht (fun i j h => by rw [row_ne _ _ _ h, row_ne _ _ _ h]) (fun i j h => by rw [row_ne _ _ _ h, row_ne _ _ _ h]) (fun j => by rw [row_at, row_at, row_at])
theorem row_row (A : Mt p) (t : Nat) (x y : Nat → Fin p) : row (row A t x) t y = row A t y := by funext i j; unfold row; split <;> rfl
theorem row_self (A : Mt p) (t : Nat) : row A t (A t) = A := by funext i j; unfold row; split <;> simp_all
theorem row_comm (A : Mt p) (a b : Nat) (x y : Nat → Fin p) (h : a ≠ b) : row (row A a x) b y = row (row A b y) a x := by
  funext i j; unfold row
  by_cases h1 : i = a
  · subst h1; simp [h]
  · by_cases h2 : i = b
    · subst h2; simp [h1]
    · simp [h1, h2]
/-- If two equal rows give 0, two rows change the sign when they change places. -/
theorem det_two (n a b : Nat) (A : Mt p) (x y : Nat → Fin p) (hab : a ≠ b) (ha : a < n) (hb : b < n) (h0 : ∀ z : Nat → Fin p, det n (row (row A a z) b z) = 0) :
    det n (row (row A a x) b y) = - det n (row (row A a y) b x) := by
  have h1 := h0 fun j => x j + 1 * y j
  rw [det_row n b _ _ _ _ hb, row_comm _ _ _ _ _ hab, row_comm _ _ _ _ _ hab, det_row n a _ _ _ _ ha, det_row n a _ _ _ _ ha] at h1
  rw [row_comm _ _ _ _ _ (Ne.symm hab), row_comm _ _ _ _ _ (Ne.symm hab), row_comm _ _ _ _ _ (Ne.symm hab), row_comm _ _ _ _ _ (Ne.symm hab), h0 x, h0 y] at h1
  grind
theorem det_eq_rows (n : Nat) : ∀ (d a : Nat) (A : Mt p), a + d + 1 < n → (∀ j, A a j = A (a + d + 1) j) → det n A = 0
  | 0, a, A, h, e => det_adj n a A h e
  | d + 1, a, A, h, e => by
    have h0 : ∀ z : Nat → Fin p, det n (row (row A (a + d + 1) z) (a + d + 2) z) = 0 := fun z =>
      det_adj n (a + d + 1) _ (by omega) fun j => by rw [row_ne _ _ _ (by omega), row_at, row_at]
    have h1 := det_two n (a + d + 1) (a + d + 2) A (A (a + d + 1)) (A (a + d + 2)) (by omega) (by omega) (by omega) h0
    rw [row_self, row_self] at h1
    rw [h1, det_eq_rows n d a _ (by omega) (fun j => ?_)]
    · grind
    · rw [row_ne _ _ _ (by omega), row_ne _ _ _ (by omega), row_ne _ _ _ (by omega), row_at]; exact e j
theorem det_same (n a b : Nat) (A : Mt p) (h : a < b) (hb : b < n) (e : ∀ j, A a j = A b j) : det n A = 0 := by
  obtain ⟨d, rfl⟩ : ∃ d, b = a + d + 1 := ⟨b - a - 1, by omega⟩
  exact det_eq_rows n d a A hb e
theorem det_same' (n a b : Nat) (A : Mt p) (h : a ≠ b) (ha : a < n) (hb : b < n) (e : ∀ j, A a j = A b j) : det n A = 0 := by
  rcases Nat.lt_or_gt_of_ne h with h | h
  · exact det_same n a b A h hb e
  · exact det_same n b a A h ha fun j => (e j).symm

/-! ### The three steps -/
def swapR (A : Mt p) (a b : Nat) : Mt p := fun i j => if i = a then A b j else if i = b then A a j else A i j
def scaleR (A : Mt p) (t : Nat) (c : Fin p) : Mt p := fun i j => if i = t then A i j * c else A i j
def addR (A : Mt p) (t : Nat) (c : Nat → Fin p) : Mt p := fun i j => if i = t then A i j else A i j - c i * A t j
theorem swap_row (A : Mt p) (a b : Nat) (h : a ≠ b) : swapR A a b = row (row A a (A b)) b (A a) := by
  funext i j; unfold swapR row
  by_cases h1 : i = a
  · subst h1; simp [h]
  · simp [h1]
theorem det_swap (n a b : Nat) (A : Mt p) (h : a ≠ b) (ha : a < n) (hb : b < n) : det n (swapR A a b) = - det n A := by
  rw [swap_row A a b h, det_two n a b A _ _ h ha hb, row_self, row_self]
  intro z
  exact det_same' n a b _ h ha hb fun j => by rw [row_ne _ _ _ h, row_at, row_at]
theorem det_scale (n t : Nat) (A : Mt p) (c : Fin p) (h : t < n) : det n (scaleR A t c) = c * det n A := by
  have h1 := det_lin n t (c - 1) A A (scaleR A t c) h (fun i j hi => by simp [scaleR, hi]) (fun i j hi => by simp [scaleR, hi]) (fun j => by simp only [scaleR, if_true]; grind)
  rw [h1]; grind
theorem det_zero_row (n t : Nat) (A : Mt p) (h : t < n) (e : ∀ j, A t j = 0) : det n A = 0 := by
  have h1 := det_lin n t (-1) A A A h (fun i j _ => rfl) (fun i j _ => rfl) (fun j => by rw [e]; grind)
  grind
/-- Of the rows the first l are done. -/
def addL (A : Mt p) (t : Nat) (c : Nat → Fin p) (l : Nat) : Mt p := fun i j => if i = t then A i j else if i < l then A i j - c i * A t j else A i j
theorem det_addL (n t : Nat) (A : Mt p) (c : Nat → Fin p) (h : t < n) : ∀ l, l ≤ n → det n (addL A t c l) = det n A
  | 0, _ => by
    congr 1; funext i j; unfold addL; split <;> simp
  | l + 1, hl => by
    have ih := det_addL n t A c h l (by omega)
    by_cases e : l = t
    · subst e
      rw [← ih]; congr 1; funext i j; unfold addL
      by_cases h1 : i = l
      · simp [h1]
      · simp only [h1, if_false]
        by_cases h2 : i < l
        · rw [if_pos (by omega), if_pos h2]
        · rw [if_neg (by omega), if_neg h2]
    · have h1 := det_lin n l (- c l) (addL A t c l) (row (addL A t c l) l (A t)) (addL A t c (l + 1)) (by omega)
        (fun i j hi => by
          unfold addL
          by_cases h1 : i = t
          · simp [h1]
          · simp only [h1, if_false]
            by_cases h2 : i < l
            · rw [if_pos h2, if_pos (by omega)]
            · rw [if_neg h2, if_neg (by omega)])
        (fun i j hi => by
          rw [row_ne _ _ _ hi]
          unfold addL
          by_cases h1 : i = t
          · simp [h1]
          · simp only [h1, if_false]
            by_cases h2 : i < l
            · rw [if_pos h2, if_pos (by omega)]
            · rw [if_neg h2, if_neg (by omega)])
        (fun j => by
          rw [row_at]; unfold addL
          rw [if_neg e, if_pos (by omega), if_neg e, if_neg (by omega)]; grind)
      rw [h1, ih, det_same' n l t (row (addL A t c l) l (A t)) e (by omega) h (fun j => by rw [row_at, row_ne _ _ _ (Ne.symm e)]; simp [addL])]
      grind
theorem det_add (n t : Nat) (A : Mt p) (c : Nat → Fin p) (h : t < n) : det n (addR A t c) = det n A := by
  rw [← det_addL n t A c h n (Nat.le_refl _)]
  refine det_congr n _ _ fun i j hi hj => ?_
  unfold addR addL
  by_cases h1 : i = t
  · simp [h1]
  · simp [h1, hi]
def unitM : Mt p := fun i j => if i = j then 1 else 0
theorem det_unit : ∀ n, det n (unitM : Mt p) = 1
  | 0 => rfl
  | n + 1 => by
    simp only [det]
    rw [sm_one (n + 1) 0 _ (by omega) fun i hi hne => by rw [show (unitM i 0 : Fin p) = 0 by simp [unitM, hne]]; grind]
    have e : (fun r c => (unitM (skip 0 r) (c + 1) : Fin p)) = unitM := by funext r c; simp [unitM, skip]
    rw [e, det_unit n]
    rw [show (sgn 0 : Fin p) = 1 by simp [sgn], show (unitM 0 0 : Fin p) = 1 by simp [unitM]]; grind
/-! ### Products and row operations -/
def mul (n : Nat) (A B : Mt p) : Mt p := fun i j => sm n (fun l => A i l * B l j)
theorem mul_swap (n : Nat) (A B : Mt p) (a b : Nat) : mul n (swapR A a b) B = swapR (mul n A B) a b := by
  funext i j; unfold mul swapR
  by_cases h1 : i = a
  · simp [h1]
  · by_cases h2 : i = b
    · simp only [h1, if_false, if_pos h2]
    · simp [h1, h2]
theorem mul_scale (n : Nat) (A B : Mt p) (t : Nat) (c : Fin p) : mul n (scaleR A t c) B = scaleR (mul n A B) t c := by
  funext i j; unfold mul scaleR
  by_cases h1 : i = t
  · simp only [h1, if_true]
    rw [show sm n (fun l => A t l * B l j) * c = c * sm n (fun l => A t l * B l j) by grind, ← sm_mul]
    exact sm_congr fun l _ => by grind
  · simp [h1]
theorem mul_addR (n : Nat) (A B : Mt p) (t : Nat) (c : Nat → Fin p) : mul n (addR A t c) B = addR (mul n A B) t c := by
  funext i j; unfold mul addR
  by_cases h1 : i = t
  · simp [h1]
  · simp only [h1, if_false]
    rw [show sm n (fun l => A i l * B l j) - c i * sm n (fun l => A t l * B l j) = sm n (fun l => A i l * B l j) + (- c i) * sm n (fun l => A t l * B l j) by grind, ← sm_mul, ← sm_add]
    exact sm_congr fun l _ => by grind
theorem mul_unit (n : Nat) (A : Mt p) (i j : Nat) (hi : i < n) : mul n unitM A i j = A i j := by
  unfold mul
  rw [sm_one n i _ hi fun l _ hne => by rw [show (unitM i l : Fin p) = 0 by simp [unitM, Ne.symm hne]]; grind]
  rw [show (unitM i i : Fin p) = 1 by simp [unitM]]; grind
theorem swap_id (A : Mt p) (a : Nat) : swapR A a a = A := by
  funext i j; unfold swapR
  by_cases h : i = a
  · simp [h]
  · simp [h]

/-! ### Kernels -/
/-- The first n numbers of v are led to 0 by the first m rows. -/
def Ker (m n : Nat) (A : Mt p) (v : Nat → Fin p) : Prop := ∀ i, i < m → sm n (fun j => A i j * v j) = 0
theorem ker_swap {m n a b : Nat} {A : Mt p} {v : Nat → Fin p} (ha : a < m) (hb : b < m) : Ker m n (swapR A a b) v ↔ Ker m n A v := by
  have one : ∀ A : Mt p, Ker m n A v → Ker m n (swapR A a b) v := fun A h i hi => by
    unfold swapR
    by_cases h1 : i = a
    · simp only [h1, if_true]; exact h b hb
    · by_cases h2 : i = b
      · subst h2; simp only [h1, if_false, if_true]; exact h a ha
      · simp only [h1, h2, if_false]; exact h i hi
  refine ⟨fun h => ?_, one A⟩
  have := one _ h
  have e : swapR (swapR A a b) a b = A := by
    funext i j; unfold swapR
    by_cases h1 : i = a
    · subst h1
      by_cases h3 : b = i <;> simp [h3]
    · by_cases h2 : i = b
      · subst h2; simp [h1]
      · simp [h1, h2]
  rwa [e] at this
theorem ker_scale {m n t : Nat} {A : Mt p} {v : Nat → Fin p} {c d : Fin p} (hcd : c * d = 1) : Ker m n (scaleR A t c) v ↔ Ker m n A v := by
  have e : ∀ i, sm n (fun j => scaleR A t c i j * v j) = if i = t then c * sm n (fun j => A i j * v j) else sm n (fun j => A i j * v j) := fun i => by
    unfold scaleR
    by_cases h1 : i = t
    · simp only [h1, if_true]; rw [← sm_mul]; exact sm_congr fun j _ => by grind
    · simp only [h1, if_false]
  constructor
  · intro h i hi
    have := h i hi
    rw [e] at this
    split at this
    · have h2 : d * (c * sm n (fun j => A i j * v j)) = 0 := by rw [this]; grind
      grind
    · exact this
  · intro h i hi
    rw [e, h i hi]; split <;> grind
theorem ker_add {m n t : Nat} {A : Mt p} {v : Nat → Fin p} {c : Nat → Fin p} (ht : t < m) : Ker m n (addR A t c) v ↔ Ker m n A v := by
  have e : ∀ i, sm n (fun j => addR A t c i j * v j) = if i = t then sm n (fun j => A i j * v j) else sm n (fun j => A i j * v j) - c i * sm n (fun j => A t j * v j) := fun i => by
    unfold addR
    by_cases h1 : i = t
    · simp only [h1, if_true]
    · simp only [h1, if_false]
      rw [show sm n (fun j => A i j * v j) - c i * sm n (fun j => A t j * v j) = sm n (fun j => A i j * v j) + (- c i) * sm n (fun j => A t j * v j) by grind, ← sm_mul, ← sm_add]
      exact sm_congr fun j _ => by grind
  constructor
  · intro h i hi
    have ht' := h t ht
    rw [e, if_pos rfl] at ht'
    have := h i hi
    rw [e, ht'] at this
    split at this
    · exact this
    · grind
  · intro h i hi
    rw [e, h i hi, h t ht]; split <;> grind

/-! ### The reduction -/
/-- The first row from x on, among c rows, whose cell in the column k is not 0. -/
def seek (A : Mt p) (k : Nat) : Nat → Nat → Nat
  | 0, x => x
  | c + 1, x => if A x k = 0 then seek A k c (x + 1) else x
/-- x is the first row from top on whose cell in the column k is not 0, or m if there is none. -/
def IsSeek (A : Mt p) (k m top x : Nat) : Prop := top ≤ x ∧ x ≤ m ∧ (∀ i, top ≤ i → i < x → A i k = 0) ∧ (x < m → A x k ≠ 0)
theorem seek_is (A : Mt p) (k m : Nat) : ∀ (c top : Nat), top + c = m → IsSeek A k m top (seek A k c top)
  | 0, top, h => ⟨Nat.le_refl _, by simp only [seek]; omega, fun i h1 h2 => by simp only [seek] at h2; omega, fun h => by simp only [seek] at h; omega⟩
  | c + 1, top, h => by
    simp only [seek]
    by_cases e : A top k = 0
    · rw [if_pos e]
      obtain ⟨h1, h2, h3, h4⟩ := seek_is A k m c (top + 1) (by omega)
      refine ⟨by omega, h2, fun i a b => ?_, h4⟩
      by_cases hi : i = top
      · subst hi; exact e
      · exact h3 i (by omega) b
    · rw [if_neg e]
      exact ⟨Nat.le_refl _, by omega, fun i a b => by omega, fun _ => e⟩
theorem IsSeek.one {A : Mt p} {k m top x y : Nat} (h : IsSeek A k m top x) (g : IsSeek A k m top y) : x = y := by
  obtain ⟨a1, a2, a3, a4⟩ := h
  obtain ⟨b1, b2, b3, b4⟩ := g
  rcases Nat.lt_trichotomy x y with e | e | e
  · exact absurd (b3 x a1 e) (a4 (by omega))
  · exact e
  · exact absurd (a3 y b1 e) (b4 (by omega))
/-- All numbers but 0 have an inverse. -/
def FldP (p : Nat) [NeZero p] : Prop := (0 : Fin p) ≠ 1 ∧ ∀ a : Fin p, a ≠ 0 → ∃ b, a * b = 1
open Classical in
noncomputable def finv (a : Fin p) : Fin p := if h : ∃ b, a * b = 1 then Classical.choose h else 0
theorem finv_mul (h : FldP p) {a : Fin p} (ha : a ≠ 0) : a * finv a = 1 := by
  have h1 := h.2 a ha
  unfold finv
  rw [dif_pos h1]
  exact Classical.choose_spec h1
theorem finv_one {a b : Fin p} (h : a * b = 1) : b = finv a := by
  have h1 : ∃ b, a * b = 1 := ⟨b, h⟩
  have h2 : a * finv a = 1 := by unfold finv; rw [dif_pos h1]; exact Classical.choose_spec h1
  have : b * (a * finv a) = (a * b) * finv a := by grind
  rw [h2, h] at this
  grind
structure St (p : Nat) where
  A : Mt p
  top : Nat
  piv : List Nat
  d : Fin p
/-- The step at a row x whose cell in the column k is not 0. -/
noncomputable def pivot (s : St p) (k x : Nat) : St p :=
  ⟨addR (scaleR (swapR s.A s.top x) s.top (finv (s.A x k))) s.top (fun i => swapR s.A s.top x i k), s.top + 1, s.piv ++ [k], (if x = s.top then s.d else - s.d) * s.A x k⟩
noncomputable def stepK (m k : Nat) (s : St p) : St p :=
  if seek s.A k (m - s.top) s.top < m then pivot s k (seek s.A k (m - s.top) s.top) else s
noncomputable def red (m : Nat) (A : Mt p) : Nat → St p
  | 0 => ⟨A, 0, [], 1⟩
  | k + 1 => stepK m k (red m A k)

/-- What holds before the column k. -/
structure Inv (m k : Nat) (A : Mt p) (s : St p) : Prop where
  le : s.top ≤ m
  len : s.piv.length = s.top
  small : ∀ t (h : t < s.piv.length), s.piv[t] < k
  mono : ∀ t u (h : t < u) (hu : u < s.piv.length), s.piv[t] < s.piv[u]
  unit : ∀ t (h : t < s.piv.length), ∀ i, i < m → s.A i s.piv[t] = if i = t then 1 else 0
  ech : ∀ t (h : t < s.piv.length), ∀ j, j < s.piv[t] → s.A t j = 0
  zero : ∀ i, s.top ≤ i → i < m → ∀ j, j < k → s.A i j = 0
  ker : ∀ n v, Ker m n s.A v ↔ Ker m n A v
  det : det m A = s.d * det m s.A
  dmul : ∀ n B, Lin.det m (mul n A B) = s.d * Lin.det m (mul n s.A B)
  nz : s.d ≠ 0
theorem inv_zero (hf : FldP p) (m : Nat) (A : Mt p) : Inv m 0 A (red m A 0) where
  le := Nat.zero_le _
  len := rfl
  small := fun t h => absurd h (Nat.not_lt_zero _)
  mono := fun t u _ h => absurd h (Nat.not_lt_zero _)
  unit := fun t h => absurd h (Nat.not_lt_zero _)
  ech := fun t h => absurd h (Nat.not_lt_zero _)
  zero := fun _ _ _ j h => absurd h (Nat.not_lt_zero _)
  ker := fun _ _ => Iff.rfl
  det := by simp only [red]; grind
  dmul := fun n B => by simp only [red]; grind
  nz := fun h => hf.1 h.symm
theorem fd_mul (hf : FldP p) {a b : Fin p} (ha : a ≠ 0) (hb : b ≠ 0) : a * b ≠ 0 := by
  intro h
  obtain ⟨c, hc⟩ := hf.2 a ha
  apply hb
  have : c * (a * b) = (a * c) * b := by grind
  rw [h, hc] at this
  grind
/-- The cells after a step. -/
theorem pivot_cell (s : St p) (k x i j : Nat) : (pivot s k x).A i j = if i = s.top then s.A x j * finv (s.A x k) else swapR s.A s.top x i j - swapR s.A s.top x i k * (s.A x j * finv (s.A x k)) := by
  unfold pivot addR scaleR
  by_cases h : i = s.top
  · subst h; simp [swapR]
  · simp [h, swapR]
theorem inv_pivot (hf : FldP p) {m k x : Nat} {A : Mt p} {s : St p} (h : Inv m k A s) (hx : s.top ≤ x) (hx2 : x < m) (hn : s.A x k ≠ 0) : Inv m (k + 1) A (pivot s k x) := by
  have hfi := finv_mul hf hn
  have htm : s.top < m := by omega
  have hrow : ∀ j, j < k → s.A x j = 0 := fun j hj => h.zero x hx hx2 j hj
  have hsw : ∀ i j, s.top < i → i < m → j < k → swapR s.A s.top x i j = 0 := fun i j hi hi2 hj => by
    unfold swapR
    rw [if_neg (by omega)]
    split
    · exact h.zero _ (Nat.le_refl _) htm j hj
    · exact h.zero i (by omega) hi2 j hj
  have hold : ∀ i j, i < s.top → swapR s.A s.top x i j = s.A i j := fun i j hi => by unfold swapR; rw [if_neg (by omega), if_neg (by omega)]
  have hsmall : ∀ i j, i < m → j < k → (pivot s k x).A i j = if i < s.top then s.A i j else 0 := fun i j hi hj => by
    rw [pivot_cell, hrow j hj]
    by_cases e : i = s.top
    · rw [if_pos e, if_neg (by omega)]; grind
    · rw [if_neg e]
      by_cases e2 : i < s.top
      · rw [if_pos e2, hold i j e2]; grind
      · rw [if_neg e2, hsw i j (by omega) hi hj]; grind
  have hcol : ∀ i, i < m → (pivot s k x).A i k = if i = s.top then 1 else 0 := fun i hi => by
    rw [pivot_cell]
    by_cases e : i = s.top
    · rw [if_pos e, if_pos e]; exact hfi
    · rw [if_neg e, if_neg e, hfi]; grind
  have htop : (pivot s k x).top = s.top + 1 := rfl
  have hpiv : (pivot s k x).piv = s.piv ++ [k] := rfl
  have hdd : (pivot s k x).d = (if x = s.top then s.d else - s.d) * s.A x k := rfl
  refine ⟨by rw [htop]; omega, by rw [htop, hpiv, List.length_append, h.len]; rfl, ?_, ?_, ?_, ?_, ?_, ?_, ?_, ?_, ?_⟩
  · intro t ht
    simp only [hpiv] at ht ⊢
    rw [List.getElem_append]
    split
    · have := h.small t (by assumption); omega
    · simp
  · intro t u htu hu
    simp only [hpiv] at hu ⊢
    rw [List.length_append] at hu
    simp only [List.length_singleton] at hu
    by_cases e : u < s.piv.length
    · rw [List.getElem_append_left (by omega), List.getElem_append_left e]; exact h.mono t u htu e
    · rw [List.getElem_append_left (by omega), List.getElem_append_right (by omega)]
      have := h.small t (by omega)
      simpa using this
  · intro t ht i hi
    simp only [hpiv] at ht ⊢
    rw [List.length_append] at ht
    simp only [List.length_singleton] at ht
    by_cases e : t < s.piv.length
    · rw [List.getElem_append_left e, hsmall i _ hi (h.small t e)]
      have hl := h.len
      by_cases e2 : i < s.top
      · rw [if_pos e2]; exact h.unit t e i hi
      · rw [if_neg e2, if_neg (by omega)]
    · have et : t = s.piv.length := by omega
      have hl := h.len
      rw [List.getElem_append_right (by omega)]
      simp only [et, Nat.sub_self, List.getElem_cons_zero]
      rw [hcol i hi, hl]
  · intro t ht j hj
    simp only [hpiv] at ht hj
    rw [List.length_append] at ht
    simp only [List.length_singleton] at ht
    have hl := h.len
    by_cases e : t < s.piv.length
    · rw [List.getElem_append_left e] at hj
      have := h.small t e
      rw [hsmall t j (by omega) (by omega), if_pos (by omega)]
      exact h.ech t e j hj
    · have et : t = s.piv.length := by omega
      rw [List.getElem_append_right (by omega)] at hj
      simp only [et, Nat.sub_self, List.getElem_cons_zero] at hj
      rw [hsmall t j (by omega) hj, if_neg (by omega)]
  · intro i hi hi2 j hj
    rw [htop] at hi
    by_cases e : j = k
    · subst e; rw [hcol i hi2, if_neg (by omega)]
    · rw [hsmall i j hi2 (by omega), if_neg (by omega)]
  · intro n v
    rw [← h.ker]
    exact (ker_add htm).trans ((ker_scale (d := s.A x k) (by grind)).trans (ker_swap htm hx2))
  · rw [h.det, hdd]
    have e : Lin.det m (pivot s k x).A = finv (s.A x k) * Lin.det m (swapR s.A s.top x) := by
      show Lin.det m (addR _ _ _) = _
      rw [det_add m _ _ _ htm, det_scale m _ _ _ htm]
    rw [e]
    by_cases ex : x = s.top
    · subst ex; rw [swap_id, if_pos rfl]; grind
    · rw [det_swap m _ _ _ (Ne.symm ex) htm hx2, if_neg ex]; grind
  · intro n B
    rw [h.dmul, hdd]
    have e : Lin.det m (mul n (pivot s k x).A B) = finv (s.A x k) * Lin.det m (swapR (mul n s.A B) s.top x) := by
      show Lin.det m (mul n (addR _ _ _) B) = _
      rw [mul_addR, mul_scale, mul_swap, det_add m _ _ _ htm, det_scale m _ _ _ htm]
    rw [e]
    by_cases ex : x = s.top
    · subst ex; rw [swap_id, if_pos rfl]; grind
    · rw [det_swap m _ _ _ (Ne.symm ex) htm hx2, if_neg ex]; grind
  · rw [hdd]
    refine fd_mul hf ?_ hn
    split
    · exact h.nz
    · intro e; apply h.nz; grind
theorem inv_next (hf : FldP p) {m k : Nat} {A : Mt p} {s : St p} (h : Inv m k A s) : Inv m (k + 1) A (stepK m k s) := by
  unfold stepK
  obtain ⟨h1, h2, h3, h4⟩ := seek_is s.A k m (m - s.top) s.top (by have := h.le; omega)
  split
  · rename_i hlt
    exact inv_pivot hf h h1 hlt (h4 hlt)
  · rename_i hlt
    refine ⟨h.le, h.len, fun t ht => by have := h.small t ht; omega, h.mono, h.unit, h.ech, fun i hi hi2 j hj => ?_, h.ker, h.det, h.dmul, h.nz⟩
    by_cases e : j = k
    · subst e; exact h3 i hi (by omega)
    · exact h.zero i hi hi2 j (by omega)
theorem red_inv (hf : FldP p) (m : Nat) (A : Mt p) : ∀ k, Inv m k A (red m A k)
  | 0 => inv_zero hf m A
  | k + 1 => inv_next hf (red_inv hf m A k)

/-! ### Pivots by kernels -/
/-- The column k is no sum of multiples of the ones before it. -/
def Piv (A : Mt p) (m k : Nat) : Prop := ∀ v : Nat → Fin p, Ker m (k + 1) A v → v k = 0
/-- The vector of a column: what a reduced form says of it. -/
def colV (R : Mt p) (piv : List Nat) (j : Nat) : Nat → Fin p := fun l => (if l = j then 1 else 0) - sm piv.length (fun t => if piv.getD t 0 = l then R t j else 0)
theorem getD_at (l : List Nat) (t : Nat) (h : t < l.length) : l.getD t 0 = l[t] := by simp [List.getD, List.getElem?_eq_getElem h]
/-- A sum over the columns of a product with such a vector. -/
theorem sm_col (R : Mt p) (B : Mt p) (piv : List Nat) (n i j : Nat) (hj : j < n) (hs : ∀ t (h : t < piv.length), piv[t] < n) :
    sm n (fun l => B i l * colV R piv j l) = B i j - sm piv.length (fun t => B i (piv.getD t 0) * R t j) := by
  have e1 : sm n (fun l => B i l * colV R piv j l) = sm n (fun l => B i l * (if l = j then 1 else 0)) + sm n (fun l => - sm piv.length (fun t => if piv.getD t 0 = l then B i l * R t j else 0)) := by
    rw [← sm_add]
    refine sm_congr fun l hl => ?_
    unfold colV
    have : sm piv.length (fun t => if piv.getD t 0 = l then B i l * R t j else 0) = B i l * sm piv.length (fun t => if piv.getD t 0 = l then R t j else 0) := by
      rw [← sm_mul]
      refine sm_congr fun t ht => ?_
      split
      · rfl
      · grind
    rw [this]; grind
  rw [e1, sm_one n j _ hj (fun l hl hne => by rw [if_neg hne]; grind), if_pos rfl, sm_neg, sm_comm]
  have e2 : sm piv.length (fun t => sm n (fun l => if piv.getD t 0 = l then B i l * R t j else 0)) = sm piv.length (fun t => B i (piv.getD t 0) * R t j) := by
    refine sm_congr fun t ht => ?_
    rw [sm_one n (piv.getD t 0) _ (by rw [getD_at _ _ ht]; exact hs t ht) (fun l hl hne => by rw [if_neg (Ne.symm hne)]), if_pos rfl]
  rw [e2]; grind
theorem Inv.dot {m k : Nat} {A : Mt p} {s : St p} (h : Inv m k A s) (i j : Nat) (hi : i < m) (hz : s.top ≤ i → s.A i j = 0) : sm s.piv.length (fun t => s.A i (s.piv.getD t 0) * s.A t j) = s.A i j := by
  have hl := h.len
  by_cases e : i < s.top
  · rw [sm_one _ i _ (by omega) (fun t ht hne => by rw [getD_at _ _ ht, h.unit t ht i hi, if_neg (Ne.symm hne)]; grind), getD_at _ _ (by omega), h.unit i (by omega) i hi, if_pos rfl]
    grind
  · rw [hz (by omega), sm_zero]
    intro t ht
    rw [getD_at _ _ ht, h.unit t ht i hi, if_neg (by omega)]; grind
/-- The vector of a column lies in the kernel, if the rows without a pivot have a 0 there. -/
theorem Inv.col_ker {m k n j : Nat} {A : Mt p} {s : St p} (h : Inv m k A s) (hj : j < n) (hkn : k ≤ n) (hz : ∀ i, s.top ≤ i → i < m → s.A i j = 0) : Ker m n A (colV s.A s.piv j) := by
  rw [← h.ker]
  intro i hi
  rw [sm_col s.A s.A s.piv n i j hj (fun t ht => by have := h.small t ht; omega), h.dot i j hi (fun e => hz i e hi)]
  grind
theorem colV_self {m k : Nat} {A : Mt p} {s : St p} (h : Inv m k A s) (j : Nat) (hj : k ≤ j) : colV s.A s.piv j j = 1 := by
  unfold colV
  rw [if_pos rfl, sm_zero]
  · grind
  · intro t ht
    rw [getD_at _ _ ht, if_neg (by have := h.small t ht; omega)]
/-- A pivot's column leads no vector that ends in it to 0. -/
theorem Inv.piv_yes {m k : Nat} {A : Mt p} {s : St p} (h : Inv m k A s) (t : Nat) (ht : t < s.piv.length) : Piv A m s.piv[t] := by
  intro v hv
  rw [← h.ker] at hv
  have hl := h.len
  have hle := h.le
  have h1 := hv t (by omega)
  rw [sm_one _ s.piv[t] _ (by omega) (fun j hj hne => by rw [h.ech t ht j (by omega)]; grind), h.unit t ht t (by omega), if_pos rfl] at h1
  grind
open Classical in
theorem red_piv (hf : FldP p) (m : Nat) (A : Mt p) : ∀ n, (red m A n).piv = (List.range n).filter (fun k => decide (Piv A m k))
  | 0 => rfl
  | k + 1 => by
    have hI := red_inv hf m A k
    rw [List.range_succ, List.filter_append, ← red_piv hf m A k]
    show (stepK m k (red m A k)).piv = _
    obtain ⟨h1, h2, h3, h4⟩ := seek_is (red m A k).A k m (m - (red m A k).top) (red m A k).top (by have := hI.le; omega)
    unfold stepK
    split
    · rename_i hlt
      have hp := inv_pivot hf hI h1 hlt (h4 hlt)
      have hlen : (red m A k).piv.length < (pivot (red m A k) k (seek (red m A k).A k (m - (red m A k).top) (red m A k).top)).piv.length := by
        show _ < ((red m A k).piv ++ [k]).length
        simp
      have := hp.piv_yes _ hlen
      have e : (pivot (red m A k) k (seek (red m A k).A k (m - (red m A k).top) (red m A k).top)).piv[(red m A k).piv.length] = k := by
        show ((red m A k).piv ++ [k])[(red m A k).piv.length]'(by simp) = k
        simp
      rw [e] at this
      show (red m A k).piv ++ [k] = _
      simp [this]
    · rename_i hlt
      have : ¬ Piv A m k := fun hP => by
        have := hP _ (hI.col_ker (n := k + 1) (j := k) (by omega) (by omega) (fun i hi hi2 => h3 i hi (by omega)))
        rw [colV_self hI k (Nat.le_refl _)] at this
        exact hf.1 this.symm
      simp [this]
open Classical in
theorem piv_congr {A B : Mt p} {m m' : Nat} {n : Nat} (hf : FldP p) (h : ∀ k, k < n → (Piv A m k ↔ Piv B m' k)) : (red m A n).piv = (red m' B n).piv := by
  rw [red_piv hf, red_piv hf]
  refine List.filter_congr fun k hk => ?_
  rw [decide_eq_decide]
  exact h k (by simpa using hk)
theorem piv_of_ker {A B : Mt p} {m m' k : Nat} (h : ∀ v, Ker m (k + 1) A v ↔ Ker m' (k + 1) B v) : Piv A m k ↔ Piv B m' k :=
  ⟨fun hp v hv => hp v ((h v).2 hv), fun hp v hv => hp v ((h v).1 hv)⟩
theorem piv_le_cols (hf : FldP p) (m n : Nat) (A : Mt p) : (red m A n).piv.length ≤ n := by
  classical
  rw [red_piv hf]
  have := List.length_filter_le (fun k => decide (Piv A m k)) (List.range n)
  simpa using this
theorem piv_le_rows (hf : FldP p) (m n : Nat) (A : Mt p) : (red m A n).piv.length ≤ m := by
  have h := red_inv hf m A n
  rw [h.len]; exact h.le
/-- If there are more columns than rows, a vector other than 0 is led to 0. -/
theorem ker_wide (hf : FldP p) (m n : Nat) (A : Mt p) (h : m < n) : ∃ k, k < n ∧ ∃ v, Ker m (k + 1) A v ∧ v k ≠ 0 := by
  classical
  have h1 := piv_le_rows hf m n A
  rw [red_piv hf] at h1
  have h2 : ¬ ∀ k ∈ List.range n, decide (Piv A m k) = true := fun hall => by
    rw [List.filter_eq_self.2 hall] at h1
    simp at h1; omega
  have h3 : ∃ k, k < n ∧ ¬ Piv A m k := by
    refine Classical.byContradiction fun hc => h2 fun k hk => ?_
    have : Piv A m k := Classical.byContradiction fun hn => hc ⟨k, by simpa using hk, hn⟩
    simpa using this
  obtain ⟨k, hk, hn⟩ := h3
  refine ⟨k, hk, Classical.byContradiction fun hc => hn fun v hv => Classical.byContradiction fun hz => hc ⟨v, hv, hz⟩⟩

/-! ### The reduced form of a reduced form -/
theorem red_zero {m n : Nat} (hf : FldP p) (A : Mt p) (i j : Nat) (hi : (red m A n).top ≤ i) (him : i < m) (hj : j < n) : (red m A n).A i j = 0 := (red_inv hf m A n).zero i hi him j hj
theorem red_twice (hf : FldP p) (m n : Nat) (A : Mt p) : (red m (red m A n).A n).piv = (red m A n).piv ∧ ∀ i j, i < m → j < n → (red m (red m A n).A n).A i j = (red m A n).A i j := by
  have hI := red_inv hf m A n
  have hJ := red_inv hf m (red m A n).A n
  have hp : (red m (red m A n).A n).piv = (red m A n).piv := piv_congr hf fun k hk => piv_of_ker fun v => hI.ker (k + 1) v
  refine ⟨hp, fun i j hi hj => ?_⟩
  have hk : Ker m n (red m (red m A n).A n).A (colV (red m A n).A (red m A n).piv j) := by
    rw [hJ.ker, hI.ker]
    exact hI.col_ker hj (Nat.le_refl _) fun i a b => red_zero hf A i j a b hj
  have h1 := hk i hi
  rw [sm_col _ _ _ n i j hj (fun t ht => hI.small t ht)] at h1
  have hlI := hI.len
  have hlJ := hJ.len
  have h2 : sm (red m A n).piv.length (fun t => (red m (red m A n).A n).A i ((red m A n).piv.getD t 0) * (red m A n).A t j) = sm (red m A n).piv.length (fun t => (red m A n).A i ((red m A n).piv.getD t 0) * (red m A n).A t j) := by
    refine sm_congr fun t ht => ?_
    rw [getD_at _ _ ht, hI.unit t ht i hi]
    have := hJ.unit t (by rw [hp]; exact ht) i hi
    simp only [hp] at this
    rw [this]
  rw [h2, hI.dot i j hi (fun e => red_zero hf A i j e hi hj)] at h1
  grind

/-! ### The rank of the transposed matrix -/
def turn (A : Mt p) : Mt p := fun i j => A j i
theorem factor (hf : FldP p) (m n : Nat) (A : Mt p) (i j : Nat) (hi : i < m) (hj : j < n) : A i j = sm (red m A n).piv.length (fun t => A i ((red m A n).piv.getD t 0) * (red m A n).A t j) := by
  have hI := red_inv hf m A n
  have h1 := hI.col_ker hj (Nat.le_refl _) (fun i a b => red_zero hf A i j a b hj) i hi
  rw [sm_col _ _ _ n i j hj (fun t ht => hI.small t ht)] at h1
  grind
theorem rank_turn_le (hf : FldP p) (m n : Nat) (A : Mt p) : (red n (turn A) m).piv.length ≤ (red m A n).piv.length := by
  refine Classical.byContradiction fun hlt => ?_
  have hlt : (red m A n).piv.length < (red n (turn A) m).piv.length := by omega
  obtain ⟨k, hk, v, hv, hv0⟩ := ker_wide hf (red m A n).piv.length (red n (turn A) m).piv.length (fun t u => A ((red n (turn A) m).piv.getD u 0) ((red m A n).piv.getD t 0)) hlt
  have hT := red_inv hf n (turn A) m
  have hp := hT.piv_yes k hk
  have hq : ∀ u, u < (red n (turn A) m).piv.length → (red n (turn A) m).piv.getD u 0 < m := fun u hu => by rw [getD_at _ _ hu]; exact hT.small u hu
  -- the coefficients of the rows
  let c : Nat → Fin p := fun i => sm (k + 1) (fun u => if (red n (turn A) m).piv.getD u 0 = i then v u else 0)
  have hle : ∀ u, u < k + 1 → (red n (turn A) m).piv.getD u 0 ≤ (red n (turn A) m).piv[k] := fun u hu => by
    rw [getD_at _ _ (by omega)]
    by_cases e : u = k
    · subst e; exact Nat.le_refl _
    · have := hT.mono u k (by omega) hk; omega
  have hc0 : c (red n (turn A) m).piv[k] = v k := by
    show sm (k + 1) _ = _
    rw [sm_one _ k _ (by omega) (fun u hu hne => by
      rw [getD_at _ _ (by omega), if_neg]
      have := hT.mono u k (by omega) hk; omega)]
    rw [getD_at _ _ hk, if_pos rfl]
  have hck : Ker n ((red n (turn A) m).piv[k] + 1) (turn A) c := by
    intro j hj
    have e1 : sm ((red n (turn A) m).piv[k] + 1) (fun i => turn A j i * c i) = sm (k + 1) (fun u => A ((red n (turn A) m).piv.getD u 0) j * v u) := by
      have e2 : sm ((red n (turn A) m).piv[k] + 1) (fun i => turn A j i * c i) = sm ((red n (turn A) m).piv[k] + 1) (fun i => sm (k + 1) (fun u => if (red n (turn A) m).piv.getD u 0 = i then A i j * v u else 0)) := by
        refine sm_congr fun i hi => ?_
        show A i j * sm (k + 1) _ = _
        rw [← sm_mul]
        refine sm_congr fun u hu => ?_
        split
        · rfl
        · grind
      rw [e2, sm_comm]
      refine sm_congr fun u hu => ?_
      rw [sm_one _ ((red n (turn A) m).piv.getD u 0) _ (by have := hle u hu; omega) (fun i hi hne => by rw [if_neg (Ne.symm hne)]), if_pos rfl]
    rw [e1]
    have e3 : sm (k + 1) (fun u => A ((red n (turn A) m).piv.getD u 0) j * v u) = sm (k + 1) (fun u => sm (red m A n).piv.length (fun t => (red m A n).A t j * (A ((red n (turn A) m).piv.getD u 0) ((red m A n).piv.getD t 0) * v u))) := by
      refine sm_congr fun u hu => ?_
      rw [factor hf m n A _ j (hq u (by omega)) hj]
      rw [show sm (red m A n).piv.length (fun t => A ((red n (turn A) m).piv.getD u 0) ((red m A n).piv.getD t 0) * (red m A n).A t j) * v u = v u * sm (red m A n).piv.length (fun t => A ((red n (turn A) m).piv.getD u 0) ((red m A n).piv.getD t 0) * (red m A n).A t j) by grind, ← sm_mul]
      exact sm_congr fun t ht => by grind
    rw [e3, sm_comm, sm_zero]
    intro t ht
    rw [sm_mul, hv t ht]
    grind
  have := hp c hck
  rw [hc0] at this
  exact hv0 this
theorem rank_turn (hf : FldP p) (m n : Nat) (A : Mt p) : (red n (turn A) m).piv.length = (red m A n).piv.length :=
  Nat.le_antisymm (rank_turn_le hf m n A) (rank_turn_le hf n m (turn A))

/-! ### Stacking and joining -/
def stack (m : Nat) (A B : Mt p) : Mt p := fun i j => if i < m then A i j else B (i - m) j
def join (n : Nat) (A B : Mt p) : Mt p := fun i j => if j < n then A i j else B i (j - n)
theorem rank_stack (hf : FldP p) (m n : Nat) (A : Mt p) : (red (m + m) (stack m A A) n).piv = (red m A n).piv := by
  refine piv_congr hf fun k hk => piv_of_ker fun v => ⟨fun h i hi => ?_, fun h i hi => ?_⟩
  · have := h i (by omega)
    unfold stack at this
    simp only [hi, if_true] at this
    exact this
  · unfold stack
    by_cases e : i < m
    · simp only [e, if_true]; exact h i e
    · simp only [e, if_false]; exact h (i - m) (by omega)
theorem ker_join {m n k : Nat} (A B : Mt p) (hk : k ≤ n) (v : Nat → Fin p) : Ker m k (join n A B) v ↔ Ker m k A v := by
  have e : ∀ i, sm k (fun j => join n A B i j * v j) = sm k (fun j => A i j * v j) := fun i => sm_congr fun j hj => by unfold join; rw [if_pos (by omega)]
  unfold Ker
  simp only [e]
theorem piv_join (hf : FldP p) (m n : Nat) (A B : Mt p) : (red m (join n A B) n).piv = (red m A n).piv :=
  piv_congr hf fun k hk => piv_of_ker fun v => ker_join A B (by omega) v
theorem rank_join (hf : FldP p) (m n : Nat) (A : Mt p) : (red m (join n A A) (n + n)).piv = (red m A n).piv := by
  classical
  have key : ∀ d, d ≤ n → (red m (join n A A) (n + d)).piv = (red m (join n A A) n).piv := by
    intro d
    induction d with
    | zero => intro _; rfl
    | succ d ih =>
      intro hd
      rw [← ih (by omega), ← Nat.add_assoc, red_piv hf, red_piv hf, List.range_succ, List.filter_append]
      have : ¬ Piv (join n A A) m (n + d) := fun hP => by
        have := hP (fun j => if j = n + d then 1 else if j = d then -1 else 0) (fun i hi => by
          rw [sm_two (n + d + 1) d (n + d) _ (by omega) (by omega) (fun j hj h1 h2 => by dsimp only; rw [if_neg h2, if_neg h1]; grind)]
          dsimp only
          rw [if_neg (by omega), if_pos rfl, if_pos rfl]
          unfold join
          rw [if_pos (by omega), if_neg (by omega), Nat.add_sub_cancel_left]
          grind)
        rw [if_pos rfl] at this
        exact hf.1 this.symm
      simp [this]
  rw [key n (Nat.le_refl _), piv_join hf]

/-! ### Regular matrices -/
/-- With a pivot in each of n rows, after n columns, the reduced form is the unit matrix. -/
theorem piv_all (hf : FldP p) (n : Nat) (A : Mt p) (h : (red n A n).piv.length = n) : (red n A n).piv = List.range n := by
  classical
  rw [red_piv hf] at h ⊢
  refine List.filter_eq_self.2 fun k hk => ?_
  exact (List.length_filter_eq_length_iff.1 (by rw [h]; simp)) k hk
theorem red_unit (hf : FldP p) (n : Nat) (A : Mt p) (h : (red n A n).piv.length = n) (i j : Nat) (hi : i < n) (hj : j < n) : (red n A n).A i j = unitM i j := by
  have hI := red_inv hf n A n
  have := hI.unit j (by omega) i hi
  simp only [piv_all hf n A h, List.getElem_range] at this
  exact this
/-- The determinant by the reduction. -/
noncomputable def rdet (n : Nat) (A : Mt p) : Fin p := if (red n A n).piv.length = n then (red n A n).d else 0
theorem rdet_det (hf : FldP p) (n : Nat) (A : Mt p) : rdet n A = det n A := by
  have hI := red_inv hf n A n
  unfold rdet
  split
  · rename_i h
    rw [hI.det, det_congr n _ unitM (fun i j hi hj => red_unit hf n A h i j hi hj), det_unit]
    grind
  · rename_i h
    have hl := hI.len
    have hle := hI.le
    rw [hI.det, det_congr n (red n A n).A (fun i j => if i = n - 1 then 0 else (red n A n).A i j) (fun i j hi hj => by
      split
      · rename_i e; subst e; exact hI.zero _ (by omega) hi j hj
      · rfl), det_zero_row n (n - 1) _ (by omega) (fun j => by simp)]
    grind
theorem det_mul (hf : FldP p) (n : Nat) (A B : Mt p) : det n (mul n A B) = det n A * det n B := by
  have hI := red_inv hf n A n
  by_cases h : (red n A n).piv.length = n
  · have e : det n A = (red n A n).d := by rw [← rdet_det hf, rdet, if_pos h]
    rw [hI.dmul, e, det_congr n (mul n (red n A n).A B) B]
    intro i j hi hj
    rw [← mul_unit n B i j hi]
    exact sm_congr fun l hl => by rw [red_unit hf n A h i l hi hl]
  · have e : det n A = 0 := by rw [← rdet_det hf, rdet, if_neg h]
    have hl := hI.len
    have hle := hI.le
    rw [hI.dmul, e, det_congr n (mul n (red n A n).A B) (fun i j => if i = n - 1 then 0 else mul n (red n A n).A B i j) (fun i j hi hj => by
      split
      · rename_i e; subst e
        exact sm_zero _ _ fun l hl => by rw [hI.zero _ (by omega) hi l hl]; grind
      · rfl), det_zero_row n (n - 1) _ (by omega) (fun j => by simp)]
    grind
theorem rdet_ne (hf : FldP p) (n : Nat) (A : Mt p) : rdet n A ≠ 0 ↔ (red n A n).piv.length = n := by
  unfold rdet
  split
  · rename_i h; exact ⟨fun _ => h, fun _ => (red_inv hf n A n).nz⟩
  · rename_i h; exact ⟨fun h2 => absurd rfl h2, fun h2 => absurd h2 h⟩

/-! ### The inverse -/
/-- The right half of the reduced form of A and the unit matrix. -/
noncomputable def inverse (n : Nat) (A : Mt p) : Mt p := fun i j => (red n (join n A unitM) n).A i (n + j)
theorem ker_joined (n : Nat) (A B : Mt p) (v : Nat → Fin p) (i : Nat) : sm (n + n) (fun j => join n A B i j * v j) = sm n (fun j => A i j * v j) + sm n (fun j => B i j * v (n + j)) := by
  rw [sm_split]
  congr 1
  · exact sm_congr fun j hj => by unfold join; rw [if_pos hj]
  · exact sm_congr fun j hj => by unfold join; rw [if_neg (by omega), Nat.add_sub_cancel_left]
theorem inverse_ker (hf : FldP p) (n : Nat) (A : Mt p) (h : (red n A n).piv.length = n) (v : Nat → Fin p) :
    (∀ i, i < n → sm n (fun j => A i j * v j) + v (n + i) = 0) ↔ ∀ i, i < n → v i + sm n (fun j => inverse n A i j * v (n + j)) = 0 := by
  have hI := red_inv hf n (join n A unitM) n
  have hp : (red n (join n A unitM) n).piv.length = n := by rw [piv_join hf]; exact h
  have hk := hI.ker (n + n) v
  have e1 : ∀ i, i < n → sm n (fun j => (unitM i j : Fin p) * v (n + j)) = v (n + i) := fun i hi => mul_unit n (fun a _ => v (n + a)) i 0 hi
  have e2 : ∀ i, i < n → sm n (fun j => (unitM i j : Fin p) * v j) = v i := fun i hi => mul_unit n (fun a _ => v a) i 0 hi
  constructor
  · intro hA i hi
    have hK := hk.2 (fun i hi => by rw [ker_joined, e1 i hi]; exact hA i hi) i hi
    rw [sm_split] at hK
    rw [show sm n (fun j => (red n (join n A unitM) n).A i j * v j) = v i from (sm_congr fun j hj => by rw [red_unit hf n _ hp i j hi hj]).trans (e2 i hi)] at hK
    exact hK
  · intro hB i hi
    have hK := hk.1 (fun i hi => by
      rw [sm_split, show sm n (fun j => (red n (join n A unitM) n).A i j * v j) = v i from (sm_congr fun j hj => by rw [red_unit hf n _ hp i j hi hj]).trans (e2 i hi)]
      exact hB i hi) i hi
    rw [ker_joined, e1 i hi] at hK
    exact hK
theorem mul_inverse (hf : FldP p) (n : Nat) (A : Mt p) (h : (red n A n).piv.length = n) (i j : Nat) (hi : i < n) (hj : j < n) : mul n A (inverse n A) i j = unitM i j := by
  have h1 := (inverse_ker hf n A h (fun l => if l < n then - inverse n A l j else if l = n + j then 1 else 0)).2 (fun i hi => by
    rw [if_pos hi, sm_one n j _ hj (fun l hl hne => by rw [if_neg (by omega), if_neg (by omega)]; grind), if_neg (by omega), if_pos rfl]
    grind) i hi
  rw [show sm n (fun l => A i l * if l < n then - inverse n A l j else if l = n + j then 1 else 0) = - mul n A (inverse n A) i j by
    unfold mul; rw [← sm_neg]; exact sm_congr fun l hl => by rw [if_pos hl]; grind, if_neg (by omega)] at h1
  unfold unitM
  by_cases e : i = j
  · subst e; rw [if_pos rfl] at h1; rw [if_pos rfl]; grind
  · rw [if_neg (by omega)] at h1; rw [if_neg e]; grind
theorem inverse_mul (hf : FldP p) (n : Nat) (A : Mt p) (h : (red n A n).piv.length = n) (i j : Nat) (hi : i < n) (hj : j < n) : mul n (inverse n A) A i j = unitM i j := by
  have h1 := (inverse_ker hf n A h (fun l => if l < n then (if l = j then 1 else 0) else - A (l - n) j)).1 (fun i hi => by
    rw [sm_one n j _ hj (fun l hl hne => by rw [if_pos hl, if_neg hne]; grind), if_pos hj, if_pos rfl, if_neg (by omega), Nat.add_sub_cancel_left]
    grind) i hi
  rw [if_pos hi, show sm n (fun l => inverse n A i l * if n + l < n then (if n + l = j then 1 else 0) else - A (n + l - n) j) = - mul n (inverse n A) A i j by
    unfold mul; rw [← sm_neg]; exact sm_congr fun l hl => by rw [if_neg (by omega), Nat.add_sub_cancel_left]; grind] at h1
  unfold unitM
  split at h1 <;> grind
theorem det_inverse (hf : FldP p) (n : Nat) (A : Mt p) (h : (red n A n).piv.length = n) : det n (inverse n A) * det n A = 1 := by
  rw [← det_mul hf, det_congr n _ unitM (fun i j hi hj => inverse_mul hf n A h i j hi hj), det_unit]
/-- When all rows have their pivots, further columns find none. -/
theorem red_full (hf : FldP p) (n : Nat) (A : Mt p) (k : Nat) (h : (red n A k).piv.length = n) : ∀ d, red n A (k + d) = red n A k
  | 0 => rfl
  | d + 1 => by
    show stepK n (k + d) (red n A (k + d)) = _
    rw [red_full hf n A k h d]
    have hI := red_inv hf n A k
    unfold stepK
    have hs := seek_is (red n A k).A (k + d) n (n - (red n A k).top) (red n A k).top (by have := hI.le; omega)
    rw [if_neg (by have := hI.len; have := hs.1; omega)]
end Go.Proofs.Ytabanmaaagmeaaa.Lin
