/-
  A system has a solution exactly if there is no certificate against it; what FnSolve compares.
-/
import Derived.Test.YtpimnngomodnhaaSpU
import Derived.Test.YtpimnngomodnhaaVcC
import Derived.Test.YtpimnngomodnhaaPD
namespace Go.Proofs.Ytpimnngomodnhaa
open Go.RowKit
open Lin
set_option linter.unusedVariables false
set_option linter.unusedSectionVars false

section
variable {q : Nat} [NeZero q]
/-- A solution leaves nothing for a certificate. -/
theorem no_cert {m n : Nat} {A : Mt q} {b x y : Nat → Fin q} (hx : ∀ i, i < m → sm n (fun j => A i j * x j) = b i) (hy : ∀ i, i < n → sm m (fun j => A j i * y j) = 0) : sm m (fun j => b j * y j) = 0 := by
  rw [sm_congr (g := fun j => sm n (fun l => x l * (A j l * y j))) (fun j hj => by
    rw [← hx j hj]
    have : ∀ k, sm k (fun t => A j t * x t) * y j = sm k (fun t => x t * (A j t * y j)) := fun k => by
      induction k with
      | zero => simp only [sm]; grind
      | succ k ih => simp only [sm]; rw [← ih]; grind
    exact this _), sm_comm]
  refine sm_zero _ _ fun t ht => ?_
  rw [sm_mul, hy t ht]; grind
theorem turn_sys (n : Nat) (A : Mt q) (b : Nat → Fin q) : turn (Lin.sys n A b) = adj n (turn A) b := by
  funext i j
  unfold turn Lin.sys adj
  by_cases h : i < n <;> simp [h]
/-- If the column is a sum of multiples of the columns, told by kernels, then there is a solution. -/
theorem solv_in (hf : FldP q) {m n : Nat} {A : Mt q} {b : Nat → Fin q} (h : In n m (turn A) b) : Solv m n (red m (Lin.sys n A b) n) := by
  refine Classical.byContradiction fun hs => ?_
  have h1 := step_not hf hs
  have h2 := (has_iff hf (m := n) (n := m) (A := turn A) (x := b)).2 h
  rw [← turn_sys, rank_turn hf m (n + 1) (Lin.sys n A b), h1, rank_turn hf m n A, List.length_append, sys_piv hf] at h2
  simp at h2
theorem solv_or (hf : FldP q) {m n : Nat} (A : Mt q) (b : Nat → Fin q) :
    (∃ x : Nat → Fin q, Solv m n (red m (Lin.sys n A b) n) ∧ x = solV n (red m (Lin.sys n A b) n) ∧ ¬ Solv (n + 1) m (red (n + 1) (Lin.sys m (adj n (turn A) b) (eN n)) m) ∧ ∀ i, i < m → sm n (fun j => A i j * x j) = b i) ∨
    (∃ y : Nat → Fin q, ¬ Solv m n (red m (Lin.sys n A b) n) ∧ y = solV m (red (n + 1) (Lin.sys m (adj n (turn A) b) (eN n)) m) ∧ Solv (n + 1) m (red (n + 1) (Lin.sys m (adj n (turn A) b) (eN n)) m) ∧ (∀ i, i < n → sm m (fun j => A j i * y j) = 0) ∧ sm m (fun j => b j * y j) = 1) := by
  classical
  have key : ∀ y : Nat → Fin q, (∀ i, i < n + 1 → sm m (fun j => adj n (turn A) b i j * y j) = eN n i) → (∀ i, i < n → sm m (fun j => A j i * y j) = 0) ∧ sm m (fun j => b j * y j) = 1 := fun y hy => by
    refine ⟨fun i hi => ?_, ?_⟩
    · have h := hy i (by omega)
      unfold adj eN at h
      simp only [if_pos hi] at h
      rw [if_neg (by omega)] at h
      exact h
    · have h := hy n (by omega)
      unfold adj eN at h
      simpa using h
  by_cases hs : Solv m n (red m (Lin.sys n A b) n)
  · have hx := fun i hi => solv_yes hf hs i hi
    refine .inl ⟨_, hs, rfl, fun h2 => ?_, hx⟩
    obtain ⟨h3, h4⟩ := key _ (fun i hi => solv_yes hf h2 i hi)
    rw [no_cert hx h3] at h4
    exact hf.1 h4
  · have hn : ¬ In n m (turn A) b := fun h => hs (solv_in hf h)
    have hv : ∃ v, Ker n m (turn A) v ∧ sm m (fun j => b j * v j) ≠ 0 := by
      refine Classical.byContradiction fun hc => hn fun v hv => ?_
      refine Classical.byContradiction fun hd => hc ⟨v, hv, hd⟩
    obtain ⟨v, hk, hd⟩ := hv
    obtain ⟨c, hc⟩ := hf.2 _ hd
    have h2 : Solv (n + 1) m (red (n + 1) (Lin.sys m (adj n (turn A) b) (eN n)) m) := by
      refine solv_of hf (x := fun j => c * v j) fun i hi => ?_
      by_cases e : i < n
      · unfold adj eN
        simp only [if_pos e]
        rw [if_neg (by omega), sm_congr (g := fun j => c * (turn A i j * v j)) (fun j hj => by grind), sm_mul, hk i e]
        grind
      · obtain rfl : i = n := by omega
        unfold adj eN
        simp only [Nat.lt_irrefl, if_false, if_true]
        rw [sm_congr (g := fun j => c * (b j * v j)) (fun j hj => by grind), sm_mul, ← hc]
        grind
    obtain ⟨h3, h4⟩ := key _ (fun i hi => solv_yes hf h2 i hi)
    exact .inr ⟨_, hs, rfl, h2, h3, h4⟩
theorem solL_bL (n : Nat) (s : St q) : solL n s = bL n (solV n s) := rfl
theorem dotN_rowL (n : Nat) (x y : Nat → Fin q) : dotN (bL n x) (bL n y) % q = fv (sm n (fun j => x j * y j)) := by
  have key : ∀ k, k ≤ n → dotN ((bL n x).take k) ((bL n y).take k) % q = fv (sm k (fun j => x j * y j)) := fun k => by
    induction k with
    | zero => intro _; simp [dotN, sm, fv_zero]
    | succ k ih =>
      intro hk
      rw [dotN_next _ _ k (by rw [bL_len]; omega) (by rw [bL_len]; omega), bL_at, bL_at]
      simp only [sm]
      rw [← fv_add, ← ih (by omega), ← fv_mul, Int.emod_add_emod, Int.add_emod_emod]
  have h := key n (Nat.le_refl _)
  rwa [List.take_of_length_le (by rw [bL_len]; omega), List.take_of_length_le (by rw [bL_len]; omega)] at h
end
/-- What FnSolve meets: both codes tell of a wrong question; or a solution; or a certificate. -/
theorem solve_three (P S C : Int) (zs bs : List Int) :
    (∃ c, (c = 1 ∨ c = 2) ∧ SolRes P S C zs bs [] c ∧ CerRes P S C zs bs [] c) ∨
    (∃ (u : Nat) (_ : NeZero u) (m n : Nat) (A : Mt u) (b x : Nat → Fin u), MIs P S C zs u m n A ∧ bs = bL m b ∧ SolRes P S C zs bs (bL n x) 0 ∧ CerRes P S C zs bs [] 3 ∧ ∀ i, i < m → sm n (fun j => A i j * x j) = b i) ∨
    (∃ (u : Nat) (_ : NeZero u) (m n : Nat) (A : Mt u) (b y : Nat → Fin u), MIs P S C zs u m n A ∧ bs = bL m b ∧ SolRes P S C zs bs [] 3 ∧ CerRes P S C zs bs (bL m y) 0 ∧ (∀ i, i < n → sm m (fun j => A j i * y j) = 0) ∧ sm m (fun j => b j * y j) = 1) := by
  by_cases h : MOk P S C zs
  · by_cases h2 : Vec1 P S bs
    · obtain ⟨u, i, m, n, A, hA⟩ := h.form
      rw [hA.p, hA.r] at h2
      obtain ⟨b, hb⟩ := h2.bL
      rcases solv_or (fd_of hA.pr) (m := m) (n := n) A b with ⟨x, h1, rfl, h3, h4⟩ | ⟨y, h1, rfl, h3, h4, h5⟩
      · exact .inr (.inl ⟨u, i, m, n, A, b, _, hA, hb, .inr ⟨u, i, m, n, A, b, hA, hb, .inl ⟨h1, rfl, rfl⟩⟩, .inr ⟨u, i, m, n, A, b, hA, hb, .inr ⟨h3, rfl, rfl⟩⟩, h4⟩)
      · exact .inr (.inr ⟨u, i, m, n, A, b, _, hA, hb, .inr ⟨u, i, m, n, A, b, hA, hb, .inr ⟨h1, rfl, rfl⟩⟩, .inr ⟨u, i, m, n, A, b, hA, hb, .inl ⟨h3, rfl, rfl⟩⟩, h4, h5⟩)
    · exact .inl ⟨2, .inr rfl, .inl ⟨2, .inr (.inl ⟨h, h2, rfl⟩), by decide, rfl, rfl⟩, .inl ⟨2, .inr (.inl ⟨h, h2, rfl⟩), by decide, rfl, rfl⟩⟩
  · exact .inl ⟨1, .inl rfl, .inl ⟨1, .inl ⟨h, rfl⟩, by decide, rfl, rfl⟩, .inl ⟨1, .inl ⟨h, rfl⟩, by decide, rfl, rfl⟩⟩
/-! ### b10Long, b10Nums, b10Zero -/
theorem long10_yes (a : Option Addr) (l c : Nat) (w : World) (h : 1048576 < l) :
    Calls Try.prog 8 #[.slice a l c] w fun e w' => e = .returned (.bool true) ∧ w = w' := by
  have g : (1048576 : Int) < (l : Int) := by omega
  have g' : decide ((l : Int) > 1048576) = true := by simpa using g
  go_enter Try.func8, Try.ntmps8
  go_wp2
  go_ret
  exact ⟨by simp <;> omega, rfl⟩
theorem long10_no (a : Option Addr) (l c : Nat) (w : World) (h : l ≤ 1048576) :
    Calls Try.prog 8 #[.slice a l c] w fun e w' => e = .returned (.bool false) ∧ w = w' := by
  have g : ¬ (1048576 : Int) < (l : Int) := by omega
  go_enter Try.func8, Try.ntmps8
  go_wp2
  go_ret
  exact ⟨by simp <;> omega, rfl⟩
set_option maxHeartbeats 400000 in
theorem nums10_some (b1 o1 c1 b2 o2 c2 : Nat) (zs : List Int) (w : World) (hl : zs.length ≤ 1048576)
    (h1 : ∀ j (h : j < zs.length), w.cell? ⟨b1, o1 + j, none⟩ = some (.int .i64 zs[j])) (h2 : ∀ j (h : j < zs.length), w.cell? ⟨b2, o2 + j, none⟩ = some (.int .i64 zs[j])) :
    Calls Try.prog 22 #[.slice (some ⟨b1, o1, none⟩) zs.length c1, .slice (some ⟨b2, o2, none⟩) zs.length c2] w fun e w' => e = .returned (.bool true) ∧ ∃ n, w' = w.drewN n := by
  have H1 := Lib.hid h1
  have H2 := Lib.hid h2
  clear h1 h2
  go_enter Try.func22, Try.ntmps22
  go_wp2
  go_loopw [5] (fun i wr => ∃ k n : Nat, k ≤ zs.length ∧ i = .int .i64 (k : Int) ∧ wr = w.drewN n) (fun i _ => zs.length - (intOf i).toNat)
  case atStart => exact ⟨0, 0, Nat.zero_le _, rfl, rfl⟩
  case round =>
    obtain ⟨k, n, hk, rfl, rfl⟩ := hrel
    by_cases hlt : k < zs.length
    · obtain ⟨z, hz⟩ : ∃ z, zs[k] = z := ⟨_, rfl⟩
      have c1 := H1.out k hlt
      have c2 := H2.out k hlt
      rw [hz] at c1 c2
      clear hz
      have i0 : 0 ≤ (k : Int) := by omega
      have i1 : (k : Int) < zs.length := by omega
      have eb : (z != z) = false := by simp
      go_wp2
      go_quiet (fail)
      go_wp2
      go_roundw
      case rel => exact ⟨k + 1, _, by omega, by go_num, rfl⟩
      case measure => simp [intOf]; omega
    · go_wp2
      go_ret
      exact ⟨rfl, _, rfl⟩

theorem nums10_none (a1 a2 : Option Addr) (c1 c2 : Nat) (w : World) :
    Calls Try.prog 22 #[.slice a1 0 c1, .slice a2 0 c2] w fun e w' => e = .returned (.bool true) ∧ ∃ n, w' = w.drewN n := by
  go_enter Try.func22, Try.ntmps22
  go_wp2
  refine wp_loop_rounds 1 ?_
  rw [rounds_succ]
  go_wp2
  go_ret
  exact ⟨rfl, 0, rfl⟩
theorem nums10_any {v1 v2 : Value} {zs : List Int} {w : World} (h1 : IntsAt w v1 zs) (h2 : IntsAt w v2 zs) :
    Calls Try.prog 22 #[v1, v2] w fun e w' => e = .returned (.bool true) ∧ ∃ n, w' = w.drewN n := by
  obtain ⟨a1, c1, rfl, hl, h1⟩ := h1
  obtain ⟨a2, c2, rfl, _, h2⟩ := h2
  by_cases hz : zs = []
  · subst hz
    exact nums10_none a1 a2 c1 c2 w
  · rcases h1 with rfl | ⟨b1, o1, rfl, _, h1⟩
    · exact absurd rfl hz
    rcases h2 with rfl | ⟨b2, o2, rfl, _, h2⟩
    · exact absurd rfl hz
    exact nums10_some b1 o1 c1 b2 o2 c2 zs w hl h1 h2
set_option maxRecDepth 100000 in
set_option maxHeartbeats 1600000 in
theorem zero10_is {u : Value} {zs : List Int} {w : World} {T : Bool} (hu : IntsAt w u zs) (hT : decide (∀ z ∈ zs, z = 0) = T) :
    Calls Try.prog 15 #[u] w fun e w' => e = .returned (.bool T) ∧ w = w' := by
  have HU := Lib.hid hu
  have HT := Lib.hid hT
  obtain ⟨a1, c1, rfl, hl1, -⟩ := hu
  clear hT
  go_enter Try.func15, Try.ntmps15
  go_wp2
  go_loopw [3] (fun si wr => ∃ i : Nat, i ≤ zs.length ∧ si = .int .i64 (i : Int) ∧ Hid (∀ j (h : j < zs.length), j < i → zs[j] = 0) ∧ w = wr) (fun si _ => zs.length - (intOf si).toNat)
  case atStart => exact ⟨0, Nat.zero_le _, rfl, fun j h hj => absurd hj (Nat.not_lt_zero j), rfl⟩
  case round =>
    obtain ⟨i, hi, rfl, HZ, rfl⟩ := hrel
    by_cases hlt : i < zs.length
    · have i0 : (0 : Int) ≤ (i : Int) := by omega
      have i1 : (i : Int) < (zs.length : Int) := by omega
      obtain ⟨b1, o1, rfl, d1⟩ : ∃ b o, a1 = some ⟨b, o, none⟩ ∧ w.cell? ⟨b, o + i, none⟩ = some (.int .i64 zs[i]) := by
        obtain ⟨a', c', e', -, h | ⟨b, o, rfl, hb, h⟩⟩ := HU.out
        · rw [h] at hlt; simp at hlt
        · simp only [Value.slice.injEq] at e'
          exact ⟨b, o, e'.1, h i hlt⟩
      by_cases hz : zs[i] = 0
      · rw [hz] at d1
        have HZ2 : Hid (∀ j (h : j < zs.length), j < i + 1 → zs[j] = 0) := fun j h hj => by
          by_cases e : j < i
          · exact HZ.out j h e
          · obtain rfl : j = i := by omega
            exact hz
        clear hz
        go_wp2
        go_roundw
        case rel => exact ⟨i + 1, by omega, by go_num, HZ2.out, by first | rfl | trivial⟩
        case measure => simp [intOf]; omega
      · have ht : T = false := by
          rw [← HT.out]; simp only [decide_eq_false_iff_not]
          exact fun h => hz (h _ (List.getElem_mem hlt))
        subst ht
        obtain ⟨x, hx⟩ : ∃ x, zs[i] = x := ⟨_, rfl⟩
        rw [hx] at d1 hz
        have ex : (x != 0) = true := by simpa using hz
        clear hx
        go_wp2
        go_ret
        exact ⟨rfl, rfl⟩
    · obtain rfl : i = zs.length := by omega
      have ht : T = true := by
        rw [← HT.out]; simp only [decide_eq_true_eq]
        intro z hz
        obtain ⟨j, hj, rfl⟩ := List.getElem_of_mem hz
        exact HZ.out j hj hj
      subst ht
      go_wp2
      go_ret
      exact ⟨rfl, rfl⟩
end Go.Proofs.Ytpimnngomodnhaa
