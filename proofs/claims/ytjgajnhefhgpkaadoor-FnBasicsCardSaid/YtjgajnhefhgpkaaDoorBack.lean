/-
  Plain mathematics: a number's text spells the number, and a list's text is taken apart at its commas.
-/
import Derived.Test.YtjgajnhefhgpkaaDoorReadList
import Derived.Test.YtjgajnhefhgpkaaDoorListText
namespace Go.Proofs.YtjgajnhefhgpkaaDoor
set_option linter.unusedVariables false

theorem valD_dec (k : Nat) : ∀ u, u ≤ k → valD (Lib.decDigits u) = u := by
  have one : ∀ u, u < 10 → valD (Lib.decDigits u) = u := by
    intro u hu
    have t : (UInt8.ofNat (48 + u)).toNat = 48 + u := by rw [UInt8.toNat_ofNat']; omega
    rw [Lib.decDigits, dif_pos hu]
    show accD 0 (UInt8.ofNat (48 + u)) = u
    unfold accD
    rw [t]; omega
  induction k with
  | zero => intro u h; exact one u (by omega)
  | succ k ih =>
    intro u h
    by_cases hu : u < 10
    · exact one u hu
    · have := ih (u / 10) (by omega)
      have t : (UInt8.ofNat (48 + u % 10)).toNat = 48 + u % 10 := by rw [UInt8.toNat_ofNat']; omega
      rw [Lib.decDigits, dif_neg hu, valD_snoc, this, t]
      omega
theorem dig_not {l : List UInt8} (h : l.all isDg = true) (c : UInt8) (hc : c.toNat < 48) : ∀ b ∈ l, b ≠ c := by
  intro b hb e
  have := List.all_eq_true.mp h b hb
  subst e
  simp [isDg] at this
  omega
theorem numOf_itoa (z : Int) : numOf (Lib.itoa z) = z := by
  unfold Lib.itoa
  split
  · rename_i h
    unfold numOf
    rw [if_pos (by unfold sgn; rw [if_pos (by rfl)])]
    show -((valD (Lib.decDigits z.natAbs) : Nat) : Int) = z
    rw [valD_dec _ _ (Nat.le_refl _)]; omega
  · rename_i h
    obtain ⟨a, b, _, _⟩ := dec_all z.toNat z.toNat (Nat.le_refl _)
    have hs : sgn (Lib.decDigits z.toNat) = 0 := by
      unfold sgn
      rw [if_neg]
      intro hx
      obtain ⟨r, hr⟩ := head_some hx
      exact dig_not a 45 (by decide) 45 (by rw [hr]; simp) rfl
    unfold numOf
    rw [if_neg (by rw [hs]; decide), valD_dec _ _ (Nat.le_refl _)]; omega
theorem itoa_not44 (z : Int) : ∀ b ∈ Lib.itoa z, b ≠ 44 := by
  unfold Lib.itoa
  split
  · obtain ⟨a, _, _, _⟩ := dec_all z.natAbs z.natAbs (Nat.le_refl _)
    intro b hb
    rcases List.mem_cons.mp hb with rfl | hb
    · decide
    · exact dig_not a 44 (by decide) b hb
  · obtain ⟨a, _, _, _⟩ := dec_all z.toNat z.toNat (Nat.le_refl _)
    exact dig_not a 44 (by decide)
theorem spl_pre (c : UInt8) (l r : List UInt8) (h : ∀ b ∈ l, b ≠ c) : spl c (l ++ r) = glue l (spl c r) := by
  induction l with
  | nil => rw [List.nil_append, glue_nil _ (spl_ne c r)]
  | cons x t ih =>
    have hx : x ≠ c := h x (by simp)
    rw [List.cons_append, spl, if_neg hx, ih (fun b hb => h b (by simp [hb])), glue_glue]
    rfl
theorem spl_tail (r : List Int) : ∀ z, spl 44 (Lib.itoa z ++ Lib.joinTail [44] (r.map Lib.itoa)) = Lib.itoa z :: r.map Lib.itoa := by
  induction r with
  | nil =>
    intro z
    rw [spl_pre 44 _ _ (itoa_not44 z)]
    simp [Lib.joinTail, spl, glue]
  | cons y t ih =>
    intro z
    have e : Lib.joinTail [44] ((y :: t).map Lib.itoa) = 44 :: (Lib.itoa y ++ Lib.joinTail [44] (t.map Lib.itoa)) := by simp [Lib.joinTail]
    rw [spl_pre 44 _ _ (itoa_not44 z), e, spl, if_pos rfl, ih y, glue_cons_nil]
    rfl
theorem spl_joinT (zs : List Int) (h : zs ≠ []) : spl 44 (joinT zs) = zs.map Lib.itoa := by
  cases zs with
  | nil => exact absurd rfl h
  | cons z r =>
    unfold joinT
    rw [List.map_cons, Lib.join_cons]
    exact spl_tail r z
theorem back_rl {zs ys : List Int} {ok : Bool} (hf : Fits zs) (h2 : 2 ≤ zs.length) (h : RL (joinT zs) ys ok) : ys = zs ∧ ok = true := by
  have hne : zs ≠ [] := by intro e; subst e; simp at h2
  have hs := spl_joinT zs hne
  have h45 : joinT zs ≠ [45] := by
    intro e
    rw [e] at hs
    have := congrArg List.length hs
    rw [List.length_map] at this
    have : (spl 44 [45]).length = 1 := by rfl
    omega
  have hg : Good (spl 44 (joinT zs)) := by
    rw [hs]
    refine ⟨by rw [List.length_map]; exact hf.2, ?_⟩
    intro p hp
    obtain ⟨z, hz, rfl⟩ := List.mem_map.mp hp
    obtain ⟨z0, z1⟩ := hf.1 z hz
    rw [numOf_itoa]
    exact ⟨itoa_isNum z (by omega) (by omega), z0, z1⟩
  have hm : (spl 44 (joinT zs)).map numOf = zs := by
    rw [hs, List.map_map]
    have : (numOf ∘ Lib.itoa) = id := by funext z; exact numOf_itoa z
    rw [this, List.map_id]
  rcases h with ⟨a, _⟩ | ⟨a, b, rfl, rfl⟩ | ⟨a, b, _⟩
  · exact absurd a h45
  · exact ⟨hm, rfl⟩
  · exact absurd hg b
/-- The text of a list of two numbers or more within the limits. -/
theorem txt_join {zs : List Int} {l : List UInt8} (hf : Fits zs) (h2 : 2 ≤ zs.length) (h : IsTxt zs l) : l = joinT zs := by
  rcases h with ⟨a, _⟩ | ⟨_, b, _⟩ | ⟨_, _, c⟩
  · exact absurd hf a
  · subst b; simp at h2
  · exact c
theorem join_size {s : ByteArray} {zs : List Int} (hf : Fits zs) (h : s.data.toList = joinT zs) : s.size ≤ 1600 := by
  have := joinT_len zs hf zs.length (Nat.le_refl _)
  rw [List.take_length] at this
  have e := len_bytes s
  rw [h] at e
  have := hf.2
  omega
theorem num_back {s : ByteArray} {z : Int} {e : Go.Ending} (h0 : -999999999999999999 ≤ z) (h1 : z ≤ 999999999999999999) (hs : s.data.toList = Lib.itoa z) (h : NumRes s e) : e = .returned (.tuple #[.int .i64 z, .bool true]) := by
  unfold NumRes at h
  rw [hs] at h
  rcases h with ⟨_, e⟩ | ⟨a, _⟩
  · rw [numOf_itoa] at e; exact e
  · exact absurd (itoa_isNum z h0 h1) a
end Go.Proofs.YtjgajnhefhgpkaaDoor
