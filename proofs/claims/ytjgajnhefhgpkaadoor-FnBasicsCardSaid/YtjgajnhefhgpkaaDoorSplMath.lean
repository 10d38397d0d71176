/-
  Plain mathematics of cutting a byte list at each byte c: the library's pieces are the model's.
-/
import Derived.Lib.Split
import Derived.Lib.SplitLaws
import Derived.Lib.IndexBytes
import Derived.Lib.Replace
namespace Go.Proofs.YtjgajnhefhgpkaaDoor

/-- A piece put ahead of the first one. -/
def glue (p : List UInt8) : List (List UInt8) → List (List UInt8)
  | [] => [p]
  | h :: t => (p ++ h) :: t
/-- The pieces between the bytes c. -/
def spl (c : UInt8) : List UInt8 → List (List UInt8)
  | [] => [[]]
  | x :: r => if x = c then [] :: spl c r else glue [x] (spl c r)
theorem spl_ne (c : UInt8) (l : List UInt8) : spl c l ≠ [] := by
  cases l with
  | nil => simp [spl]
  | cons x r =>
    unfold spl
    split
    · simp
    · cases spl c r <;> simp [glue]
theorem glue_nil (ls : List (List UInt8)) (h : ls ≠ []) : glue [] ls = ls := by
  cases ls with
  | nil => exact absurd rfl h
  | cons a t => rfl
theorem glue_glue (p q : List UInt8) (ls : List (List UInt8)) : glue p (glue q ls) = glue (p ++ q) ls := by
  cases ls <;> simp [glue]
theorem glue_cons_nil (p : List UInt8) (ls : List (List UInt8)) : glue p ([] :: ls) = p :: ls := by simp [glue]
theorem spl_len (c : UInt8) (l : List UInt8) : (spl c l).length = l.count c + 1 := by
  induction l with
  | nil => rfl
  | cons x r ih =>
    unfold spl
    split
    · rename_i h; subst h; simp [ih]
    · rename_i h
      have e : (glue [x] (spl c r)).length = (spl c r).length := by
        have := spl_ne c r
        cases hs : spl c r with
        | nil => exact absurd hs this
        | cons a t => rfl
      rw [e, ih, List.count_cons_of_ne h]
theorem index_cons (b c : UInt8) (r : List UInt8) (h : b ≠ c) (i : Nat) (hi : Lib.index r [c] = i) : Lib.index (b :: r) [c] = ((i + 1 : Nat) : Int) := by
  rw [Lib.index_one] at hi ⊢
  unfold Lib.indexByte
  rw [hi]
  simp [h]
theorem splitK_spl (c : UInt8) (l : List UInt8) : Lib.splitK [c] 0 (l.count c) l = spl c l := by
  induction l with
  | nil => rfl
  | cons b r ih =>
    by_cases h : b = c
    · subst h
      rw [List.count_cons_self]
      have hi : Lib.index (b :: r) [b] = 0 := by rw [Lib.index_one]; simp [Lib.indexByte]
      unfold Lib.splitK
      rw [hi, if_neg (by decide)]
      simp only [Int.toNat_zero, Nat.zero_add, List.take_zero, List.length_cons, List.length_nil, List.drop_succ_cons, List.drop_zero]
      rw [ih, spl, if_pos rfl]
    · rw [List.count_cons_of_ne h]
      have e : spl c (b :: r) = glue [b] (spl c r) := by rw [spl, if_neg h]
      rw [e, ← ih]
      cases hk : r.count c with
      | zero => simp [Lib.splitK, glue]
      | succ k =>
        obtain ⟨i, hi⟩ := Lib.index_of_count (s := r) (old := [c]) (by rw [Lib.count_one]; omega)
        have hi2 := index_cons b c r h i hi
        unfold Lib.splitK
        rw [hi, hi2, if_neg (by rw [beq_iff_eq]; omega), if_neg (by rw [beq_iff_eq]; omega)]
        simp [glue]
/-- The library's pieces. -/
theorem splitB_spl (s : ByteArray) (c : UInt8) : (Lib.splitB ⟨#[c]⟩ 0 (Lib.countB s ⟨#[c]⟩) s).map (·.data.toList) = spl c s.data.toList := by
  rw [Lib.splitB_data]
  show Lib.splitK [c] 0 (Lib.count s.data.toList [c]) s.data.toList = _
  rw [Lib.count_one, splitK_spl]
end Go.Proofs.YtjgajnhefhgpkaaDoor
