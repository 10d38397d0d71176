/-
  Cutting a text at a byte: the library's Split and the model's own.
-/
import Derived.Test.YtjgajnhefhgpkaaDoorSplMath
import Derived.Test.YtjgajnhefhgpkaaDoorInts
import Derived.Test.YtjgajnhefhgpkaaDoorShSplit
import Derived.Test.YtjgajnhefhgpkaaDoorShCount
import Derived.WalkSmall
namespace Go.Proofs.YtjgajnhefhgpkaaDoor
open Go.RowKit Go.Shelf
set_option linter.unusedVariables false

/-- Texts as cells. -/
def tv (ls : List (List UInt8)) : List Value := ls.map fun l => Value.string ⟨l.toArray⟩
theorem tv_len (ls : List (List UInt8)) : (tv ls).length = ls.length := by simp [tv]
theorem tv_at (ls : List (List UInt8)) (j : Nat) (h : j < ls.length) : (tv ls)[j]? = some (.string ⟨ls[j].toArray⟩) := by simp [tv, List.getElem?_eq_getElem h]
theorem tv_snoc (ls : List (List UInt8)) (l : List UInt8) : tv (ls ++ [l]) = tv ls ++ [.string ⟨l.toArray⟩] := by simp [tv]
/-- A slice of texts in a row of the call's own, from block B on. -/
def OwnT (B : Nat) (w : World) (v : Value) (ls : List (List UInt8)) : Prop := w.ownsRow B 9 1 v ls.length (tv ls)
theorem OwnT.out {B : Nat} {w : World} {v : Value} {ls : List (List UInt8)} (h : OwnT B w v ls) : w.ownsRow B 9 1 v ls.length (tv ls) := h
theorem OwnT.form {B : Nat} {w : World} {v : Value} {ls : List (List UInt8)} (h : OwnT B w v ls) : ls = [] ∧ v = .slice none 0 0 ∨
    ∃ g cap, v = .slice (some ⟨g, 0, none⟩) ls.length cap ∧ B ≤ g ∧ g < w.heap.size ∧ (∀ j (h : j < ls.length), w.cell? ⟨g, j, none⟩ = some (.string ⟨ls[j].toArray⟩)) ∧ ∀ j, w.frozen? ⟨g, j, none⟩ = false := by
  have h' := h
  obtain ⟨hx, ⟨rfl, hn⟩ | ⟨g, cap, cur, rfl, hg, hcur, _⟩⟩ := h
  · exact .inl ⟨List.eq_nil_of_length_eq_zero hn, rfl⟩
  · have hl := h'.out.lt g rfl
    refine .inr ⟨g, cap, rfl, hl.1, hl.2, fun j hj => ?_, fun j => h'.out.frozenAt j⟩
    rw [h'.out.cellAt j (by omega), tv_at ls j hj]
theorem OwnT.on {B : Nat} {w w' : World} {v : Value} {ls : List (List UInt8)} (h : OwnT B w v ls) (hb : Below w.heap.size w w') : OwnT B w' v ls := by
  obtain ⟨hx, ⟨rfl, hn⟩ | ⟨g, cap, cur, rfl, hg, hcur, r⟩⟩ := h
  · exact ⟨hx, .inl ⟨rfl, hn⟩⟩
  · refine ⟨hx, .inr ⟨g, cap, cur, rfl, hg, ?_, r⟩⟩
    have : g < w.heap.size := by
      rcases Nat.lt_or_ge g w.heap.size with h | h
      · exact h
      · simp [Array.getElem?_eq_none h] at hcur
    rw [hb.block g this]; exact hcur
theorem bytes_eta (t : ByteArray) : (⟨t.data.toList.toArray⟩ : ByteArray) = t := by obtain ⟨⟨x⟩⟩ := t; rfl
theorem tv_bytes (bs : List ByteArray) : tv (bs.map (·.data.toList)) = bs.map Value.string := by
  unfold tv
  rw [List.map_map]
  apply List.map_congr_left
  intro b _
  show Value.string ⟨b.data.toList.toArray⟩ = _
  rw [bytes_eta]

/-- strings.Split at a separator of one byte. -/
theorem split_any (s : ByteArray) (c : UInt8) (w : World) (hs : s.size ≤ 1048576) :
    Calls Tryd.prog 43 #[.string s, .string ⟨#[c]⟩] w fun e w' => ∃ cap, e = .returned (.slice (some ⟨w.heap.size, 0, none⟩) (spl c s.data.toList).length cap) ∧
      OwnT w.heap.size w' (.slice (some ⟨w.heap.size, 0, none⟩) (spl c s.data.toList).length cap) (spl c s.data.toList) ∧ Below w.heap.size w w' ∧ w.heap.size < w'.heap.size := by
  have h1 : 1 ≤ (⟨#[c]⟩ : ByteArray).size := Nat.le_refl _
  have hle := Lib.countB_le ⟨#[c]⟩ h1 s.size s (Nat.le_refl _)
  have hlen := Lib.splitB_all ⟨#[c]⟩ h1 0 _ s rfl
  have cc := Any.strings_genSplit_core (P := Tryd.prog) { Tryd.laysM146 with } Tryd.laysM146.i9 s ⟨#[c]⟩ 0 (-1) (Lib.countB s ⟨#[c]⟩ + 1) w (by omega) h1 (Nat.zero_le _)
    (fun x _ _ => (Any.strings_Index_one { Tryd.laysM146 with } x c _).mono fun e w' ⟨he, hw⟩ => ⟨by rw [he]; show _ = Ending.returned (Value.int .i64 (Lib.index x.data.toList [c])); rw [Lib.index_one], hw⟩)
    ((Any.strings_Count_one { Tryd.laysM146 with } s c w).mono fun e w' ⟨he, hw⟩ => ⟨by rw [he]; show _ = Ending.returned (Value.int .i64 ((Lib.count s.data.toList [c] : Nat) : Int)); rw [Lib.count_one]; rfl, hw⟩)
    (by decide) (by decide) (by rw [if_pos (by decide)]; omega)
  rw [Nat.add_sub_cancel, hlen] at cc
  have e2 : Lib.cellsOf (Lib.splitB ⟨#[c]⟩ 0 (Lib.countB s ⟨#[c]⟩) s) (Lib.countB s ⟨#[c]⟩ + 1) = ((Lib.splitB ⟨#[c]⟩ 0 (Lib.countB s ⟨#[c]⟩) s).map Value.string).toArray := by rw [← hlen]; exact Lib.cellsOf_full _
  rw [e2] at cc
  have e3 : (spl c s.data.toList).length = Lib.countB s ⟨#[c]⟩ + 1 := by rw [← splitB_spl, List.length_map, hlen]
  have e4 : (Lib.splitB ⟨#[c]⟩ 0 (Lib.countB s ⟨#[c]⟩) s).map Value.string = tv (spl c s.data.toList) := by rw [← splitB_spl, tv_bytes]
  rw [e4] at cc
  have hO : Hid (OwnT w.heap.size (w.alloc (.cells (tv (spl c s.data.toList)).toArray 9)) (.slice (some ⟨w.heap.size, 0, none⟩) (spl c s.data.toList).length (spl c s.data.toList).length) (spl c s.data.toList)) := by
    have := World.ownsRow_lit (base := w.heap.size) (size := 1) (e := 9) w (tv (spl c s.data.toList)).toArray (spl c s.data.toList).length (Nat.le_refl _) (by unfold maxLen; omega) (by simp [tv_len])
    simpa [OwnT, Hid] using this
  have HE := Lib.hid e3
  have HC := Lib.hid cc
  clear e2 e3 e4 hlen hle cc
  go_enter Tryd.func43, Tryd.ntmps43
  go_wp2_with fail
  refine HC.out.mono ?_
  rintro e w' ⟨rfl, hw⟩
  rw [hw]
  go_wp2_with fail
  go_ret
  refine ⟨(spl c s.data.toList).length, ?_, hO.out, (Below.refl _ _).alloc (Nat.le_refl _) _, by simp⟩
  rw [HE.out]
  rfl
end Go.Proofs.YtjgajnhefhgpkaaDoor
