/-
  The model's cutting of a text at a byte.
-/
import Derived.Test.YtjgajnhefhgpkaaDoorSplit
namespace Go.Proofs.YtjgajnhefhgpkaaDoor
open Go.RowKit
set_option linter.unusedVariables false

theorem info9s : (Tryd.prog.info? 9).map (fun i => (i.zero, i.size, i.bytes)) = some (some (.string ⟨#[]⟩), 1, 16) := by kernel_rfl
theorem one_cell_t (w : World) (x : Value) (t : TypeId) : ∀ j u, [x][j]? = some u → (w.alloc (.cells #[x] t)).cell? ((⟨w.heap.size, 0, none⟩ : Addr).add j) = some u := by
  intro j u hj
  cases j with
  | zero => simp at hj; subst hj; simp [Addr.add]
  | succ j => simp at hj
theorem OwnT.push {B : Nat} {w : World} {v : Value} {ls : List (List UInt8)} {l : List UInt8} {t : ByteArray} (ht : t.data.toList = l) (h : w.ownsRow B 9 1 v (ls.length + 1) (tv ls ++ [.string t])) : OwnT B w v (ls ++ [l]) := by
  subst ht
  unfold OwnT; rw [List.length_append, tv_snoc, bytes_eta]; exact h
theorem OwnT.made (w : World) (B : Nat) (hB : B ≤ w.heap.size) : OwnT B (w.alloc (.cells #[] 9)) (.slice (some ⟨w.heap.size, 0, none⟩) 0 0) [] :=
  World.ownsRow_made w #[] 0 hB (by unfold maxLen; omega) rfl
theorem below_pushT {B0 B : Nat} {w0 w w1 : World} {v : Value} {ls : List (List UInt8)} {o : Obj} (hb : Below B0 w0 w) (hle : B0 ≤ B) (hB : B ≤ w.heap.size) (h : OwnT B w v ls) (hg : (w.alloc o).grownBy w1 v.ownBlock) : Below B0 w0 w1 :=
  (hb.alloc (by omega) o).grown hg (by simp; omega) (fun k hk => by have := (h.out.lt k hk).1; omega)
theorem size_pushT {w w1 : World} {v : Value} {o : Obj} (hg : (w.alloc o).grownBy w1 v.ownBlock) : w.heap.size ≤ w1.heap.size := by
  have := hg.size; simp at this; omega

/-- The bytes from a to b. -/
def cut (s : ByteArray) (a b : Nat) : List UInt8 := (s.data.toList.take b).drop a
theorem cut_extract (s : ByteArray) (a b : Nat) : (s.extract a b).data.toList = cut s a b := by
  unfold cut
  rw [ByteArray.data_extract, Array.toList_extract, List.extract_eq_take_drop, List.drop_take]
theorem cut_self (s : ByteArray) (a : Nat) : cut s a a = [] := List.drop_eq_nil_of_le (by simp; omega)
theorem cut_next (s : ByteArray) (a b : Nat) (h : b < s.size) (ha : a ≤ b) : cut s a (b + 1) = cut s a b ++ [s[b]] := by
  have hl : s.data.toList.length = s.size := by rw [Array.length_toList]; rfl
  unfold cut
  rw [List.take_succ_eq_append_getElem (by rw [hl]; exact h), List.drop_append_of_le_length (by simp; omega)]; rfl
theorem drop_byte (s : ByteArray) (b : Nat) (h : b < s.size) : s.data.toList.drop b = s[b] :: s.data.toList.drop (b + 1) := by
  have hl : s.data.toList.length = s.size := by rw [Array.length_toList]; rfl
  rw [List.drop_eq_getElem_cons (by rw [hl]; exact h)]; rfl
/-- What the loop has cut: the pieces P, and from byte a on what is still open. -/
def Cut (s : ByteArray) (c : UInt8) (P : List (List UInt8)) (a b : Nat) : Prop := spl c s.data.toList = P ++ glue (cut s a b) (spl c (s.data.toList.drop b))
theorem cut_start (s : ByteArray) (c : UInt8) : Cut s c [] 0 0 := by
  unfold Cut; rw [cut_self, glue_nil _ (spl_ne _ _)]; rfl
theorem cut_go {s : ByteArray} {c : UInt8} {P : List (List UInt8)} {a b : Nat} (h : Cut s c P a b) (hb : b < s.size) (ha : a ≤ b) (hc : s[b] ≠ c) : Cut s c P a (b + 1) := by
  unfold Cut at *
  rw [h, drop_byte s b hb, spl, if_neg hc, glue_glue, cut_next s a b hb ha]
theorem cut_hit {s : ByteArray} {c : UInt8} {P : List (List UInt8)} {a b : Nat} (h : Cut s c P a b) (hb : b < s.size) (hc : s[b] = c) : Cut s c (P ++ [cut s a b]) (b + 1) (b + 1) := by
  unfold Cut at *
  rw [h, drop_byte s b hb, spl, if_pos hc, glue_cons_nil, cut_self, glue_nil _ (spl_ne _ _), List.append_assoc]; rfl
theorem cut_end {s : ByteArray} {c : UInt8} {P : List (List UInt8)} {a : Nat} (h : Cut s c P a s.size) : spl c s.data.toList = P ++ [cut s a s.size] := by
  have hl : s.data.toList.length = s.size := by rw [Array.length_toList]; rfl
  unfold Cut at h
  rw [h, List.drop_eq_nil_of_le (by rw [hl]; exact Nat.le_refl _)]
  simp [spl, glue]
/-- How a call ends that hands back a slice of texts of its own. -/
def RetT (w : World) (ls : List (List UInt8)) (e : Ending) (w' : World) : Prop := ∃ v, e = .returned v ∧ OwnT w.heap.size w' v ls ∧ Below w.heap.size w w' ∧ w.heap.size < w'.heap.size

set_option maxHeartbeats 800000 in
set_option maxRecDepth 100000 in
theorem l01Split_any (s : ByteArray) (c : UInt8) (w : World) (hs : s.size ≤ 1048576) :
    Calls Tryd.prog 49 #[.string s, .int .u8 (c.toNat : Int)] w fun e w' => RetT w (spl c s.data.toList) e w' := by
  obtain ⟨i0, hi, hz0, hz1, hz2⟩ := info_parts info9s
  obtain ⟨x, hx⟩ : ∃ x : Int, (c.toNat : Int) = x := ⟨_, rfl⟩
  rw [hx]
  have HX := Lib.hid hx
  clear hx
  go_enter Tryd.func49, Tryd.ntmps49
  go_wp2
  go_loopw [5, 6, 7] (fun o f i wr => ∃ (a b : Nat) (P : List (List UInt8)), a ≤ b ∧ b ≤ s.size ∧ f = .int .i64 (a : Int) ∧ i = .int .i64 (b : Int) ∧ Hid (Cut s c P a b) ∧ P.length ≤ b ∧ OwnT w.heap.size wr o P ∧ Below w.heap.size w wr ∧ w.heap.size < wr.heap.size) (fun _ _ i _ => s.size - (intOf i).toNat)
  case atStart => exact ⟨0, 0, [], Nat.le_refl _, Nat.zero_le _, rfl, rfl, cut_start s c, Nat.zero_le _, OwnT.made w _ (Nat.le_refl _), (Below.refl _ _).alloc (Nat.le_refl _) _, by simp⟩
  case round =>
    obtain ⟨a, b, P, hab, hbs, rfl, rfl, hc, hP, hown, hb, hsz⟩ := hrel
    by_cases hlt : b < s.size
    · have q0 : 0 ≤ (s[b].toNat : Int) := by omega
      have q1 : (s[b].toNat : Int) ≤ 255 := by have := s[b].toNat_lt; omega
      by_cases he : s[b] = c
      · have hq : ((s[b].toNat : Int) == x) = true := by rw [beq_iff_eq, he]; exact HX.out
        have HC := Lib.hid (cut_hit hc.out hlt he)
        have HE := Lib.hid (cut_extract s a b)
        have hlen : P.length + 1 ≤ 1048577 := by omega
        have HP : Hid ((P ++ [cut s a b]).length ≤ b + 1) := by show _ ≤ _; simp; omega
        clear hc he
        go_wp2_with (at_builtin; refine wpList_append_own _ rfl _ _ 40 rfl w.heap.size 9 i0 (.string ⟨#[]⟩) 1 16 Tryd.underlying40 hi hz0 hz1 hz2 rfl (by decide) _ _ _ rfl (hown.out.alloc _) ⟨wr.heap.size, 0, none⟩ 1 1 [.string (s.extract a b)] rfl rfl ?ah1 ?ah2 ?ah3 ?ah4 ?ah5 ?_)
        try (case ah1 => exact one_cell_t _ _ _)
        case ah2 => first | rfl | (intro u hu; simp at hu; subst hu; rfl)
        case ah3 => unfold maxLen; omega
        case ah4 => omega
        case ah5 => first | omega | (simp; omega)
        intro v1 w1 hown1 hgrow _
        have hO := OwnT.push HE.out hown1
        have hB1 := below_pushT hb (Nat.le_refl _) (Nat.le_of_lt hsz) hown hgrow
        have hS1 : w.heap.size < w1.heap.size := by have := size_pushT hgrow; omega
        clear hown1 hgrow hown hb
        go_wp2
        go_roundw
        case rel => exact ⟨b + 1, b + 1, _, by omega, by omega, by go_num, by go_num, HC, HP.out, hO, hB1, hS1⟩
        case measure => simp [intOf]; omega
      · have hq : ((s[b].toNat : Int) == x) = false := by
          rw [beq_eq_false_iff_ne, ← HX.out]
          intro y
          exact he (UInt8.toNat_inj.mp (by omega))
        have HC := Lib.hid (cut_go hc.out hlt hab he)
        clear hc he
        go_wp2
        go_roundw
        case rel => exact ⟨a, b + 1, P, by omega, by omega, rfl, by go_num, HC, by omega, hown, hb, hsz⟩
        case measure => simp [intOf]; omega
    · obtain rfl : b = s.size := by omega
      have HC := Lib.hid (cut_end hc.out)
      have HE := Lib.hid (cut_extract s a s.size)
      have hlen : P.length + 1 ≤ 1048577 := by omega
      clear hc
      go_wp2_with (at_builtin; refine wpList_append_own _ rfl _ _ 40 rfl w.heap.size 9 i0 (.string ⟨#[]⟩) 1 16 Tryd.underlying40 hi hz0 hz1 hz2 rfl (by decide) _ _ _ rfl (hown.out.alloc _) ⟨wr.heap.size, 0, none⟩ 1 1 [.string (s.extract a s.size)] rfl rfl ?bh1 ?bh2 ?bh3 ?bh4 ?bh5 ?_)
      try (case bh1 => exact one_cell_t _ _ _)
      case bh2 => first | rfl | (intro u hu; simp at hu; subst hu; rfl)
      case bh3 => unfold maxLen; omega
      case bh4 => omega
      case bh5 => first | omega | (simp; omega)
      intro v1 w1 hown1 hgrow _
      have hO := OwnT.push HE.out hown1
      have hB1 := below_pushT hb (Nat.le_refl _) (Nat.le_of_lt hsz) hown hgrow
      have hS1 : w.heap.size < w1.heap.size := by have := size_pushT hgrow; omega
      clear hown1 hgrow hown hb
      go_wp2
      go_ret
      exact ⟨_, rfl, by rw [HC.out]; exact hO, hB1, hS1⟩
end Go.Proofs.YtjgajnhefhgpkaaDoor
