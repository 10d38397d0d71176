/-
  A vector is drawn, by the model.
-/
import Derived.Test.YtpimnngomodnhaaMDr
namespace Go.Proofs.Ytpimnngomodnhaa
open Go.RowKit
set_option linter.unusedVariables false
set_option linter.unusedSectionVars false

theorem max_any (a b : Int) (w : World) :
    Calls Try.prog 122 #[.int .i64 a, .int .i64 b] w fun e w' => e = .returned (.int .i64 (if a > b then a else b)) ∧ w = w' := by
  by_cases h : a > b
  · rw [if_pos h]
    go_enter Try.func122, Try.ntmps122
    go_wp2
    go_ret
    exact ⟨rfl, rfl⟩
  · rw [if_neg h]
    have h' : decide (b < a) = false := by simpa using h
    clear h
    go_enter Try.func122, Try.ntmps122
    go_wp2
    go_ret
    exact ⟨rfl, rfl⟩
/-- A drawn list. -/
def RetDV (p : Nat) (a : Option Addr) (len cap K : Nat) (n : Nat) (q : Int) (w : World) (e : Ending) (w' : World) : Prop :=
  ∃ v zs, e = .returned v ∧ zs.length = n ∧ (∀ z ∈ zs, 0 ≤ z ∧ (2 ≤ q → z < q)) ∧ OwnI w.heap.size w' v zs ∧ Sc p a len cap K w' ∧ w.grownBy w' (some p)
theorem gb_pushS {w wr w2 : World} {p : Nat} {o : Obj} {vb : Option Nat} (h : w.grownBy wr (some p)) (g : (wr.alloc o).grownBy w2 vb) (hv : ∀ k, vb = some k → w.heap.size ≤ k) : w.grownBy w2 (some p) := by
  have hz : wr.heap.size + 1 ≤ w2.heap.size := by have := g.size; simpa using this
  refine ⟨g.os.trans h.os, g.tape.trans h.tape, g.output.trans h.output, by have := h.size; omega, fun k hk hr => ?_⟩
  have hk2 : k < wr.heap.size := Nat.lt_of_lt_of_le hk h.size
  rw [g.block k (by simp; omega) (fun e => by have := hv k e.symm; omega), Below.heap_alloc _ _ _ hk2, h.block k hk hr]
set_option maxRecDepth 100000 in
set_option maxHeartbeats 1600000 in
theorem drawVector_any {p : Nat} {a : Option Addr} {len cap K : Nat} {w : World} (n : Nat) (q : Int) (hn : n ≤ 64) (hq : q ≤ 257) (hK : K ≤ 800000000) (h : Sc p a len cap K w) :
    Calls Try.prog 92 #[.pointer (some ⟨p, 0, none⟩), .int .i64 (n : Int), .int .i64 q] w fun e w' => RetDV p a len cap (K + 2 * n) n q w e w' := by
  obtain ⟨i0, hi, hz0, hz1, hz2⟩ := info_parts info2
  have hpw := h.2.1
  have H := Lib.hid (h.alloc (.cells #[] 2))
  obtain ⟨m, hm⟩ : ∃ m, (if 1 > q then 1 else q) = m := ⟨_, rfl⟩
  have hm1 : m ≤ 257 := by rw [← hm]; split <;> omega
  have HM := Lib.hid hm
  clear h hm
  go_enter Try.func92, Try.ntmps92
  go_wp2
  go_loopw [7, 8] (fun v i wr => ∃ (k : Nat) (zs : List Int), k ≤ n ∧ zs.length = k ∧ i = .int .i64 (k : Int) ∧ Hid (∀ z ∈ zs, 0 ≤ z ∧ (2 ≤ q → z < q)) ∧ OwnI w.heap.size wr v zs ∧ Sc p a len cap (K + 2 * k) wr ∧ w.grownBy wr (some p)) (fun _ i _ => n - (intOf i).toNat)
  case atStart => exact ⟨0, [], Nat.zero_le _, rfl, rfl, (fun z hz => by simp at hz), World.ownsRow_made w #[] 0 (Nat.le_refl _) (by unfold maxLen; omega) rfl, H.out, sgb_alloc _ _ _⟩
  case round =>
    obtain ⟨k, zs, hk, hzl, rfl, HZZ, hown, hsc, hgr⟩ := hrel
    by_cases hlt : k < n
    · have HO := Lib.hid hown
      have HS := Lib.hid hsc
      have HG := Lib.hid hgr
      have HZL := Lib.hid hzl
      have hsz := hgr.size
      have hki : (k : Int) < n := by omega
      clear hown hsc hgr hzl
      go_wp2_with fail
      refine (max_any 1 q _).mono ?_
      rintro e w2 ⟨rfl, rfl⟩
      rw [HM.out]
      go_wp2_with fail
      refine (pick_any m (by omega) (by omega) HS.out).mono ?_
      rintro e w3 ⟨r, hr, rfl, hs3, hg3⟩
      have HZ2 : Hid (∀ z ∈ zs ++ [r], 0 ≤ z ∧ (2 ≤ q → z < q)) := fun z hz => by
        rcases List.mem_append.1 hz with h | h
        · exact HZZ.out z h
        · rw [List.mem_singleton.1 h]
          refine ⟨hr.1, fun h2 => ?_⟩
          have hmq : m = q := by rw [← HM.out, if_neg (by omega)]
          omega
      have hown3 : OwnI w.heap.size w3 _ zs := World.ownsRow.kept HO.out.out hg3 (by
        cases hv : Value.ownBlock _ with
        | none => exact .inl rfl
        | some b => right; intro e; have := (HO.out.out.lt b hv).1; have := Option.some.inj e; omega)
      have S3 := Lib.hid hs3
      have G3 : Hid (w.grownBy w3 (some p)) := sgb_trans HG.out hg3
      have hsz3 : w.heap.size ≤ w3.heap.size := Nat.le_trans hsz hg3.size
      have hlen : zs.length + 1 ≤ 65 := by have := HZL.out; omega
      have S3low := Lib.hid hs3.2.1
      clear hs3 hg3 hr HO
      go_wp2_with (at_builtin; refine wpList_append_own _ rfl _ _ 24 rfl w.heap.size 2 i0 (.int .i64 0) 1 8 Try.underlying24 hi hz0 hz1 hz2 rfl (by decide) _ _ _ rfl (hown3.out.alloc _) ⟨w3.heap.size, 0, none⟩ 1 1 [.int .i64 r] rfl rfl ?ah1 ?ah2 ?ah3 ?ah4 ?ah5 ?_)
      try (case ah1 => exact row_int _ _ _)
      case ah2 => first | rfl | (intro u hu; simp at hu; subst hu; rfl)
      case ah3 => unfold maxLen; omega
      case ah4 => omega
      case ah5 => first | omega | (simp; omega)
      intro v2 w4 hown4 hgrow _
      have hO := pushI hown4
      have hvb : ∀ b, Value.ownBlock _ = some b → w.heap.size ≤ b := fun b hb => (hown3.out.lt b hb).1
      have hG4 := gb_pushS G3.out hgrow hvb
      have hS4 : Sc p a len cap (K + 2 * (k + 1)) w4 := ((S3.out.alloc _).low ⟨hgrow.os, hgrow.tape, hgrow.output, hgrow.size, fun b hb => hgrow.block b (by have := S3low.out; simp; omega) (fun e => by have := hvb b e.symm; omega)⟩).up (by omega)
      clear hown4 hgrow hown3 hvb
      go_wp2
      go_roundw
      case rel => exact ⟨k + 1, zs ++ [r], by omega, by rw [List.length_append, HZL.out]; rfl, by go_num, HZ2.out, hO, hS4, hG4⟩
      case measure => simp [intOf]; omega
    · obtain rfl : k = n := by omega
      have HO := Lib.hid hown
      have HS := Lib.hid hsc
      have HG := Lib.hid hgr
      have HZL := Lib.hid hzl
      clear hown hsc hgr hzl
      go_wp2
      go_ret
      exact ⟨_, zs, rfl, HZL.out, HZZ.out, HO.out, HS.out, HG.out⟩
end Go.Proofs.Ytpimnngomodnhaa
