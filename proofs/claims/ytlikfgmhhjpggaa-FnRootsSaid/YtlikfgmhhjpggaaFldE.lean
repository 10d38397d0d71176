/-
  Contracts of powers and exponents, as the program makes them.
-/
import Derived.Test.YtlikfgmhhjpggaaFldC
namespace Go.Proofs.Ytlikfgmhhjpggaa
open Go.RowKit
set_option linter.unusedVariables false

/-- A block that holds a number and its prime, and may be written. -/
def PairAt (w : World) (g : Nat) (a p : Int) : Prop :=
  w.cell? ⟨g, 0, none⟩ = some (.int .i64 a) ∧ w.cell? ⟨g, 1, none⟩ = some (.int .i64 p) ∧ w.frozen? ⟨g, 0, none⟩ = false ∧ w.frozen? ⟨g, 1, none⟩ = false
theorem PairAt.on {w w' : World} {g : Nat} {a p : Int} (h : PairAt w g a p) (hb : Below w.heap.size w w') (hg : g < w.heap.size) : PairAt w' g a p :=
  ⟨(hb.cell (p := ⟨g, 0, none⟩) hg).trans h.1, (hb.cell (p := ⟨g, 1, none⟩) hg).trans h.2.1, (hb.frozen (p := ⟨g, 0, none⟩) hg).trans h.2.2.1, (hb.frozen (p := ⟨g, 1, none⟩) hg).trans h.2.2.2⟩
theorem PairAt.same {w : World} {g : Nat} {a p : Int} (h : PairAt w g a p) (b q : Int) : PairAt ((w.setCell ⟨g, 0, none⟩ (.int .i64 b)).setCell ⟨g, 1, none⟩ (.int .i64 q)) g b q := by
  obtain ⟨h3, h4, h5, h6⟩ := h
  refine ⟨?_, ?_, ?_, ?_⟩ <;> go_simp
theorem PairAt.other {w : World} {g k : Nat} {a p : Int} (h : PairAt w g a p) (hk : k ≠ g) (u v : Value) : PairAt ((w.setCell ⟨k, 0, none⟩ u).setCell ⟨k, 1, none⟩ v) g a p := by
  obtain ⟨h3, h4, h5, h6⟩ := h
  have hk' : ¬ g = k := fun e => hk e.symm
  refine ⟨?_, ?_, ?_, ?_⟩ <;> go_simp
theorem PairAt.new (w : World) (a p : Int) (t : TypeId) : PairAt (w.alloc (.cells #[.int .i64 a, .int .i64 p] t)) w.heap.size a p := by
  refine ⟨?_, ?_, ?_, ?_⟩
  · rw [World.cell?_alloc_at _ _ _ _ rfl]; rfl
  · rw [World.cell?_alloc_at _ _ _ _ rfl]; rfl
  · rw [World.frozen?_alloc_at _ _ _ _ rfl]
  · rw [World.frozen?_alloc_at _ _ _ _ rfl]
theorem PairAt.old {w : World} {g : Nat} {a p : Int} (h : PairAt w g a p) (hg : g < w.heap.size) (o : Obj) : PairAt (w.alloc o) g a p :=
  h.on ((Below.refl _ _).alloc (Nat.le_refl _) o) hg
theorem below_two {B : Nat} {a w : World} (h : Below B a w) {g : Nat} (hg : B ≤ g) (u v : Value) : Below B a ((w.setCell ⟨g, 0, none⟩ u).setCell ⟨g, 1, none⟩ v) :=
  (h.setCell (p := ⟨g, 0, none⟩) hg u).setCell (p := ⟨g, 1, none⟩) hg v

/-- How a search ends. -/
def RetX (n : Int) (ok : Bool) (w : World) (e : Ending) (w' : World) : Prop := e = .returned (.tuple #[.int .i64 n, .bool ok]) ∧ Below w.heap.size w w'
set_option maxRecDepth 100000 in
set_option maxHeartbeats 1600000 in
theorem expo_yes (b t p : Int) (n : Nat) (w : World) (h0 : 2 ≤ p) (h1 : p ≤ 251) (b0 : 0 ≤ b) (b1 : b < p) (hn : IsLog b p t n) (hn1 : (n : Int) < p - 1) :
    Calls Try.prog 64 #[.agg #[.int .i64 b, .int .i64 p], .agg #[.int .i64 t, .int .i64 p]] w fun e w' => RetX (n : Int) true w e w' := by
  have kz : ¬ p = 0 := by omega
  have HN := Lib.hid hn
  clear hn
  go_enter Try.func64, Try.ntmps64
  go_wp2
  go_loopw [14] (fun i wr => ∃ (k : Nat) (y : Int), k ≤ n ∧ i = .int .i64 (k : Int) ∧ 0 ≤ y ∧ y < p ∧ Hid (pw b p k = y) ∧ PairAt wr w.heap.size b p ∧ PairAt wr (w.heap.size + 1) t p ∧ PairAt wr (w.heap.size + 1 + 1) y p ∧ Below w.heap.size w wr ∧ w.heap.size + 1 + 1 < wr.heap.size) (fun i _ => n - (intOf i).toNat)
  case atStart =>
    refine ⟨0, 1, by omega, rfl, by omega, by omega, pw_zero b h0, ?_, ?_, ?_, ?_, ?_⟩
    · exact ((PairAt.new _ _ _ _).old (by simp) _).old (by simp; omega) _
    · exact (by simpa using PairAt.new (w.alloc _) t p _ : PairAt ((w.alloc _).alloc _) (w.heap.size + 1) t p).old (by simp) _
    · have := PairAt.new ((w.alloc (.cells #[.int .i64 b, .int .i64 p] 54)).alloc (.cells #[.int .i64 t, .int .i64 p] 54)) 1 p 54
      simpa using this
    · exact (((Below.refl _ _).alloc (Nat.le_refl _) _).alloc (by simp) _).alloc (by simp; omega) _
    · simp
  case round =>
    obtain ⟨k, y, hk, rfl, y0, y1, HY, P0, P1, P2, hb, hs⟩ := hrel
    have Q0 := Lib.hid P0
    have Q1 := Lib.hid P1
    have Q2 := Lib.hid P2
    have HB := Lib.hid hb
    obtain ⟨c0, c1, _, _⟩ := P0
    obtain ⟨c2, c3, _, _⟩ := P1
    obtain ⟨c4, c5, f4, f5⟩ := P2
    have hkp : (k : Int) < p - 1 := by omega
    clear hb
    by_cases hkn : k = n
    · subst hkn
      have hy : y = t := by rw [← HY.out]; exact HN.out.1
      subst hy
      go_wp2
      go_ret2
      exact ⟨rfl, HB.out⟩
    · have hy : y ≠ t := by rw [← HY.out]; exact HN.out.2 k (by omega)
      have hy' : (y == t) = false := by simpa using hy
      clear hy
      go_wp2_with fail
      refine (times_any y b p _ h0 h1 y0 y1 b0 b1).mono ?_
      rintro e w1 ⟨rfl, hb1⟩
      have T0 := Lib.hid (Q0.out.on hb1 (by omega))
      have T1 := Lib.hid (Q1.out.on hb1 (by omega))
      have T2 := Lib.hid (Q2.out.on hb1 hs)
      have HB1 := Lib.hid (HB.out.trans (hb1.mono HB.out.size))
      have hs1 := Nat.lt_of_lt_of_le hs hb1.size
      obtain ⟨d4, d5, g4, g5⟩ := T2.out
      have HY2 : Hid (pw b p (k + 1) = y * b % p) := by show _ = _; rw [← pw_succ, HY.out]
      have HR := Lib.hid (rem_bd (y * b) h0)
      clear c0 c1 c2 c3 c4 c5 f4 f5 hb1
      go_wp2
      go_roundw
      case rel => exact ⟨k + 1, y * b % p, by omega, by go_num, HR.out.1, HR.out.2, HY2, T0.out.other (by omega) _ _, T1.out.other (by omega) _ _, T2.out.same _ _, below_two HB1.out (by omega) _ _, by simpa using hs1⟩
      case measure => simp [intOf]; omega
set_option maxRecDepth 100000 in
set_option maxHeartbeats 1600000 in
theorem expo_no (b t p : Int) (w : World) (h0 : 2 ≤ p) (h1 : p ≤ 251) (b0 : 0 ≤ b) (b1 : b < p) (hn : ∀ m : Nat, (m : Int) < p - 1 → pw b p m ≠ t) :
    Calls Try.prog 64 #[.agg #[.int .i64 b, .int .i64 p], .agg #[.int .i64 t, .int .i64 p]] w fun e w' => RetX 0 false w e w' := by
  have kz : ¬ p = 0 := by omega
  have HN := Lib.hid hn
  clear hn
  go_enter Try.func64, Try.ntmps64
  go_wp2
  go_loopw [14] (fun i wr => ∃ (k : Nat) (y : Int), (k : Int) ≤ p - 1 ∧ i = .int .i64 (k : Int) ∧ 0 ≤ y ∧ y < p ∧ Hid (pw b p k = y) ∧ PairAt wr w.heap.size b p ∧ PairAt wr (w.heap.size + 1) t p ∧ PairAt wr (w.heap.size + 1 + 1) y p ∧ Below w.heap.size w wr ∧ w.heap.size + 1 + 1 < wr.heap.size) (fun i _ => (p - intOf i).toNat)
  case atStart =>
    refine ⟨0, 1, by omega, rfl, by omega, by omega, pw_zero b h0, ?_, ?_, ?_, ?_, ?_⟩
    · exact ((PairAt.new _ _ _ _).old (by simp) _).old (by simp; omega) _
    · exact (by simpa using PairAt.new (w.alloc _) t p _ : PairAt ((w.alloc _).alloc _) (w.heap.size + 1) t p).old (by simp) _
    · have := PairAt.new ((w.alloc (.cells #[.int .i64 b, .int .i64 p] 54)).alloc (.cells #[.int .i64 t, .int .i64 p] 54)) 1 p 54
      simpa using this
    · exact (((Below.refl _ _).alloc (Nat.le_refl _) _).alloc (by simp) _).alloc (by simp; omega) _
    · simp
  case round =>
    obtain ⟨k, y, hk, rfl, y0, y1, HY, P0, P1, P2, hb, hs⟩ := hrel
    have Q0 := Lib.hid P0
    have Q1 := Lib.hid P1
    have Q2 := Lib.hid P2
    have HB := Lib.hid hb
    obtain ⟨c0, c1, _, _⟩ := P0
    obtain ⟨c2, c3, _, _⟩ := P1
    obtain ⟨c4, c5, f4, f5⟩ := P2
    clear hb
    by_cases hkn : (k : Int) = p - 1
    · go_wp2
      go_ret2
      exact ⟨rfl, HB.out⟩
    · have hy : y ≠ t := by rw [← HY.out]; exact HN.out k (by omega)
      have hy' : (y == t) = false := by simpa using hy
      have hkp : (k : Int) < p - 1 := by omega
      clear hy hkn
      go_wp2_with fail
      refine (times_any y b p _ h0 h1 y0 y1 b0 b1).mono ?_
      rintro e w1 ⟨rfl, hb1⟩
      have T0 := Lib.hid (Q0.out.on hb1 (by omega))
      have T1 := Lib.hid (Q1.out.on hb1 (by omega))
      have T2 := Lib.hid (Q2.out.on hb1 hs)
      have HB1 := Lib.hid (HB.out.trans (hb1.mono HB.out.size))
      have hs1 := Nat.lt_of_lt_of_le hs hb1.size
      obtain ⟨d4, d5, g4, g5⟩ := T2.out
      have HY2 : Hid (pw b p (k + 1) = y * b % p) := by show _ = _; rw [← pw_succ, HY.out]
      have HR := Lib.hid (rem_bd (y * b) h0)
      clear c0 c1 c2 c3 c4 c5 f4 f5 hb1
      go_wp2
      go_roundw
      case rel => exact ⟨k + 1, y * b % p, by omega, by go_num, HR.out.1, HR.out.2, HY2, T0.out.other (by omega) _ _, T1.out.other (by omega) _ _, T2.out.same _ _, below_two HB1.out (by omega) _ _, by simpa using hs1⟩
      case measure => simp [intOf]; omega
end Go.Proofs.Ytlikfgmhhjpggaa
