/-
  The rows of a matrix whose cells are read, whatever their number.
-/
import Derived.Test.YtabanmaaagmeaaaMxC
namespace Go.Proofs.Ytabanmaaagmeaaa
open Go.RowKit
open Lin
set_option linter.unusedVariables false

set_option maxRecDepth 100000 in
set_option maxHeartbeats 1600000 in
theorem rows_empty {p : Int} {n : Nat} {v : Value} {L : Nat} {F : Nat → Value} {w : World} (hp : PtM w L p (0 : Nat) n v) :
    Calls Try.prog 68 #[.pointer (some ⟨L, 0, none⟩)] w fun e w' => RetRows 0 F w e w' := by
  have hmk := run_make_row' (P := Try.prog) 64 25 (.slice none 0 0) 24 Try.underlying64 info_s rfl .i64 .i64 0 (by omega) (by omega)
  simp only [Int.natCast_zero] at hmk
  have HP := Lib.hid hp
  obtain ⟨lM, m0, m1, m2, m3⟩ := hp
  go_enter Try.func68, Try.ntmps68
  go_wp2_with fail
  have hrow := World.rowIs_made w (.slice none 0 0) 0 25
  have bb := (Below.refl w.heap.size w).alloc (Nat.le_refl _) (.cells (madeCells #[.slice none 0 0] 0) 25)
  generalize hW : World.alloc w (.cells (madeCells #[.slice none 0 0] 0) 25) = W1 at hrow bb ⊢
  obtain ⟨H, hH⟩ : ∃ H, w.heap.size = H := ⟨_, rfl⟩
  rw [hH] at hrow ⊢
  have HP := Lib.hid (HP.out.on bb)
  have HB := Lib.hid bb
  have HR := Lib.hid hrow
  have hLH : L < H := by omega
  have hs1 : H ≤ W1.heap.size := by have := bb.size; omega
  clear hrow bb hW m0 m1 m2 m3 hmk
  go_loopw [14] (fun i wr => ∃ k : Nat, k ≤ 0 ∧ i = .int .i64 (k : Int) ∧ Hid (wr.rowIs H 25 0 F) ∧ Hid (W1.grownBy wr (some H))) (fun i _ => 0)
  case atStart => exact ⟨0, Nat.zero_le _, rfl, HR.out.congr fun t ht => absurd ht (Nat.not_lt_zero _), grown_refl _ _⟩
  case round =>
    obtain ⟨k, hk, rfl, HX, HG⟩ := hrel
    obtain rfl : k = 0 := by omega
    obtain ⟨l0, x0, x1, x2, x3⟩ := HP.out.gb HG.out (by omega)
    go_wp2
    go_ret
    exact ⟨_, rfl, by omega, HX.out, below_gb HB.out HG.out (by omega) (by omega)⟩
/-- The address of the i-th row. -/
def adr (a : Option Addr) (k : Nat) : Option Addr := match a with
  | none => none
  | some p => some ⟨p.block, p.off + k, none⟩
/-- The i-th row of n cells of a slice from a on. -/
def rowW (a : Option Addr) (n cap i : Nat) : Value := .slice (adr a (i * n)) n (cap - i * n)
theorem rows_any {p : Int} {m n : Nat} {a : Option Addr} {cap L : Nat} {w : World} (hp : PtM w L p m n (.slice a (m * n) cap)) (hm : m ≤ 32) (hn : n ≤ 40) (hcap : m * n ≤ cap) (hc2 : cap ≤ maxLen) (ha : (a = none ∧ cap = 0) ∨ ∃ g off, a = some ⟨g, off, none⟩) :
    Calls Try.prog 68 #[.pointer (some ⟨L, 0, none⟩)] w fun e w' => RetRows m (rowW a n cap) w e w' := by
  by_cases hn0 : n = 0
  · subst hn0
    have h := rows_zero (m := m) (a := a) (cap := cap) (L := L) (p := p) (w := w) (by simpa using hp) hm ha hc2
    refine h.mono ?_
    rintro e w' ⟨H, he, hH, hr, hb⟩
    refine ⟨H, he, hH, hr.congr fun i _ => ?_, hb⟩
    rcases ha with ⟨rfl, rfl⟩ | ⟨g, off, rfl⟩ <;> simp [rowW, adr]
  · by_cases hm0 : m = 0
    · subst hm0
      exact rows_empty hp
    · have h1 : 1 ≤ m * n := Nat.mul_pos (by omega) (by omega)
      rcases ha with ⟨rfl, rfl⟩ | ⟨g, off, rfl⟩
      · omega
      · exact rows_some hp hm hn (by omega) hcap hc2
/-- Rows in memory: m slices of n cells, which read as F. -/
def RowsIn (w : World) (H B m n : Nat) (ar : Nat → Option Addr) (cc : Nat → Nat) (F : Nat → Nat → Int) : Prop :=
  (∀ i, i < m → w.cell? ⟨H, i, none⟩ = some (.slice (ar i) n (cc i))) ∧ ∀ i k, i < m → k < n → ∃ b o, ar i = some ⟨b, o, none⟩ ∧ b < B ∧ w.cell? ⟨b, o + k, none⟩ = some (.int .i64 (F i k))
theorem RowsIn.on {w w' : World} {H B m n : Nat} {ar : Nat → Option Addr} {cc : Nat → Nat} {F : Nat → Nat → Int} (h : RowsIn w H B m n ar cc F) (hH : H < w.heap.size) (hB : B ≤ w.heap.size) (hb : Below w.heap.size w w') : RowsIn w' H B m n ar cc F := by
  refine ⟨fun i hi => (hb.cell (p := ⟨H, i, none⟩) hH).trans (h.1 i hi), fun i k hi hk => ?_⟩
  obtain ⟨b, o, e, hbB, hc⟩ := h.2 i k hi hk
  exact ⟨b, o, e, hbB, (hb.cell (p := ⟨b, o + k, none⟩) (show b < _ by omega)).trans hc⟩
theorem rows_in {q m n : Nat} [NeZero q] {A : Mt q} {a : Option Addr} {cap H B : Nat} {w w' : World} (hv : IntsAt w (.slice a (m * n) cap) (flat m n A)) (hB : w.heap.size ≤ B) (hr : w'.rowIs H 25 m (rowW a n cap)) (hb : Below w.heap.size w w') :
    RowsIn w' H B m n (fun i => adr a (i * n)) (fun i => cap - i * n) (fun i k => fv (A i k)) := by
  refine ⟨fun i hi => hr.cell hi, fun i k hi hk => ?_⟩
  obtain ⟨a', cap', e, hl, h | ⟨b, off, rfl, hbk, hc⟩⟩ := hv
  · exfalso
    have := flat_len m n A
    rw [h] at this
    have := idx_lt hi hk
    simp at *; omega
  · obtain ⟨rfl, _⟩ : a = some ⟨b, off, none⟩ ∧ True := by simp at e; exact ⟨e.1, trivial⟩
    refine ⟨b, off + i * n, rfl, by omega, ?_⟩
    have ht : i * n + k < (flat m n A).length := by rw [flat_len]; exact idx_lt hi hk
    have := hc (i * n + k) ht
    rw [flat_ij m n A hi hk, ← Nat.add_assoc] at this
    exact (hb.cell (p := ⟨b, off + i * n + k, none⟩) hbk).trans this
theorem implRows_any {q m n : Nat} [NeZero q] {A : Mt q} {p : Int} {v : Value} {L : Nat} {w0 w : World} (hp : PtM w L p m n v) (hv : IntsC w0 v (flat m n A)) (hb0 : Below w0.heap.size w0 w) (hm : m ≤ 32) (hn : n ≤ 40) :
    Calls Try.prog 68 #[.pointer (some ⟨L, 0, none⟩)] w fun e w' => ∃ H ar cc, e = .returned (.slice (some ⟨H, 0, none⟩) m m) ∧ w.heap.size ≤ H ∧ H < w'.heap.size ∧ RowsIn w' H w0.heap.size m n ar cc (fun i k => fv (A i k)) ∧ Below w.heap.size w w' := by
  obtain ⟨hv, a, cap, rfl, hc1, hc2, ha⟩ := hv
  rw [flat_len] at *
  refine (rows_any hp hm hn hc1 hc2 ha).mono ?_
  rintro e w' ⟨H, rfl, hH, hr, hb⟩
  exact ⟨H, _, _, rfl, hH, hr.lt, rows_in hv (Nat.le_refl _) hr (hb0.trans (hb.mono hb0.size)), hb⟩
end Go.Proofs.Ytabanmaaagmeaaa
