/-
  The source of choices that the laws draw from: each draw is a number within its bounds.
-/
import Derived.Test.YtlikfgmhhjpggaaProg
import Derived.WalkKit
import Derived.ProofKit
import Derived.Lib.Hide
import Derived.Laws.OwnMore
import Derived.Laws.BitsAllLaws
import Derived.Deep.QuietTactic
import Derived.BigQuiet
import Derived.Outline
namespace Go.Proofs.Ytlikfgmhhjpggaa
open Go.RowKit
set_option linter.unusedVariables false

/-- The bytes of a slice that came in, all in a block before p. -/
def Code (p : Nat) (w : World) (a : Option Addr) (len : Nat) : Prop :=
  len ≤ 1048576 ∧ (len = 0 ∨ ∃ b off, a = some ⟨b, off, none⟩ ∧ b < p ∧ ∀ j, j < len → ∃ x : Int, 0 ≤ x ∧ x ≤ 255 ∧ w.cell? ⟨b, off + j, none⟩ = some (.int .u8 x))
/-- A source in block p that has drawn k times. -/
def Src (w : World) (p : Nat) (a : Option Addr) (len cap k : Nat) : Prop :=
  ∃ s : Int, 0 ≤ s ∧ s < 18446744073709551616 ∧ w.cell? ⟨p, 0, none⟩ = some (.slice a len cap) ∧ w.cell? ⟨p, 1, none⟩ = some (.int .i64 (k : Int)) ∧ w.cell? ⟨p, 2, none⟩ = some (.int .u64 s) ∧
    w.frozen? ⟨p, 1, none⟩ = false ∧ w.frozen? ⟨p, 2, none⟩ = false
/-- How a draw ends. -/
def RetN (w : World) (p : Nat) (a : Option Addr) (len cap k n : Nat) (e : Ending) (w' : World) : Prop :=
  ∃ r : Int, 0 ≤ r ∧ r < n ∧ e = .returned (.int .i64 r) ∧ Src w' p a len cap k ∧ w.grownBy w' (some p)
theorem bits255 (x : Int) (h0 : 0 ≤ x) (h1 : x < 18446744073709551616) : 0 ≤ bits .and .u64 x 255 ∧ bits .and .u64 x 255 ≤ 255 := by
  obtain ⟨k, rfl⟩ := Int.eq_ofNat_of_zero_le h0
  have e := u64_and_nat k 255 (by omega) (by omega)
  have e2 : ((255 : Nat) : Int) = 255 := rfl
  rw [e2] at e
  rw [e]
  have : k &&& 255 ≤ 255 := Nat.and_le_right
  omega
theorem wrap_bd (X : Int) : 0 ≤ IntKind.u64.wrap X ∧ IntKind.u64.wrap X < 18446744073709551616 := by
  rw [IntKind.wrap_u64]
  exact ⟨Int.emod_nonneg _ (by decide), Int.emod_lt_of_pos _ (by decide)⟩
theorem grownBy_drewN {w : World} {r : Option Nat} (n : Nat) : w.grownBy (w.drewN n) r := ⟨rfl, rfl, rfl, Nat.le_refl _, fun _ _ _ => rfl⟩

theorem gb_refl (w : World) (r : Option Nat) : w.grownBy w r := ⟨rfl, rfl, rfl, Nat.le_refl _, fun _ _ _ => rfl⟩
theorem gb_trans {a b c : World} {r : Option Nat} (h : a.grownBy b r) (g : b.grownBy c r) : a.grownBy c r :=
  ⟨g.os.trans h.os, g.tape.trans h.tape, g.output.trans h.output, Nat.le_trans h.size g.size, fun k hk hr => (g.block k (Nat.lt_of_lt_of_le hk h.size) hr).trans (h.block k hk hr)⟩
theorem gb_set (w : World) (p o : Nat) (u : Value) : w.grownBy (w.setCell ⟨p, o, none⟩ u) (some p) := by
  have hb := (Below.refl p w).setCell (p := ⟨p, o, none⟩) (Nat.le_refl _) u
  exact ⟨hb.os, hb.tape, hb.output, hb.size, fun k hk hr => Below.heap_setCell w ⟨p, o, none⟩ u k (fun e => hr (by rw [e]))⟩
/-- What a draw leaves. -/
theorem src_after {w : World} {p : Nat} {a : Option Addr} {len cap k : Nat} (hs : Src w p a len cap k) (X : Int) (n m : Nat) :
    Src ((((w.drewN n).setCell ⟨p, 1, none⟩ (.int .i64 ((k : Int) + 1))).setCell ⟨p, 2, none⟩ (.int .u64 (IntKind.u64.wrap X))).drewN m) p a len cap (k + 1) ∧
    w.grownBy ((((w.drewN n).setCell ⟨p, 1, none⟩ (.int .i64 ((k : Int) + 1))).setCell ⟨p, 2, none⟩ (.int .u64 (IntKind.u64.wrap X))).drewN m) (some p) := by
  obtain ⟨s, s0, s1, c0, c1, c2, f1, f2⟩ := hs
  refine ⟨⟨IntKind.u64.wrap X, (wrap_bd X).1, (wrap_bd X).2, ?_, ?_, ?_, ?_, ?_⟩, ?_⟩
  · show (((w.drewN n).setCell ⟨p, 1, none⟩ _).setCell ⟨p, 2, none⟩ _).cell? ⟨p, 0, none⟩ = _
    rw [World.cell?_setCell_other _ _ _ _ (by simp), World.cell?_setCell_other _ _ _ _ (by simp)]; exact c0
  · show (((w.drewN n).setCell ⟨p, 1, none⟩ _).setCell ⟨p, 2, none⟩ _).cell? ⟨p, 1, none⟩ = _
    rw [World.cell?_setCell_other _ _ _ _ (by simp), World.cell?_setCell_same (w.drewN n) _ _ (show (w.drewN n).cell? ⟨p, 1, none⟩ = some (.int .i64 (k : Int)) from c1)]; rfl
  · show (((w.drewN n).setCell ⟨p, 1, none⟩ _).setCell ⟨p, 2, none⟩ _).cell? ⟨p, 2, none⟩ = _
    exact World.cell?_setCell_same _ _ _ (by rw [World.cell?_setCell_other _ _ _ _ (by simp)]; exact c2)
  · show (((w.drewN n).setCell ⟨p, 1, none⟩ _).setCell ⟨p, 2, none⟩ _).frozen? ⟨p, 1, none⟩ = _
    rw [World.frozen?_setCell, World.frozen?_setCell]; exact f1
  · show (((w.drewN n).setCell ⟨p, 1, none⟩ _).setCell ⟨p, 2, none⟩ _).frozen? ⟨p, 2, none⟩ = _
    rw [World.frozen?_setCell, World.frozen?_setCell]; exact f2
  · exact gb_trans (gb_trans (gb_trans (grownBy_drewN n) (gb_set _ p 1 _)) (gb_set _ p 2 _)) (grownBy_drewN m)
theorem high_byte (X : Int) : 0 ≤ wrap64 (bits .and .u64 (IntKind.u64.wrap X / 1099511627776) 255) ∧ wrap64 (bits .and .u64 (IntKind.u64.wrap X / 1099511627776) 255) < 256 := by
  obtain ⟨h0, h1⟩ := wrap_bd X
  obtain ⟨a, b⟩ := bits255 (IntKind.u64.wrap X / 1099511627776) (Int.ediv_nonneg h0 (by decide)) (by omega)
  rw [IntWalk.wrap64_in _ ⟨by omega, by omega⟩]
  omega

set_option maxHeartbeats 800000 in
set_option maxRecDepth 100000 in
theorem next_end (p cap : Nat) (a : Option Addr) (len k : Nat) (w : World) (hl : len ≤ 1048576) (hk : k ≤ 1000000000) (hc : ¬ k < len) (hs : Src w p a len cap k) :
    Calls Try.prog 91 #[.pointer (some ⟨p, 0, none⟩)] w fun e w' => RetN w p a len cap (k + 1) 256 e w' := by
  have HS := Lib.hid hs
  obtain ⟨s, s0, s1, c0, c1, c2, f1, f2⟩ := hs
  have hc' : ¬ (k : Int) < len := by omega
  clear hc
  go_enter Try.func91, Try.ntmps91
  go_wp2
  go_quiet (fail)
  go_wp2
  go_quiet (fail)
  go_wp2
  go_ret
  exact ⟨_, (high_byte _).1, (high_byte _).2, rfl, (src_after HS.out _ _ _).1, (src_after HS.out _ _ _).2⟩
set_option maxHeartbeats 800000 in
set_option maxRecDepth 100000 in
theorem next_byte (p cap b off : Nat) (len k : Nat) (x : Int) (w : World) (hl : len ≤ 1048576) (hk : k ≤ 1000000000) (hc : k < len) (hbp : b < p) (x0 : 0 ≤ x) (x1 : x ≤ 255) (hx : w.cell? ⟨b, off + k, none⟩ = some (.int .u8 x)) (hs : Src w p (some ⟨b, off, none⟩) len cap k) :
    Calls Try.prog 91 #[.pointer (some ⟨p, 0, none⟩)] w fun e w' => RetN w p (some ⟨b, off, none⟩) len cap (k + 1) 256 e w' := by
  have HS := Lib.hid hs
  obtain ⟨s, s0, s1, c0, c1, c2, f1, f2⟩ := hs
  have hc' : (k : Int) < len := by omega
  have hk0 : 0 ≤ (k : Int) := by omega
  have hne : b ≠ p := by omega
  clear hc
  go_enter Try.func91, Try.ntmps91
  go_wp2
  go_quiet (fail)
  go_wp2
  go_quiet (fail)
  go_wp2
  go_quiet (fail)
  go_wp2
  go_ret
  exact ⟨x, x0, by omega, rfl, (src_after HS.out _ _ _).1, (src_after HS.out _ _ _).2⟩
theorem next_any {w : World} {p : Nat} {a : Option Addr} {len cap k : Nat} (hc : Code p w a len) (hk : k ≤ 1000000000) (hs : Src w p a len cap k) :
    Calls Try.prog 91 #[.pointer (some ⟨p, 0, none⟩)] w fun e w' => RetN w p a len cap (k + 1) 256 e w' := by
  by_cases h : k < len
  · obtain ⟨hl, hc⟩ := hc
    rcases hc with rfl | ⟨b, off, rfl, hb, hc⟩
    · exact absurd h (by omega)
    · obtain ⟨x, x0, x1, hx⟩ := hc k h
      exact next_byte p cap b off len k x w hl hk h hb x0 x1 hx hs
  · exact next_end p cap a len k w hc.1 hk h hs
theorem Code.grown {p : Nat} {w w' : World} {a : Option Addr} {len : Nat} (h : Code p w a len) (hp : p < w.heap.size) (hg : w.grownBy w' (some p)) : Code p w' a len := by
  obtain ⟨hl, hc⟩ := h
  refine ⟨hl, ?_⟩
  rcases hc with rfl | ⟨b, off, rfl, hb, hc⟩
  · exact .inl rfl
  · refine .inr ⟨b, off, rfl, hb, fun j hj => ?_⟩
    obtain ⟨x, x0, x1, hx⟩ := hc j hj
    exact ⟨x, x0, x1, hg.cell hx (fun e => absurd (Option.some.inj e) (Nat.ne_of_lt hb))⟩

set_option maxHeartbeats 400000 in
/-- A number that two draws choose. -/
theorem pick_wide {w : World} {p : Nat} {a : Option Addr} {len cap k : Nat} (n : Nat) (hn0 : 201 ≤ n) (hn1 : n ≤ 65536) (hc : Code p w a len) (hp : p < w.heap.size) (hk : k ≤ 900000000) (hs : Src w p a len cap k) :
    Calls Try.prog 69 #[.pointer (some ⟨p, 0, none⟩), .int .i64 (n : Int)] w fun e w' => RetN w p a len cap (k + 2) n e w' := by
  have HC := Lib.hid hc
  have HS := Lib.hid hs
  have n1 : ¬ (n : Int) ≤ 1 := by omega
  have n2 : (200 : Int) < n := by omega
  have n3 : ¬ (n : Int) = 0 := by omega
  clear hc hs
  go_enter Try.func69, Try.ntmps69
  go_wp2_with fail
  refine (next_any HC.out (by omega) HS.out).mono ?_
  rintro e w1 ⟨x, x0, x1, rfl, hs1, hg1⟩
  have S1 := Lib.hid hs1
  have G1 := Lib.hid hg1
  clear hs1 hg1
  go_wp2_with fail
  refine (next_any (HC.out.grown hp G1.out) (by omega) S1.out).mono ?_
  rintro e w2 ⟨y, y0, y1, rfl, hs2, hg2⟩
  have S2 := Lib.hid hs2
  have G2 := Lib.hid hg2
  clear hs2 hg2
  go_wp2_with fail
  go_ret
  exact ⟨(x * 256 + y) % n, Int.emod_nonneg _ (by omega), Int.emod_lt_of_pos _ (by omega), rfl, S2.out, gb_trans G1.out G2.out⟩
/-- The bytes of a slice that came in. -/
def Bytes (w : World) (a : Option Addr) (len : Nat) : Prop :=
  len ≤ 1048576 ∧ (len = 0 ∨ ∃ b off, a = some ⟨b, off, none⟩ ∧ b < w.heap.size ∧ ∀ j, j < len → ∃ x : Int, 0 ≤ x ∧ x ≤ 255 ∧ w.cell? ⟨b, off + j, none⟩ = some (.int .u8 x))
theorem Bytes.code {w w' : World} {a : Option Addr} {len : Nat} (h : Bytes w a len) (hb : Below w.heap.size w w') : Code w.heap.size w' a len := by
  obtain ⟨hl, hc⟩ := h
  refine ⟨hl, ?_⟩
  rcases hc with rfl | ⟨b, off, rfl, hb', hc⟩
  · exact .inl rfl
  · refine .inr ⟨b, off, rfl, hb', fun j hj => ?_⟩
    obtain ⟨x, x0, x1, hx⟩ := hc j hj
    exact ⟨x, x0, x1, (hb.cell (p := ⟨b, off + j, none⟩) hb').trans hx⟩
theorem Bytes.on {w w' : World} {a : Option Addr} {len : Nat} (h : Bytes w a len) (hb : Below w.heap.size w w') : Bytes w' a len := by
  obtain ⟨hl, hc⟩ := h
  refine ⟨hl, ?_⟩
  rcases hc with rfl | ⟨b, off, rfl, hb', hc⟩
  · exact .inl rfl
  · refine .inr ⟨b, off, rfl, Nat.lt_of_lt_of_le hb' hb.size, fun j hj => ?_⟩
    obtain ⟨x, x0, x1, hx⟩ := hc j hj
    exact ⟨x, x0, x1, (hb.cell (p := ⟨b, off + j, none⟩) hb').trans hx⟩
/-- A new source. -/
def RetF (w : World) (a : Option Addr) (len cap : Nat) (e : Ending) (w' : World) : Prop :=
  e = .returned (.pointer (some ⟨w.heap.size, 0, none⟩)) ∧ Src w' w.heap.size a len cap 0 ∧ Below w.heap.size w w' ∧ w.heap.size < w'.heap.size
theorem from_any (w : World) (a : Option Addr) (len cap : Nat) :
    Calls Try.prog 54 #[.slice a len cap] w fun e w' => RetF w a len cap e w' := by
  go_enter Try.func54, Try.ntmps54
  go_wp2
  go_ret
  refine ⟨rfl, ⟨0, by omega, by omega, ?_, ?_, ?_, ?_, ?_⟩, (Below.refl _ _).alloc (Nat.le_refl _) _, by simp⟩
  · rw [World.cell?_alloc_at _ _ _ _ rfl]; rfl
  · rw [World.cell?_alloc_at _ _ _ _ rfl]; rfl
  · rw [World.cell?_alloc_at _ _ _ _ rfl]; rfl
  · exact World.frozen?_alloc_at _ _ _ _ rfl
  · exact World.frozen?_alloc_at _ _ _ _ rfl
end Go.Proofs.Ytlikfgmhhjpggaa
