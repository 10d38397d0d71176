/-
  The source of choices that the laws draw from, beside the texts of matrices: each draw is a number within its bounds; only the source's own block is written.
-/
import Derived.Test.YtpimnngomodnhaaPB
import Derived.Laws.BitsAllLaws
import Derived.Outline
namespace Go.Proofs.Ytpimnngomodnhaa
open Go.RowKit
set_option linter.unusedVariables false

/-- The bytes of a slice that came in, all in a block before p. -/
def Code (p : Nat) (w : World) (a : Option Addr) (len : Nat) : Prop :=
  len ≤ 1048576 ∧ (len = 0 ∨ ∃ b off, a = some ⟨b, off, none⟩ ∧ b < p ∧ ∀ j, j < len → ∃ x : Int, 0 ≤ x ∧ x ≤ 255 ∧ w.cell? ⟨b, off + j, none⟩ = some (.int .u8 x))
/-- A source in block p that has drawn k times. -/
def Src (w : World) (p : Nat) (a : Option Addr) (len cap k : Nat) : Prop :=
  ∃ s : Int, 0 ≤ s ∧ s < 18446744073709551616 ∧ w.cell? ⟨p, 0, none⟩ = some (.slice a len cap) ∧ w.cell? ⟨p, 1, none⟩ = some (.int .i64 (k : Int)) ∧ w.cell? ⟨p, 2, none⟩ = some (.int .u64 s) ∧
    w.frozen? ⟨p, 1, none⟩ = false ∧ w.frozen? ⟨p, 2, none⟩ = false
/-- How a draw ends. -/
def RetN (w : World) (p : Nat) (a : Option Addr) (len cap k n : Nat) (e : Ending) (w' : World) : Prop :=
  ∃ r : Int, 0 ≤ r ∧ r < n ∧ e = .returned (.int .i64 r) ∧ Src w' p a len cap k ∧ w.grownBy w' (some p)
theorem bits255 (x : Int) (h0 : 0 ≤ x) (h1 : x < 18446744073709551616) : 0 ≤ bits .and .u64 x 255 ∧ bits .and .u64 x 255 ≤ 255 := by
  obtain ⟨k, rfl⟩ := Int.eq_ofNat_of_zero_le h0
  have e := u64_and_nat k 255 (by omega) (by omega)
  have e2 : ((255 : Nat) : Int) = 255 := rfl
  rw [e2] at e
  rw [e]
  have : k &&& 255 ≤ 255 := Nat.and_le_right
  omega
theorem wrap_bd (X : Int) : 0 ≤ IntKind.u64.wrap X ∧ IntKind.u64.wrap X < 18446744073709551616 := by
  rw [IntKind.wrap_u64]
  exact ⟨Int.emod_nonneg _ (by decide), Int.emod_lt_of_pos _ (by decide)⟩
theorem grownBy_drewN {w : World} {r : Option Nat} (n : Nat) : w.grownBy (w.drewN n) r := ⟨rfl, rfl, rfl, Nat.le_refl _, fun _ _ _ => rfl⟩

theorem gb_refl (w : World) (r : Option Nat) : w.grownBy w r := ⟨rfl, rfl, rfl, Nat.le_refl _, fun _ _ _ => rfl⟩
theorem sgb_trans {a b c : World} {r : Option Nat} (h : a.grownBy b r) (g : b.grownBy c r) : a.grownBy c r :=
  ⟨g.os.trans h.os, g.tape.trans h.tape, g.output.trans h.output, Nat.le_trans h.size g.size, fun k hk hr => (g.block k (Nat.lt_of_lt_of_le hk h.size) hr).trans (h.block k hk hr)⟩
theorem sgb_set (w : World) (p o : Nat) (u : Value) : w.grownBy (w.setCell ⟨p, o, none⟩ u) (some p) := by
  have hb := (Below.refl p w).setCell (p := ⟨p, o, none⟩) (Nat.le_refl _) u
  exact ⟨hb.os, hb.tape, hb.output, hb.size, fun k hk hr => Below.heap_setCell w ⟨p, o, none⟩ u k (fun e => hr (by rw [e]))⟩
/-- What a draw leaves. -/
theorem src_after {w : World} {p : Nat} {a : Option Addr} {len cap k : Nat} (hs : Src w p a len cap k) (X : Int) (n m : Nat) :
    Src ((((w.drewN n).setCell ⟨p, 1, none⟩ (.int .i64 ((k : Int) + 1))).setCell ⟨p, 2, none⟩ (.int .u64 (IntKind.u64.wrap X))).drewN m) p a len cap (k + 1) ∧
    w.grownBy ((((w.drewN n).setCell ⟨p, 1, none⟩ (.int .i64 ((k : Int) + 1))).setCell ⟨p, 2, none⟩ (.int .u64 (IntKind.u64.wrap X))).drewN m) (some p) := by
  obtain ⟨s, s0, s1, c0, c1, c2, f1, f2⟩ := hs
  refine ⟨⟨IntKind.u64.wrap X, (wrap_bd X).1, (wrap_bd X).2, ?_, ?_, ?_, ?_, ?_⟩, ?_⟩
  · show (((w.drewN n).setCell ⟨p, 1, none⟩ _).setCell ⟨p, 2, none⟩ _).cell? ⟨p, 0, none⟩ = _
    rw [World.cell?_setCell_other _ _ _ _ (by simp), World.cell?_setCell_other _ _ _ _ (by simp)]; exact c0
  · show (((w.drewN n).setCell ⟨p, 1, none⟩ _).setCell ⟨p, 2, none⟩ _).cell? ⟨p, 1, none⟩ = _
    rw [World.cell?_setCell_other _ _ _ _ (by simp), World.cell?_setCell_same (w.drewN n) _ _ (show (w.drewN n).cell? ⟨p, 1, none⟩ = some (.int .i64 (k : Int)) from c1)]; rfl
  · show (((w.drewN n).setCell ⟨p, 1, none⟩ _).setCell ⟨p, 2, none⟩ _).cell? ⟨p, 2, none⟩ = _
    exact World.cell?_setCell_same _ _ _ (by rw [World.cell?_setCell_other _ _ _ _ (by simp)]; exact c2)
  · show (((w.drewN n).setCell ⟨p, 1, none⟩ _).setCell ⟨p, 2, none⟩ _).frozen? ⟨p, 1, none⟩ = _
    rw [World.frozen?_setCell, World.frozen?_setCell]; exact f1
  · show (((w.drewN n).setCell ⟨p, 1, none⟩ _).setCell ⟨p, 2, none⟩ _).frozen? ⟨p, 2, none⟩ = _
    rw [World.frozen?_setCell, World.frozen?_setCell]; exact f2
  · exact sgb_trans (sgb_trans (sgb_trans (grownBy_drewN n) (sgb_set _ p 1 _)) (sgb_set _ p 2 _)) (grownBy_drewN m)
theorem high_byte (X : Int) : 0 ≤ wrap64 (bits .and .u64 (IntKind.u64.wrap X / 1099511627776) 255) ∧ wrap64 (bits .and .u64 (IntKind.u64.wrap X / 1099511627776) 255) < 256 := by
  obtain ⟨h0, h1⟩ := wrap_bd X
  obtain ⟨a, b⟩ := bits255 (IntKind.u64.wrap X / 1099511627776) (Int.ediv_nonneg h0 (by decide)) (by omega)
  rw [IntWalk.wrap64_in _ ⟨by omega, by omega⟩]
  omega

set_option maxHeartbeats 800000 in
set_option maxRecDepth 100000 in
theorem next_end (p cap : Nat) (a : Option Addr) (len k : Nat) (w : World) (hl : len ≤ 1048576) (hk : k ≤ 1000000000) (hc : ¬ k < len) (hs : Src w p a len cap k) :
    Calls Try.prog 98 #[.pointer (some ⟨p, 0, none⟩)] w fun e w' => RetN w p a len cap (k + 1) 256 e w' := by
  have HS := Lib.hid hs
  obtain ⟨s, s0, s1, c0, c1, c2, f1, f2⟩ := hs
  have hc' : ¬ (k : Int) < len := by omega
  clear hc
  go_enter Try.func98, Try.ntmps98
  go_wp2
  go_quiet (fail)
  go_wp2
  go_quiet (fail)
  go_wp2
  go_ret
  exact ⟨_, (high_byte _).1, (high_byte _).2, rfl, (src_after HS.out _ _ _).1, (src_after HS.out _ _ _).2⟩
set_option maxHeartbeats 800000 in
set_option maxRecDepth 100000 in
theorem next_byte (p cap b off : Nat) (len k : Nat) (x : Int) (w : World) (hl : len ≤ 1048576) (hk : k ≤ 1000000000) (hc : k < len) (hbp : b < p) (x0 : 0 ≤ x) (x1 : x ≤ 255) (hx : w.cell? ⟨b, off + k, none⟩ = some (.int .u8 x)) (hs : Src w p (some ⟨b, off, none⟩) len cap k) :
    Calls Try.prog 98 #[.pointer (some ⟨p, 0, none⟩)] w fun e w' => RetN w p (some ⟨b, off, none⟩) len cap (k + 1) 256 e w' := by
  have HS := Lib.hid hs
  obtain ⟨s, s0, s1, c0, c1, c2, f1, f2⟩ := hs
  have hc' : (k : Int) < len := by omega
  have hk0 : 0 ≤ (k : Int) := by omega
  have hne : b ≠ p := by omega
  clear hc
  go_enter Try.func98, Try.ntmps98
  go_wp2
  go_quiet (fail)
  go_wp2
  go_quiet (fail)
  go_wp2
  go_quiet (fail)
  go_wp2
  go_ret
  exact ⟨x, x0, by omega, rfl, (src_after HS.out _ _ _).1, (src_after HS.out _ _ _).2⟩
theorem next_any {w : World} {p : Nat} {a : Option Addr} {len cap k : Nat} (hc : Code p w a len) (hk : k ≤ 1000000000) (hs : Src w p a len cap k) :
    Calls Try.prog 98 #[.pointer (some ⟨p, 0, none⟩)] w fun e w' => RetN w p a len cap (k + 1) 256 e w' := by
  by_cases h : k < len
  · obtain ⟨hl, hc⟩ := hc
    rcases hc with rfl | ⟨b, off, rfl, hb, hc⟩
    · exact absurd h (by omega)
    · obtain ⟨x, x0, x1, hx⟩ := hc k h
      exact next_byte p cap b off len k x w hl hk h hb x0 x1 hx hs
  · exact next_end p cap a len k w hc.1 hk h hs
theorem Code.grown {p : Nat} {w w' : World} {a : Option Addr} {len : Nat} (h : Code p w a len) (hp : p < w.heap.size) (hg : w.grownBy w' (some p)) : Code p w' a len := by
  obtain ⟨hl, hc⟩ := h
  refine ⟨hl, ?_⟩
  rcases hc with rfl | ⟨b, off, rfl, hb, hc⟩
  · exact .inl rfl
  · refine .inr ⟨b, off, rfl, hb, fun j hj => ?_⟩
    obtain ⟨x, x0, x1, hx⟩ := hc j hj
    exact ⟨x, x0, x1, hg.cell hx (fun e => absurd (Option.some.inj e) (Nat.ne_of_lt hb))⟩

set_option maxHeartbeats 400000 in
/-- A number that two draws choose. -/
theorem pick_wide {w : World} {p : Nat} {a : Option Addr} {len cap k : Nat} (n : Nat) (hn0 : 201 ≤ n) (hn1 : n ≤ 65536) (hc : Code p w a len) (hp : p < w.heap.size) (hk : k ≤ 900000000) (hs : Src w p a len cap k) :
    Calls Try.prog 64 #[.pointer (some ⟨p, 0, none⟩), .int .i64 (n : Int)] w fun e w' => RetN w p a len cap (k + 2) n e w' := by
  have HC := Lib.hid hc
  have HS := Lib.hid hs
  have n1 : ¬ (n : Int) ≤ 1 := by omega
  have n2 : (200 : Int) < n := by omega
  have n3 : ¬ (n : Int) = 0 := by omega
  clear hc hs
  go_enter Try.func64, Try.ntmps64
  go_wp2_with fail
  refine (next_any HC.out (by omega) HS.out).mono ?_
  rintro e w1 ⟨x, x0, x1, rfl, hs1, hg1⟩
  have S1 := Lib.hid hs1
  have G1 := Lib.hid hg1
  clear hs1 hg1
  go_wp2_with fail
  refine (next_any (HC.out.grown hp G1.out) (by omega) S1.out).mono ?_
  rintro e w2 ⟨y, y0, y1, rfl, hs2, hg2⟩
  have S2 := Lib.hid hs2
  have G2 := Lib.hid hg2
  clear hs2 hg2
  go_wp2_with fail
  go_ret
  exact ⟨(x * 256 + y) % n, Int.emod_nonneg _ (by omega), Int.emod_lt_of_pos _ (by omega), rfl, S2.out, sgb_trans G1.out G2.out⟩
/-- The bytes of a slice that came in. -/
def Bytes (w : World) (a : Option Addr) (len : Nat) : Prop :=
  len ≤ 1048576 ∧ (len = 0 ∨ ∃ b off, a = some ⟨b, off, none⟩ ∧ b < w.heap.size ∧ ∀ j, j < len → ∃ x : Int, 0 ≤ x ∧ x ≤ 255 ∧ w.cell? ⟨b, off + j, none⟩ = some (.int .u8 x))
theorem Bytes.code {w w' : World} {a : Option Addr} {len : Nat} (h : Bytes w a len) (hb : Below w.heap.size w w') : Code w.heap.size w' a len := by
  obtain ⟨hl, hc⟩ := h
  refine ⟨hl, ?_⟩
  rcases hc with rfl | ⟨b, off, rfl, hb', hc⟩
  · exact .inl rfl
  · refine .inr ⟨b, off, rfl, hb', fun j hj => ?_⟩
    obtain ⟨x, x0, x1, hx⟩ := hc j hj
    exact ⟨x, x0, x1, (hb.cell (p := ⟨b, off + j, none⟩) hb').trans hx⟩
theorem Bytes.on {w w' : World} {a : Option Addr} {len : Nat} (h : Bytes w a len) (hb : Below w.heap.size w w') : Bytes w' a len := by
  obtain ⟨hl, hc⟩ := h
  refine ⟨hl, ?_⟩
  rcases hc with rfl | ⟨b, off, rfl, hb', hc⟩
  · exact .inl rfl
  · refine .inr ⟨b, off, rfl, Nat.lt_of_lt_of_le hb' hb.size, fun j hj => ?_⟩
    obtain ⟨x, x0, x1, hx⟩ := hc j hj
    exact ⟨x, x0, x1, (hb.cell (p := ⟨b, off + j, none⟩) hb').trans hx⟩
/-- A new source. -/
def RetF (w : World) (a : Option Addr) (len cap : Nat) (e : Ending) (w' : World) : Prop :=
  e = .returned (.pointer (some ⟨w.heap.size, 0, none⟩)) ∧ Src w' w.heap.size a len cap 0 ∧ Below w.heap.size w w' ∧ w.heap.size < w'.heap.size
theorem from_any (w : World) (a : Option Addr) (len cap : Nat) :
    Calls Try.prog 40 #[.slice a len cap] w fun e w' => RetF w a len cap e w' := by
  go_enter Try.func40, Try.ntmps40
  go_wp2
  go_ret
  refine ⟨rfl, ⟨0, by omega, by omega, ?_, ?_, ?_, ?_, ?_⟩, (Below.refl _ _).alloc (Nat.le_refl _) _, by simp⟩
  · rw [World.cell?_alloc_at _ _ _ _ rfl]; rfl
  · rw [World.cell?_alloc_at _ _ _ _ rfl]; rfl
  · rw [World.cell?_alloc_at _ _ _ _ rfl]; rfl
  · exact World.frozen?_alloc_at _ _ _ _ rfl
  · exact World.frozen?_alloc_at _ _ _ _ rfl
/-- A source in block p, with no more than K draws behind it. -/
def Sc (p : Nat) (a : Option Addr) (len cap K : Nat) (w : World) : Prop := Code p w a len ∧ p < w.heap.size ∧ ∃ k, k ≤ K ∧ Src w p a len cap k
/-- A draw: a number for which P holds. -/
def RetDr (P : Int → Prop) (p : Nat) (a : Option Addr) (len cap K : Nat) (w : World) (e : Ending) (w' : World) : Prop := ∃ r : Int, P r ∧ e = .returned (.int .i64 r) ∧ Sc p a len cap K w' ∧ w.grownBy w' (some p)
theorem Sc.up {p : Nat} {a : Option Addr} {len cap K K' : Nat} {w : World} (h : Sc p a len cap K w) (hK : K ≤ K') : Sc p a len cap K' w := by
  obtain ⟨h1, h2, k, hk, h3⟩ := h; exact ⟨h1, h2, k, by omega, h3⟩
theorem sgb_alloc (w : World) (o : Obj) (r : Option Nat) : w.grownBy (w.alloc o) r :=
  ⟨rfl, rfl, rfl, by simp, fun k hk _ => Below.heap_alloc w o k hk⟩
theorem Src.gb {w w' : World} {p q : Nat} {a : Option Addr} {len cap k : Nat} (h : Src w p a len cap k) (hp : p < w.heap.size) (hg : w.grownBy w' (some q)) (hq : p ≠ q) : Src w' p a len cap k := by
  obtain ⟨s, s0, s1, c0, c1, c2, f1, f2⟩ := h
  have hb := hg.block p hp (fun e => hq (Option.some.inj e))
  have hc : ∀ o, w'.cell? ⟨p, o, none⟩ = w.cell? ⟨p, o, none⟩ := fun o => by unfold World.cell?; simp only [hb]
  have hf : ∀ o, w'.frozen? ⟨p, o, none⟩ = w.frozen? ⟨p, o, none⟩ := fun o => by unfold World.frozen?; simp only [hb]
  exact ⟨s, s0, s1, (hc 0).trans c0, (hc 1).trans c1, (hc 2).trans c2, (hf 1).trans f1, (hf 2).trans f2⟩
theorem Sc.below {p : Nat} {a : Option Addr} {len cap K : Nat} {w w' : World} (h : Sc p a len cap K w) (hb : Below w.heap.size w w') : Sc p a len cap K w' := by
  obtain ⟨⟨hl, hc⟩, h2, k, hk, s, s0, s1, c0, c1, c2, f1, f2⟩ := h
  refine ⟨⟨hl, ?_⟩, Nat.lt_of_lt_of_le h2 hb.size, k, hk, s, s0, s1, (hb.cell (p := ⟨p, 0, none⟩) h2).trans c0, (hb.cell (p := ⟨p, 1, none⟩) h2).trans c1, (hb.cell (p := ⟨p, 2, none⟩) h2).trans c2, (hb.frozen (p := ⟨p, 1, none⟩) h2).trans f1, (hb.frozen (p := ⟨p, 2, none⟩) h2).trans f2⟩
  rcases hc with rfl | ⟨b, off, rfl, hb', hc⟩
  · exact .inl rfl
  · refine .inr ⟨b, off, rfl, hb', fun j hj => ?_⟩
    obtain ⟨x, x0, x1, hx⟩ := hc j hj
    exact ⟨x, x0, x1, (hb.cell (p := ⟨b, off + j, none⟩) (Nat.lt_trans hb' h2)).trans hx⟩
theorem Sc.alloc {p : Nat} {a : Option Addr} {len cap K : Nat} {w : World} (h : Sc p a len cap K w) (o : Obj) : Sc p a len cap K (w.alloc o) := h.below ((Below.refl _ _).alloc (Nat.le_refl _) o)

set_option maxHeartbeats 800000 in
/-- A number from 0 to n - 1; 0 where n is 1 or less. -/
theorem pick_any {p : Nat} {a : Option Addr} {len cap K : Nat} {w : World} (n : Int) (hn : n ≤ 1000000000000) (hK : K ≤ 900000000) (h : Sc p a len cap K w) :
    Calls Try.prog 64 #[.pointer (some ⟨p, 0, none⟩), .int .i64 n] w fun e w' => RetDr (fun r => 0 ≤ r ∧ (r < n ∨ r = 0)) p a len cap (K + 2) w e w' := by
  by_cases n1 : n ≤ 1
  · have H := Lib.hid (h.up (by omega : K ≤ K + 2))
    clear h
    go_enter Try.func64, Try.ntmps64
    go_wp2
    go_ret
    exact ⟨0, ⟨by omega, .inr rfl⟩, rfl, H.out, gb_refl _ _⟩
  · have n0 : ¬ n = 0 := by omega
    obtain ⟨hc, hp, k, hk, hs⟩ := h
    have HC := Lib.hid hc
    have HS := Lib.hid hs
    clear hc hs
    by_cases n2 : 200 < n
    · go_enter Try.func64, Try.ntmps64
      go_wp2_with fail
      refine (next_any HC.out (by omega) HS.out).mono ?_
      rintro e w1 ⟨x, x0, x1, rfl, hs1, hg1⟩
      have S1 := Lib.hid hs1
      have G1 := Lib.hid hg1
      have C1 := Lib.hid (HC.out.grown hp hg1)
      have hp1 := Nat.lt_of_lt_of_le hp hg1.size
      clear hs1 hg1
      go_wp2_with fail
      refine (next_any C1.out (by omega) S1.out).mono ?_
      rintro e w2 ⟨y, y0, y1, rfl, hs2, hg2⟩
      have S2 := Lib.hid hs2
      have G2 := Lib.hid hg2
      have C2 := Lib.hid (C1.out.grown hp1 hg2)
      have hp2 := Nat.lt_of_lt_of_le hp1 hg2.size
      clear hs2 hg2
      go_wp2_with fail
      go_ret
      exact ⟨(x * 256 + y) % n, ⟨Int.emod_nonneg _ n0, .inl (Int.emod_lt_of_pos _ (by omega))⟩, rfl, ⟨C2.out, hp2, _, by omega, S2.out⟩, sgb_trans G1.out G2.out⟩
    · go_enter Try.func64, Try.ntmps64
      go_wp2_with fail
      refine (next_any HC.out (by omega) HS.out).mono ?_
      rintro e w1 ⟨x, x0, x1, rfl, hs1, hg1⟩
      have S1 := Lib.hid hs1
      have G1 := Lib.hid hg1
      have C1 := Lib.hid (HC.out.grown hp hg1)
      have hp1 := Nat.lt_of_lt_of_le hp hg1.size
      clear hs1 hg1
      go_wp2_with fail
      go_ret
      exact ⟨x % n, ⟨Int.emod_nonneg _ n0, .inl (Int.emod_lt_of_pos _ (by omega))⟩, rfl, ⟨C1.out, hp1, _, by omega, S1.out⟩, G1.out⟩
/-- Yes or no. -/
def RetYn (p : Nat) (a : Option Addr) (len cap K : Nat) (w : World) (e : Ending) (w' : World) : Prop := ∃ b : Bool, e = .returned (.bool b) ∧ Sc p a len cap K w' ∧ w.grownBy w' (some p)
theorem one_any {p : Nat} {a : Option Addr} {len cap K : Nat} {w : World} (n : Int) (hn : n ≤ 1000000000000) (hK : K ≤ 900000000) (h : Sc p a len cap K w) :
    Calls Try.prog 93 #[.pointer (some ⟨p, 0, none⟩), .int .i64 n] w fun e w' => RetYn p a len cap (K + 2) w e w' := by
  have H := Lib.hid h
  clear h
  go_enter Try.func93, Try.ntmps93
  go_wp2_with fail
  refine (pick_any n hn hK H.out).mono ?_
  rintro e w1 ⟨r, hr, rfl, hs, hg⟩
  have HS := Lib.hid hs
  have HG := Lib.hid hg
  clear hs hg hr
  go_wp2_with fail
  go_ret
  exact ⟨_, rfl, HS.out, HG.out⟩
/-- The cells of a list that the call wrote out. -/
theorem lit_cells {zs : List Int} {arr : Array Value} (h : arr = (iv zs).toArray) (w : World) (t : TypeId) : ∀ (j : Nat) (hj : j < zs.length), (w.alloc (.cells arr t)).cell? ⟨w.heap.size, j, none⟩ = some (.int .i64 zs[j]) := by
  intro j hj
  subst h
  rw [World.cell?_alloc_at _ _ _ _ rfl]
  simpa using iv_at zs j hj
set_option maxHeartbeats 800000 in
/-- One of some numbers. -/
theorem among_any {p : Nat} {a : Option Addr} {len cap K : Nat} {w : World} (zs : List Int) (g c : Nat) (hz : zs ≠ []) (hl : zs.length ≤ 1000) (hg : g ≠ p) (hgw : g < w.heap.size)
    (hc : ∀ (j : Nat) (hj : j < zs.length), w.cell? ⟨g, j, none⟩ = some (.int .i64 zs[j])) (hK : K ≤ 900000000) (h : Sc p a len cap K w) :
    Calls Try.prog 65 #[.pointer (some ⟨p, 0, none⟩), .slice (some ⟨g, 0, none⟩) zs.length c] w fun e w' => RetDr (fun r => r ∈ zs) p a len cap (K + 2) w e w' := by
  have H := Lib.hid h
  have HC := Lib.hid hc
  have hn : 0 < zs.length := by cases zs with | nil => exact absurd rfl hz | cons _ _ => simp
  clear h hc hz
  go_enter Try.func65, Try.ntmps65
  go_wp2_with fail
  refine (pick_any (zs.length : Int) (by omega) hK H.out).mono ?_
  rintro e w1 ⟨r, ⟨r0, r1⟩, rfl, hs, hgr⟩
  obtain ⟨k, rfl⟩ := Int.eq_ofNat_of_zero_le r0
  have hk : k < zs.length := by omega
  have c1 : w1.cell? ⟨g, k, none⟩ = some (.int .i64 zs[k]) := hgr.cell (HC.out k hk) (fun e => hg (Option.some.inj e))
  have i1 : (k : Int) < zs.length := by omega
  have HM : Hid (zs[k] ∈ zs) := List.getElem_mem hk
  obtain ⟨z, hz⟩ : ∃ z, zs[k] = z := ⟨_, rfl⟩
  rw [hz] at c1 HM
  have HS := Lib.hid hs
  have HG := Lib.hid hgr
  clear hs hgr hz
  go_wp2_with fail
  go_ret
  exact ⟨z, HM.out, rfl, HS.out, HG.out⟩
/-- One of the numbers of a list that is written out at the call. -/
theorem among_lit {p : Nat} {a : Option Addr} {len cap K : Nat} {w : World} (zs : List Int) (arr : Array Value) (t : TypeId) (n : Nat) (ha : arr = (iv zs).toArray) (hn : n = zs.length) (hz : zs ≠ []) (hl : zs.length ≤ 1000) (hK : K ≤ 900000000) (h : Sc p a len cap K w) :
    Calls Try.prog 65 #[.pointer (some ⟨p, 0, none⟩), .slice (some ⟨w.heap.size, 0, none⟩) n n] (w.alloc (.cells arr t)) fun e w' => RetDr (fun r => r ∈ zs) p a len cap (K + 2) w e w' := by
  subst hn
  refine (among_any zs w.heap.size zs.length hz hl (by have := h.2.1; omega) (by simp) (lit_cells ha w t) hK (h.alloc _)).mono ?_
  rintro e w' ⟨r, hr, he, hs, hg⟩
  exact ⟨r, hr, he, hs, sgb_trans (sgb_alloc _ _ _) hg⟩

/-! ### The bytes that came in -/
theorem bytes_in {w : World} {a : Option Addr} {len cap : Nat} {zs : List Int} (hl : len ≤ 1048576)
    (h : (a = none ∧ len = 0 ∧ cap = 0 ∧ zs = []) ∨ ∃ x, a = some x ∧ len ≤ cap ∧ cap ≤ maxLen ∧ zs.length = cap ∧ (∀ i, i < zs.length → w.cell? (x.add i) = some (.int .u8 (zs.getD i 0))) ∧ ∀ n ∈ zs, (Lit.int .u8 n).wf = true) :
    Bytes w a len := by
  refine ⟨hl, ?_⟩
  rcases h with ⟨rfl, rfl, rfl, rfl⟩ | ⟨x, rfl, h1, _, h3, h4, h5⟩
  · exact .inl rfl
  · by_cases h0 : len = 0
    · exact .inl h0
    · right
      obtain ⟨b, off, spot⟩ := x
      have hc := h4 0 (by omega)
      have hspot : spot = none := by simpa [Addr.add] using World.cell?_spot hc
      subst hspot
      refine ⟨b, off, rfl, World.block_lt_of_cell? w _ (by simpa [Addr.add] using hc), fun j hj => ?_⟩
      have hj' : j < zs.length := by omega
      have := h4 j hj'
      have ea : (⟨b, off, none⟩ : Addr).add j = ⟨b, off + j, none⟩ := by
        unfold Addr.add; split <;> simp_all
      rw [ea] at this
      have hm : zs.getD j 0 ∈ zs := by simp [List.getD, List.getElem?_eq_getElem hj']
      have hw := h5 _ hm
      have m0 : IntKind.u8.min = 0 := by decide
      have m1 : IntKind.u8.max = 255 := by decide
      have hb : 0 ≤ zs.getD j 0 ∧ zs.getD j 0 ≤ 255 := by
        have hw' : IntKind.u8.min ≤ zs.getD j 0 ∧ zs.getD j 0 ≤ IntKind.u8.max := by simpa [Lit.wf] using hw
        rw [m0, m1] at hw'; exact hw'
      exact ⟨_, hb.1, hb.2, this⟩

/-! ### Numbers modulo a prime -/
theorem below_gb2 {B p : Nat} {w w' : World} (h : w.grownBy w' (some p)) (hp : B ≤ p) (hB : B ≤ w.heap.size) : Below B w w' :=
  ⟨h.os, h.tape, h.output, h.size, fun k hk => h.block k (Nat.lt_of_lt_of_le hk hB) (fun e => absurd (Option.some.inj e) (by omega))⟩
/-- A new source. -/
theorem newSc {w w1 : World} {a : Option Addr} {len cap : Nat} (h : Bytes w a len) (hs : Src w1 w.heap.size a len cap 0) (hb : Below w.heap.size w w1) (hp : w.heap.size < w1.heap.size) : Sc w.heap.size a len cap 0 w1 :=
  ⟨h.code hb, hp, 0, Nat.le_refl _, hs⟩
/-! ### r8Long, r8At -/
end Go.Proofs.Ytpimnngomodnhaa
