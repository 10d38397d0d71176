/-
  Draws from a source of choices: each is a number within its bounds; only the source's own block is written.
-/
import Derived.Test.YtlikfgmhhjpggaaSrc
import Derived.Test.YtlikfgmhhjpggaaInts
namespace Go.Proofs.Ytlikfgmhhjpggaa
open Go.RowKit
set_option linter.unusedVariables false

/-- A source in block p, with no more than K draws behind it. -/
def Sc (p : Nat) (a : Option Addr) (len cap K : Nat) (w : World) : Prop := Code p w a len ∧ p < w.heap.size ∧ ∃ k, k ≤ K ∧ Src w p a len cap k
/-- A draw: a number for which P holds. -/
def RetDr (P : Int → Prop) (p : Nat) (a : Option Addr) (len cap K : Nat) (w : World) (e : Ending) (w' : World) : Prop := ∃ r : Int, P r ∧ e = .returned (.int .i64 r) ∧ Sc p a len cap K w' ∧ w.grownBy w' (some p)
theorem Sc.up {p : Nat} {a : Option Addr} {len cap K K' : Nat} {w : World} (h : Sc p a len cap K w) (hK : K ≤ K') : Sc p a len cap K' w := by
  obtain ⟨h1, h2, k, hk, h3⟩ := h; exact ⟨h1, h2, k, by omega, h3⟩
theorem gb_alloc (w : World) (o : Obj) (r : Option Nat) : w.grownBy (w.alloc o) r :=
  ⟨rfl, rfl, rfl, by simp, fun k hk _ => Below.heap_alloc w o k hk⟩
theorem Src.gb {w w' : World} {p q : Nat} {a : Option Addr} {len cap k : Nat} (h : Src w p a len cap k) (hp : p < w.heap.size) (hg : w.grownBy w' (some q)) (hq : p ≠ q) : Src w' p a len cap k := by
  obtain ⟨s, s0, s1, c0, c1, c2, f1, f2⟩ := h
  have hb := hg.block p hp (fun e => hq (Option.some.inj e))
  have hc : ∀ o, w'.cell? ⟨p, o, none⟩ = w.cell? ⟨p, o, none⟩ := fun o => by unfold World.cell?; simp only [hb]
  have hf : ∀ o, w'.frozen? ⟨p, o, none⟩ = w.frozen? ⟨p, o, none⟩ := fun o => by unfold World.frozen?; simp only [hb]
  exact ⟨s, s0, s1, (hc 0).trans c0, (hc 1).trans c1, (hc 2).trans c2, (hf 1).trans f1, (hf 2).trans f2⟩
theorem Sc.below {p : Nat} {a : Option Addr} {len cap K : Nat} {w w' : World} (h : Sc p a len cap K w) (hb : Below w.heap.size w w') : Sc p a len cap K w' := by
  obtain ⟨⟨hl, hc⟩, h2, k, hk, s, s0, s1, c0, c1, c2, f1, f2⟩ := h
  refine ⟨⟨hl, ?_⟩, Nat.lt_of_lt_of_le h2 hb.size, k, hk, s, s0, s1, (hb.cell (p := ⟨p, 0, none⟩) h2).trans c0, (hb.cell (p := ⟨p, 1, none⟩) h2).trans c1, (hb.cell (p := ⟨p, 2, none⟩) h2).trans c2, (hb.frozen (p := ⟨p, 1, none⟩) h2).trans f1, (hb.frozen (p := ⟨p, 2, none⟩) h2).trans f2⟩
  rcases hc with rfl | ⟨b, off, rfl, hb', hc⟩
  · exact .inl rfl
  · refine .inr ⟨b, off, rfl, hb', fun j hj => ?_⟩
    obtain ⟨x, x0, x1, hx⟩ := hc j hj
    exact ⟨x, x0, x1, (hb.cell (p := ⟨b, off + j, none⟩) (Nat.lt_trans hb' h2)).trans hx⟩
theorem Sc.alloc {p : Nat} {a : Option Addr} {len cap K : Nat} {w : World} (h : Sc p a len cap K w) (o : Obj) : Sc p a len cap K (w.alloc o) := h.below ((Below.refl _ _).alloc (Nat.le_refl _) o)

theorem max_any (a b : Int) (w : World) :
    Calls Try.prog 88 #[.int .i64 a, .int .i64 b] w fun e w' => e = .returned (.int .i64 (if a > b then a else b)) ∧ w = w' := by
  by_cases h : a > b
  · rw [if_pos h]
    go_enter Try.func88, Try.ntmps88
    go_wp2
    go_ret
    exact ⟨rfl, rfl⟩
  · rw [if_neg h]
    have h' : decide (b < a) = false := by simpa using h
    clear h
    go_enter Try.func88, Try.ntmps88
    go_wp2
    go_ret
    exact ⟨rfl, rfl⟩
set_option maxHeartbeats 800000 in
/-- A number from 0 to n - 1; 0 where n is 1 or less. -/
theorem pick_any {p : Nat} {a : Option Addr} {len cap K : Nat} {w : World} (n : Int) (hn : n ≤ 1000000000000) (hK : K ≤ 900000000) (h : Sc p a len cap K w) :
    Calls Try.prog 69 #[.pointer (some ⟨p, 0, none⟩), .int .i64 n] w fun e w' => RetDr (fun r => 0 ≤ r ∧ (r < n ∨ r = 0)) p a len cap (K + 2) w e w' := by
  by_cases n1 : n ≤ 1
  · have H := Lib.hid (h.up (by omega : K ≤ K + 2))
    clear h
    go_enter Try.func69, Try.ntmps69
    go_wp2
    go_ret
    exact ⟨0, ⟨by omega, .inr rfl⟩, rfl, H.out, gb_refl _ _⟩
  · have n0 : ¬ n = 0 := by omega
    obtain ⟨hc, hp, k, hk, hs⟩ := h
    have HC := Lib.hid hc
    have HS := Lib.hid hs
    clear hc hs
    by_cases n2 : 200 < n
    · go_enter Try.func69, Try.ntmps69
      go_wp2_with fail
      refine (next_any HC.out (by omega) HS.out).mono ?_
      rintro e w1 ⟨x, x0, x1, rfl, hs1, hg1⟩
      have S1 := Lib.hid hs1
      have G1 := Lib.hid hg1
      have C1 := Lib.hid (HC.out.grown hp hg1)
      have hp1 := Nat.lt_of_lt_of_le hp hg1.size
      clear hs1 hg1
      go_wp2_with fail
      refine (next_any C1.out (by omega) S1.out).mono ?_
      rintro e w2 ⟨y, y0, y1, rfl, hs2, hg2⟩
      have S2 := Lib.hid hs2
      have G2 := Lib.hid hg2
      have C2 := Lib.hid (C1.out.grown hp1 hg2)
      have hp2 := Nat.lt_of_lt_of_le hp1 hg2.size
      clear hs2 hg2
      go_wp2_with fail
      go_ret
      exact ⟨(x * 256 + y) % n, ⟨Int.emod_nonneg _ n0, .inl (Int.emod_lt_of_pos _ (by omega))⟩, rfl, ⟨C2.out, hp2, _, by omega, S2.out⟩, gb_trans G1.out G2.out⟩
    · go_enter Try.func69, Try.ntmps69
      go_wp2_with fail
      refine (next_any HC.out (by omega) HS.out).mono ?_
      rintro e w1 ⟨x, x0, x1, rfl, hs1, hg1⟩
      have S1 := Lib.hid hs1
      have G1 := Lib.hid hg1
      have C1 := Lib.hid (HC.out.grown hp hg1)
      have hp1 := Nat.lt_of_lt_of_le hp hg1.size
      clear hs1 hg1
      go_wp2_with fail
      go_ret
      exact ⟨x % n, ⟨Int.emod_nonneg _ n0, .inl (Int.emod_lt_of_pos _ (by omega))⟩, rfl, ⟨C1.out, hp1, _, by omega, S1.out⟩, G1.out⟩
/-- Yes or no. -/
def RetYn (p : Nat) (a : Option Addr) (len cap K : Nat) (w : World) (e : Ending) (w' : World) : Prop := ∃ b : Bool, e = .returned (.bool b) ∧ Sc p a len cap K w' ∧ w.grownBy w' (some p)
theorem one_any {p : Nat} {a : Option Addr} {len cap K : Nat} {w : World} (n : Int) (hn : n ≤ 1000000000000) (hK : K ≤ 900000000) (h : Sc p a len cap K w) :
    Calls Try.prog 67 #[.pointer (some ⟨p, 0, none⟩), .int .i64 n] w fun e w' => RetYn p a len cap (K + 2) w e w' := by
  have H := Lib.hid h
  clear h
  go_enter Try.func67, Try.ntmps67
  go_wp2_with fail
  refine (pick_any n hn hK H.out).mono ?_
  rintro e w1 ⟨r, hr, rfl, hs, hg⟩
  have HS := Lib.hid hs
  have HG := Lib.hid hg
  clear hs hg hr
  go_wp2_with fail
  go_ret
  exact ⟨_, rfl, HS.out, HG.out⟩
/-- The cells of a list that the call wrote out. -/
theorem lit_cells {zs : List Int} {arr : Array Value} (h : arr = (iv zs).toArray) (w : World) (t : TypeId) : ∀ (j : Nat) (hj : j < zs.length), (w.alloc (.cells arr t)).cell? ⟨w.heap.size, j, none⟩ = some (.int .i64 zs[j]) := by
  intro j hj
  subst h
  rw [World.cell?_alloc_at _ _ _ _ rfl]
  simpa using iv_at zs j hj
set_option maxHeartbeats 800000 in
/-- One of some numbers. -/
theorem among_any {p : Nat} {a : Option Addr} {len cap K : Nat} {w : World} (zs : List Int) (g c : Nat) (hz : zs ≠ []) (hl : zs.length ≤ 1000) (hg : g ≠ p) (hgw : g < w.heap.size)
    (hc : ∀ (j : Nat) (hj : j < zs.length), w.cell? ⟨g, j, none⟩ = some (.int .i64 zs[j])) (hK : K ≤ 900000000) (h : Sc p a len cap K w) :
    Calls Try.prog 86 #[.pointer (some ⟨p, 0, none⟩), .slice (some ⟨g, 0, none⟩) zs.length c] w fun e w' => RetDr (fun r => r ∈ zs) p a len cap (K + 2) w e w' := by
  have H := Lib.hid h
  have HC := Lib.hid hc
  have hn : 0 < zs.length := by cases zs with | nil => exact absurd rfl hz | cons _ _ => simp
  clear h hc hz
  go_enter Try.func86, Try.ntmps86
  go_wp2_with fail
  refine (pick_any (zs.length : Int) (by omega) hK H.out).mono ?_
  rintro e w1 ⟨r, ⟨r0, r1⟩, rfl, hs, hgr⟩
  obtain ⟨k, rfl⟩ := Int.eq_ofNat_of_zero_le r0
  have hk : k < zs.length := by omega
  have c1 : w1.cell? ⟨g, k, none⟩ = some (.int .i64 zs[k]) := hgr.cell (HC.out k hk) (fun e => hg (Option.some.inj e))
  have i1 : (k : Int) < zs.length := by omega
  have HM : Hid (zs[k] ∈ zs) := List.getElem_mem hk
  obtain ⟨z, hz⟩ : ∃ z, zs[k] = z := ⟨_, rfl⟩
  rw [hz] at c1 HM
  have HS := Lib.hid hs
  have HG := Lib.hid hgr
  clear hs hgr hz
  go_wp2_with fail
  go_ret
  exact ⟨z, HM.out, rfl, HS.out, HG.out⟩
/-- One of the numbers of a list that is written out at the call. -/
theorem among_lit {p : Nat} {a : Option Addr} {len cap K : Nat} {w : World} (zs : List Int) (arr : Array Value) (t : TypeId) (n : Nat) (ha : arr = (iv zs).toArray) (hn : n = zs.length) (hz : zs ≠ []) (hl : zs.length ≤ 1000) (hK : K ≤ 900000000) (h : Sc p a len cap K w) :
    Calls Try.prog 86 #[.pointer (some ⟨p, 0, none⟩), .slice (some ⟨w.heap.size, 0, none⟩) n n] (w.alloc (.cells arr t)) fun e w' => RetDr (fun r => r ∈ zs) p a len cap (K + 2) w e w' := by
  subst hn
  refine (among_any zs w.heap.size zs.length hz hl (by have := h.2.1; omega) (by simp) (lit_cells ha w t) hK (h.alloc _)).mono ?_
  rintro e w' ⟨r, hr, he, hs, hg⟩
  exact ⟨r, hr, he, hs, gb_trans (gb_alloc _ _ _) hg⟩

/-! ### The bytes that came in -/
theorem bytes_in {w : World} {a : Option Addr} {len cap : Nat} {zs : List Int} (hl : len ≤ 1048576)
    (h : (a = none ∧ len = 0 ∧ cap = 0 ∧ zs = []) ∨ ∃ x, a = some x ∧ len ≤ cap ∧ cap ≤ maxLen ∧ zs.length = cap ∧ (∀ i, i < zs.length → w.cell? (x.add i) = some (.int .u8 (zs.getD i 0))) ∧ ∀ n ∈ zs, (Lit.int .u8 n).wf = true) :
    Bytes w a len := by
  refine ⟨hl, ?_⟩
  rcases h with ⟨rfl, rfl, rfl, rfl⟩ | ⟨x, rfl, h1, _, h3, h4, h5⟩
  · exact .inl rfl
  · by_cases h0 : len = 0
    · exact .inl h0
    · right
      obtain ⟨b, off, spot⟩ := x
      have hc := h4 0 (by omega)
      have hspot : spot = none := by simpa [Addr.add] using World.cell?_spot hc
      subst hspot
      refine ⟨b, off, rfl, World.block_lt_of_cell? w _ (by simpa [Addr.add] using hc), fun j hj => ?_⟩
      have hj' : j < zs.length := by omega
      have := h4 j hj'
      have ea : (⟨b, off, none⟩ : Addr).add j = ⟨b, off + j, none⟩ := by
        unfold Addr.add; split <;> simp_all
      rw [ea] at this
      have hm : zs.getD j 0 ∈ zs := by simp [List.getD, List.getElem?_eq_getElem hj']
      have hw := h5 _ hm
      have m0 : IntKind.u8.min = 0 := by decide
      have m1 : IntKind.u8.max = 255 := by decide
      have hb : 0 ≤ zs.getD j 0 ∧ zs.getD j 0 ≤ 255 := by
        have hw' : IntKind.u8.min ≤ zs.getD j 0 ∧ zs.getD j 0 ≤ IntKind.u8.max := by simpa [Lit.wf] using hw
        rw [m0, m1] at hw'; exact hw'
      exact ⟨_, hb.1, hb.2, this⟩

/-! ### Numbers modulo a prime -/
def Small (r : Int) : Prop := -1000 ≤ r ∧ r ≤ 1000
theorem drawPrime_any {p : Nat} {a : Option Addr} {len cap K : Nat} {w : World} (hK : K ≤ 900000000) (h : Sc p a len cap K w) :
    Calls Try.prog 87 #[.pointer (some ⟨p, 0, none⟩)] w fun e w' => RetDr (fun r => 2 ≤ r ∧ r ≤ 251) p a len cap (K + 2) w e w' := by
  have H := Lib.hid h
  clear h
  go_enter Try.func87, Try.ntmps87
  go_wp2_with fail
  refine (among_lit [2, 3, 5, 7, 11, 13, 101, 251] _ _ 8 rfl rfl (by simp) (by simp) hK H.out).mono ?_
  rintro e w1 ⟨r, hr, rfl, hs, hg⟩
  have HR : Hid (2 ≤ r ∧ r ≤ 251) := by simp at hr; show _ ∧ _; omega
  have HS := Lib.hid hs
  have HG := Lib.hid hg
  clear hs hg hr
  go_wp2_with fail
  go_ret
  exact ⟨r, HR.out, rfl, HS.out, HG.out⟩
set_option maxHeartbeats 800000 in
theorem bentPrime_any {p : Nat} {a : Option Addr} {len cap K : Nat} {w : World} (hK : K ≤ 800000000) (h : Sc p a len cap K w) :
    Calls Try.prog 55 #[.pointer (some ⟨p, 0, none⟩)] w fun e w' => RetDr (fun r => -2 ≤ r ∧ r ≤ 257) p a len cap (K + 4) w e w' := by
  have H := Lib.hid h
  clear h
  go_enter Try.func55, Try.ntmps55
  go_wp2_with fail
  refine (one_any 12 (by omega) (by omega) H.out).mono ?_
  rintro e w1 ⟨b, rfl, hs, hg⟩
  have S1 := Lib.hid hs
  have G1 := Lib.hid hg
  clear hs hg
  cases b
  · go_wp2_with fail
    refine (drawPrime_any (by omega) S1.out).mono ?_
    rintro e w2 ⟨r, hr, rfl, hs, hg⟩
    have HR : Hid (-2 ≤ r ∧ r ≤ 257) := by show _ ∧ _; omega
    have HS := Lib.hid hs
    have HG := Lib.hid (gb_trans G1.out hg)
    clear hs hg hr
    go_wp2_with fail
    go_ret
    exact ⟨r, HR.out, rfl, HS.out, HG.out⟩
  · go_wp2_with fail
    refine (among_lit [-2, 0, 1, 4, 91, 253, 257] _ _ 7 rfl rfl (by simp) (by simp) (by omega) S1.out).mono ?_
    rintro e w2 ⟨r, hr, rfl, hs, hg⟩
    have HR : Hid (-2 ≤ r ∧ r ≤ 257) := by simp at hr; show _ ∧ _; omega
    have HS := Lib.hid hs
    have HG := Lib.hid (gb_trans G1.out hg)
    clear hs hg hr
    go_wp2_with fail
    go_ret
    exact ⟨r, HR.out, rfl, HS.out, HG.out⟩
set_option maxHeartbeats 800000 in
theorem drawNumber_any {p : Nat} {a : Option Addr} {len cap K : Nat} {w : World} (q : Int) (hq0 : -2 ≤ q) (hq1 : q ≤ 257) (hK : K ≤ 800000000) (h : Sc p a len cap K w) :
    Calls Try.prog 56 #[.pointer (some ⟨p, 0, none⟩), .int .i64 q] w fun e w' => RetDr (fun r => -2 ≤ r ∧ r ≤ 257) p a len cap (K + 4) w e w' := by
  have H := Lib.hid h
  clear h
  go_enter Try.func56, Try.ntmps56
  go_wp2_with fail
  refine (one_any 14 (by omega) (by omega) H.out).mono ?_
  rintro e w1 ⟨b, rfl, hs, hg⟩
  have S1 := Lib.hid hs
  have G1 := Lib.hid hg
  clear hs hg
  cases b
  · go_wp2_with fail
    refine (max_any 1 q _).mono ?_
    rintro e w2 ⟨rfl, rfl⟩
    obtain ⟨m, hm⟩ : ∃ m, (if 1 > q then 1 else q) = m := ⟨_, rfl⟩
    have hm1 : m ≤ 257 := by rw [← hm]; split <;> omega
    rw [hm]
    clear hm
    go_wp2_with fail
    refine (pick_any m (by omega) (by omega) S1.out).mono ?_
    rintro e w2 ⟨r, hr, rfl, hs, hg⟩
    have HR : Hid (-2 ≤ r ∧ r ≤ 257) := by show _ ∧ _; omega
    have HS := Lib.hid hs
    have HG := Lib.hid (gb_trans G1.out hg)
    clear hs hg hr
    go_wp2_with fail
    go_ret
    exact ⟨r, HR.out, rfl, HS.out, HG.out⟩
  · go_wp2_with fail
    refine (among_lit [-1, q, 0] _ _ 3 rfl rfl (by simp) (by simp) (by omega) S1.out).mono ?_
    rintro e w2 ⟨r, hr, rfl, hs, hg⟩
    have HR : Hid (-2 ≤ r ∧ r ≤ 257) := by simp at hr; show _ ∧ _; omega
    have HS := Lib.hid hs
    have HG := Lib.hid (gb_trans G1.out hg)
    clear hs hg hr
    go_wp2_with fail
    go_ret
    exact ⟨r, HR.out, rfl, HS.out, HG.out⟩
end Go.Proofs.Ytlikfgmhhjpggaa
