/-
  Contracts of products and of the table of inverses, as the program makes them.
-/
import Derived.Test.YtlikfgmhhjpggaaFldB
import Derived.Deep.QuietTactic
import Derived.BigQuiet
import Derived.StillTailTactics
import Derived.Deep.RegionHeld3
import Derived.RegionTactic
import Derived.Below
import Derived.Outline
import Derived.Deep.MidRow
namespace Go.Proofs.Ytlikfgmhhjpggaa
open Go.RowKit
set_option linter.unusedVariables false

theorem times_any (a b p : Int) (w : World) (h0 : 2 ≤ p) (h1 : p ≤ 251) (a0 : 0 ≤ a) (a1 : a < p) (b0 : 0 ≤ b) (b1 : b < p) :
    Calls Try.prog 90 #[.agg #[.int .i64 a, .int .i64 p], .agg #[.int .i64 b, .int .i64 p]] w fun e w' => e = .returned (.agg #[.int .i64 (a * b % p), .int .i64 p]) ∧ Below w.heap.size w w' := by
  have kz : ¬ p = 0 := by omega
  obtain ⟨p0, p1⟩ := prod_bd h1 a0 a1 b0 b1
  go_enter Try.func90, Try.ntmps90
  go_wp2
  go_region
  go_wp2
  refine bodyPost_ret (v := .agg #[.int .i64 (a * b % p), .int .i64 p]) (by simp [results, Try.results90, go_sem]) rfl ⟨rfl, ?_⟩
  exact ((((Below.refl _ _).alloc (Nat.le_refl _) _).alloc (by simp) _).alloc (by simp; omega) _).drew
theorem below_setCells {B : Nat} {a : World} (b : Nat) : ∀ (vs : List Value) (o : Nat) (w : World), B ≤ b → Below B a w → Below B a (w.setCells b o vs)
  | [], _, _, _, h => h
  | v :: r, o, w, hb, h => by
    rw [World.setCells]
    exact below_setCells b r (o + 1) _ hb (h.setCell (p := ⟨b, o, none⟩) hb v)
/-- The table of inverses, up to n. -/
def InvTab (p : Int) (n : Nat) (xs : Array Value) : Prop := ∃ zs : List Int, zs.length = 251 ∧ xs = (zs.map (Value.int .i64)).toArray ∧ ∀ j : Nat, 1 ≤ j → j < n → IsInv p (j : Int) (zs.getD j 0)
theorem InvTab.size {p : Int} {n : Nat} {xs : Array Value} (h : InvTab p n xs) : xs.size = 251 := by
  obtain ⟨zs, hz, rfl, _⟩ := h; simp [hz]
theorem InvTab.one {p : Int} {n : Nat} {xs : Array Value} (h : InvTab p n xs) : xs.all (·.oneCell') = true := by
  obtain ⟨zs, hz, rfl, _⟩ := h
  refine all_oneCell_toArray fun v hv => ?_
  obtain ⟨z, _, rfl⟩ := List.mem_map.1 hv
  rfl
theorem InvTab.at {p : Int} {n : Nat} {xs : Array Value} (h : InvTab p n xs) {j : Nat} (j0 : 1 ≤ j) (j1 : j < n) (j2 : j < xs.size) : ∃ y : Int, xs[j] = .int .i64 y ∧ IsInv p (j : Int) y := by
  obtain ⟨zs, hz, rfl, h⟩ := h
  have : j < zs.length := by simpa using j2
  refine ⟨zs.getD j 0, ?_, h j j0 j1⟩
  simp [List.getD, List.getElem?_eq_getElem this]
theorem invtab_next {p : Int} {n : Nat} {xs : Array Value} {y : Int} (h : InvTab p n xs) (hn : n < 251) (hy : IsInv p (n : Int) y) : InvTab p (n + 1) (xs.setIfInBounds n (.int .i64 y)) := by
  obtain ⟨zs, hz, rfl, h⟩ := h
  refine ⟨zs.set n y, by rw [List.length_set, hz], by simp [List.map_set], fun j j0 j1 => ?_⟩
  by_cases e : j = n
  · subst e
    simp [List.getD, hz, hn]
    exact hy
  · have := h j j0 (by omega)
    simp only [List.getD, List.getElem?_set] at this ⊢
    rw [if_neg (by omega)]
    exact this
/-- How the table comes back. -/
def RetT (p : Int) (w : World) (e : Ending) (w' : World) : Prop := ∃ (xs : Array Value) (n : Nat), e = .returned (.agg xs) ∧ p ≤ n ∧ InvTab p n xs ∧ Below w.heap.size w w'
theorem ivs_small {q y : Int} (q0 : 0 ≤ q) (q1 : q ≤ 251) (y0 : 0 ≤ y) (y1 : y < 251) : -63001 ≤ -q * y ∧ -q * y ≤ 0 := by
  have h := Int.mul_le_mul q1 (show y ≤ 251 by omega) y0 (by omega)
  have h2 := Int.mul_nonneg q0 y0
  rw [Int.neg_mul]; omega
theorem set_block (w : World) (o : Obj) (xs : Array Value) (t : TypeId) (n m : Nat) (v : Value) :
    (((w.alloc o).alloc (.cells xs t)).drewN m).setCell ⟨w.heap.size + 1, n, none⟩ v = ((w.alloc o).alloc (.cells (xs.setIfInBounds n v) t)).drewN m := by
  have : ((w.alloc o).alloc (.cells xs t)).setCell ⟨w.heap.size + 1, n, none⟩ v = ((w.alloc o).alloc (.cells (xs.setIfInBounds n v) t)) := by go_simp
  rw [← this]; rfl
theorem range_last (w : World) (o : Obj) (xs : Array Value) (t : TypeId) (m : Nat) : (((w.alloc o).alloc (.cells xs t)).drewN m).rangeAt (w.heap.size + 1) 0 xs.toList := by
  intro j v hv
  show ((w.alloc o).alloc (.cells xs t)).cell? ⟨w.heap.size + 1, 0 + j, none⟩ = some v
  rw [World.cell?_alloc_at _ _ _ _ (by simp), Nat.zero_add]
  simpa using hv
theorem there_first (w : World) (o : Obj) (xs : Array Value) (t : TypeId) (m : Nat) : (((w.alloc (.cells xs t)).alloc o).drewN m).there w.heap.size 0 xs.size := by
  intro j hj
  constructor
  · show (((w.alloc (.cells xs t)).alloc o).cell? ⟨w.heap.size, 0 + j, none⟩).isSome = true
    rw [World.cell?_alloc_old _ _ _ (by simp), World.cell?_alloc_at _ _ _ _ (by simp), Nat.zero_add, Array.getElem?_eq_getElem hj]; rfl
  · show (((w.alloc (.cells xs t)).alloc o).frozen? ⟨w.heap.size, 0 + j, none⟩) = false
    rw [World.frozen?_alloc_old _ _ _ (by simp), World.frozen?_alloc_at _ _ _ _ (by simp)]
set_option maxRecDepth 100000 in
set_option maxHeartbeats 800000 in
theorem invs_any (p : Int) (w : World) (hp : IsPr p) :
    Calls Try.prog 89 #[.int .i64 p] w fun e w' => RetT p w e w' := by
  have h0 := hp.1
  have h1 := hp.2.1
  have HP := Lib.hid hp
  have kz : ¬ p = 0 := by omega
  have HI74 : Hid ((Try.prog.info? 74).map (·.size) = some 251) := by show _ = _; kernel_rfl
  have HZ : Hid (InvTab p 2 (Try.zeroCells74.setIfInBounds 1 (.int .i64 1))) := by
    refine ⟨0 :: 1 :: List.replicate 249 0, by simp, by kernel_rfl, fun j j0 j1 => ?_⟩
    obtain rfl : j = 1 := by omega
    have e : (0 :: 1 :: List.replicate 249 (0 : Int)).getD 1 0 = 1 := rfl
    rw [e]
    exact ⟨by omega, by omega, Int.emod_eq_of_lt (by omega) (by omega)⟩
  clear hp
  go_enter Try.func89, Try.ntmps89
  go_wp2
  go_loopw [4] (fun i wr => ∃ (n m : Nat) (xs : Array Value), 2 ≤ n ∧ n ≤ 251 ∧ i = .int .i64 (n : Int) ∧ Hid (InvTab p n xs) ∧ wr = ((w.alloc (.cells Try.zeroCells74 74)).alloc (.cells xs 74)).drewN m) (fun i _ => 251 - (intOf i).toNat)
  case atStart => exact ⟨2, 0, _, by omega, by omega, rfl, HZ, rfl⟩
  case round =>
    obtain ⟨n, m, xs, n0, n1, rfl, HT, rfl⟩ := hrel
    have hxs := HT.out.size
    by_cases hlt : (n : Int) < p
    · have hnz : ¬ (n : Int) = 0 := by omega
      obtain ⟨r, hr⟩ : ∃ r : Nat, p % (n : Int) = (r : Int) := ⟨(p % (n : Int)).toNat, by rw [Int.toNat_of_nonneg (Int.emod_nonneg _ hnz)]⟩
      have hr0 : 1 ≤ r := by have := HP.out.nodiv (show (2 : Int) ≤ n by omega) hlt; omega
      have hr1 : r < n := by have := Int.emod_lt_of_pos p (show (0 : Int) < n by omega); omega
      obtain ⟨y, hy, hi⟩ := HT.out.at hr0 hr1 (by omega)
      have HI := Lib.hid (inv_step HP.out (show (2 : Int) ≤ n by omega) hlt (by rw [hr]; exact hi))
      obtain ⟨y0, y1, _⟩ := hi
      obtain ⟨q, hq⟩ : ∃ q : Int, p / (n : Int) = q := ⟨_, rfl⟩
      have q0 : 0 ≤ q := by rw [← hq]; exact Int.ediv_nonneg (by omega) (by omega)
      have q1 : q ≤ 251 := by rw [← hq]; exact Int.le_trans (Int.ediv_le_self _ (by omega)) h1
      rw [hq] at HI
      obtain ⟨b0, b1⟩ := ivs_small q0 q1 y0 (by omega)
      have HN := Lib.hid (invtab_next HT.out (by omega) HI.out)
      have i0 : (r : Int) < 251 := by omega
      have i1 : (n : Int) < 251 := by omega
      have i2 : r < 251 := by omega
      have i3 : n < 251 := by omega
      go_wp2
      go_quiet (fail)
      go_wp2_with fail
      refine (implMod_any (-q * y) p _ h0 h1).mono ?_
      rintro e w' ⟨rfl, rfl⟩
      go_wp2_with fail
      go_roundw
      case rel => exact ⟨n + 1, _, _, by omega, by omega, by go_num, HN, set_block _ _ _ _ _ _ _⟩
      case measure => simp [intOf]; omega
    · have HS := Lib.hid hxs
      clear hxs
      go_wp2_with fail
      refine wp_load_mid 74 (.tmp 3) rfl (w.heap.size + 1) 0 rfl xs.toList _ (range_last _ _ _ _ _) Try.underlying74 rfl (by rw [Array.length_toList, HS.out]; exact HI74.out) ?_
      rw [Array.toArray_toList]
      rename_i aK
      refine aK _ _ ?_
      refine wpList_store_mid rfl 74 (.tmp 2) (.tmp 29) rfl w.heap.size 0 xs rfl rfl (by rw [HS.out]; exact there_first _ _ _ _ _) (by rw [HS.out]; exact HI74.out) HT.out.one ?_
      have hth := there_first w (.cells xs 74) Try.zeroCells74 74 m
      have hrg := World.rangeAt_setCells_same (((w.alloc (.cells Try.zeroCells74 74)).alloc (.cells xs 74)).drewN m) w.heap.size 0 xs.toList (by rw [Array.length_toList, HS.out]; exact hth)
      go_wp2_with fail
      refine bodyPost_ret (v := .agg xs) ?_ rfl ⟨xs, n, rfl, by omega, HT.out, ?_⟩
      · have hld := run_loadVar_mid (P := Try.prog) _ _ _ 74 xs.toList _ hrg Try.underlying74 rfl (by rw [Array.length_toList, HS.out]; exact HI74.out)
        rw [Array.toArray_toList] at hld
        simp [results, Try.results89, asAddr, hld]
      · exact below_setCells _ _ _ _ (Nat.le_refl _) (((((Below.refl _ _).alloc (Nat.le_refl _) _).alloc (by simp) _)).trans ⟨rfl, rfl, rfl, Nat.le_refl _, fun _ _ => rfl⟩)
end Go.Proofs.Ytlikfgmhhjpggaa
