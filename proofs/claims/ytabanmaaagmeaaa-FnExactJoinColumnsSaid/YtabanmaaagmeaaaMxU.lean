/-
  Contracts of unit matrices, of the model and of the program.
-/
import Derived.Test.YtabanmaaagmeaaaMxR
import Derived.RegionTactic
namespace Go.Proofs.Ytabanmaaagmeaaa
open Go.RowKit
open Lin
set_option linter.unusedVariables false
set_option linter.unusedSectionVars false

/-- A block that may be written. -/
def Fz (w : World) (L : Nat) : Prop := ∀ o, w.frozen? ⟨L, o, none⟩ = false
theorem Fz.new (w : World) (vs : Array Value) (t : TypeId) : Fz (w.alloc (.cells vs t)) w.heap.size := fun o => World.frozen?_alloc_at _ _ _ _ rfl
theorem Fz.on {w w' : World} {L : Nat} (h : Fz w L) (hL : L < w.heap.size) (hb : Below w.heap.size w w') : Fz w' L := fun o => (hb.frozen (p := ⟨L, o, none⟩) hL).trans (h o)
theorem Fz.gb {a w : World} {L g : Nat} (h : Fz a L) (hL : L < a.heap.size) (hg : a.grownBy w (some g)) (hne : L ≠ g) : Fz w L :=
  fun o => (World.frozen?_of_block (hg.block L hL (fun e => hne (by injection e)))).trans (h o)
theorem getD_flat {zs : List Int} {t : Nat} (h : t < zs.length) : zs.getD t 0 = zs[t] := by simp [List.getD, List.getElem?_eq_getElem h]
theorem Fz.all {w : World} {L : Nat} (h : Fz w L) : w.frozen? ⟨L, 0, none⟩ = false ∧ w.frozen? ⟨L, 1, none⟩ = false ∧ w.frozen? ⟨L, 2, none⟩ = false ∧ w.frozen? ⟨L, 3, none⟩ = false := ⟨h 0, h 1, h 2, h 3⟩
/-- The cells of a row, read as a matrix. -/
theorem OwnI.of_flat {q : Nat} [NeZero q] {B g m n : Nat} {w : World} {A : Mt q} {F : Nat → Value} (h : w.rowIs g 2 (m * n) F) (hB : B ≤ g) (hl : m * n ≤ 1048576) (hF : ∀ i j, i < m → j < n → F (i * n + j) = .int .i64 (fv (A i j))) :
    OwnI B w (.slice (some ⟨g, 0, none⟩) (m * n) (m * n)) (flat m n A) := by
  have e := flat_len m n A
  have := OwnI.of_row (zs := flat m n A) (B := B) (g := g) (w := w) (by
    rw [e]
    refine h.congr fun t ht => ?_
    have hn : 0 < n := by
      rcases Nat.eq_zero_or_pos n with e | e
      · subst e; simp at ht
      · exact e
    have hm : t / n < m := Nat.div_lt_of_lt_mul (by rw [Nat.mul_comm]; exact ht)
    have := hF (t / n) (t % n) hm (Nat.mod_lt _ hn)
    rw [Nat.mul_comm, Nat.div_add_mod] at this
    rw [this, getD_flat (by rw [flat_len]; exact ht), flat_at]) hB (by rw [e]; exact hl)
  rwa [e] at this

/-! ### The model's -/
/-- The unit matrix with its first k ones. -/
def UF (n k t : Nat) : Value := .int .i64 (if t / n = t % n ∧ t / n < k then 1 else 0)
theorem UF_zero (n t : Nat) : UF n 0 t = .int .i64 0 := by simp [UF]
theorem UF_next {n k t : Nat} (hk : k < n) : (if t = k * n + k then Value.int .i64 1 else UF n k t) = UF n (k + 1) t := by
  unfold UF
  by_cases e : t = k * n + k
  · subst e; rw [if_pos rfl, idx_div hk, idx_mod hk, if_pos ⟨rfl, by omega⟩]
  · rw [if_neg e]
    by_cases h : t / n = t % n
    · by_cases h2 : t / n < k
      · rw [if_pos ⟨h, h2⟩, if_pos ⟨h, by omega⟩]
      · rw [if_neg (fun x => h2 x.2), if_neg (fun x => ?_)]
        apply e
        have h3 : t / n = k := by omega
        have := Nat.div_add_mod t n
        rw [← h, h3, Nat.mul_comm] at this
        omega
    · rw [if_neg (fun x => h x.1), if_neg (fun x => h x.1)]
theorem sq_idx {n k : Nat} (hk : k < n) (h : n ≤ 32) : (k : Int) * n + k = ((k * n + k : Nat) : Int) ∧ k * n + k < n * n ∧ n * n ≤ 1024 ∧ (k : Int) * n ≤ 1024 ∧ 0 ≤ (k : Int) * n := by
  have h1 : k * n + k < n * n := idx_lt hk hk
  have h2 : n * n ≤ 32 * 32 := Nat.mul_le_mul h h
  have h3 : ((k * n : Nat) : Int) = (k : Int) * n := Int.natCast_mul _ _
  omega
set_option maxRecDepth 100000 in
set_option maxHeartbeats 1600000 in
theorem specUnitF_any {q : Nat} [NeZero q] (p : Int) (n : Nat) (w : World) (h2 : 2 ≤ q) (hn : n ≤ 32) :
    Calls Try.prog 88 #[.int .i64 p, .int .i64 (n : Int)] w fun e w' => RetMx p n n (flat n n (unitM : Mt q)) w e w' := by
  have h32 : n * n ≤ 32 * 32 := Nat.mul_le_mul hn hn
  have hn1 : (n : Int) ≤ 32 := by omega
  have hn0 : 0 ≤ (n : Int) := by omega
  go_enter Try.func88, Try.ntmps88
  go_wp2_with fail
  refine (specZeros_any p n n (n * n) _ (Int.natCast_mul n n).symm (by omega)).mono ?_
  rintro e w1 ⟨g, rfl, hg, hrow, hb⟩
  have HR := Lib.hid hrow
  have HB := Lib.hid hb
  have hz : w.heap.size + 1 ≤ w1.heap.size := by have := hb.size; simp at this; omega
  have hg2 : w.heap.size + 1 ≤ g := by simpa using hg
  have PR : Hid (PtM w1 w.heap.size 0 0 0 (.slice none 0 0)) := (PtM.new _ _ _ _ _ _).on hb
  have FR : Hid (Fz w1 w.heap.size) := (Fz.new _ _ _).on (by simp) hb
  have hR0 := hrow.lt
  clear hrow hb hg
  go_wp2_with fail
  have PM := PtM.new w1 p n n (.slice (some ⟨g, 0, none⟩) (n * n) (n * n)) 27
  have bb := (Below.refl w1.heap.size w1).alloc (Nat.le_refl _) (.cells #[.int .i64 p, .int .i64 n, .int .i64 n, .slice (some ⟨g, 0, none⟩) (n * n) (n * n)] 27)
  generalize hW : World.alloc w1 (.cells #[.int .i64 p, .int .i64 n, .int .i64 n, .slice (some ⟨g, 0, none⟩) (n * n) (n * n)] 27) = W1 at PM bb ⊢
  obtain ⟨L, hL⟩ : ∃ L, w1.heap.size = L := ⟨_, rfl⟩
  rw [hL] at PM ⊢
  have PM := Lib.hid PM
  have PR := Lib.hid (PR.out.on bb)
  have FR := Lib.hid (FR.out.on (by omega) bb)
  have HR := Lib.hid (rowIs_on HR.out bb)
  have HB := Lib.hid ((up1 HB.out).trans (bb.mono (by omega)))
  have gL : g < L := by rw [← hL]; exact hR0
  have sL : L ≤ W1.heap.size := by have := PM.out.1; omega
  clear bb hW hL hR0
  go_loopw [6] (fun i wr => ∃ k : Nat, k ≤ n ∧ i = .int .i64 (k : Int) ∧ Hid (wr.rowIs g 2 (n * n) (UF n k)) ∧ Hid (W1.grownBy wr (some g))) (fun i _ => n - (intOf i).toNat)
  case atStart => exact ⟨0, Nat.zero_le _, rfl, HR.out.congr fun t _ => (UF_zero n t).symm, grown_refl _ _⟩
  case round =>
    obtain ⟨k, hk, rfl, HX, HG⟩ := hrel
    obtain ⟨lM, m0, m1, m2, m3⟩ := PM.out.gb HG.out (by omega)
    by_cases hlt : k < n
    · obtain ⟨e1, e2, e3, e4, e5⟩ := sq_idx hlt hn
      obtain ⟨s, hs⟩ : ∃ s : Nat, k * n + k = s := ⟨_, rfl⟩
      rw [hs] at e1 e2
      have HY := Lib.hid (HX.out.set s (.int .i64 1))
      have c1 := HX.out.cell (i := s) e2
      have f1 := HX.out.frozen s
      have wr1 : IntKind.i64.wrap ((k : Int) * n) = (k : Int) * n := IntWalk.i64_in _ (by omega)
      have HG2 : Hid (W1.grownBy (wr.setCell ⟨g, s, none⟩ (.int .i64 1)) (some g)) := gb_set HG.out _
      have i0 : (0 : Int) ≤ s := by omega
      have i1 : (s : Int) < (n * n : Nat) := by omega
      have HS := Lib.hid hs
      clear hs
      go_wp2
      go_roundw
      case rel => exact ⟨k + 1, by omega, by go_num, HY.out.congr fun t _ => by rw [← UF_next hlt, HS.out], HG2⟩
      case measure => simp [intOf]; omega
    · obtain rfl : k = n := by omega
      obtain ⟨lR, r0, r1, r2, r3⟩ := PR.out.gb HG.out (by omega)
      obtain ⟨f0, f1, f2, f3⟩ := (FR.out.gb (by omega) HG.out (by omega)).all
      go_wp2
      refine bodyPost_ret (v := .agg #[.int .i64 p, .int .i64 k, .int .i64 k, .slice (some ⟨g, 0, none⟩) (k * k) (k * k)]) (by simp [results, Try.results88, go_sem, r0, r1, r2, r3]) rfl ⟨_, rfl, ?_, ?_⟩
      · refine OwnI.mono (B := w.heap.size + 1) ?_ (by omega)
        repeat (refine OwnI.setOut ?_ (by omega) _)
        refine OwnI.of_flat HX.out hg2 (by omega) fun i j hi hj => ?_
        unfold UF unitM
        rw [idx_div hj, idx_mod hj]
        by_cases e : i = j
        · rw [if_pos ⟨e, hi⟩, if_pos e, fv_one h2]
        · rw [if_neg (fun x => e x.1), if_neg e, fv_zero]
      · repeat (refine Below.setC ?_ (by omega) _)
        exact below_gb HB.out HG.out (by omega) (by omega)
end Go.Proofs.Ytabanmaaagmeaaa
