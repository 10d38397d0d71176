/-
  Laws of matrices: whatever the arguments, the program's answer is the model's, the arguments are as before, and the answer lies in new memory.
  Contracts of ScaleMatrix of the program.
  Contracts of ScaleMatrix of the model.
  Contracts of Transpose of the model.
  Contracts of Multiply of the model.
  Contracts of Multiply of the model.
  The table of inverses, as the program makes it.
-/
import Derived.Test.YtdihcmohpbgmmaaDoorPB
import Derived.Deep.RegionHeld3
import Derived.StillTactics
import Derived.Test.YtdihcmohpbgmmaaDoorPA
import Derived.Deep.DeepCutAuto
import Derived.Deep.QuietTactic
import Derived.BigQuiet
import Derived.StillTailTactics
import Derived.RegionTactic
import Derived.Below
import Derived.Outline
import Derived.Deep.MidRow
namespace Go.Proofs.YtdihcmohpbgmmaaDoor
open Go.RowKit
set_option linter.unusedVariables false

theorem IntsAt.al {w : World} {v : Value} {zs : List Int} {o : Obj} (h : IntsAt w v zs) : IntsAt (w.alloc o) v zs := h.on ((Below.refl _ _).alloc (Nat.le_refl _) o)
/-- What a statement leaves that makes a matrix variable. -/
def RegM (w0 wx : World) (L B E : Nat) (p r c : Int) (v : Value) (zs : List Int) : Prop :=
  PtM wx L p r c v ∧ OwnX B E wx v zs ∧ w0.heap.size ≤ B ∧ (L < B ∨ E ≤ L) ∧ w0.heap.size ≤ L ∧ Below w0.heap.size w0 wx
theorem PtM.set4 {w : World} {L : Nat} {p' r' c' : Int} {v' : Value} (h : PtM w L p' r' c' v') (p r c : Int) (v : Value) :
    PtM ((((w.setCell ⟨L, 0, none⟩ (.int .i64 p)).setCell ⟨L, 1, none⟩ (.int .i64 r)).setCell ⟨L, 2, none⟩ (.int .i64 c)).setCell ⟨L, 3, none⟩ v) L p r c v := by
  obtain ⟨h0, h1, h2, h3, h4⟩ := h
  have hs : ∀ (x : World) (p : Addr) (v : Value), (x.setCell p v).heap.size = x.heap.size := by intros; simp
  have n01 : ∀ i j : Nat, i ≠ j → (⟨L, i, none⟩ : Addr) ≠ ⟨L, j, none⟩ := by intro i j hij e; exact hij (by injection e)
  refine ⟨by simpa using h0, ?_, ?_, ?_, ?_⟩
  · rw [World.cell?_setCell_other _ _ _ _ (n01 3 0 (by omega)), World.cell?_setCell_other _ _ _ _ (n01 2 0 (by omega)), World.cell?_setCell_other _ _ _ _ (n01 1 0 (by omega))]
    exact World.cell?_setCell_same' _ _ _ (by rw [h1]; rfl)
  · rw [World.cell?_setCell_other _ _ _ _ (n01 3 1 (by omega)), World.cell?_setCell_other _ _ _ _ (n01 2 1 (by omega))]
    exact World.cell?_setCell_same' _ _ _ (by rw [World.cell?_setCell_other _ _ _ _ (n01 0 1 (by omega)), h2]; rfl)
  · rw [World.cell?_setCell_other _ _ _ _ (n01 3 2 (by omega))]
    exact World.cell?_setCell_same' _ _ _ (by rw [World.cell?_setCell_other _ _ _ _ (n01 1 2 (by omega)), World.cell?_setCell_other _ _ _ _ (n01 0 2 (by omega)), h3]; rfl)
  · exact World.cell?_setCell_same' _ _ _ (by rw [World.cell?_setCell_other _ _ _ _ (n01 2 3 (by omega)), World.cell?_setCell_other _ _ _ _ (n01 1 3 (by omega)), World.cell?_setCell_other _ _ _ _ (n01 0 3 (by omega)), h4]; rfl)
theorem PtM.drew {w : World} {L : Nat} {p r c : Int} {v : Value} (h : PtM w L p r c v) : PtM w.drew L p r c v := h
theorem RegM.new {w0 w : World} {B E : Nat} {p r c : Int} {v : Value} {zs : List Int} {t : TypeId} (ho : OwnX B E w v zs) (hB : w0.heap.size ≤ B) (hb : Below w0.heap.size w0 w) :
    RegM w0 (w.alloc (.cells #[.int .i64 p, .int .i64 r, .int .i64 c, v] t)) w.heap.size B E p r c v zs :=
  ⟨PtM.new _ _ _ _ _ _, ho.alloc _, hB, .inr ho.2.1, hb.size, hb.alloc hb.size _⟩
theorem RegM.set {w0 w : World} {L B E : Nat} {p' r' c' : Int} {v' : Value} {p r c : Int} {v : Value} {zs : List Int} (h : PtM w L p' r' c' v') (ho : OwnX B E w v zs) (hB : w0.heap.size ≤ B) (hd : L < B) (hL : w0.heap.size ≤ L) (hb : Below w0.heap.size w0 w) :
    RegM w0 ((((w.setCell ⟨L, 0, none⟩ (.int .i64 p)).setCell ⟨L, 1, none⟩ (.int .i64 r)).setCell ⟨L, 2, none⟩ (.int .i64 c)).setCell ⟨L, 3, none⟩ v) L B E p r c v zs := by
  obtain ⟨o, e, g⟩ := ho
  exact ⟨h.set4 p r c v, ⟨(((o.setOut hd _).setOut hd _).setOut hd _).setOut hd _, by simpa using e, g⟩, hB, .inl hd, hL, Below.setC (Below.setC (Below.setC (Below.setC hb hL _) hL _) hL _) hL _⟩
end Go.Proofs.YtdihcmohpbgmmaaDoor

namespace Go.Proofs.YtdihcmohpbgmmaaDoor
open Go.RowKit
open Lin
set_option linter.unusedVariables false
set_option linter.unusedSectionVars false

theorem num_at (w : World) (a : Int) (t : TypeId) : IntsAt (w.alloc (.cells #[.int .i64 a] t)) (.slice (some ⟨w.heap.size, 0, none⟩) 1 1) [a] := by
  refine ⟨_, 1, rfl, by simp, .inr ⟨w.heap.size, 0, rfl, by simp, fun j hj => ?_⟩⟩
  obtain rfl : j = 0 := by simpa using hj
  rw [World.cell?_alloc_at _ _ _ _ rfl]; rfl
theorem numOk_1 (p a : Int) : NumOk p [a] ↔ 0 ≤ a ∧ a ≤ p - 1 := by
  constructor
  · intro h; exact h 0 (by simp)
  · intro h j hj; obtain rfl : j = 0 := by simpa using hj
    exact h
/-- A matrix, a number, and what ScaleMatrix answers. -/
def ScRes (p r c : Int) (xs : List Int) (f : Int) (P R C : Int) (zs : List Int) (k : Int) : Prop :=
  (¬ MOk p r c xs ∧ P = 0 ∧ R = 0 ∧ C = 0 ∧ zs = [] ∧ k = 1) ∨ (MOk p r c xs ∧ ¬ (0 ≤ f ∧ f ≤ p - 1) ∧ P = 0 ∧ R = 0 ∧ C = 0 ∧ zs = [] ∧ k = 2) ∨
  (P = p ∧ R = r ∧ C = c ∧ k = 0 ∧ ∃ (u : Nat) (_ : NeZero u) (m n : Nat) (A : Mt u) (g : Fin u), MIs p r c xs u m n A ∧ f = fv g ∧ zs = flat m n (fun i j => A i j * g))
theorem scRes_has (p r c : Int) (xs : List Int) (f : Int) : ∃ P R C zs k, ScRes p r c xs f P R C zs k := by
  by_cases h : MOk p r c xs
  · by_cases hf : 0 ≤ f ∧ f ≤ p - 1
    · obtain ⟨u, i, m, n, A, hA⟩ := h.form
      have hp := hA.p
      obtain ⟨g, hg⟩ : ∃ g : Fin u, fv g = f := fv_of hf.1 (by omega)
      exact ⟨_, _, _, _, _, .inr (.inr ⟨rfl, rfl, rfl, rfl, u, i, m, n, A, g, hA, hg.symm, rfl⟩)⟩
    · exact ⟨_, _, _, _, _, .inr (.inl ⟨h, hf, rfl, rfl, rfl, rfl, rfl⟩)⟩
  · exact ⟨_, _, _, _, _, .inl ⟨h, rfl, rfl, rfl, rfl, rfl⟩⟩
theorem ScRes.len {p r c : Int} {xs : List Int} {f P R C : Int} {zs : List Int} {k : Int} (h : ScRes p r c xs f P R C zs k) : zs.length ≤ 1048576 := by
  rcases h with ⟨_, _, _, _, rfl, _⟩ | ⟨_, _, _, _, _, rfl, _⟩ | ⟨_, _, _, _, u, _, m, n, A, g, hA, _, rfl⟩
  · simp
  · simp
  · rw [flat_len]; have := side_mul hA.m32 hA.n32; omega
end Go.Proofs.YtdihcmohpbgmmaaDoor

namespace Go.Proofs.YtdihcmohpbgmmaaDoor
open Go.RowKit
open Lin
set_option linter.unusedVariables false
set_option linter.unusedSectionVars false

/-- What a statement leaves that makes a matrix variable of zeros. -/
def RegZ (w0 wx : World) (L h N : Nat) (p r c : Int) : Prop :=
  PtM wx L p r c (.slice (some ⟨h, 0, none⟩) N N) ∧ wx.rowIs h 2 N (fun _ => .int .i64 0) ∧ w0.heap.size ≤ h ∧ L ≠ h ∧ w0.heap.size ≤ L ∧ Below w0.heap.size w0 wx
theorem RegZ.new {w0 w : World} {h N : Nat} {p r c : Int} {t : TypeId} (hr : w.rowIs h 2 N (fun _ => .int .i64 0)) (hh : w0.heap.size ≤ h) (hb : Below w0.heap.size w0 w) :
    RegZ w0 (w.alloc (.cells #[.int .i64 p, .int .i64 r, .int .i64 c, .slice (some ⟨h, 0, none⟩) N N] t)) w.heap.size h N p r c :=
  ⟨PtM.new _ _ _ _ _ _, rowIs_on hr ((Below.refl _ _).alloc (Nat.le_refl _) _), hh, by have := hr.lt; omega, hb.size, hb.alloc hb.size _⟩
theorem RegZ.set {w0 w : World} {L h N : Nat} {p' r' c' : Int} {v' : Value} {p r c : Int} (hp : PtM w L p' r' c' v') (hr : w.rowIs h 2 N (fun _ => .int .i64 0)) (hh : w0.heap.size ≤ h) (hd : L ≠ h) (hL : w0.heap.size ≤ L) (hb : Below w0.heap.size w0 w) :
    RegZ w0 ((((w.setCell ⟨L, 0, none⟩ (.int .i64 p)).setCell ⟨L, 1, none⟩ (.int .i64 r)).setCell ⟨L, 2, none⟩ (.int .i64 c)).setCell ⟨L, 3, none⟩ (.slice (some ⟨h, 0, none⟩) N N)) L h N p r c :=
  ⟨hp.set4 p r c _, rowIs_setO (rowIs_setO (rowIs_setO (rowIs_setO hr hd.symm _) hd.symm _) hd.symm _) hd.symm _, hh, hd, hL, Below.setC (Below.setC (Below.setC (Below.setC hb hL _) hL _) hL _) hL _⟩
/-- The cells behind k steps. -/
def ScF {q : Nat} [NeZero q] (n : Nat) (A : Mt q) (g : Fin q) (k t : Nat) : Value := if t < k then .int .i64 (fv (cellF n A t * g)) else .int .i64 0
end Go.Proofs.YtdihcmohpbgmmaaDoor

namespace Go.Proofs.YtdihcmohpbgmmaaDoor
open Go.RowKit
open Lin
set_option linter.unusedVariables false
set_option linter.unusedSectionVars false

/-- The cells of the turned matrix behind i columns and k cells. -/
def TuF {q : Nat} [NeZero q] (m : Nat) (A : Mt q) (i k t : Nat) : Value := if t % m < i ∨ (t % m = i ∧ t / m < k) then .int .i64 (fv (A (t % m) (t / m))) else .int .i64 0
theorem tuF_next {q : Nat} [NeZero q] {m i k : Nat} {A : Mt q} (hi : i < m) (t : Nat) : (if t = k * m + i then .int .i64 (fv (A i k)) else TuF m A i k t) = TuF m A i (k + 1) t := by
  have hd := Nat.div_add_mod t m
  rw [Nat.mul_comm] at hd
  by_cases e : t = k * m + i
  · subst e
    rw [if_pos rfl]
    unfold TuF
    rw [idx_div hi, idx_mod hi, if_pos (.inr ⟨rfl, Nat.lt_succ_self _⟩)]
  · rw [if_neg e]
    have hne : ¬ (t % m = i ∧ t / m = k) := by rintro ⟨rfl, rfl⟩; exact e hd.symm
    unfold TuF
    by_cases h : t % m < i ∨ (t % m = i ∧ t / m < k)
    · rw [if_pos h, if_pos (by omega)]
    · rw [if_neg h, if_neg (by omega)]
theorem tuF_row {q : Nat} [NeZero q] {m n i : Nat} {A : Mt q} (t : Nat) (ht : t < n * m) : TuF m A i n t = TuF m A (i + 1) 0 t := by
  have : t / m < n := Nat.div_lt_of_lt_mul (by rw [Nat.mul_comm]; exact ht)
  unfold TuF
  generalize t / m = d at this ⊢
  by_cases h : t % m < i ∨ (t % m = i ∧ d < n)
  · rw [if_pos h, if_pos (by omega)]
  · rw [if_neg h, if_neg (by omega)]
/-- A matrix and what Transpose answers. -/
def TrRes (p r c : Int) (xs : List Int) (P R C : Int) (zs : List Int) (k : Int) : Prop :=
  (¬ MOk p r c xs ∧ P = 0 ∧ R = 0 ∧ C = 0 ∧ zs = [] ∧ k = 1) ∨ (P = p ∧ R = c ∧ C = r ∧ k = 0 ∧ ∃ (u : Nat) (_ : NeZero u) (m n : Nat) (A : Mt u), MIs p r c xs u m n A ∧ zs = flat n m (fun i j => A j i))
theorem trRes_has (p r c : Int) (xs : List Int) : ∃ P R C zs k, TrRes p r c xs P R C zs k := by
  by_cases h : MOk p r c xs
  · obtain ⟨u, i, m, n, A, hA⟩ := h.form
    exact ⟨_, _, _, _, _, .inr ⟨rfl, rfl, rfl, rfl, u, i, m, n, A, hA, rfl⟩⟩
  · exact ⟨_, _, _, _, _, .inl ⟨h, rfl, rfl, rfl, rfl, rfl⟩⟩
theorem TrRes.len {p r c : Int} {xs : List Int} {P R C : Int} {zs : List Int} {k : Int} (h : TrRes p r c xs P R C zs k) : zs.length ≤ 1048576 := by
  rcases h with ⟨_, _, _, _, rfl, _⟩ | ⟨_, _, _, _, u, _, m, n, A, hA, rfl⟩
  · simp
  · rw [flat_len]; have := side_mul hA.n32 hA.m32; omega
end Go.Proofs.YtdihcmohpbgmmaaDoor

namespace Go.Proofs.YtdihcmohpbgmmaaDoor
open Go.RowKit
open Lin
set_option linter.unusedVariables false
set_option linter.unusedSectionVars false

/-- A cell of the product. -/
def muC {q : Nat} [NeZero q] (n : Nat) (A B : Mt q) (i k : Nat) : Fin q := sm n (fun j => A i j * B j k)
/-- The cells of the product, c of them reckoned. -/
def TmF {q : Nat} [NeZero q] (l n : Nat) (A B : Mt q) (c t : Nat) : Value := if t < c then .int .i64 (fv (muC n A B (t / l) (t % l))) else .int .i64 0
theorem muC_next {q : Nat} [NeZero q] {n : Nat} {A B : Mt q} {i k : Nat} {S x y : Int} (hS : S % q = fv (sm n (fun j => A i j * B j k))) (hx : fv (A i n) = x) (hy : fv (B n k) = y) : (S + x * y) % q = fv (sm (n + 1) (fun j => A i j * B j k)) := by
  subst hx hy
  rw [← Int.emod_add_emod, hS, fv_addmul]; rfl
end Go.Proofs.YtdihcmohpbgmmaaDoor

namespace Go.Proofs.YtdihcmohpbgmmaaDoor
open Go.RowKit
open Lin
set_option linter.unusedVariables false
set_option linter.unusedSectionVars false

/-- Two matrices and what Multiply answers. -/
def MuRes (p r c : Int) (xs : List Int) (q s d : Int) (ys : List Int) (P R C : Int) (zs : List Int) (k : Int) : Prop :=
  FitK p r c xs q s d ys (c == s) k ∧ ((k ≠ 0 ∧ P = 0 ∧ R = 0 ∧ C = 0 ∧ zs = []) ∨ (k = 0 ∧ P = p ∧ R = r ∧ C = d ∧ ∃ (u : Nat) (_ : NeZero u) (m n l : Nat) (A B : Mt u), MIs p r c xs u m n A ∧ MIs p s d ys u n l B ∧ zs = flat m l (muC n A B)))
theorem muRes_has (p r c : Int) (xs : List Int) (q s d : Int) (ys : List Int) : ∃ P R C zs k, MuRes p r c xs q s d ys P R C zs k := by
  obtain ⟨k, hk⟩ := fitK_has p r c xs q s d ys (c == s)
  by_cases h0 : k = 0
  · subst h0
    obtain ⟨h1, h2, e, hf⟩ := hk.good
    have e1 : c = s := by simpa using hf
    subst e e1
    obtain ⟨u, i, m, n, A, m', n', B, hA, hB⟩ := h1.form2 h2
    obtain rfl : n = m' := by have := hA.c; have := hB.r; omega
    exact ⟨_, _, _, _, 0, hk, .inr ⟨rfl, rfl, rfl, rfl, u, i, m, n, n', A, B, hA, hB, rfl⟩⟩
  · exact ⟨_, _, _, _, k, hk, .inl ⟨h0, rfl, rfl, rfl, rfl⟩⟩
theorem MuRes.len {p r c : Int} {xs : List Int} {q s d : Int} {ys : List Int} {P R C : Int} {zs : List Int} {k : Int} (h : MuRes p r c xs q s d ys P R C zs k) : zs.length ≤ 1048576 := by
  obtain ⟨_, ⟨_, _, _, _, rfl⟩ | ⟨_, _, _, _, u, _, m, n, l, A, B, hA, hB, rfl⟩⟩ := h
  · simp
  · have := side_mul hA.m32 hB.n32; rw [flat_len]; omega
end Go.Proofs.YtdihcmohpbgmmaaDoor

namespace Go.Proofs.YtdihcmohpbgmmaaDoor
open Go.RowKit
set_option linter.unusedVariables false

theorem below_setCells {B : Nat} {a : World} (b : Nat) : ∀ (vs : List Value) (o : Nat) (w : World), B ≤ b → Below B a w → Below B a (w.setCells b o vs)
  | [], _, _, _, h => h
  | v :: r, o, w, hb, h => by
    rw [World.setCells]
    exact below_setCells b r (o + 1) _ hb (h.setCell (p := ⟨b, o, none⟩) hb v)
/-- The table of inverses, up to n. -/
def InvTab (p : Int) (n : Nat) (xs : Array Value) : Prop := ∃ zs : List Int, zs.length = 251 ∧ xs = (zs.map (Value.int .i64)).toArray ∧ ∀ j : Nat, 1 ≤ j → j < n → IsInv p (j : Int) (zs.getD j 0)
theorem InvTab.size {p : Int} {n : Nat} {xs : Array Value} (h : InvTab p n xs) : xs.size = 251 := by
  obtain ⟨zs, hz, rfl, _⟩ := h; simp [hz]
theorem InvTab.one {p : Int} {n : Nat} {xs : Array Value} (h : InvTab p n xs) : xs.all (·.oneCell') = true := by
  obtain ⟨zs, hz, rfl, _⟩ := h
  refine all_oneCell_toArray fun v hv => ?_
  obtain ⟨z, _, rfl⟩ := List.mem_map.1 hv
  rfl
theorem InvTab.at {p : Int} {n : Nat} {xs : Array Value} (h : InvTab p n xs) {j : Nat} (j0 : 1 ≤ j) (j1 : j < n) (j2 : j < xs.size) : ∃ y : Int, xs[j] = .int .i64 y ∧ IsInv p (j : Int) y := by
  obtain ⟨zs, hz, rfl, h⟩ := h
  have : j < zs.length := by simpa using j2
  refine ⟨zs.getD j 0, ?_, h j j0 j1⟩
  simp [List.getD, List.getElem?_eq_getElem this]
theorem invtab_next {p : Int} {n : Nat} {xs : Array Value} {y : Int} (h : InvTab p n xs) (hn : n < 251) (hy : IsInv p (n : Int) y) : InvTab p (n + 1) (xs.setIfInBounds n (.int .i64 y)) := by
  obtain ⟨zs, hz, rfl, h⟩ := h
  refine ⟨zs.set n y, by rw [List.length_set, hz], by simp [List.map_set], fun j j0 j1 => ?_⟩
  by_cases e : j = n
  · subst e
    simp [List.getD, hz, hn]
    exact hy
  · have := h j j0 (by omega)
    simp only [List.getD, List.getElem?_set] at this ⊢
    rw [if_neg (by omega)]
    exact this
/-- How the table comes back. -/
def RetT (p : Int) (w : World) (e : Ending) (w' : World) : Prop := ∃ (xs : Array Value) (n : Nat), e = .returned (.agg xs) ∧ p ≤ n ∧ InvTab p n xs ∧ Below w.heap.size w w'
theorem ivs_small {q y : Int} (q0 : 0 ≤ q) (q1 : q ≤ 251) (y0 : 0 ≤ y) (y1 : y < 251) : -63001 ≤ -q * y ∧ -q * y ≤ 0 := by
  have h := Int.mul_le_mul q1 (show y ≤ 251 by omega) y0 (by omega)
  have h2 := Int.mul_nonneg q0 y0
  rw [Int.neg_mul]; omega
theorem set_block (w : World) (o : Obj) (xs : Array Value) (t : TypeId) (n m : Nat) (v : Value) :
    (((w.alloc o).alloc (.cells xs t)).drewN m).setCell ⟨w.heap.size + 1, n, none⟩ v = ((w.alloc o).alloc (.cells (xs.setIfInBounds n v) t)).drewN m := by
  have : ((w.alloc o).alloc (.cells xs t)).setCell ⟨w.heap.size + 1, n, none⟩ v = ((w.alloc o).alloc (.cells (xs.setIfInBounds n v) t)) := by go_simp
  rw [← this]; rfl
theorem range_last (w : World) (o : Obj) (xs : Array Value) (t : TypeId) (m : Nat) : (((w.alloc o).alloc (.cells xs t)).drewN m).rangeAt (w.heap.size + 1) 0 xs.toList := by
  intro j v hv
  show ((w.alloc o).alloc (.cells xs t)).cell? ⟨w.heap.size + 1, 0 + j, none⟩ = some v
  rw [World.cell?_alloc_at _ _ _ _ (by simp), Nat.zero_add]
  simpa using hv
theorem there_first (w : World) (o : Obj) (xs : Array Value) (t : TypeId) (m : Nat) : (((w.alloc (.cells xs t)).alloc o).drewN m).there w.heap.size 0 xs.size := by
  intro j hj
  constructor
  · show (((w.alloc (.cells xs t)).alloc o).cell? ⟨w.heap.size, 0 + j, none⟩).isSome = true
    rw [World.cell?_alloc_old _ _ _ (by simp), World.cell?_alloc_at _ _ _ _ (by simp), Nat.zero_add, Array.getElem?_eq_getElem hj]; rfl
  · show (((w.alloc (.cells xs t)).alloc o).frozen? ⟨w.heap.size, 0 + j, none⟩) = false
    rw [World.frozen?_alloc_old _ _ _ (by simp), World.frozen?_alloc_at _ _ _ _ (by simp)]
end Go.Proofs.YtdihcmohpbgmmaaDoor
