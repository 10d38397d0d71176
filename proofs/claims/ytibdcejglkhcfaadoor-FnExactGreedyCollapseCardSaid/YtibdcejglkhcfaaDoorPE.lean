/-
  Grow, Concat, Clone of the library at rows of numbers and at rows of rows.
  Rows that read as numbers, and matrixOf.
  Contracts of StackRows of the program.
  Contracts of StackRows of the model.
  Rows beside one another.
  Contracts of JoinColumns of the program.
  l03Join of the model.
-/
import Derived.Test.YtibdcejglkhcfaaDoorPD
import Derived.Lib.AppendZeros
import Derived.Lib.Walk
import Derived.Lib.SliceRun
import Derived.Laws.OwnMore
import Derived.Laws.CopyOwn
import Derived.Deep.AppendLies
import Derived.Test.YtibdcejglkhcfaaDoorPC
import Derived.Deep.DeepCutAuto
import Derived.StillTailTactics
namespace Go.Proofs.YtibdcejglkhcfaaDoor
open Go.RowKit
open Lin
set_option linter.unusedVariables false
set_option linter.unusedSectionVars false

/-- A slice whose cells are news. -/
def SrcAt (w : World) (x : Value) (news : List Value) : Prop :=
  ∃ a c, x = .slice a news.length c ∧ news.length ≤ 2097152 ∧ ((a = none ∧ c = 0 ∧ news = []) ∨ ∃ b off, a = some ⟨b, off, none⟩ ∧ (news = [] ∨ b < w.heap.size) ∧ ∀ j u, news[j]? = some u → w.cell? ⟨b, off + j, none⟩ = some u)
theorem SrcAt.on {w w' : World} {x : Value} {news : List Value} (h : SrcAt w x news) (hb : Below w.heap.size w w') : SrcAt w' x news := by
  obtain ⟨a, c, rfl, hl, h | ⟨b, off, rfl, hbk, hc⟩⟩ := h
  · exact ⟨a, c, rfl, hl, .inl h⟩
  · refine ⟨_, c, rfl, hl, .inr ⟨b, off, rfl, ?_, fun j u hj => ?_⟩⟩
    · rcases hbk with h | h
      · exact .inl h
      · exact .inr (Nat.lt_of_lt_of_le h hb.size)
    · rcases hbk with rfl | h
      · simp at hj
      · exact (hb.cell (p := ⟨b, off + j, none⟩) h).trans (hc j u hj)
theorem SrcAt.drew {w : World} {x : Value} {news : List Value} (h : SrcAt w x news) : SrcAt w.drew x news := h
theorem wp_append_src {P : Program} {w : World} {ops : Array Oper} {rest : List Oper} {o : Oper} {a : Act} {Q : Exit → Act → World → Prop} (hgd : o.guard = none) (s x : Operand) (t : TypeId)
    (ho : o.op = .call { callee := .builtin .append, args := #[s, x], argTypes := #[t, t] })
    (base : Nat) (e : TypeId) (i : TypeInfo) (z : Value) (bytes : Nat) (ht : P.underlying t = some (.slice e)) (hi : P.info? e = some i) (hz : i.zero = some z)
    (hsize : i.size = 1) (hby : i.bytes = bytes) (hzs : z.cells.size = 1)
    (v : Value) (n : Nat) (xs : List Value) (hs : a.eval s = v) (hown : w.ownsRow base e 1 v n xs)
    (u : Value) (news : List Value) (hx : a.eval x = u) (hsrc : SrcAt w u news) (h1 : ∀ u ∈ news, u.oneCell' = true)
    (hn : n ≤ 2097152) (hb24 : bytes ≤ 24) (hbase : base ≤ w.heap.size)
    (h : ∀ v' w', w'.ownsRow base e 1 v' (n + news.length) (xs ++ news) → w.grownBy w' v.ownBlock → wpList P ops Q rest (a.put o.dst v') w') : wpList P ops Q (o :: rest) a w := by
  obtain ⟨ap, c, rfl, hl, ⟨rfl, rfl, rfl⟩ | ⟨b, off, rfl, _, hc⟩⟩ := hsrc
  · refine wpList_plain hgd fun K hK => ?_
    have hrun := run_append_owned_none (P := P) (w := w) base t o.type e i 1 ht hi v n xs hown
    unfold Oper.wp
    simp only [List.length_nil] at hx
    simp [execOp, ho, resolve, invoke, builtin, hs, hx, hrun, Result.andThen]
    exact hK _ _ (h v w (by simpa using hown) ⟨rfl, rfl, rfl, Nat.le_refl _, fun _ _ _ => rfl⟩)
  · have hbb : (n + news.length) * bytes ≤ 140737488355328 := by
      have : (n + news.length) * bytes ≤ 4194304 * 24 := Nat.mul_le_mul (by omega) hb24
      omega
    refine wpList_append_own w hgd s x t ho base e i z 1 bytes ht hi hz hsize hby hzs (by decide) v n xs hs hown ⟨b, off, none⟩ news.length c news hx (by simp) (fun j u hj => by rw [Addr.add_lit]; exact hc j u hj) h1 (by unfold maxLen; omega) hbb hbase ?_
    intro v' w' g1 g2 _
    exact h v' w' g1 g2
theorem iv_app (xs ys : List Int) : iv (xs ++ ys) = iv xs ++ iv ys := by simp [iv]
theorem iv_one {xs : List Int} : ∀ u ∈ iv xs, u.oneCell' = true := by
  intro u hu
  obtain ⟨x, _, rfl⟩ := List.mem_map.1 hu
  rfl
theorem IntsC.src {w : World} {v : Value} {zs : List Int} (h : IntsC w v zs) (hl : zs.length ≤ 2097152) : SrcAt w v (iv zs) := by
  obtain ⟨⟨a, cap, rfl, _, h2⟩, a', cap', e, h3, h4, h5⟩ := h
  simp only [Value.slice.injEq, true_and] at e
  obtain ⟨rfl, rfl⟩ := e
  refine ⟨a, cap, by rw [iv_len], by rw [iv_len]; exact hl, ?_⟩
  rcases h5 with ⟨rfl, rfl⟩ | ⟨g, off, rfl⟩
  · exact .inl ⟨rfl, rfl, by rw [List.eq_nil_of_length_eq_zero (by omega : zs.length = 0)]; rfl⟩
  · refine .inr ⟨g, off, rfl, ?_, ?_⟩
    · rcases h2 with rfl | ⟨b, o, e, hb, _⟩
      · exact .inl rfl
      · simp at e; obtain ⟨rfl, rfl⟩ := e; exact .inr hb
    · intro j u hj
      have hj' : j < zs.length := by have := (List.getElem?_eq_some_iff.1 hj).1; simpa [iv] using this
      rw [iv_at zs j hj'] at hj
      cases hj
      rcases h2 with rfl | ⟨b, o, e, hb, hc⟩
      · simp at hj'
      · simp at e; obtain ⟨rfl, rfl⟩ := e; exact hc j hj'
end Go.Proofs.YtibdcejglkhcfaaDoor

namespace Go.Proofs.YtibdcejglkhcfaaDoor
open Go.RowKit
open Lin
set_option linter.unusedVariables false
set_option linter.unusedSectionVars false

/-- A slice of m rows, the i-th of which reads as R i. -/
def RowsC (w : World) (v : Value) (m : Nat) (R : Nat → List Int) : Prop :=
  ∃ a cap, v = .slice a m cap ∧ m ≤ 2097152 ∧ ((a = none ∧ cap = 0 ∧ m = 0) ∨ ∃ H o, a = some ⟨H, o, none⟩ ∧ (m = 0 ∨ H < w.heap.size) ∧ ∀ i, i < m → ∃ u, w.cell? ⟨H, o + i, none⟩ = some u ∧ IntsC w u (R i))
theorem RowsC.on {w w' : World} {v : Value} {m : Nat} {R : Nat → List Int} (h : RowsC w v m R) (hb : Below w.heap.size w w') : RowsC w' v m R := by
  obtain ⟨a, cap, rfl, hm, h | ⟨H, o, rfl, hH, hc⟩⟩ := h
  · exact ⟨a, cap, rfl, hm, .inl h⟩
  · refine ⟨_, cap, rfl, hm, .inr ⟨H, o, rfl, hH.imp id (fun h => Nat.lt_of_lt_of_le h hb.size), fun i hi => ?_⟩⟩
    obtain ⟨u, h1, h2⟩ := hc i hi
    exact ⟨u, (hb.cell (p := ⟨H, o + i, none⟩) (show H < _ by omega)).trans h1, h2.on hb⟩
theorem RowsC.drew {w : World} {v : Value} {m : Nat} {R : Nat → List Int} (h : RowsC w v m R) : RowsC w.drew v m R := h
/-- The i-th row of a matrix. -/
def rowL {q : Nat} (n : Nat) (A : Mt q) (i : Nat) : List Int := (List.range n).map fun j => fv (A i j)
theorem rowL_len {q : Nat} (n : Nat) (A : Mt q) (i : Nat) : (rowL n A i).length = n := by simp [rowL]
theorem rowL_at {q : Nat} (n : Nat) (A : Mt q) (i j : Nat) (h : j < (rowL n A i).length) : (rowL n A i)[j] = fv (A i j) := by simp [rowL]
theorem rowW_ints {q m n : Nat} [NeZero q] {A : Mt q} {a : Option Addr} {cap : Nat} {w : World} (hv : IntsC w (.slice a (m * n) cap) (flat m n A)) (hn : n ≤ 1024) {i : Nat} (hi : i < m) : IntsC w (rowW a n cap i) (rowL n A i) := by
  obtain ⟨⟨a', cap', e, _, h2⟩, a'', cap'', e2, h3, h4, h5⟩ := hv
  simp only [Value.slice.injEq] at e e2
  obtain ⟨rfl, -, rfl⟩ := e
  obtain ⟨rfl, -, rfl⟩ := e2
  have hle : i * n + n ≤ m * n := by rw [← Nat.succ_mul]; exact Nat.mul_le_mul_right n hi
  rw [flat_len] at h3
  unfold rowW
  refine ⟨⟨adr a (i * n), cap - i * n, by rw [rowL_len], by rw [rowL_len]; omega, ?_⟩, adr a (i * n), cap - i * n, by rw [rowL_len], by rw [rowL_len]; omega, by omega, ?_⟩
  · by_cases h0 : n = 0
    · subst h0; exact .inl rfl
    · rcases h2 with h | ⟨b, off, rfl, hb, hc⟩
      · have := congrArg List.length h; rw [flat_len] at this; simp at this; omega
      · refine .inr ⟨b, off + i * n, rfl, hb, fun j hj => ?_⟩
        have hj' : j < n := by rw [rowL_len] at hj; exact hj
        have ht : i * n + j < (flat m n A).length := by rw [flat_len]; exact idx_lt hi hj'
        have := hc (i * n + j) ht
        rw [flat_ij m n A hi hj', ← Nat.add_assoc] at this
        rw [rowL_at]; exact this
  · rcases h5 with ⟨rfl, rfl⟩ | ⟨g, off, rfl⟩
    · exact .inl ⟨rfl, by omega⟩
    · exact .inr ⟨g, off + i * n, rfl⟩

/-! ### copy into a row -/
theorem setRow_grown (w : World) (g : Nat) (cs : Array Value) : w.grownBy (w.setRow g cs) (some g) := ⟨rfl, rfl, rfl, by simp [World.setRow], fun k _ hk => setRow_other w g k cs (fun e => hk (by rw [e]))⟩
theorem wp_copy_row {P : Program} {w : World} {ops : Array Oper} {rest : List Oper} {o : Oper} {a : Act} {Q : Exit → Act → World → Prop} (hgd : o.guard = none) (d s : Operand) (dT sT : TypeId)
    (ho : o.op = .call { callee := .builtin .copy, args := #[d, s], argTypes := #[dT, sT] }) (elem : TypeId) (hu : P.underlying dT = some (.slice elem)) (hsz : (P.info? elem).map (·.size) = some 1)
    (g off dCap n N : Nat) (F : Nat → Value) (t : TypeId) (hd : a.eval d = .slice (some ⟨g, off, none⟩) n dCap) (x : Value) (hs : a.eval s = x) (news : List Value) (hx : SrcAt w x news) (hn : news.length = n)
    (hrow : w.rowIs g t N F) (hfit : off + n ≤ N) (h1 : ∀ v ∈ news, v.oneCell' = true)
    (h : ∀ w', w'.rowIs g t N (fun y => if off ≤ y ∧ y < off + n then news.getD (y - off) undef else F y) → w.grownBy w' (some g) → wpList P ops Q rest (a.put o.dst (goInt n)) w') : wpList P ops Q (o :: rest) a w := by
  obtain ⟨ap, c, rfl, hl, hsrc⟩ := hx
  by_cases h0 : n = 0
  · subst h0
    refine wpList_copy_nothing hgd d s dT sT ho elem hu hsz _ ap 0 dCap _ c hd hs (by rw [hn]; rfl) ?_
    exact h w (hrow.congr fun y _ => by rw [if_neg (by omega)]) ⟨rfl, rfl, rfl, Nat.le_refl _, fun _ _ _ => rfl⟩
  · rcases hsrc with ⟨_, _, rfl⟩ | ⟨b, o', rfl, _, hc⟩
    · simp at hn; omega
    · obtain ⟨cur, hg, hcs, hF⟩ := hrow
      refine wpList_copy_own hgd d s dT sT ho elem hu hsz g off n dCap ⟨b, o', none⟩ _ c hd hs cur t hg news (by rw [hn]; exact (Nat.min_self n).symm) (fun j v hj => by rw [Addr.add_lit]; exact hc j v hj) (by rw [hn, hcs]; exact hfit) h1 ?_
      rw [hn]
      refine h _ ⟨_, setRow_heap w g _ _ t _ hg, ?_, fun i hi => ?_⟩ (setRow_grown _ _ _)
      · simp; omega
      · dsimp only
        have hci := hF i hi
        have hcl : i < cur.size := by omega
        rw [Array.getElem?_eq_getElem hcl] at hci
        by_cases hin : off ≤ i ∧ i < off + n
        · rw [if_pos hin]
          simp only [List.getElem?_toArray]
          rw [List.getElem?_append_right (by simp; omega), List.length_take, List.getElem?_append_left (by simp; omega)]
          rw [show min off cur.toList.length = off by simp; omega]
          simp [List.getD, List.getElem?_eq_getElem (show i - off < news.length by omega)]
        · rw [if_neg hin]
          simp only [List.getElem?_toArray]
          by_cases hlt : i < off
          · rw [List.getElem?_append_left (by simp; omega), List.getElem?_take_of_lt hlt]
            simpa [hcl] using hci
          · rw [List.getElem?_append_right (by simp; omega), List.length_take, List.getElem?_append_right (by simp; omega), List.getElem?_drop]
            rw [show off + n + (i - min off cur.toList.length - news.length) = i by simp; omega]
            simpa [hcl] using hci

/-! ### matrixOf -/
/-- k rows copied. -/
def MoF {q : Nat} [NeZero q] (n : Nat) (A : Mt q) (k t : Nat) : Value := if t < k * n then .int .i64 (fv (A (t / n) (t % n))) else .int .i64 0
theorem moF_next {q : Nat} [NeZero q] {n k : Nat} {A : Mt q} (t : Nat) : (if k * n ≤ t ∧ t < k * n + n then (iv (rowL n A k)).getD (t - k * n) undef else MoF n A k t) = MoF n A (k + 1) t := by
  unfold MoF
  rw [Nat.succ_mul]
  by_cases h : k * n ≤ t ∧ t < k * n + n
  · obtain ⟨j, hj⟩ : ∃ j, t = k * n + j := ⟨t - k * n, by omega⟩
    have hjn : j < n := by omega
    rw [if_pos h, if_pos h.2, hj, Nat.add_sub_cancel_left, idxDiv hjn, idxMod hjn]
    have hl : j < (rowL n A k).length := by rw [rowL_len]; exact hjn
    simp only [List.getD, iv_at _ j hl, Option.getD_some, rowL_at]
  · rw [if_neg h]
    by_cases h2 : t < k * n
    · rw [if_pos h2, if_pos (by omega)]
    · rw [if_neg h2, if_neg (by omega)]
end Go.Proofs.YtibdcejglkhcfaaDoor

namespace Go.Proofs.YtibdcejglkhcfaaDoor
open Go.RowKit
open Lin
set_option linter.unusedVariables false
set_option linter.unusedSectionVars false

/-- Two matrices and what StackRows answers. -/
def StRes (p r c : Int) (xs : List Int) (q s d : Int) (ys : List Int) (P R C : Int) (zs : List Int) (k : Int) : Prop :=
  ∃ k0, FitK p r c xs q s d ys (c == d) k0 ∧ ((k0 ≠ 0 ∧ k = k0 ∧ P = 0 ∧ R = 0 ∧ C = 0 ∧ zs = []) ∨ (k0 = 0 ∧ 32 < r + s ∧ k = 5 ∧ P = 0 ∧ R = 0 ∧ C = 0 ∧ zs = []) ∨ (k0 = 0 ∧ r + s ≤ 32 ∧ k = 0 ∧ P = p ∧ R = r + s ∧ C = c ∧ zs = xs ++ ys))
theorem stRes_has (p r c : Int) (xs : List Int) (q s d : Int) (ys : List Int) : ∃ P R C zs k, StRes p r c xs q s d ys P R C zs k := by
  obtain ⟨k0, hk⟩ := fitK_has p r c xs q s d ys (c == d)
  by_cases h0 : k0 = 0
  · by_cases h1 : r + s ≤ 32
    · exact ⟨_, _, _, _, _, k0, hk, .inr (.inr ⟨h0, h1, rfl, rfl, rfl, rfl, rfl⟩)⟩
    · exact ⟨_, _, _, _, _, k0, hk, .inr (.inl ⟨h0, by omega, rfl, rfl, rfl, rfl, rfl⟩)⟩
  · exact ⟨_, _, _, _, _, k0, hk, .inl ⟨h0, rfl, rfl, rfl, rfl, rfl⟩⟩
theorem mok_len {p r c : Int} {xs : List Int} (h : MOk p r c xs) : xs.length ≤ 1024 := by
  obtain ⟨u, i, m, n, A, hA⟩ := h.form
  have := side_mul hA.m32 hA.n32
  rw [hA.zs, flat_len]; exact this
theorem StRes.len {p r c : Int} {xs : List Int} {q s d : Int} {ys : List Int} {P R C : Int} {zs : List Int} {k : Int} (h : StRes p r c xs q s d ys P R C zs k) : zs.length ≤ 1048576 := by
  obtain ⟨k0, hk, ⟨_, _, _, _, _, rfl⟩ | ⟨_, _, _, _, _, _, rfl⟩ | ⟨rfl, _, _, _, _, _, rfl⟩⟩ := h
  · simp
  · simp
  · obtain ⟨h1, h2, _, _⟩ := hk.good
    have := mok_len h1
    have := mok_len h2
    rw [List.length_append]; omega
theorem flat_stack {q : Nat} [NeZero q] (m1 m2 n : Nat) (A B : Mt q) : flat (m1 + m2) n (stack m1 A B) = flat m1 n A ++ flat m2 n B := by
  apply List.ext_getElem
  · rw [List.length_append, flat_len, flat_len, flat_len, Nat.add_mul]
  · intro t h1 h2
    rw [flat_at]
    have hn : 0 < n := Nat.pos_of_ne_zero fun e => by subst e; rw [flat_len] at h1; simp at h1
    unfold stack
    by_cases h : t < m1 * n
    · rw [List.getElem_append_left (by rw [flat_len]; exact h), flat_at, if_pos (Nat.div_lt_of_lt_mul (by rw [Nat.mul_comm]; exact h))]
    · rw [List.getElem_append_right (by rw [flat_len]; omega)]
      rw [flat_at]
      obtain ⟨j, rfl⟩ : ∃ j, t = m1 * n + j := ⟨t - m1 * n, by omega⟩
      have e1 : (m1 * n + j) / n = m1 + j / n := by rw [Nat.add_comm, Nat.add_mul_div_right _ _ hn, Nat.add_comm]
      have e2 : (m1 * n + j) % n = j % n := by rw [Nat.add_comm, Nat.add_mul_mod_self_right]
      simp only [flat_len, Nat.add_sub_cancel_left, e1, e2]
      rw [if_neg (Nat.not_lt.2 (Nat.le_add_right _ _))]
theorem rowL_stack {q : Nat} [NeZero q] (m1 n : Nat) (A B : Mt q) (i : Nat) : rowL n (stack m1 A B) i = if i < m1 then rowL n A i else rowL n B (i - m1) := by
  unfold rowL stack
  by_cases h : i < m1
  · simp [h]
  · simp [h]
theorem RowsC.list {w : World} {v : Value} {m : Nat} {R : Nat → List Int} (h : RowsC w v m R) : ∃ L : List Value, L.length = m ∧ SrcAt w v L ∧ (∀ u ∈ L, u.oneCell' = true) ∧ ∀ i (h : i < L.length), IntsC w L[i] (R i) := by
  obtain ⟨a, cap, rfl, hm, ⟨rfl, rfl, rfl⟩ | ⟨H, o, rfl, hH, hc⟩⟩ := h
  · exact ⟨[], rfl, ⟨none, 0, rfl, by simp, .inl ⟨rfl, rfl, rfl⟩⟩, by simp, fun i h => by simp at h⟩
  · refine ⟨(List.range m).map fun i => (w.cell? ⟨H, o + i, none⟩).getD undef, by simp, ⟨_, cap, by simp, by simpa using hm, .inr ⟨H, o, rfl, ?_, ?_⟩⟩, ?_, ?_⟩
    · rcases hH with rfl | h
      · exact .inl (by simp)
      · exact .inr h
    · intro j u hj
      have hjm : j < m := by have := (List.getElem?_eq_some_iff.1 hj).1; simpa using this
      obtain ⟨x, hx, _⟩ := hc j hjm
      simp only [List.getElem?_map, List.getElem?_range hjm, Option.map_some, hx, Option.getD_some] at hj
      rw [hx]; exact hj
    · intro u hu
      obtain ⟨j, hj, rfl⟩ := List.mem_map.1 hu
      obtain ⟨x, hx, hI⟩ := hc j (by simpa using hj)
      rw [hx]
      obtain ⟨⟨a', c', rfl, _⟩, _⟩ := hI
      rfl
    · intro i hi
      have him : i < m := by simpa using hi
      obtain ⟨x, hx, hI⟩ := hc i him
      simp only [List.getElem_map, List.getElem_range, hx, Option.getD_some]
      exact hI
theorem RowsC.of_own {w : World} {B m : Nat} {v : Value} {L : List Value} {R : Nat → List Int} (h : w.ownsRow B 25 1 v m L) (hm : m ≤ 2097152) (hl : L.length = m) (hR : ∀ i (h : i < L.length), IntsC w L[i] (R i)) : RowsC w v m R := by
  have h' := h
  obtain ⟨hx, ⟨rfl, rfl⟩ | ⟨g, cap, cur, rfl, hg, hcur, _⟩⟩ := h
  · exact ⟨none, 0, rfl, hm, .inl ⟨rfl, rfl, rfl⟩⟩
  · have hlt := h'.lt g rfl
    refine ⟨_, cap, rfl, hm, .inr ⟨g, 0, rfl, .inr hlt.2, fun i hi => ⟨L[i], ?_, hR i (by omega)⟩⟩⟩
    have := h'.cells (g := g) rfl i L[i] (List.getElem?_eq_getElem (by omega))
    rw [Addr.add_lit] at this
    exact this
theorem RowsC.stacked {q : Nat} [NeZero q] {w : World} {B m1 m2 n : Nat} {v : Value} {L1 L2 : List Value} {A1 A2 : Mt q} (h : w.ownsRow B 25 1 v (L1.length + L2.length) (L1 ++ L2)) (h1 : L1.length = m1) (h2 : L2.length = m2) (hm : m1 + m2 ≤ 2097152)
    (i1 : ∀ i (h : i < L1.length), IntsC w L1[i] (rowL n A1 i)) (i2 : ∀ i (h : i < L2.length), IntsC w L2[i] (rowL n A2 i)) : RowsC w v (m1 + m2) (rowL n (stack m1 A1 A2)) := by
  subst h1 h2
  refine RowsC.of_own h hm (by simp) fun i hi => ?_
  rw [rowL_stack]
  by_cases hlt : i < L1.length
  · rw [if_pos hlt, List.getElem_append_left hlt]; exact i1 i hlt
  · rw [if_neg hlt, List.getElem_append_right (by omega)]; exact i2 _ _
end Go.Proofs.YtibdcejglkhcfaaDoor

namespace Go.Proofs.YtibdcejglkhcfaaDoor
open Go.RowKit
open Lin
set_option linter.unusedVariables false
set_option linter.unusedSectionVars false

theorem own_ne {B : Nat} {w : World} {v : Value} {zs : List Int} (h : OwnI B w v zs) {b : Nat} (hb : b < B) : v.ownBlock ≠ some b := by
  intro e
  have := (h.out.lt b e).1
  omega
theorem step_append_src {P : Program} {w : World} {ops : Array Oper} {o : Oper} {a : Act} {K : Act → World → Prop} {Q : Exit → Act → World → Prop} {E : Prop} (hgd : o.guard = none) (s x : Operand) (t : TypeId)
    (ho : o.op = .call { callee := .builtin .append, args := #[s, x], argTypes := #[t, t] })
    (base : Nat) (e : TypeId) (i : TypeInfo) (z : Value) (bytes : Nat) (ht : P.underlying t = some (.slice e)) (hi : P.info? e = some i) (hz : i.zero = some z)
    (hsize : i.size = 1) (hby : i.bytes = bytes) (hzs : z.cells.size = 1)
    (v : Value) (n : Nat) (xs : List Value) (hs : a.eval s = v) (hown : w.ownsRow base e 1 v n xs)
    (u : Value) (news : List Value) (hx : a.eval x = u) (hsrc : SrcAt w u news) (h1 : ∀ u ∈ news, u.oneCell' = true)
    (hn : n ≤ 2097152) (hb24 : bytes ≤ 24) (hbase : base ≤ w.heap.size)
    (h : ∀ v' w', w'.ownsRow base e 1 v' (n + news.length) (xs ++ news) → w.grownBy w' v.ownBlock → K (a.put o.dst v') w') : if Region.wanted o (yielded ops a.tmps) = true then Oper.wp P o a w K Q else E := by
  have hw : Region.wanted o (yielded ops a.tmps) = true := by simp [Region.wanted, hgd]
  rw [if_pos hw]
  obtain ⟨ap, c, rfl, hl, ⟨rfl, rfl, rfl⟩ | ⟨b, off, rfl, _, hc⟩⟩ := hsrc
  · have hrun := run_append_owned_none (P := P) (w := w) base t o.type e i 1 ht hi v n xs hown
    unfold Oper.wp
    simp only [List.length_nil] at hx
    simp [execOp, ho, resolve, invoke, builtin, hs, hx, hrun, Result.andThen]
    exact h v w (by simpa using hown) ⟨rfl, rfl, rfl, Nat.le_refl _, fun _ _ _ => rfl⟩
  · have hbb : (n + news.length) * bytes ≤ 140737488355328 := by
      have : (n + news.length) * bytes ≤ 4194304 * 24 := Nat.mul_le_mul (by omega) hb24
      omega
    exact wp_append_own w s x t ho base e i z 1 bytes ht hi hz hsize hby hzs (by decide) v n xs hs hown ⟨b, off, none⟩ news.length c news hx (by simp) (fun j u hj => by rw [Addr.add_lit]; exact hc j u hj) h1 (by unfold maxLen; omega) hbb hbase (fun v' w' g1 g2 _ => h v' w' g1 g2)
set_option maxRecDepth 100000 in
set_option maxHeartbeats 1600000 in
theorem l00Own_any {v : Value} {zs : List Int} {w : World} (hv : IntsC w v zs) (hl : zs.length ≤ 2097152) : Calls Tryd.prog 78 #[v] w fun e w' => RetL zs w e w' := by
  obtain ⟨i0, hi, hz0, hz1, hz2⟩ := info_parts info2
  have HS := Lib.hid (hv.src hl)
  obtain ⟨⟨a, c, rfl, -, -⟩, -⟩ := hv
  have hm := Lib.hid (World.ownsRow_made (base := w.heap.size) (e := 2) (size := 1) w #[] 0 (Nat.le_refl _) (Nat.zero_le _) rfl)
  have bs := (Below.refl w.heap.size w).alloc (Nat.le_refl _) (.cells #[] 2)
  have BS := Lib.hid bs
  clear bs
  go_enter Tryd.func78, Tryd.ntmps78
  go_wp2_with (at_builtin; refine wp_append_src rfl _ _ 25 rfl w.heap.size 2 i0 (.int .i64 0) 8 Tryd.underlying25 hi hz0 hz1 hz2 rfl _ 0 [] rfl hm.out _ (iv zs) rfl (HS.out.on BS.out) iv_one (by omega) (by omega) (by simp) ?_; intro v2 w2 hv2 hg2)
  have HB := Lib.hid (BS.out.grown hg2 (by simp) (fun k hk => (hm.out.lt k hk).1))
  have HV : Hid (OwnI w.heap.size w2 v2 zs) := by
    show World.ownsRow _ _ _ _ _ _ _
    simpa [iv_len] using hv2
  clear hv2 hg2
  go_wp2
  go_ret
  exact ⟨_, rfl, HV.out, HB.out⟩
end Go.Proofs.YtibdcejglkhcfaaDoor

namespace Go.Proofs.YtibdcejglkhcfaaDoor
open Go.RowKit
open Lin
set_option linter.unusedVariables false
set_option linter.unusedSectionVars false

theorem OwnI.al {B : Nat} {w : World} {v : Value} {zs : List Int} {o : Obj} (h : OwnI B w v zs) : OwnI B (w.alloc o) v zs := h.on ((Below.refl _ _).alloc (Nat.le_refl _) o)
theorem cell_new0 (w : World) (x y : Value) (t : TypeId) : (w.alloc (.cells #[x, y] t)).cell? ⟨w.heap.size, 0, none⟩ = some x := by rw [World.cell?_alloc_at _ _ _ _ rfl]; rfl
theorem cell_new1 (w : World) (x y : Value) (t : TypeId) : (w.alloc (.cells #[x, y] t)).cell? ⟨w.heap.size, 1, none⟩ = some y := by rw [World.cell?_alloc_at _ _ _ _ rfl]; rfl
/-- k rows made, in blocks from B on. -/
def MadeR (B : Nat) (w : World) (H m k : Nat) (R : Nat → List Int) : Prop :=
  ∃ V : Nat → Value, w.rowIs H 25 m (fun t => if t < k then V t else .slice none 0 0) ∧ ∀ t, t < k → OwnI B w (V t) (R t)
theorem MadeR.zero {B : Nat} {w : World} {H m : Nat} {R : Nat → List Int} (h : w.rowIs H 25 m (fun _ => .slice none 0 0)) : MadeR B w H m 0 R :=
  ⟨fun _ => .slice none 0 0, h.congr fun t _ => by rw [if_neg (by omega)], fun t ht => absurd ht (Nat.not_lt_zero _)⟩
theorem MadeR.next {B : Nat} {w w' : World} {H m k : Nat} {R : Nat → List Int} {v : Value} (h : MadeR B w H m k R) (hb : Below w.heap.size w w') (ho : OwnI B w' v (R k)) (hH : H < B) : MadeR B (w'.setCell ⟨H, k, none⟩ v) H m (k + 1) R := by
  obtain ⟨V, hr, hV⟩ := h
  refine ⟨fun t => if t = k then v else V t, ((rowIs_on hr hb).set k v).congr fun t _ => ?_, fun t ht => ?_⟩
  · by_cases e : t = k
    · subst e; rw [if_pos rfl, if_pos (by omega)]; simp
    · rw [if_neg e]
      by_cases h : t < k
      · rw [if_pos h, if_pos (by omega)]; simp [e]
      · rw [if_neg h, if_neg (by omega)]
  · by_cases e : t = k
    · subst e; simp only [if_true]; exact ho.setOut hH _
    · simp only [e, if_false]; exact ((hV t (by omega)).on hb).setOut hH _
theorem MadeR.rows {B : Nat} {w : World} {H m : Nat} {R : Nat → List Int} (h : MadeR B w H m m R) (hm : m ≤ 2097152) (hl : ∀ i, i < m → (R i).length ≤ 1048576) : RowsC w (.slice (some ⟨H, 0, none⟩) m m) m R := by
  obtain ⟨V, hr, hV⟩ := h
  refine ⟨_, m, rfl, hm, .inr ⟨H, 0, rfl, .inr hr.lt, fun i hi => ⟨V i, ?_, (hV i hi).atC (hl i hi)⟩⟩⟩
  rw [Nat.zero_add, hr.cell hi, if_pos hi]
end Go.Proofs.YtibdcejglkhcfaaDoor

namespace Go.Proofs.YtibdcejglkhcfaaDoor
open Go.RowKit
open Lin
set_option linter.unusedVariables false
set_option linter.unusedSectionVars false

/-- Two matrices and what JoinColumns answers. -/
def JoRes (p r c : Int) (xs : List Int) (q s d : Int) (ys : List Int) (P R C : Int) (zs : List Int) (k : Int) : Prop :=
  ∃ k0, FitK p r c xs q s d ys (r == s) k0 ∧ ((k0 ≠ 0 ∧ k = k0 ∧ P = 0 ∧ R = 0 ∧ C = 0 ∧ zs = []) ∨ (k0 = 0 ∧ 32 < c + d ∧ k = 5 ∧ P = 0 ∧ R = 0 ∧ C = 0 ∧ zs = []) ∨ (k0 = 0 ∧ c + d ≤ 32 ∧ k = 0 ∧ P = p ∧ R = r ∧ C = c + d ∧ ∃ (u : Nat) (_ : NeZero u) (m n1 n2 : Nat) (A B : Mt u), MIs p r c xs u m n1 A ∧ MIs p s d ys u m n2 B ∧ zs = flat m (n1 + n2) (join n1 A B)))
theorem joRes_has (p r c : Int) (xs : List Int) (q s d : Int) (ys : List Int) : ∃ P R C zs k, JoRes p r c xs q s d ys P R C zs k := by
  obtain ⟨k0, hk⟩ := fitK_has p r c xs q s d ys (r == s)
  by_cases h0 : k0 = 0
  · by_cases h1 : c + d ≤ 32
    · subst h0
      obtain ⟨g1, g2, e, hf⟩ := hk.good
      have e1 : r = s := by simpa using hf
      subst e e1
      obtain ⟨u, i, m, n1, A, m', n2, B, hA, hB⟩ := g1.form2 g2
      obtain rfl : m = m' := by have := hA.r; have := hB.r; omega
      exact ⟨_, _, _, _, _, 0, hk, .inr (.inr ⟨rfl, h1, rfl, rfl, rfl, rfl, u, i, m, n1, n2, A, B, hA, hB, rfl⟩)⟩
    · exact ⟨_, _, _, _, _, k0, hk, .inr (.inl ⟨h0, by omega, rfl, rfl, rfl, rfl, rfl⟩)⟩
  · exact ⟨_, _, _, _, _, k0, hk, .inl ⟨h0, rfl, rfl, rfl, rfl, rfl⟩⟩
theorem JoRes.len {p r c : Int} {xs : List Int} {q s d : Int} {ys : List Int} {P R C : Int} {zs : List Int} {k : Int} (h : JoRes p r c xs q s d ys P R C zs k) : zs.length ≤ 1048576 := by
  obtain ⟨k0, hk, ⟨_, _, _, _, _, rfl⟩ | ⟨_, _, _, _, _, _, rfl⟩ | ⟨rfl, hc, _, _, _, _, u, _, m, n1, n2, A, B, hA, hB, rfl⟩⟩ := h
  · simp
  · simp
  · have h1 := hA.c
    have h2 := hB.c
    have := side_mul (m := m) (n := n1 + n2) hA.m32 (by omega)
    rw [flat_len]; omega
theorem rowL_join {q : Nat} [NeZero q] (n1 n2 : Nat) (A B : Mt q) (i : Nat) : rowL (n1 + n2) (join n1 A B) i = rowL n1 A i ++ rowL n2 B i := by
  unfold rowL join
  rw [List.range_add, List.map_append, List.map_map]
  congr 1
  · apply List.map_congr_left
    intro j hj
    rw [if_pos (List.mem_range.1 hj)]
  · apply List.map_congr_left
    intro j hj
    show fv (if n1 + j < n1 then A i (n1 + j) else B i (n1 + j - n1)) = fv (B i j)
    rw [if_neg (by omega), Nat.add_sub_cancel_left]
end Go.Proofs.YtibdcejglkhcfaaDoor

namespace Go.Proofs.YtibdcejglkhcfaaDoor
open Go.RowKit
open Lin
set_option linter.unusedVariables false
set_option linter.unusedSectionVars false

theorem flat_rowN {q : Nat} [NeZero q] (i n : Nat) (F : Mt q) : flat (i + 1) n F = flat i n F ++ rowL n F i := by
  unfold flat rowL
  rw [Nat.succ_mul, List.range_add, List.map_append, List.map_map]
  congr 1
  apply List.map_congr_left
  intro j hj
  have hj := List.mem_range.1 hj
  show fv (F ((i * n + j) / n) ((i * n + j) % n)) = fv (F i j)
  rw [idxDiv hj, idxMod hj]
theorem cut_adr {a : Option Addr} {n k x : Nat} (h : x + n ≤ k) (hx : n = 0 → x = 0) (hk : n ≠ 0 ∨ True) (ha : (a = none ∧ k = 0) ∨ ∃ g off, a = some ⟨g, off, none⟩) : (if k = x then a else Option.map (fun p => p.add x) a) = adr a x := by
  by_cases e : k = x
  · have : n = 0 := by omega
    have := hx this
    subst this
    rw [if_pos e]
    rcases ha with ⟨rfl, _⟩ | ⟨g, off, rfl⟩ <;> simp [adr]
  · rw [if_neg e]
    rcases ha with ⟨rfl, _⟩ | ⟨g, off, rfl⟩
    · rfl
    · simp [adr, Addr.add_lit]
theorem PtM.keep {B : Nat} {a w : World} {L : Nat} {p r c : Int} {v : Value} (h : PtM a L p r c v) (hb : Below B a w) (hL : L < B) : PtM w L p r c v := by
  obtain ⟨h0, h1, h2, h3, h4⟩ := h
  exact ⟨Nat.lt_of_lt_of_le h0 hb.size, (hb.cell (p := ⟨L, 0, none⟩) hL).trans h1, (hb.cell (p := ⟨L, 1, none⟩) hL).trans h2, (hb.cell (p := ⟨L, 2, none⟩) hL).trans h3, (hb.cell (p := ⟨L, 3, none⟩) hL).trans h4⟩
end Go.Proofs.YtibdcejglkhcfaaDoor
