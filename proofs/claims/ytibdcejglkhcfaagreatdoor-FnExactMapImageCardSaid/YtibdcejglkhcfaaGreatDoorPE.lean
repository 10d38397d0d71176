/-
  Grow, Concat, Clone of the library at rows of numbers and at rows of rows.
  Rows that read as numbers, and matrixOf.
  Contracts of StackRows of the program.
  Contracts of StackRows of the model.
  Rows beside one another.
  Contracts of JoinColumns of the program.
  l03Join of the model.
-/
import Derived.Test.YtibdcejglkhcfaaGreatDoorPD
import Derived.Lib.AppendZeros
import Derived.Lib.Walk
import Derived.Lib.SliceRun
import Derived.Laws.OwnMore
import Derived.Laws.CopyOwn
import Derived.Deep.AppendLies
import Derived.Test.YtibdcejglkhcfaaGreatDoorPC
import Derived.Deep.DeepCutAuto
import Derived.StillTailTactics
namespace Go.Proofs.YtibdcejglkhcfaaGreatDoor
open Go.RowKit
open Lin
set_option linter.unusedVariables false
set_option linter.unusedSectionVars false

/-- A slice whose cells are news. -/
def SrcAt (w : World) (x : Value) (news : List Value) : Prop :=
  ∃ a c, x = .slice a news.length c ∧ news.length ≤ 2097152 ∧ ((a = none ∧ c = 0 ∧ news = []) ∨ ∃ b off, a = some ⟨b, off, none⟩ ∧ (news = [] ∨ b < w.heap.size) ∧ ∀ j u, news[j]? = some u → w.cell? ⟨b, off + j, none⟩ = some u)
theorem SrcAt.on {w w' : World} {x : Value} {news : List Value} (h : SrcAt w x news) (hb : Below w.heap.size w w') : SrcAt w' x news := by
  obtain ⟨a, c, rfl, hl, h | ⟨b, off, rfl, hbk, hc⟩⟩ := h
  · exact ⟨a, c, rfl, hl, .inl h⟩
  · refine ⟨_, c, rfl, hl, .inr ⟨b, off, rfl, ?_, fun j u hj => ?_⟩⟩
    · rcases hbk with h | h
      · exact .inl h
      · exact .inr (Nat.lt_of_lt_of_le h hb.size)
    · rcases hbk with rfl | h
      · simp at hj
      · exact (hb.cell (p := ⟨b, off + j, none⟩) h).trans (hc j u hj)
theorem SrcAt.drew {w : World} {x : Value} {news : List Value} (h : SrcAt w x news) : SrcAt w.drew x news := h
theorem wp_append_src {P : Program} {w : World} {ops : Array Oper} {rest : List Oper} {o : Oper} {a : Act} {Q : Exit → Act → World → Prop} (hgd : o.guard = none) (s x : Operand) (t : TypeId)
    (ho : o.op = .call { callee := .builtin .append, args := #[s, x], argTypes := #[t, t] })
    (base : Nat) (e : TypeId) (i : TypeInfo) (z : Value) (bytes : Nat) (ht : P.underlying t = some (.slice e)) (hi : P.info? e = some i) (hz : i.zero = some z)
    (hsize : i.size = 1) (hby : i.bytes = bytes) (hzs : z.cells.size = 1)
    (v : Value) (n : Nat) (xs : List Value) (hs : a.eval s = v) (hown : w.ownsRow base e 1 v n xs)
    (u : Value) (news : List Value) (hx : a.eval x = u) (hsrc : SrcAt w u news) (h1 : ∀ u ∈ news, u.oneCell' = true)
    (hn : n ≤ 2097152) (hb24 : bytes ≤ 24) (hbase : base ≤ w.heap.size)
    (h : ∀ v' w', w'.ownsRow base e 1 v' (n + news.length) (xs ++ news) → w.grownBy w' v.ownBlock → wpList P ops Q rest (a.put o.dst v') w') : wpList P ops Q (o :: rest) a w := by
  obtain ⟨ap, c, rfl, hl, ⟨rfl, rfl, rfl⟩ | ⟨b, off, rfl, _, hc⟩⟩ := hsrc
  · refine wpList_plain hgd fun K hK => ?_
    have hrun := run_append_owned_none (P := P) (w := w) base t o.type e i 1 ht hi v n xs hown
    unfold Oper.wp
    simp only [List.length_nil] at hx
    simp [execOp, ho, resolve, invoke, builtin, hs, hx, hrun, Result.andThen]
    exact hK _ _ (h v w (by simpa using hown) ⟨rfl, rfl, rfl, Nat.le_refl _, fun _ _ _ => rfl⟩)
  · have hbb : (n + news.length) * bytes ≤ 140737488355328 := by
      have : (n + news.length) * bytes ≤ 4194304 * 24 := Nat.mul_le_mul (by omega) hb24
      omega
    refine wpList_append_own w hgd s x t ho base e i z 1 bytes ht hi hz hsize hby hzs (by decide) v n xs hs hown ⟨b, off, none⟩ news.length c news hx (by simp) (fun j u hj => by rw [Addr.add_lit]; exact hc j u hj) h1 (by unfold maxLen; omega) hbb hbase ?_
    intro v' w' g1 g2 _
    exact h v' w' g1 g2
set_option maxRecDepth 100000 in
set_option maxHeartbeats 1600000 in
theorem growI_nil (w : World) : Calls Tryz.prog 196 #[.slice none 0 0, .int .i64 0] w fun e w' => ∃ v, e = .returned v ∧ w'.ownsRow w.heap.size 2 1 v 0 [] ∧ Below w.heap.size w w' := by
  go_enter Tryz.func196, Tryz.ntmps196
  go_wp2
  go_ret
  exact ⟨_, rfl, World.ownsRow_nil _ _ _ _, Below.refl _ _⟩
set_option maxRecDepth 100000 in
set_option maxHeartbeats 1600000 in
theorem growI_some (n : Nat) (w : World) (hn : n ≤ 2097152) (h0 : 0 < n) : Calls Tryz.prog 196 #[.slice none 0 0, .int .i64 (n : Int)] w fun e w' => ∃ v, e = .returned v ∧ w'.ownsRow w.heap.size 2 1 v 0 [] ∧ Below w.heap.size w w' := by
  obtain ⟨i0, hi, hz0, hz1, hz2⟩ := info_parts info2
  have h1 : ¬ ((n : Int) < 0) := by omega
  have h2 : IntKind.i64.wrap (n : Int) = n := IntWalk.i64_in _ (by omega)
  have h3 : (n : Int) > 0 := by omega
  have happ := Lib.run_append_nil_zeros (P := Tryz.prog) w 25 3 25 2 i0 (.int .i64 0) .i64 .i64 Tryz.underlying25 Tryz.underlying3 hi hz0 n h0 (by omega) (by omega) (by rw [hz2]; omega)
  have hge := grownCap_ge w n 0 2
  have hle := grownCap_le_maxLen w n 0 2 (by unfold maxLen; omega)
  obtain ⟨cp, hcp⟩ : ∃ cp, grownCap w n 0 2 = cp := ⟨_, rfl⟩
  rw [hcp] at happ hge hle
  clear hcp
  go_enter Tryz.func196, Tryz.ntmps196
  go_wp2_with (at_builtin; refine Lib.wpList_append_run _ rfl _ _ _ _ rfl _ _ rfl rfl _ _ happ ?_)
  go_ret
  refine ⟨_, rfl, ⟨rfl, .inr ⟨w.heap.size, cp, _, rfl, Nat.le_refl _, heap_alloc_new w.drew _, Nat.zero_le _, hle, ?_, by simp⟩⟩, ⟨rfl, rfl, rfl, by simp, fun k hk => heap_alloc_old w.drew _ k hk⟩⟩
  simp only [Array.size_append, size_zeroCells]
  simp; omega
theorem growI_any (n : Nat) (w : World) (hn : n ≤ 2097152) : Calls Tryz.prog 196 #[.slice none 0 0, .int .i64 (n : Int)] w fun e w' => ∃ v, e = .returned v ∧ w'.ownsRow w.heap.size 2 1 v 0 [] ∧ Below w.heap.size w w' := by
  by_cases h0 : n = 0
  · subst h0; exact growI_nil w
  · exact growI_some n w hn (by omega)
set_option maxRecDepth 100000 in
set_option maxHeartbeats 3200000 in
theorem concatI_any {u1 u2 : Value} {xs ys : List Value} {b c : Nat} (w : World) (hb : b < w.heap.size) (c1 : w.cell? ⟨b, 0, none⟩ = some u1) (c2 : w.cell? ⟨b, 1, none⟩ = some u2) (hx : SrcAt w u1 xs) (hy : SrcAt w u2 ys) (hl : xs.length + ys.length ≤ 2097152) (o1 : ∀ u ∈ xs, u.oneCell' = true) (o2 : ∀ u ∈ ys, u.oneCell' = true) :
    Calls Tryz.prog 157 #[.slice (some ⟨b, 0, none⟩) 2 2] w fun e w' => ∃ v, e = .returned v ∧ w'.ownsRow w.heap.size 2 1 v (xs.length + ys.length) (xs ++ ys) ∧ Below w.heap.size w w' := by
  obtain ⟨i0, hi, hz0, hz1, hz2⟩ := info_parts info2
  have HX := Lib.hid hx
  have HY := Lib.hid hy
  have O1 := Lib.hid o1
  have O2 := Lib.hid o2
  obtain ⟨ax, cx, rfl, hlx, -⟩ := hx
  obtain ⟨ay, cy, rfl, hly, -⟩ := hy
  clear o1 o2
  obtain ⟨X, hX⟩ : ∃ X, xs.length = X := ⟨_, rfl⟩
  obtain ⟨Y, hY⟩ : ∃ Y, ys.length = Y := ⟨_, rfl⟩
  have HLX := Lib.hid hX
  have HLY := Lib.hid hY
  rw [hX] at c1 hl hlx HX ⊢
  rw [hY] at c2 hl hly HY ⊢
  clear hX hY
  have e0 : (0 : Int) < 2 := by omega
  have e1 : (1 : Int) < 2 := by omega
  have s1 : IntKind.i64.wrap ((X : Int) + (Y : Int)) = ((X + Y : Nat) : Int) := by rw [Int.natCast_add]; exact IntWalk.i64_in _ (by omega)
  have s2 : ¬ ((X : Int) < 0) := by omega
  have s3 : ¬ (((X + Y : Nat) : Int) < 0) := by omega
  have s4 : IntKind.i64.wrap (X : Int) = (X : Int) := IntWalk.i64_in _ (by omega)
  go_enter Tryz.func157, Tryz.ntmps157
  go_wp2
  go_loopw [3, 11] (fun s i wr => w = wr ∧ ((s = .int .i64 0 ∧ i = .int .i64 0) ∨ (s = .int .i64 (X : Int) ∧ i = .int .i64 1) ∨ (s = .int .i64 ((X + Y : Nat) : Int) ∧ i = .int .i64 2))) (fun _ i _ => 2 - (intOf i).toNat)
  case atStart => exact ⟨rfl, .inl ⟨rfl, rfl⟩⟩
  case round =>
    obtain ⟨rfl, ⟨rfl, rfl⟩ | ⟨rfl, rfl⟩ | ⟨rfl, rfl⟩⟩ := hrel
    · go_wp2
      go_roundw
      case rel => exact ⟨by first | rfl | trivial, .inr (.inl ⟨rfl, rfl⟩)⟩
      case measure => simp [intOf]
    · go_wp2
      go_roundw
      case rel => exact ⟨by first | rfl | trivial, .inr (.inr ⟨rfl, rfl⟩)⟩
      case measure => simp [intOf]
    · go_wp2_with fail
      refine (growI_any (X + Y) _ hl).mono ?_
      rintro e w1 ⟨v0, rfl, hv0, hbw⟩
      have HV0 := Lib.hid hv0
      have HB0 := Lib.hid hbw
      have d1 := (hbw.cell (p := ⟨b, 0, none⟩) hb).trans c1
      have d2 := (hbw.cell (p := ⟨b, 1, none⟩) hb).trans c2
      clear hv0 hbw
      go_wp2_with fail
      go_loopw [6, 27] (fun v i wz => Hid (Below w.heap.size w wz) ∧ ((i = .int .i64 0 ∧ Hid (wz.ownsRow w.heap.size 2 1 v 0 [])) ∨ (i = .int .i64 1 ∧ Hid (wz.ownsRow w.heap.size 2 1 v X xs)) ∨ (i = .int .i64 2 ∧ Hid (wz.ownsRow w.heap.size 2 1 v (X + Y) (xs ++ ys))))) (fun _ i _ => 2 - (intOf i).toNat)
      case atStart => exact ⟨HB0.out, .inl ⟨rfl, HV0.out⟩⟩
      case round =>
        clear d1 d2
        obtain ⟨HB, ⟨rfl, HV⟩ | ⟨rfl, HV⟩ | ⟨rfl, HV⟩⟩ := hrel
        · have d1 := (HB.out.cell (p := ⟨b, 0, none⟩) hb).trans c1
          have hsz := HB.out.size
          go_wp2_with (at_builtin; go_loud (refine wp_append_src rfl _ _ 25 rfl w.heap.size 2 i0 (.int .i64 0) 8 Tryz.underlying25 hi hz0 hz1 hz2 rfl _ 0 [] rfl HV.out _ xs rfl (HX.out.on HB.out) O1.out (by omega) (by omega) hsz ?_; rw [HLX.out]; intro v2 w2 hv2 hg2))
          have HV2 : Hid (w2.ownsRow w.heap.size 2 1 v2 X xs) := by show World.ownsRow _ _ _ _ _ _ _; simpa using hv2
          have HB2 := Lib.hid (HB.out.grown hg2 hsz (fun k hk => (HV.out.lt k hk).1))
          clear hv2 hg2 HV HB d1
          go_wp2
          go_roundw
          case rel => exact ⟨HB2.out, .inr (.inl ⟨rfl, HV2.out⟩)⟩
          case measure => simp [intOf]
        · have d2 := (HB.out.cell (p := ⟨b, 1, none⟩) hb).trans c2
          have hsz := HB.out.size
          go_wp2_with (at_builtin; go_loud (refine wp_append_src rfl _ _ 25 rfl w.heap.size 2 i0 (.int .i64 0) 8 Tryz.underlying25 hi hz0 hz1 hz2 rfl _ X xs rfl HV.out _ ys rfl (HY.out.on HB.out) O2.out (by omega) (by omega) hsz ?_; rw [HLY.out]; intro v2 w2 hv2 hg2))
          have HV2 := Lib.hid hv2
          have HB2 := Lib.hid (HB.out.grown hg2 hsz (fun k hk => (HV.out.lt k hk).1))
          clear hv2 hg2 HV HB d2
          go_wp2
          go_roundw
          case rel => exact ⟨HB2.out, .inr (.inr ⟨rfl, HV2.out⟩)⟩
          case measure => simp [intOf]
        · go_wp2
          go_ret
          exact ⟨_, rfl, HV.out, HB.out⟩
theorem iv_app (xs ys : List Int) : iv (xs ++ ys) = iv xs ++ iv ys := by simp [iv]
theorem iv_one {xs : List Int} : ∀ u ∈ iv xs, u.oneCell' = true := by
  intro u hu
  obtain ⟨x, _, rfl⟩ := List.mem_map.1 hu
  rfl
theorem IntsC.src {w : World} {v : Value} {zs : List Int} (h : IntsC w v zs) (hl : zs.length ≤ 2097152) : SrcAt w v (iv zs) := by
  obtain ⟨⟨a, cap, rfl, _, h2⟩, a', cap', e, h3, h4, h5⟩ := h
  simp only [Value.slice.injEq, true_and] at e
  obtain ⟨rfl, rfl⟩ := e
  refine ⟨a, cap, by rw [iv_len], by rw [iv_len]; exact hl, ?_⟩
  rcases h5 with ⟨rfl, rfl⟩ | ⟨g, off, rfl⟩
  · exact .inl ⟨rfl, rfl, by rw [List.eq_nil_of_length_eq_zero (by omega : zs.length = 0)]; rfl⟩
  · refine .inr ⟨g, off, rfl, ?_, ?_⟩
    · rcases h2 with rfl | ⟨b, o, e, hb, _⟩
      · exact .inl rfl
      · simp at e; obtain ⟨rfl, rfl⟩ := e; exact .inr hb
    · intro j u hj
      have hj' : j < zs.length := by have := (List.getElem?_eq_some_iff.1 hj).1; simpa [iv] using this
      rw [iv_at zs j hj'] at hj
      cases hj
      rcases h2 with rfl | ⟨b, o, e, hb, hc⟩
      · simp at hj'
      · simp at e; obtain ⟨rfl, rfl⟩ := e; exact hc j hj'
theorem concatI_ok {u1 u2 : Value} {xs ys : List Int} {b c : Nat} (w : World) (hb : b < w.heap.size) (c1 : w.cell? ⟨b, 0, none⟩ = some u1) (c2 : w.cell? ⟨b, 1, none⟩ = some u2) (hx : IntsC w u1 xs) (hy : IntsC w u2 ys) (hl : xs.length + ys.length ≤ 2097152) :
    Calls Tryz.prog 157 #[.slice (some ⟨b, 0, none⟩) 2 2] w fun e w' => RetL (xs ++ ys) w e w' := by
  refine (concatI_any (c := c) w hb c1 c2 (hx.src (by omega)) (hy.src (by omega)) (by rw [iv_len, iv_len]; exact hl) iv_one iv_one).mono ?_
  rintro e w' ⟨v, rfl, ho, hb⟩
  refine ⟨v, rfl, ?_, hb⟩
  unfold OwnI
  rw [iv_app, List.length_append]
  simpa [iv_len] using ho
set_option maxRecDepth 100000 in
set_option maxHeartbeats 1600000 in
theorem cloneI_nil (w : World) : Calls Tryz.prog 114 #[.slice none 0 0] w fun e w' => RetL [] w e w' := by
  have q25 : ∀ (w : World) (a : Option Addr) (n c n' c' : Nat), (binOp .eql 25 (.slice a n c) (.slice none n' c')).run Tryz.prog w = .ok (.bool a.isNone) w := fun w a n c n' c' => Lib.run_eql_slice_nil w _ _ a n c n' c' Tryz.underlying25
  go_enter Tryz.func114, Tryz.ntmps114
  go_wp2
  go_ret
  exact ⟨_, rfl, OwnI.nul _ _, Below.refl _ _⟩
set_option maxRecDepth 100000 in
set_option maxHeartbeats 1600000 in
theorem cloneI_some {g off n c : Nat} {xs : List Value} (w : World) (hx : SrcAt w (.slice (some ⟨g, off, none⟩) n c) xs) (hn : xs.length = n) (o1 : ∀ u ∈ xs, u.oneCell' = true) :
    Calls Tryz.prog 114 #[.slice (some ⟨g, off, none⟩) n c] w fun e w' => ∃ v, e = .returned v ∧ w'.ownsRow w.heap.size 2 1 v n xs ∧ v ≠ .slice none 0 0 ∧ Below w.heap.size w w' := by
  obtain ⟨i0, hi, hz0, hz1, hz2⟩ := info_parts info2
  have HX := Lib.hid hx
  have O1 := Lib.hid o1
  have HN := Lib.hid hn
  clear hx o1 hn
  have q25 : ∀ (w : World) (a : Option Addr) (n c n' c' : Nat), (binOp .eql 25 (.slice a n c) (.slice none n' c')).run Tryz.prog w = .ok (.bool a.isNone) w := fun w a n c n' c' => Lib.run_eql_slice_nil w _ _ a n c n' c' Tryz.underlying25
  have hm := Lib.hid (World.ownsRow_made (base := w.heap.size) (e := 2) (size := 1) w #[] 0 (Nat.le_refl _) (Nat.zero_le _) rfl)
  go_enter Tryz.func114, Tryz.ntmps114
  go_wp2_with (at_builtin; go_loud (refine wpList_append_own _ rfl _ _ 25 rfl w.heap.size 2 i0 (.int .i64 0) 1 8 Tryz.underlying25 hi hz0 hz1 hz2 rfl (by decide) _ _ _ rfl hm.out ⟨g, off, none⟩ n c xs rfl ?ah1 ?ah2 ?ah3 ?ah4 ?ah5 ?ah6 ?_))
  case ah1 => have := HN.out; omega
  case ah2 =>
    intro j u hj
    rw [Addr.add_lit]
    obtain ⟨a', c', e, hl, h | ⟨b', off', e2, hb', hc'⟩⟩ := HX.out
    · obtain ⟨rfl, -, rfl⟩ := h
      simp at hj
    · simp at e e2
      obtain ⟨rfl, _, rfl⟩ := e
      cases e2
      rcases hb' with rfl | hb'
      · simp at hj
      · exact (((Below.refl _ w).alloc (Nat.le_refl _) _).cell (p := ⟨g, off + j, none⟩) hb').trans (hc' j u hj)
  case ah3 => exact O1.out
  case ah4 => obtain ⟨_, _, _, hl, _⟩ := HX.out; have := HN.out; unfold maxLen; omega
  case ah5 => obtain ⟨_, _, _, hl, _⟩ := HX.out; have := HN.out; omega
  case ah6 => simp
  intro v' w1 hown hgrow hnil
  go_wp2
  go_ret
  exact ⟨v', rfl, by simpa using hown, hnil, ((Below.refl _ w).alloc (Nat.le_refl _) _).grown hgrow (by simp) (by intro k hk; simp [Value.ownBlock] at hk; omega)⟩
end Go.Proofs.YtibdcejglkhcfaaGreatDoor

namespace Go.Proofs.YtibdcejglkhcfaaGreatDoor
open Go.RowKit
open Lin
set_option linter.unusedVariables false
set_option linter.unusedSectionVars false

/-- A slice of m rows, the i-th of which reads as R i. -/
def RowsC (w : World) (v : Value) (m : Nat) (R : Nat → List Int) : Prop :=
  ∃ a cap, v = .slice a m cap ∧ m ≤ 2097152 ∧ ((a = none ∧ cap = 0 ∧ m = 0) ∨ ∃ H o, a = some ⟨H, o, none⟩ ∧ (m = 0 ∨ H < w.heap.size) ∧ ∀ i, i < m → ∃ u, w.cell? ⟨H, o + i, none⟩ = some u ∧ IntsC w u (R i))
theorem RowsC.on {w w' : World} {v : Value} {m : Nat} {R : Nat → List Int} (h : RowsC w v m R) (hb : Below w.heap.size w w') : RowsC w' v m R := by
  obtain ⟨a, cap, rfl, hm, h | ⟨H, o, rfl, hH, hc⟩⟩ := h
  · exact ⟨a, cap, rfl, hm, .inl h⟩
  · refine ⟨_, cap, rfl, hm, .inr ⟨H, o, rfl, hH.imp id (fun h => Nat.lt_of_lt_of_le h hb.size), fun i hi => ?_⟩⟩
    obtain ⟨u, h1, h2⟩ := hc i hi
    exact ⟨u, (hb.cell (p := ⟨H, o + i, none⟩) (show H < _ by omega)).trans h1, h2.on hb⟩
theorem RowsC.drew {w : World} {v : Value} {m : Nat} {R : Nat → List Int} (h : RowsC w v m R) : RowsC w.drew v m R := h
/-- The i-th row of a matrix. -/
def rowL {q : Nat} (n : Nat) (A : Mt q) (i : Nat) : List Int := (List.range n).map fun j => fv (A i j)
theorem rowL_len {q : Nat} (n : Nat) (A : Mt q) (i : Nat) : (rowL n A i).length = n := by simp [rowL]
theorem rowL_at {q : Nat} (n : Nat) (A : Mt q) (i j : Nat) (h : j < (rowL n A i).length) : (rowL n A i)[j] = fv (A i j) := by simp [rowL]
theorem rowW_ints {q m n : Nat} [NeZero q] {A : Mt q} {a : Option Addr} {cap : Nat} {w : World} (hv : IntsC w (.slice a (m * n) cap) (flat m n A)) (hn : n ≤ 1024) {i : Nat} (hi : i < m) : IntsC w (rowW a n cap i) (rowL n A i) := by
  obtain ⟨⟨a', cap', e, _, h2⟩, a'', cap'', e2, h3, h4, h5⟩ := hv
  simp only [Value.slice.injEq] at e e2
  obtain ⟨rfl, -, rfl⟩ := e
  obtain ⟨rfl, -, rfl⟩ := e2
  have hle : i * n + n ≤ m * n := by rw [← Nat.succ_mul]; exact Nat.mul_le_mul_right n hi
  rw [flat_len] at h3
  unfold rowW
  refine ⟨⟨adr a (i * n), cap - i * n, by rw [rowL_len], by rw [rowL_len]; omega, ?_⟩, adr a (i * n), cap - i * n, by rw [rowL_len], by rw [rowL_len]; omega, by omega, ?_⟩
  · by_cases h0 : n = 0
    · subst h0; exact .inl rfl
    · rcases h2 with h | ⟨b, off, rfl, hb, hc⟩
      · have := congrArg List.length h; rw [flat_len] at this; simp at this; omega
      · refine .inr ⟨b, off + i * n, rfl, hb, fun j hj => ?_⟩
        have hj' : j < n := by rw [rowL_len] at hj; exact hj
        have ht : i * n + j < (flat m n A).length := by rw [flat_len]; exact idx_lt hi hj'
        have := hc (i * n + j) ht
        rw [flat_ij m n A hi hj', ← Nat.add_assoc] at this
        rw [rowL_at]; exact this
  · rcases h5 with ⟨rfl, rfl⟩ | ⟨g, off, rfl⟩
    · exact .inl ⟨rfl, by omega⟩
    · exact .inr ⟨g, off + i * n, rfl⟩
theorem implRowsC {q m n : Nat} [NeZero q] {A : Mt q} {p : Int} {v : Value} {L : Nat} {w : World} (hp : PtM w L p m n v) (hv : IntsC w v (flat m n A)) (hm : m ≤ 32) (hn : n ≤ 32) :
    Calls Tryz.prog 112 #[.pointer (some ⟨L, 0, none⟩)] w fun e w' => ∃ H, e = .returned (.slice (some ⟨H, 0, none⟩) m m) ∧ RowsC w' (.slice (some ⟨H, 0, none⟩) m m) m (rowL n A) ∧ w.heap.size ≤ H ∧ H < w'.heap.size ∧ Below w.heap.size w w' := by
  have HV := Lib.hid hv
  obtain ⟨_, a, cap, rfl, hc1, hc2, ha⟩ := hv
  rw [flat_len] at *
  refine (rows_any hp hm (by omega) hc1 hc2 ha).mono ?_
  rintro e w' ⟨H, rfl, hH, hr, hb⟩
  refine ⟨H, rfl, ⟨_, m, rfl, by omega, .inr ⟨H, 0, rfl, .inr hr.lt, fun i hi => ⟨rowW a n cap i, ?_, ?_⟩⟩⟩, hH, hr.lt, hb⟩
  · rw [Nat.zero_add]; exact hr.cell hi
  · exact (rowW_ints HV.out (by omega) hi).on hb

/-! ### copy into a row -/
theorem setRow_grown (w : World) (g : Nat) (cs : Array Value) : w.grownBy (w.setRow g cs) (some g) := ⟨rfl, rfl, rfl, by simp [World.setRow], fun k _ hk => setRow_other w g k cs (fun e => hk (by rw [e]))⟩
theorem wp_copy_row {P : Program} {w : World} {ops : Array Oper} {rest : List Oper} {o : Oper} {a : Act} {Q : Exit → Act → World → Prop} (hgd : o.guard = none) (d s : Operand) (dT sT : TypeId)
    (ho : o.op = .call { callee := .builtin .copy, args := #[d, s], argTypes := #[dT, sT] }) (elem : TypeId) (hu : P.underlying dT = some (.slice elem)) (hsz : (P.info? elem).map (·.size) = some 1)
    (g off dCap n N : Nat) (F : Nat → Value) (t : TypeId) (hd : a.eval d = .slice (some ⟨g, off, none⟩) n dCap) (x : Value) (hs : a.eval s = x) (news : List Value) (hx : SrcAt w x news) (hn : news.length = n)
    (hrow : w.rowIs g t N F) (hfit : off + n ≤ N) (h1 : ∀ v ∈ news, v.oneCell' = true)
    (h : ∀ w', w'.rowIs g t N (fun y => if off ≤ y ∧ y < off + n then news.getD (y - off) undef else F y) → w.grownBy w' (some g) → wpList P ops Q rest (a.put o.dst (goInt n)) w') : wpList P ops Q (o :: rest) a w := by
  obtain ⟨ap, c, rfl, hl, hsrc⟩ := hx
  by_cases h0 : n = 0
  · subst h0
    refine wpList_copy_nothing hgd d s dT sT ho elem hu hsz _ ap 0 dCap _ c hd hs (by rw [hn]; rfl) ?_
    exact h w (hrow.congr fun y _ => by rw [if_neg (by omega)]) ⟨rfl, rfl, rfl, Nat.le_refl _, fun _ _ _ => rfl⟩
  · rcases hsrc with ⟨_, _, rfl⟩ | ⟨b, o', rfl, _, hc⟩
    · simp at hn; omega
    · obtain ⟨cur, hg, hcs, hF⟩ := hrow
      refine wpList_copy_own hgd d s dT sT ho elem hu hsz g off n dCap ⟨b, o', none⟩ _ c hd hs cur t hg news (by rw [hn]; exact (Nat.min_self n).symm) (fun j v hj => by rw [Addr.add_lit]; exact hc j v hj) (by rw [hn, hcs]; exact hfit) h1 ?_
      rw [hn]
      refine h _ ⟨_, setRow_heap w g _ _ t _ hg, ?_, fun i hi => ?_⟩ (setRow_grown _ _ _)
      · simp; omega
      · dsimp only
        have hci := hF i hi
        have hcl : i < cur.size := by omega
        rw [Array.getElem?_eq_getElem hcl] at hci
        by_cases hin : off ≤ i ∧ i < off + n
        · rw [if_pos hin]
          simp only [List.getElem?_toArray]
          rw [List.getElem?_append_right (by simp; omega), List.length_take, List.getElem?_append_left (by simp; omega)]
          rw [show min off cur.toList.length = off by simp; omega]
          simp [List.getD, List.getElem?_eq_getElem (show i - off < news.length by omega)]
        · rw [if_neg hin]
          simp only [List.getElem?_toArray]
          by_cases hlt : i < off
          · rw [List.getElem?_append_left (by simp; omega), List.getElem?_take_of_lt hlt]
            simpa [hcl] using hci
          · rw [List.getElem?_append_right (by simp; omega), List.length_take, List.getElem?_append_right (by simp; omega), List.getElem?_drop]
            rw [show off + n + (i - min off cur.toList.length - news.length) = i by simp; omega]
            simpa [hcl] using hci

/-! ### matrixOf -/
/-- k rows copied. -/
def MoF {q : Nat} [NeZero q] (n : Nat) (A : Mt q) (k t : Nat) : Value := if t < k * n then .int .i64 (fv (A (t / n) (t % n))) else .int .i64 0
theorem moF_next {q : Nat} [NeZero q] {n k : Nat} {A : Mt q} (t : Nat) : (if k * n ≤ t ∧ t < k * n + n then (iv (rowL n A k)).getD (t - k * n) undef else MoF n A k t) = MoF n A (k + 1) t := by
  unfold MoF
  rw [Nat.succ_mul]
  by_cases h : k * n ≤ t ∧ t < k * n + n
  · obtain ⟨j, hj⟩ : ∃ j, t = k * n + j := ⟨t - k * n, by omega⟩
    have hjn : j < n := by omega
    rw [if_pos h, if_pos h.2, hj, Nat.add_sub_cancel_left, idxDiv hjn, idxMod hjn]
    have hl : j < (rowL n A k).length := by rw [rowL_len]; exact hjn
    simp only [List.getD, iv_at _ j hl, Option.getD_some, rowL_at]
  · rw [if_neg h]
    by_cases h2 : t < k * n
    · rw [if_pos h2, if_pos (by omega)]
    · rw [if_neg h2, if_neg (by omega)]
set_option maxRecDepth 100000 in
set_option maxHeartbeats 3200000 in
theorem matrixOf_any {q m n : Nat} [NeZero q] {A : Mt q} (p : Int) {v : Value} {w : World} (hv : RowsC w v m (rowL n A)) (hm : m ≤ 32) (hn : n ≤ 32) :
    Calls Tryz.prog 140 #[.int .i64 p, .int .i64 (n : Int), v] w fun e w' => RetMx p m n (flat m n A) w e w' := by
  have hN := side_mul hm hn
  have HV := Lib.hid hv
  obtain ⟨av, cv, rfl, -, -⟩ := hv
  have Fr0 := Fz.new w #[.int .i64 0, .int .i64 0, .int .i64 0, .slice none 0 0] 41
  have Pr0 := PtM.new w 0 0 0 (.slice none 0 0) 41
  go_enter Tryz.func140, Tryz.ntmps140
  go_wp2_with fail
  refine (implZeros_any p m n (m * n) _ (Int.natCast_mul m n).symm (by omega)).mono ?_
  rintro e w1 ⟨h, rfl, hg, hrow, hb⟩
  have hb' := up1 hb
  have hs1 : w.heap.size + 1 ≤ w1.heap.size := by have := hb.size; simp at this; omega
  have hh : w.heap.size + 1 ≤ h := by simpa using hg
  have hh1 := hrow.lt
  have HB := Lib.hid hb'
  have Pr := Lib.hid (Pr0.on hb)
  have Fr : Hid (Fz w1 w.heap.size) := Fr0.on (by simp) hb
  have HR := Lib.hid hrow
  clear hb hb' Pr0 Fr0 hrow hg
  go_wp2_with fail
  have Pt0 := PtM.new w1 p m n (.slice (some ⟨h, 0, none⟩) (m * n) (m * n)) 41
  refine (rows_any Pt0 hm (by omega) (Nat.le_refl _) (by unfold maxLen; omega) (.inr ⟨h, 0, rfl⟩)).mono ?_
  rintro e w2 ⟨H1, rfl, hH1, hrow1, hb⟩
  have hb2 := up1 hb
  have hs2 : w1.heap.size + 1 ≤ w2.heap.size := by have := hb.size; simp at this; omega
  have hH1' : w1.heap.size + 1 ≤ H1 := by simpa using hH1
  have hH1l := hrow1.lt
  have HB := Lib.hid (HB.out.trans (hb2.mono (by omega)))
  have Pr := Lib.hid (Pr.out.on hb2)
  have Fr : Hid (Fz w2 w.heap.size) := Fr.out.on (by omega) hb2
  have HR := Lib.hid (rowIs_on HR.out hb2)
  have Pt := Lib.hid (Pt0.on hb)
  have H1R := Lib.hid hrow1
  clear hb hb2 Pt0 hrow1 hH1
  go_wp2_with fail
  go_loopw [17] (fun s wr => ∃ i : Nat, i ≤ m ∧ s = .int .i64 (i : Int) ∧ Hid (wr.rowIs h 2 (m * n) (MoF n A i)) ∧ Hid (w2.grownBy wr (some h))) (fun s _ => m - (intOf s).toNat)
  case atStart => exact ⟨0, Nat.zero_le _, rfl, HR.out.congr fun t _ => by unfold MoF; rw [if_neg (by omega)], grown_refl _ _⟩
  case round =>
    obtain ⟨i, hi, rfl, HX, HG⟩ := hrel
    by_cases hlt : i < m
    · have hVw := HV.out.on HB.out
      obtain ⟨a', c', e, _, h0 | ⟨Hl, ol, e2, hHl, hc⟩⟩ := HV.out
      · omega
      simp only [Value.slice.injEq, true_and] at e
      obtain ⟨rfl, rfl⟩ := e
      subst e2
      have hHl' : Hl < w.heap.size := by omega
      obtain ⟨u, hu, huI⟩ := hc i hlt
      have hBW := below_gb HB.out HG.out (by omega) (by omega)
      have d1 := (hBW.cell (p := ⟨Hl, ol + i, none⟩) hHl').trans hu
      have hsrc := Lib.hid ((huI.on hBW).src (by rw [rowL_len]; omega))
      have d2 := (gb_cell HG.out (b := H1) (o := i) (by omega) (by omega)).trans (H1R.out.cell hlt)
      unfold rowW adr at d2
      simp only [Nat.zero_add] at d2
      have hfit : i * n + n ≤ m * n := by rw [← Nat.succ_mul]; exact Nat.mul_le_mul_right n hlt
      have i0 : (0 : Int) ≤ (i : Int) := by omega
      have i1 : (i : Int) < (m : Int) := by omega
      have hlen : (iv (rowL n A i)).length = n := by rw [iv_len, rowL_len]
      obtain ⟨⟨au, cu, rfl, _, _⟩, _⟩ := huI
      simp only [rowL_len] at d1 hsrc
      clear hVw hBW hu hc
      go_wp2_with (refine wp_copy_row rfl _ _ 25 25 rfl 2 Tryz.underlying25 (by kernel_rfl) h (i * n) _ n (m * n) _ _ rfl _ rfl _ hsrc.out hlen HX.out hfit iv_one ?_; intro w3 hr3 hg3)
      have HX2 : Hid (w3.rowIs h 2 (m * n) (MoF n A (i + 1))) := hr3.congr fun t _ => moF_next t
      have HG2 : Hid (w2.grownBy w3 (some h)) := gb_trans HG.out hg3
      clear hr3 hg3 HX HG
      go_wp2
      go_roundw
      case rel => exact ⟨i + 1, by omega, by go_num, HX2.out, HG2.out⟩
      case measure => simp [intOf]; omega
    · obtain rfl : i = m := by omega
      have Pt := Pt.out.gb HG.out (by omega)
      have Pr := Pr.out.gb HG.out (by omega)
      have Fr : Fz wr w.heap.size := Fr.out.gb (by omega) HG.out (by omega)
      have HBB := Lib.hid (below_gb HB.out HG.out (by omega) (by omega))
      have hq := Lib.hid (Pr.set4 p i n (.slice (some ⟨h, 0, none⟩) (i * n) (i * n)))
      have hO : Hid (OwnI w.heap.size (set4 wr w.heap.size p i n (.slice (some ⟨h, 0, none⟩) (i * n) (i * n))) (.slice (some ⟨h, 0, none⟩) (i * n) (i * n)) (flat i n A)) :=
        OwnI.of_flat (rowIs_set4 HX.out (by omega) _ _ _ _) (by omega) (by omega) fun a b ha hb => by
          have := idx_lt ha hb
          unfold MoF; rw [if_pos this, idxDiv hb, idxMod hb]
      have hBf := Lib.hid (below_set4 HBB.out (Nat.le_refl w.heap.size) p i n (.slice (some ⟨h, 0, none⟩) (i * n) (i * n)))
      obtain ⟨lT, x0, x1, x2, x3⟩ := Pt
      obtain ⟨lR, r0, r1, r2, r3⟩ := Pr
      obtain ⟨f0, f1, f2, f3⟩ := Fr.all
      go_wp2_with fail
      obtain ⟨_, q0, q1, q2, q3⟩ := hq.out
      refine bodyPost_ret (v := .agg #[.int .i64 p, .int .i64 i, .int .i64 n, .slice (some ⟨h, 0, none⟩) (i * n) (i * n)]) (by simp [results, Tryz.results140, go_sem, q0, q1, q2, q3]) rfl ⟨_, rfl, hO.out, hBf.out⟩
end Go.Proofs.YtibdcejglkhcfaaGreatDoor

namespace Go.Proofs.YtibdcejglkhcfaaGreatDoor
open Go.RowKit
open Lin
set_option linter.unusedVariables false
set_option linter.unusedSectionVars false

/-- Two matrices and what StackRows answers. -/
def StRes (p r c : Int) (xs : List Int) (q s d : Int) (ys : List Int) (P R C : Int) (zs : List Int) (k : Int) : Prop :=
  ∃ k0, FitK p r c xs q s d ys (c == d) k0 ∧ ((k0 ≠ 0 ∧ k = k0 ∧ P = 0 ∧ R = 0 ∧ C = 0 ∧ zs = []) ∨ (k0 = 0 ∧ 32 < r + s ∧ k = 5 ∧ P = 0 ∧ R = 0 ∧ C = 0 ∧ zs = []) ∨ (k0 = 0 ∧ r + s ≤ 32 ∧ k = 0 ∧ P = p ∧ R = r + s ∧ C = c ∧ zs = xs ++ ys))
theorem stRes_has (p r c : Int) (xs : List Int) (q s d : Int) (ys : List Int) : ∃ P R C zs k, StRes p r c xs q s d ys P R C zs k := by
  obtain ⟨k0, hk⟩ := fitK_has p r c xs q s d ys (c == d)
  by_cases h0 : k0 = 0
  · by_cases h1 : r + s ≤ 32
    · exact ⟨_, _, _, _, _, k0, hk, .inr (.inr ⟨h0, h1, rfl, rfl, rfl, rfl, rfl⟩)⟩
    · exact ⟨_, _, _, _, _, k0, hk, .inr (.inl ⟨h0, by omega, rfl, rfl, rfl, rfl, rfl⟩)⟩
  · exact ⟨_, _, _, _, _, k0, hk, .inl ⟨h0, rfl, rfl, rfl, rfl, rfl⟩⟩
theorem mok_len {p r c : Int} {xs : List Int} (h : MOk p r c xs) : xs.length ≤ 1024 := by
  obtain ⟨u, i, m, n, A, hA⟩ := h.form
  have := side_mul hA.m32 hA.n32
  rw [hA.zs, flat_len]; exact this
theorem StRes.len {p r c : Int} {xs : List Int} {q s d : Int} {ys : List Int} {P R C : Int} {zs : List Int} {k : Int} (h : StRes p r c xs q s d ys P R C zs k) : zs.length ≤ 1048576 := by
  obtain ⟨k0, hk, ⟨_, _, _, _, _, rfl⟩ | ⟨_, _, _, _, _, _, rfl⟩ | ⟨rfl, _, _, _, _, _, rfl⟩⟩ := h
  · simp
  · simp
  · obtain ⟨h1, h2, _, _⟩ := hk.good
    have := mok_len h1
    have := mok_len h2
    rw [List.length_append]; omega
theorem flat_stack {q : Nat} [NeZero q] (m1 m2 n : Nat) (A B : Mt q) : flat (m1 + m2) n (stack m1 A B) = flat m1 n A ++ flat m2 n B := by
  apply List.ext_getElem
  · rw [List.length_append, flat_len, flat_len, flat_len, Nat.add_mul]
  · intro t h1 h2
    rw [flat_at]
    have hn : 0 < n := Nat.pos_of_ne_zero fun e => by subst e; rw [flat_len] at h1; simp at h1
    unfold stack
    by_cases h : t < m1 * n
    · rw [List.getElem_append_left (by rw [flat_len]; exact h), flat_at, if_pos (Nat.div_lt_of_lt_mul (by rw [Nat.mul_comm]; exact h))]
    · rw [List.getElem_append_right (by rw [flat_len]; omega)]
      rw [flat_at]
      obtain ⟨j, rfl⟩ : ∃ j, t = m1 * n + j := ⟨t - m1 * n, by omega⟩
      have e1 : (m1 * n + j) / n = m1 + j / n := by rw [Nat.add_comm, Nat.add_mul_div_right _ _ hn, Nat.add_comm]
      have e2 : (m1 * n + j) % n = j % n := by rw [Nat.add_comm, Nat.add_mul_mod_self_right]
      simp only [flat_len, Nat.add_sub_cancel_left, e1, e2]
      rw [if_neg (Nat.not_lt.2 (Nat.le_add_right _ _))]
theorem rowL_stack {q : Nat} [NeZero q] (m1 n : Nat) (A B : Mt q) (i : Nat) : rowL n (stack m1 A B) i = if i < m1 then rowL n A i else rowL n B (i - m1) := by
  unfold rowL stack
  by_cases h : i < m1
  · simp [h]
  · simp [h]
theorem RowsC.list {w : World} {v : Value} {m : Nat} {R : Nat → List Int} (h : RowsC w v m R) : ∃ L : List Value, L.length = m ∧ SrcAt w v L ∧ (∀ u ∈ L, u.oneCell' = true) ∧ ∀ i (h : i < L.length), IntsC w L[i] (R i) := by
  obtain ⟨a, cap, rfl, hm, ⟨rfl, rfl, rfl⟩ | ⟨H, o, rfl, hH, hc⟩⟩ := h
  · exact ⟨[], rfl, ⟨none, 0, rfl, by simp, .inl ⟨rfl, rfl, rfl⟩⟩, by simp, fun i h => by simp at h⟩
  · refine ⟨(List.range m).map fun i => (w.cell? ⟨H, o + i, none⟩).getD undef, by simp, ⟨_, cap, by simp, by simpa using hm, .inr ⟨H, o, rfl, ?_, ?_⟩⟩, ?_, ?_⟩
    · rcases hH with rfl | h
      · exact .inl (by simp)
      · exact .inr h
    · intro j u hj
      have hjm : j < m := by have := (List.getElem?_eq_some_iff.1 hj).1; simpa using this
      obtain ⟨x, hx, _⟩ := hc j hjm
      simp only [List.getElem?_map, List.getElem?_range hjm, Option.map_some, hx, Option.getD_some] at hj
      rw [hx]; exact hj
    · intro u hu
      obtain ⟨j, hj, rfl⟩ := List.mem_map.1 hu
      obtain ⟨x, hx, hI⟩ := hc j (by simpa using hj)
      rw [hx]
      obtain ⟨⟨a', c', rfl, _⟩, _⟩ := hI
      rfl
    · intro i hi
      have him : i < m := by simpa using hi
      obtain ⟨x, hx, hI⟩ := hc i him
      simp only [List.getElem_map, List.getElem_range, hx, Option.getD_some]
      exact hI
theorem RowsC.of_own {w : World} {B m : Nat} {v : Value} {L : List Value} {R : Nat → List Int} (h : w.ownsRow B 25 1 v m L) (hm : m ≤ 2097152) (hl : L.length = m) (hR : ∀ i (h : i < L.length), IntsC w L[i] (R i)) : RowsC w v m R := by
  have h' := h
  obtain ⟨hx, ⟨rfl, rfl⟩ | ⟨g, cap, cur, rfl, hg, hcur, _⟩⟩ := h
  · exact ⟨none, 0, rfl, hm, .inl ⟨rfl, rfl, rfl⟩⟩
  · have hlt := h'.lt g rfl
    refine ⟨_, cap, rfl, hm, .inr ⟨g, 0, rfl, .inr hlt.2, fun i hi => ⟨L[i], ?_, hR i (by omega)⟩⟩⟩
    have := h'.cells (g := g) rfl i L[i] (List.getElem?_eq_getElem (by omega))
    rw [Addr.add_lit] at this
    exact this
theorem RowsC.stacked {q : Nat} [NeZero q] {w : World} {B m1 m2 n : Nat} {v : Value} {L1 L2 : List Value} {A1 A2 : Mt q} (h : w.ownsRow B 25 1 v (L1.length + L2.length) (L1 ++ L2)) (h1 : L1.length = m1) (h2 : L2.length = m2) (hm : m1 + m2 ≤ 2097152)
    (i1 : ∀ i (h : i < L1.length), IntsC w L1[i] (rowL n A1 i)) (i2 : ∀ i (h : i < L2.length), IntsC w L2[i] (rowL n A2 i)) : RowsC w v (m1 + m2) (rowL n (stack m1 A1 A2)) := by
  subst h1 h2
  refine RowsC.of_own h hm (by simp) fun i hi => ?_
  rw [rowL_stack]
  by_cases hlt : i < L1.length
  · rw [if_pos hlt, List.getElem_append_left hlt]; exact i1 i hlt
  · rw [if_neg hlt, List.getElem_append_right (by omega)]; exact i2 _ _
end Go.Proofs.YtibdcejglkhcfaaGreatDoor

namespace Go.Proofs.YtibdcejglkhcfaaGreatDoor
open Go.RowKit
open Lin
set_option linter.unusedVariables false
set_option linter.unusedSectionVars false

theorem own_ne {B : Nat} {w : World} {v : Value} {zs : List Int} (h : OwnI B w v zs) {b : Nat} (hb : b < B) : v.ownBlock ≠ some b := by
  intro e
  have := (h.out.lt b e).1
  omega
theorem step_append_src {P : Program} {w : World} {ops : Array Oper} {o : Oper} {a : Act} {K : Act → World → Prop} {Q : Exit → Act → World → Prop} {E : Prop} (hgd : o.guard = none) (s x : Operand) (t : TypeId)
    (ho : o.op = .call { callee := .builtin .append, args := #[s, x], argTypes := #[t, t] })
    (base : Nat) (e : TypeId) (i : TypeInfo) (z : Value) (bytes : Nat) (ht : P.underlying t = some (.slice e)) (hi : P.info? e = some i) (hz : i.zero = some z)
    (hsize : i.size = 1) (hby : i.bytes = bytes) (hzs : z.cells.size = 1)
    (v : Value) (n : Nat) (xs : List Value) (hs : a.eval s = v) (hown : w.ownsRow base e 1 v n xs)
    (u : Value) (news : List Value) (hx : a.eval x = u) (hsrc : SrcAt w u news) (h1 : ∀ u ∈ news, u.oneCell' = true)
    (hn : n ≤ 2097152) (hb24 : bytes ≤ 24) (hbase : base ≤ w.heap.size)
    (h : ∀ v' w', w'.ownsRow base e 1 v' (n + news.length) (xs ++ news) → w.grownBy w' v.ownBlock → K (a.put o.dst v') w') : if Region.wanted o (yielded ops a.tmps) = true then Oper.wp P o a w K Q else E := by
  have hw : Region.wanted o (yielded ops a.tmps) = true := by simp [Region.wanted, hgd]
  rw [if_pos hw]
  obtain ⟨ap, c, rfl, hl, ⟨rfl, rfl, rfl⟩ | ⟨b, off, rfl, _, hc⟩⟩ := hsrc
  · have hrun := run_append_owned_none (P := P) (w := w) base t o.type e i 1 ht hi v n xs hown
    unfold Oper.wp
    simp only [List.length_nil] at hx
    simp [execOp, ho, resolve, invoke, builtin, hs, hx, hrun, Result.andThen]
    exact h v w (by simpa using hown) ⟨rfl, rfl, rfl, Nat.le_refl _, fun _ _ _ => rfl⟩
  · have hbb : (n + news.length) * bytes ≤ 140737488355328 := by
      have : (n + news.length) * bytes ≤ 4194304 * 24 := Nat.mul_le_mul (by omega) hb24
      omega
    exact wp_append_own w s x t ho base e i z 1 bytes ht hi hz hsize hby hzs (by decide) v n xs hs hown ⟨b, off, none⟩ news.length c news hx (by simp) (fun j u hj => by rw [Addr.add_lit]; exact hc j u hj) h1 (by unfold maxLen; omega) hbb hbase (fun v' w' g1 g2 _ => h v' w' g1 g2)
set_option maxRecDepth 100000 in
set_option maxHeartbeats 1600000 in
theorem l00Own_any {v : Value} {zs : List Int} {w : World} (hv : IntsC w v zs) (hl : zs.length ≤ 2097152) : Calls Tryz.prog 35 #[v] w fun e w' => RetL zs w e w' := by
  obtain ⟨i0, hi, hz0, hz1, hz2⟩ := info_parts info2
  have HS := Lib.hid (hv.src hl)
  obtain ⟨⟨a, c, rfl, -, -⟩, -⟩ := hv
  have hm := Lib.hid (World.ownsRow_made (base := w.heap.size) (e := 2) (size := 1) w #[] 0 (Nat.le_refl _) (Nat.zero_le _) rfl)
  have bs := (Below.refl w.heap.size w).alloc (Nat.le_refl _) (.cells #[] 2)
  have BS := Lib.hid bs
  clear bs
  go_enter Tryz.func35, Tryz.ntmps35
  go_wp2_with (at_builtin; refine wp_append_src rfl _ _ 25 rfl w.heap.size 2 i0 (.int .i64 0) 8 Tryz.underlying25 hi hz0 hz1 hz2 rfl _ 0 [] rfl hm.out _ (iv zs) rfl (HS.out.on BS.out) iv_one (by omega) (by omega) (by simp) ?_; intro v2 w2 hv2 hg2)
  have HB := Lib.hid (BS.out.grown hg2 (by simp) (fun k hk => (hm.out.lt k hk).1))
  have HV : Hid (OwnI w.heap.size w2 v2 zs) := by
    show World.ownsRow _ _ _ _ _ _ _
    simpa [iv_len] using hv2
  clear hv2 hg2
  go_wp2
  go_ret
  exact ⟨_, rfl, HV.out, HB.out⟩
end Go.Proofs.YtibdcejglkhcfaaGreatDoor

namespace Go.Proofs.YtibdcejglkhcfaaGreatDoor
open Go.RowKit
open Lin
set_option linter.unusedVariables false
set_option linter.unusedSectionVars false

theorem OwnI.al {B : Nat} {w : World} {v : Value} {zs : List Int} {o : Obj} (h : OwnI B w v zs) : OwnI B (w.alloc o) v zs := h.on ((Below.refl _ _).alloc (Nat.le_refl _) o)
theorem cell_new0 (w : World) (x y : Value) (t : TypeId) : (w.alloc (.cells #[x, y] t)).cell? ⟨w.heap.size, 0, none⟩ = some x := by rw [World.cell?_alloc_at _ _ _ _ rfl]; rfl
theorem cell_new1 (w : World) (x y : Value) (t : TypeId) : (w.alloc (.cells #[x, y] t)).cell? ⟨w.heap.size, 1, none⟩ = some y := by rw [World.cell?_alloc_at _ _ _ _ rfl]; rfl
/-- k rows made, in blocks from B on. -/
def MadeR (B : Nat) (w : World) (H m k : Nat) (R : Nat → List Int) : Prop :=
  ∃ V : Nat → Value, w.rowIs H 25 m (fun t => if t < k then V t else .slice none 0 0) ∧ ∀ t, t < k → OwnI B w (V t) (R t)
theorem MadeR.zero {B : Nat} {w : World} {H m : Nat} {R : Nat → List Int} (h : w.rowIs H 25 m (fun _ => .slice none 0 0)) : MadeR B w H m 0 R :=
  ⟨fun _ => .slice none 0 0, h.congr fun t _ => by rw [if_neg (by omega)], fun t ht => absurd ht (Nat.not_lt_zero _)⟩
theorem MadeR.next {B : Nat} {w w' : World} {H m k : Nat} {R : Nat → List Int} {v : Value} (h : MadeR B w H m k R) (hb : Below w.heap.size w w') (ho : OwnI B w' v (R k)) (hH : H < B) : MadeR B (w'.setCell ⟨H, k, none⟩ v) H m (k + 1) R := by
  obtain ⟨V, hr, hV⟩ := h
  refine ⟨fun t => if t = k then v else V t, ((rowIs_on hr hb).set k v).congr fun t _ => ?_, fun t ht => ?_⟩
  · by_cases e : t = k
    · subst e; rw [if_pos rfl, if_pos (by omega)]; simp
    · rw [if_neg e]
      by_cases h : t < k
      · rw [if_pos h, if_pos (by omega)]; simp [e]
      · rw [if_neg h, if_neg (by omega)]
  · by_cases e : t = k
    · subst e; simp only [if_true]; exact ho.setOut hH _
    · simp only [e, if_false]; exact ((hV t (by omega)).on hb).setOut hH _
theorem MadeR.rows {B : Nat} {w : World} {H m : Nat} {R : Nat → List Int} (h : MadeR B w H m m R) (hm : m ≤ 2097152) (hl : ∀ i, i < m → (R i).length ≤ 1048576) : RowsC w (.slice (some ⟨H, 0, none⟩) m m) m R := by
  obtain ⟨V, hr, hV⟩ := h
  refine ⟨_, m, rfl, hm, .inr ⟨H, 0, rfl, .inr hr.lt, fun i hi => ⟨V i, ?_, (hV i hi).atC (hl i hi)⟩⟩⟩
  rw [Nat.zero_add, hr.cell hi, if_pos hi]
set_option maxRecDepth 100000 in
set_option maxHeartbeats 6400000 in
theorem besides_big {m : Nat} {R1 R2 : Nat → List Int} {v1 v2 : Value} {w : World} (h1 : RowsC w v1 m R1) (h2 : RowsC w v2 m R2) (hm : m ≤ 1048576) (l1 : ∀ i, i < m → (R1 i).length ≤ 1024) (l2 : ∀ i, i < m → (R2 i).length ≤ 1024) :
    Calls Tryz.prog 113 #[v1, v2] w fun e w' => ∃ H, e = .returned (.slice (some ⟨H, 0, none⟩) m m) ∧ w.heap.size ≤ H ∧ MadeR (H + 1) w' H m m (fun i => R1 i ++ R2 i) ∧ Below w.heap.size w w' := by
  have hmk := run_make_row' (P := Tryz.prog) 147 25 (.slice none 0 0) 24 Tryz.underlying147 info_s rfl .i64 .i64 m (by omega) (by omega)
  have H1 := Lib.hid h1
  have H2 := Lib.hid h2
  have L1 := Lib.hid l1
  have L2 := Lib.hid l2
  obtain ⟨a1, k1, rfl, -, -⟩ := h1
  obtain ⟨a2, k2, rfl, -, -⟩ := h2
  clear l1 l2
  go_enter Tryz.func113, Tryz.ntmps113
  go_wp2_with fail
  have hrow := World.rowIs_made w (.slice none 0 0) m 25
  have bb := (Below.refl w.heap.size w).alloc (Nat.le_refl _) (.cells (madeCells #[.slice none 0 0] m) 25)
  generalize hW : World.alloc w (.cells (madeCells #[.slice none 0 0] m) 25) = W1 at hrow bb ⊢
  obtain ⟨H, hH⟩ : ∃ H, w.heap.size = H := ⟨_, rfl⟩
  rw [hH] at hrow ⊢
  have HB := Lib.hid bb
  have HR := Lib.hid hrow
  have hs1 : H + 1 ≤ W1.heap.size := by rw [← hW, ← hH]; simp
  clear hrow bb hW hmk
  go_loopw [12] (fun i wr => ∃ k : Nat, k ≤ m ∧ i = .int .i64 (k : Int) ∧ Hid (MadeR (H + 1) wr H m k (fun i => R1 i ++ R2 i)) ∧ Hid (W1.grownBy wr (some H))) (fun i _ => m - (intOf i).toNat)
  case atStart => exact ⟨0, Nat.zero_le _, rfl, MadeR.zero HR.out, grown_refl _ _⟩
  case round =>
    obtain ⟨k, hk, rfl, HX, HG⟩ := hrel
    by_cases hlt : k < m
    · have HBW := Lib.hid (below_gb HB.out HG.out (by omega) (by omega))
      have hsz := HG.out.size
      obtain ⟨_, _, e, _, h0 | ⟨Ha, oa, e2, hHa, hca⟩⟩ := H1.out
      · omega
      simp only [Value.slice.injEq, true_and] at e
      obtain ⟨rfl, rfl⟩ := e
      subst e2
      obtain ⟨_, _, e, _, h0 | ⟨Hb, ob, e2, hHb, hcb⟩⟩ := H2.out
      · omega
      simp only [Value.slice.injEq, true_and] at e
      obtain ⟨rfl, rfl⟩ := e
      subst e2
      have hHa' : Ha < w.heap.size := by omega
      have hHb' : Hb < w.heap.size := by omega
      obtain ⟨u1, hu1, i1⟩ := hca k hlt
      obtain ⟨u2, hu2, i2⟩ := hcb k hlt
      have d1 := (HBW.out.cell (p := ⟨Ha, oa + k, none⟩) hHa').trans hu1
      have d2 := (HBW.out.cell (p := ⟨Hb, ob + k, none⟩) hHb').trans hu2
      have I1 := Lib.hid (i1.on HBW.out)
      have I2 := Lib.hid (i2.on HBW.out)
      obtain ⟨⟨ax, cx, rfl, -, -⟩, -⟩ := i1
      obtain ⟨⟨ay, cy, rfl, -, -⟩, -⟩ := i2
      have g1 := L1.out k hlt
      have g2 := L2.out k hlt
      obtain ⟨V, hr, hV⟩ := HX.out
      have HRW := Lib.hid hr
      have d3 := hr.cell hlt
      have d4 := hr.frozen k
      rw [if_neg (Nat.lt_irrefl _)] at d3
      have n1 : ¬ H = Ha := by omega
      have n2 : ¬ H = Hb := by omega
      have n3 : ¬ Ha = H := by omega
      have n4 : ¬ Hb = H := by omega
      have n5 : ¬ wr.heap.size = Ha := by omega
      have n6 : ¬ wr.heap.size = Hb := by omega
      have n7 : ¬ wr.heap.size = H := by omega
      have k0 : (0 : Int) ≤ (k : Int) := by omega
      have k3 : (k : Int) < (m : Int) := by omega
      clear hca hcb hu1 hu2 hr hV
      go_wp2_with fail
      go_region_held3 (fun w' => w'.cell? ⟨Ha, oa + k, none⟩ = some (.slice ax (R1 k).length cx) ∧ w'.cell? ⟨Hb, ob + k, none⟩ = some (.slice ay (R2 k).length cy)) (go_keep)
        (first
          | (go_at_call 157; refine (concatI_ok (b := wr.heap.size) (c := 2) _ (by simp) (cell_new0 wr.drew _ _ _) (cell_new1 wr.drew _ _ _) (I1.out.drew).al (I2.out.drew).al (by omega)).mono ?_; rintro e wc ⟨vc, rfl, hoc, hbc⟩; have hbw : Below wr.heap.size wr wc := up1 (undrew hbc); obtain ⟨vca, vcc, rfl⟩ := hoc.slice; rw [List.length_append] at hoc; have := (hbw.cell (p := ⟨Ha, oa + k, none⟩) (show Ha < _ by omega)).trans d1; have := (hbw.cell (p := ⟨Hb, ob + k, none⟩) (show Hb < _ by omega)).trans d2; have hrc := rowIs_on HRW.out hbw; have hce := hrc.cell hlt; have hfe := hrc.frozen k; rw [if_neg (Nat.lt_irrefl _)] at hce; clear hrc))
      have HX2 : Hid (MadeR (H + 1) (wc.setCell ⟨H, k, none⟩ (.slice vca ((R1 k).length + (R2 k).length) vcc)) H m (k + 1) (fun i => R1 i ++ R2 i)) := HX.out.next hbw (hoc.mono (by simp; omega)) (by omega)
      have HG2 : Hid (W1.grownBy (wc.setCell ⟨H, k, none⟩ (.slice vca ((R1 k).length + (R2 k).length) vcc)) (some H)) := gb_set (gb_trans HG.out (gb_below hbw (some H))) _
      clear HX HG hoc hbw hbc HRW
      go_wp2
      go_roundw
      case rel => exact ⟨k + 1, by omega, by go_num, HX2.out, HG2.out⟩
      case measure => simp [intOf]; omega
    · obtain rfl : k = m := by omega
      go_wp2
      go_ret
      exact ⟨_, rfl, by omega, HX.out, below_gb HB.out HG.out (by omega) (by omega)⟩
theorem besides_any {m : Nat} {R1 R2 : Nat → List Int} {v1 v2 : Value} {w : World} (h1 : RowsC w v1 m R1) (h2 : RowsC w v2 m R2) (hm : m ≤ 32) (l1 : ∀ i, i < m → (R1 i).length ≤ 1024) (l2 : ∀ i, i < m → (R2 i).length ≤ 1024) :
    Calls Tryz.prog 113 #[v1, v2] w fun e w' => ∃ H, e = .returned (.slice (some ⟨H, 0, none⟩) m m) ∧ w.heap.size ≤ H ∧ MadeR (H + 1) w' H m m (fun i => R1 i ++ R2 i) ∧ Below w.heap.size w w' :=
  besides_big h1 h2 (by omega) l1 l2
end Go.Proofs.YtibdcejglkhcfaaGreatDoor

namespace Go.Proofs.YtibdcejglkhcfaaGreatDoor
open Go.RowKit
open Lin
set_option linter.unusedVariables false
set_option linter.unusedSectionVars false

/-- Two matrices and what JoinColumns answers. -/
def JoRes (p r c : Int) (xs : List Int) (q s d : Int) (ys : List Int) (P R C : Int) (zs : List Int) (k : Int) : Prop :=
  ∃ k0, FitK p r c xs q s d ys (r == s) k0 ∧ ((k0 ≠ 0 ∧ k = k0 ∧ P = 0 ∧ R = 0 ∧ C = 0 ∧ zs = []) ∨ (k0 = 0 ∧ 32 < c + d ∧ k = 5 ∧ P = 0 ∧ R = 0 ∧ C = 0 ∧ zs = []) ∨ (k0 = 0 ∧ c + d ≤ 32 ∧ k = 0 ∧ P = p ∧ R = r ∧ C = c + d ∧ ∃ (u : Nat) (_ : NeZero u) (m n1 n2 : Nat) (A B : Mt u), MIs p r c xs u m n1 A ∧ MIs p s d ys u m n2 B ∧ zs = flat m (n1 + n2) (join n1 A B)))
theorem joRes_has (p r c : Int) (xs : List Int) (q s d : Int) (ys : List Int) : ∃ P R C zs k, JoRes p r c xs q s d ys P R C zs k := by
  obtain ⟨k0, hk⟩ := fitK_has p r c xs q s d ys (r == s)
  by_cases h0 : k0 = 0
  · by_cases h1 : c + d ≤ 32
    · subst h0
      obtain ⟨g1, g2, e, hf⟩ := hk.good
      have e1 : r = s := by simpa using hf
      subst e e1
      obtain ⟨u, i, m, n1, A, m', n2, B, hA, hB⟩ := g1.form2 g2
      obtain rfl : m = m' := by have := hA.r; have := hB.r; omega
      exact ⟨_, _, _, _, _, 0, hk, .inr (.inr ⟨rfl, h1, rfl, rfl, rfl, rfl, u, i, m, n1, n2, A, B, hA, hB, rfl⟩)⟩
    · exact ⟨_, _, _, _, _, k0, hk, .inr (.inl ⟨h0, by omega, rfl, rfl, rfl, rfl, rfl⟩)⟩
  · exact ⟨_, _, _, _, _, k0, hk, .inl ⟨h0, rfl, rfl, rfl, rfl, rfl⟩⟩
theorem JoRes.len {p r c : Int} {xs : List Int} {q s d : Int} {ys : List Int} {P R C : Int} {zs : List Int} {k : Int} (h : JoRes p r c xs q s d ys P R C zs k) : zs.length ≤ 1048576 := by
  obtain ⟨k0, hk, ⟨_, _, _, _, _, rfl⟩ | ⟨_, _, _, _, _, _, rfl⟩ | ⟨rfl, hc, _, _, _, _, u, _, m, n1, n2, A, B, hA, hB, rfl⟩⟩ := h
  · simp
  · simp
  · have h1 := hA.c
    have h2 := hB.c
    have := side_mul (m := m) (n := n1 + n2) hA.m32 (by omega)
    rw [flat_len]; omega
theorem rowL_join {q : Nat} [NeZero q] (n1 n2 : Nat) (A B : Mt q) (i : Nat) : rowL (n1 + n2) (join n1 A B) i = rowL n1 A i ++ rowL n2 B i := by
  unfold rowL join
  rw [List.range_add, List.map_append, List.map_map]
  congr 1
  · apply List.map_congr_left
    intro j hj
    rw [if_pos (List.mem_range.1 hj)]
  · apply List.map_congr_left
    intro j hj
    show fv (if n1 + j < n1 then A i (n1 + j) else B i (n1 + j - n1)) = fv (B i j)
    rw [if_neg (by omega), Nat.add_sub_cancel_left]
end Go.Proofs.YtibdcejglkhcfaaGreatDoor

namespace Go.Proofs.YtibdcejglkhcfaaGreatDoor
open Go.RowKit
open Lin
set_option linter.unusedVariables false
set_option linter.unusedSectionVars false

/-- The block of a matrix variable, whole. -/
def MatB (w : World) (L : Nat) (p r c : Int) (v : Value) : Prop := w.heap[L]? = some (.cells #[.int .i64 p, .int .i64 r, .int .i64 c, v] 41 (0, 0))
theorem MatB.lt {w : World} {L : Nat} {p r c : Int} {v : Value} (h : MatB w L p r c v) : L < w.heap.size := (Array.getElem?_eq_some_iff.1 h).1
theorem MatB.pt {w : World} {L : Nat} {p r c : Int} {v : Value} (h : MatB w L p r c v) : PtM w L p r c v :=
  ⟨h.lt, cell_of_row w L 0 _ _ _ h, cell_of_row w L 1 _ _ _ h, cell_of_row w L 2 _ _ _ h, cell_of_row w L 3 _ _ _ h⟩
theorem MatB.fz {w : World} {L : Nat} {p r c : Int} {v : Value} (h : MatB w L p r c v) : Fz w L := fun o => by
  unfold MatB at h
  simp [World.frozen?, h]
theorem MatB.on {w w' : World} {L : Nat} {p r c : Int} {v : Value} (h : MatB w L p r c v) (hb : Below w.heap.size w w') : MatB w' L p r c v := (hb.block L h.lt).trans h
theorem MatB.gb {w w' : World} {L : Nat} {row : Option Nat} {p r c : Int} {v : Value} (h : MatB w L p r c v) (hg : w.grownBy w' row) (hne : some L ≠ row) : MatB w' L p r c v := (hg.block L h.lt hne).trans h
theorem MatB.set {w : World} {L : Nat} {p r c : Int} {v : Value} (h : MatB w L p r c v) (v' : Value) : MatB (w.setCell ⟨L, 3, none⟩ v') L p r c v' := by
  unfold MatB
  rw [setCell_eq_setRow w L 3 _ _ _ v' h]
  exact setRow_heap w L _ _ _ _ h
theorem MatB.own {w : World} {L B : Nat} {p r c : Int} {v x : Value} {zs : List Int} (h : MatB w L p r c v) (ho : OwnI B w x zs) : x.ownBlock ≠ some L := by
  intro e
  obtain ⟨hx, ⟨rfl, hn⟩ | ⟨g, cap, cur, rfl, hg, hcur, _⟩⟩ := ho
  · simp [Value.ownBlock] at e
  · simp only [Value.ownBlock, Option.some.injEq] at e
    subst e
    have := hcur.symm.trans h
    simp at this
/-- The matrix variable at L2, whose cells are a row of the call's own. -/
def JoinR (B : Nat) (a w : World) (L2 : Nat) (p r c : Int) (zs : List Int) : Prop :=
  ∃ ap cp, MatB w L2 p r c (.slice ap zs.length cp) ∧ OwnI B w (.slice ap zs.length cp) zs ∧ Below B a w
theorem JoinR.push {B : Nat} {a w w' : World} {L2 : Nat} {p r c : Int} {ap : Option Addr} {n cp : Nat} {zs ys : List Int} {v' : Value} (hM : MatB w L2 p r c (.slice ap n cp)) (hO : OwnI B w (.slice ap n cp) zs) (hb : Below B a w) (hL : B ≤ L2) (hB : B ≤ w.heap.size)
    (h : w'.ownsRow B 2 1 v' (zs.length + ys.length) (iv zs ++ iv ys)) (hg : w.grownBy w' (Value.ownBlock (.slice ap n cp))) : MatB w' L2 p r c (.slice ap n cp) ∧ JoinR B a (w'.setCell ⟨L2, 3, none⟩ v') L2 p r c (zs ++ ys) := by
  have h1 := hM.gb hg (fun e => hM.own hO e.symm)
  have hO2 : OwnI B w' v' (zs ++ ys) := by unfold OwnI; rw [iv_app, List.length_append]; exact h
  have hne := h1.own hO2
  obtain ⟨ap', cp', rfl⟩ := hO2.slice
  refine ⟨h1, ap', cp', h1.set _, ?_, ?_⟩
  · have : OwnI B (w'.setCell ⟨L2, 3, none⟩ (.slice ap' (zs ++ ys).length cp')) (.slice ap' (zs ++ ys).length cp') (zs ++ ys) := by
      obtain ⟨hx, ⟨e, hn⟩ | ⟨g, cap, cur, e, hg', hcur, r⟩⟩ := hO2
      · exact ⟨hx, .inl ⟨e, hn⟩⟩
      · refine ⟨hx, .inr ⟨g, cap, cur, e, hg', ?_, r⟩⟩
        rw [e] at hne
        exact (Deep.blk_setCell_other _ _ _ _ (fun k => hne (by simp [Value.ownBlock, k]))).trans hcur
    exact this
  · exact Below.setC (hb.trans ⟨hg.os, hg.tape, hg.output, Nat.le_trans (Nat.le_refl _) hg.size, fun k hk => hg.block k (by omega) (fun e => by have := (hO.out.lt k e.symm).1; omega)⟩) hL _
theorem flat_rowN {q : Nat} [NeZero q] (i n : Nat) (F : Mt q) : flat (i + 1) n F = flat i n F ++ rowL n F i := by
  unfold flat rowL
  rw [Nat.succ_mul, List.range_add, List.map_append, List.map_map]
  congr 1
  apply List.map_congr_left
  intro j hj
  have hj := List.mem_range.1 hj
  show fv (F ((i * n + j) / n) ((i * n + j) % n)) = fv (F i j)
  rw [idxDiv hj, idxMod hj]
theorem cut_adr {a : Option Addr} {n k x : Nat} (h : x + n ≤ k) (hx : n = 0 → x = 0) (hk : n ≠ 0 ∨ True) (ha : (a = none ∧ k = 0) ∨ ∃ g off, a = some ⟨g, off, none⟩) : (if k = x then a else Option.map (fun p => p.add x) a) = adr a x := by
  by_cases e : k = x
  · have : n = 0 := by omega
    have := hx this
    subst this
    rw [if_pos e]
    rcases ha with ⟨rfl, _⟩ | ⟨g, off, rfl⟩ <;> simp [adr]
  · rw [if_neg e]
    rcases ha with ⟨rfl, _⟩ | ⟨g, off, rfl⟩
    · rfl
    · simp [adr, Addr.add_lit]
theorem PtM.keep {B : Nat} {a w : World} {L : Nat} {p r c : Int} {v : Value} (h : PtM a L p r c v) (hb : Below B a w) (hL : L < B) : PtM w L p r c v := by
  obtain ⟨h0, h1, h2, h3, h4⟩ := h
  exact ⟨Nat.lt_of_lt_of_le h0 hb.size, (hb.cell (p := ⟨L, 0, none⟩) hL).trans h1, (hb.cell (p := ⟨L, 1, none⟩) hL).trans h2, (hb.cell (p := ⟨L, 2, none⟩) hL).trans h3, (hb.cell (p := ⟨L, 3, none⟩) hL).trans h4⟩
set_option maxRecDepth 100000 in
set_option maxHeartbeats 6400000 in
theorem l03Join_any {q m n1 n2 : Nat} [NeZero q] {A B : Mt q} {L G : Nat} {u v : Value} {w : World} (hp : PtM w L q m n1 u) (hg : PtM w G q m n2 v) (hu : IntsC w u (flat m n1 A)) (hv : IntsC w v (flat m n2 B)) (hm : m ≤ 32) (hn1 : n1 ≤ 32) (hn2 : n2 ≤ 32) :
    Calls Tryz.prog 189 #[.pointer (some ⟨L, 0, none⟩), .pointer (some ⟨G, 0, none⟩)] w fun e w' => RetMx q m ((n1 : Int) + n2) (flat m (n1 + n2) (join n1 A B)) w e w' := by
  obtain ⟨i0, hi', hz0, hz1, hz2⟩ := info_parts info2
  have HU := Lib.hid hu
  have HV := Lib.hid hv
  obtain ⟨-, a1, k1, rfl, c11, c12, ha1⟩ := hu
  obtain ⟨-, a2, k2, rfl, c21, c22, ha2⟩ := hv
  simp only [flat_len] at hp hg HU HV c11 c21 ⊢
  have lL := hp.1
  have lG := hg.1
  have bb := (Below.refl w.heap.size w).alloc (Nat.le_refl _) (.cells #[.int .i64 0, .int .i64 0, .int .i64 0, .slice none 0 0] 41)
  have Pa0 := hp.on bb
  have Pb0 := hg.on bb
  have Pr0 := PtM.new w 0 0 0 (.slice none 0 0) 41
  have Fr0 := Fz.new w #[.int .i64 0, .int .i64 0, .int .i64 0, .slice none 0 0] 41
  clear hp hg
  go_enter Tryz.func189, Tryz.ntmps189
  go_wp2_with fail
  generalize hW : World.alloc w (.cells #[.int .i64 0, .int .i64 0, .int .i64 0, .slice none 0 0] 41) = W0 at Pa0 Pb0 Pr0 Fr0 bb ⊢
  obtain ⟨R, hR⟩ : ∃ R, w.heap.size = R := ⟨_, rfl⟩
  have hz : R + 1 ≤ W0.heap.size := by rw [← hW, ← hR]; simp
  rw [hR] at Pr0 Fr0 lL lG ⊢
  have HB := Lib.hid bb
  have Pa := Lib.hid Pa0
  have Pb := Lib.hid Pb0
  have Pr := Lib.hid Pr0
  have Fr : Hid (Fz W0 R) := Fr0
  clear hW bb Pa0 Pb0 Pr0 Fr0
  obtain ⟨lA, x0, x1, x2, x3⟩ := Pa.out
  obtain ⟨lB, y0, y1, y2, y3⟩ := Pb.out
  have w0 : IntKind.i64.wrap ((n1 : Int) + n2) = (n1 : Int) + n2 := IntWalk.i64_in _ (by omega)
  go_cut [5] (fun sp wx => ∃ (L2 g : Nat), sp = .pointer (some ⟨L2, 0, none⟩) ∧ Hid (MatB wx L2 q m ((n1 : Int) + n2) (.slice (some ⟨g, 0, none⟩) 0 0) ∧ OwnI W0.heap.size wx (.slice (some ⟨g, 0, none⟩) 0 0) [] ∧ W0.heap.size ≤ L2 ∧ Below W0.heap.size W0 wx))
  case first =>
    go_region
    · go_wp2_with fail
      go_meet
      case rel =>
        have h := heap_alloc_new (W0.alloc (.cells #[] 2)) (.cells #[.int .i64 q, .int .i64 m, .int .i64 ((n1 : Int) + n2), .slice (some ⟨W0.heap.size, 0, none⟩) 0 0] 41)
        rw [World.size_alloc] at h
        exact ⟨_, W0.heap.size, rfl, h, (madeI W0 W0.heap.size (Nat.le_refl _)).al.drew, by omega, drew_below (al1 (al1 (Below.refl _ _) _) _)⟩
    · go_wp2_with fail
      go_meet
      case rel =>
        refine ⟨_, W0.heap.size + 1, rfl, (heap_alloc_old _ _ _ (by simp)).trans (heap_alloc_new W0 _), ?_, by omega, drew_below (al1 (al1 (Below.refl _ _) _) _)⟩
        have h := (madeI (W0.alloc (.cells #[.int .i64 q, .int .i64 m, .int .i64 ((n1 : Int) + n2), .slice (some ⟨W0.heap.size + 1, 0, none⟩) 0 0] 41)) W0.heap.size (by simp)).drew
        simpa using h
  obtain ⟨L2, g, rfl, hc⟩ := hcut
  obtain ⟨hp2, ho2, hL2, hb2⟩ := hc.out
  clear hc lA x0 x1 x2 x3 lB y0 y1 y2 y3
  rename World => W1
  have Pa := Lib.hid (Pa.out.on hb2)
  have Pb := Lib.hid (Pb.out.on hb2)
  have Pr := Lib.hid (Pr.out.on hb2)
  have Fr : Hid (Fz W1 R) := Fr.out.on (by omega) hb2
  have HB := Lib.hid (HB.out.trans (hb2.mono HB.out.size))
  have s1 := hb2.size
  have s0 := HB.out.size
  have lL2 := hp2.lt
  have H2 := Lib.hid hp2
  have HO := Lib.hid (ho2.mono (show R + 1 ≤ W0.heap.size by omega))
  clear hp2 ho2 hb2
  go_wp2_with fail
  go_loopw [6] (fun s wr => ∃ i : Nat, i ≤ m ∧ s = .int .i64 (i : Int) ∧ Hid (JoinR (R + 1) W1 wr L2 q m ((n1 : Int) + n2) (flat i (n1 + n2) (join n1 A B)))) (fun s _ => m - (intOf s).toNat)
  case atStart => exact ⟨0, Nat.zero_le _, rfl, ⟨some ⟨g, 0, none⟩, 0, by simpa [flat] using H2.out, by simpa [flat] using HO.out, Below.refl _ _⟩⟩
  case round =>
    obtain ⟨i, hi, rfl, HX⟩ := hrel
    obtain ⟨ap, c', hM, hO, hk⟩ := HX.out
    have Pa' := Pa.out.keep hk (by omega)
    have Pb' := Pb.out.keep hk (by omega)
    obtain ⟨lA, x0, x1, x2, x3⟩ := Pa'
    obtain ⟨lB, y0, y1, y2, y3⟩ := Pb'
    by_cases hlt : i < m
    · have ii0 : (0 : Int) ≤ (i : Int) := by omega
      have i1 : (i : Int) < (m : Int) := by omega
      have vinc : IntKind.i64.wrap ((i : Int) + 1) = (i : Int) + 1 := IntWalk.i64_in _ (by omega)
      obtain ⟨zs, hzs⟩ : ∃ zs, flat i (n1 + n2) (join n1 A B) = zs := ⟨_, rfl⟩
      have HZ := Lib.hid hzs
      have hzl : zs.length ≤ 2048 := by rw [← hzs, flat_len]; have := Nat.mul_le_mul (show i ≤ 32 by omega) (show n1 + n2 ≤ 64 by omega); omega
      rw [hzs] at hM hO
      obtain ⟨N1, hN1⟩ : ∃ N, zs.length = N := ⟨_, rfl⟩
      rw [hN1] at hM hO hzl
      have HN1 := Lib.hid hN1
      obtain ⟨l2, z0, z1, z2, z3⟩ := hM.pt
      have HM := Lib.hid hM
      have HO1 := Lib.hid hO
      have HK1 := Lib.hid hk
      have sk := hk.size
      have xs := side_mul (m := i) (n := n1) (by omega) hn1
      have xf : i * n1 + n1 ≤ m * n1 := by rw [← Nat.succ_mul]; exact Nat.mul_le_mul_right n1 hlt
      have x0 : n1 = 0 → i * n1 = 0 := fun e => by rw [e, Nat.mul_zero]
      have xI := ((rowW_ints HU.out (by omega) hlt).on (HB.out.trans (hk.mono (by omega)))).src (by rw [rowL_len]; omega)
      unfold rowW at xI
      have xe : (i + 1) * n1 = i * n1 + n1 := Nat.succ_mul i n1
      obtain ⟨x, hx⟩ : ∃ x, i * n1 = x := ⟨_, rfl⟩
      rw [hx] at xs xf x0 xI xe
      obtain ⟨y, hy⟩ : ∃ y, x + n1 = y := ⟨_, rfl⟩
      have v1n1 : IntKind.i64.wrap ((i : Int) * (n1 : Int)) = (x : Int) := by rw [← Int.natCast_mul, hx]; exact IntWalk.i64_in _ (by omega)
      have v3n1 : IntKind.i64.wrap (((i : Int) + 1) * (n1 : Int)) = (y : Int) := by rw [show (i : Int) + 1 = ((i + 1 : Nat) : Int) by omega, ← Int.natCast_mul, xe, hy]; exact IntWalk.i64_in _ (by omega)
      have hadrn1 : (if k1 = x then a1 else Option.map (fun p => p.add x) a1) = adr a1 x := cut_adr (n := n1) (by omega) x0 (.inr trivial) ha1
      have y1 : x ≤ y := by omega
      have y2 : (y : Int) ≤ (k1 : Int) := by omega
      have y3 : y - x = n1 := by omega
      have HSn1 := Lib.hid xI
      clear hx hy xI xe xf x0
      clear hzs hN1 hM hO HX
      go_wp2_with fail
      go_still_tail 20, (by kernel_rfl)
      change wpList _ _ _ _ _ wr.drew
      go_wp2_with (
        at_builtin
        refine wp_append_src rfl _ _ 25 rfl (R + 1) 2 i0 (.int .i64 0) 8 Tryz.underlying25 hi' hz0 hz1 hz2 rfl _ N1 (iv zs) rfl (by have h := HO1.out.drew.out; rw [HN1.out] at h; exact h) _ (iv (rowL n1 A i)) rfl HSn1.out.drew iv_one (by omega) (by omega) (by show R + 1 ≤ wr.heap.size; omega) ?_
        intro v2 w2 hv2 hg2
        have hg2' : wr.grownBy w2 (Value.ownBlock (.slice ap N1 c')) := ⟨hg2.os, hg2.tape, hg2.output, hg2.size, hg2.block⟩
        have hv3 : w2.ownsRow (R + 1) 2 1 v2 (zs.length + (rowL n1 A i).length) (iv zs ++ iv (rowL n1 A i)) := by rw [HN1.out]; rw [iv_len] at hv2; exact hv2
        obtain ⟨hM2, hJ2⟩ := JoinR.push (a := W1) HM.out HO1.out HK1.out (by omega) (by omega) hv3 hg2'
        have hO2 : OwnI (R + 1) w2 v2 (zs ++ rowL n1 A i) := by unfold OwnI; rw [iv_app, List.length_append]; exact hv3
        have hsp := hO2.slice
        obtain ⟨N2, hN2⟩ : ∃ N, (zs ++ rowL n1 A i).length = N := ⟨_, rfl⟩
        have hN2l : N2 ≤ 2048 + 32 := by rw [← hN2, List.length_append, rowL_len, HN1.out]; omega
        have HN2 := Lib.hid hN2
        rw [hN2] at hsp
        obtain ⟨ap2, cp2, rfl⟩ := hsp
        obtain ⟨_, t0, t1, t2, t3⟩ := hM2.pt
        have tf := hM2.fz 3)
      have HJ2 := Lib.hid hJ2
      clear hv2 hv3 hg2 hg2' hO2 hJ2 hN2 hM2 HO1 HM z0 z1 z2 z3 lA x0 x1 x2 x3 lB y0 y1 y2 y3
      try go_wp2_with fail
      generalize hw3 : w2.setCell ⟨L2, 3, none⟩ (.slice ap2 N2 cp2) = w3 at HJ2 ⊢
      obtain ⟨ap3, cp3, hM3, hO3, hk3⟩ := HJ2.out
      rw [HN2.out] at hM3 hO3
      obtain ⟨l3, z0, z1, z2, z3⟩ := hM3.pt
      obtain ⟨lA, x0, x1, x2, x3⟩ := Pa.out.keep hk3 (by omega)
      obtain ⟨lB, y0, y1, y2, y3⟩ := Pb.out.keep hk3 (by omega)
      have HM3 := Lib.hid hM3
      have HO3 := Lib.hid hO3
      have HK3 := Lib.hid hk3
      have sk3 := hk3.size
      have x2s := side_mul (m := i) (n := n2) (by omega) hn2
      have x2f : i * n2 + n2 ≤ m * n2 := by rw [← Nat.succ_mul]; exact Nat.mul_le_mul_right n2 hlt
      have x20 : n2 = 0 → i * n2 = 0 := fun e => by rw [e, Nat.mul_zero]
      have x2I := ((rowW_ints HV.out (by omega) hlt).on (HB.out.trans (hk3.mono (by omega)))).src (by rw [rowL_len]; omega)
      unfold rowW at x2I
      have x2e : (i + 1) * n2 = i * n2 + n2 := Nat.succ_mul i n2
      obtain ⟨xb, hx2⟩ : ∃ xb, i * n2 = xb := ⟨_, rfl⟩
      rw [hx2] at x2s x2f x20 x2I x2e
      obtain ⟨yb, hy2⟩ : ∃ yb, xb + n2 = yb := ⟨_, rfl⟩
      have v1n2 : IntKind.i64.wrap ((i : Int) * (n2 : Int)) = (xb : Int) := by rw [← Int.natCast_mul, hx2]; exact IntWalk.i64_in _ (by omega)
      have v3n2 : IntKind.i64.wrap (((i : Int) + 1) * (n2 : Int)) = (yb : Int) := by rw [show (i : Int) + 1 = ((i + 1 : Nat) : Int) by omega, ← Int.natCast_mul, x2e, hy2]; exact IntWalk.i64_in _ (by omega)
      have hadrn2 : (if k2 = xb then a2 else Option.map (fun p => p.add xb) a2) = adr a2 xb := cut_adr (n := n2) (by omega) x20 (.inr trivial) ha2
      have yy1 : xb ≤ yb := by omega
      have yy2 : (yb : Int) ≤ (k2 : Int) := by omega
      have yy3 : yb - xb = n2 := by omega
      have HSn2 := Lib.hid x2I
      clear hx2 hy2 x2I x2e x2f x20
      clear hM3 hO3 HJ2 hw3 hk3 t0 t1 t2 t3 tf
      go_still_tail 20, (by kernel_rfl)
      change wpList _ _ _ _ _ w3.drew
      go_wp2_with (
        at_builtin
        refine wp_append_src rfl _ _ 25 rfl (R + 1) 2 i0 (.int .i64 0) 8 Tryz.underlying25 hi' hz0 hz1 hz2 rfl _ N2 (iv (zs ++ rowL n1 A i)) rfl (by have h := HO3.out.drew.out; rw [HN2.out] at h; exact h) _ (iv (rowL n2 B i)) rfl HSn2.out.drew iv_one (by omega) (by omega) (by show R + 1 ≤ w3.heap.size; omega) ?_
        intro v4 w4 hv4 hg4
        have hg4' : w3.grownBy w4 (Value.ownBlock (.slice ap3 N2 cp3)) := ⟨hg4.os, hg4.tape, hg4.output, hg4.size, hg4.block⟩
        have hv5 : w4.ownsRow (R + 1) 2 1 v4 ((zs ++ rowL n1 A i).length + (rowL n2 B i).length) (iv (zs ++ rowL n1 A i) ++ iv (rowL n2 B i)) := by rw [HN2.out]; rw [iv_len] at hv4; exact hv4
        obtain ⟨hM4, hJ4⟩ := JoinR.push (a := W1) HM3.out HO3.out HK3.out (by omega) (by omega) hv5 hg4'
        have hO4 : OwnI (R + 1) w4 v4 ((zs ++ rowL n1 A i) ++ rowL n2 B i) := by unfold OwnI; rw [iv_app, List.length_append]; exact hv5
        have hsp := hO4.slice
        have hrow : ((zs ++ rowL n1 A i) ++ rowL n2 B i) = flat (i + 1) (n1 + n2) (join n1 A B) := by rw [← HZ.out, flat_rowN, rowL_join, List.append_assoc]
        obtain ⟨N4, hN4⟩ : ∃ N, ((zs ++ rowL n1 A i) ++ rowL n2 B i).length = N := ⟨_, rfl⟩
        rw [hN4] at hsp
        obtain ⟨ap4, cp4, rfl⟩ := hsp
        obtain ⟨_, t0, t1, t2, t3⟩ := hM4.pt
        have tf := hM4.fz 3)
      rw [hrow] at hJ4
      have HJ4 := Lib.hid hJ4
      clear hv4 hv5 hg4 hg4' hO4 hJ4 hN4 hM4 HO3 HM3 z0 z1 z2 z3 lA x0 x1 x2 x3 lB y0 y1 y2 y3 hrow HZ HN1 HN2
      try go_wp2
      go_roundw
      case rel => exact ⟨i + 1, by omega, by go_num, HJ4.out⟩
      case measure => simp [intOf]; omega
    · obtain rfl : i = m := by omega
      obtain ⟨N, hN⟩ : ∃ N, (flat i (n1 + n2) (join n1 A B)).length = N := ⟨_, rfl⟩
      rw [hN] at hM hO
      obtain ⟨l2, z0, z1, z2, z3⟩ := hM.pt
      have hRr := Pr.out.keep hk (by omega)
      have hRf : Fz wr R := fun o => (hk.frozen (p := ⟨R, o, none⟩) (show R < R + 1 by omega)).trans (Fr.out o)
      have hq := Lib.hid (hRr.set4 q i ((n1 : Int) + n2) (.slice ap N c'))
      have HOO := Lib.hid hO
      have HBB := Lib.hid (HB.out.trans (hk.mono (by omega)))
      obtain ⟨lR, r0, r1, r2, r3⟩ := hRr
      obtain ⟨f0, f1, f2, f3⟩ := hRf.all
      clear hM hO HX hN
      go_wp2_with fail
      obtain ⟨_, q0, q1, q2, q3⟩ := hq.out
      refine bodyPost_ret (v := .agg #[.int .i64 q, .int .i64 i, .int .i64 ((n1 : Int) + n2), .slice ap N c']) (by simp [results, Tryz.results189, go_sem, q0, q1, q2, q3]) rfl ⟨_, rfl, ?_, below_set4 HBB.out (by omega) _ _ _ _⟩
      refine OwnI.mono (B := R + 1) ?_ (by omega)
      repeat (refine OwnI.setOut ?_ (by omega) _)
      exact HOO.out
end Go.Proofs.YtibdcejglkhcfaaGreatDoor
