/-
  Grow, Concat, Clone of the library at rows of numbers and at rows of rows.
-/
import Derived.Test.YtabanmaaagmeaaaMxYa
import Derived.Lib.AppendZeros
import Derived.Lib.Walk
import Derived.Lib.SliceRun
import Derived.Laws.OwnMore
import Derived.Laws.CopyOwn
namespace Go.Proofs.Ytabanmaaagmeaaa
open Go.RowKit
open Lin
set_option linter.unusedVariables false
set_option linter.unusedSectionVars false

/-- A slice whose cells are news. -/
def SrcAt (w : World) (x : Value) (news : List Value) : Prop :=
  ∃ a c, x = .slice a news.length c ∧ news.length ≤ 4096 ∧ ((a = none ∧ c = 0 ∧ news = []) ∨ ∃ b off, a = some ⟨b, off, none⟩ ∧ (news = [] ∨ b < w.heap.size) ∧ ∀ j u, news[j]? = some u → w.cell? ⟨b, off + j, none⟩ = some u)
theorem SrcAt.on {w w' : World} {x : Value} {news : List Value} (h : SrcAt w x news) (hb : Below w.heap.size w w') : SrcAt w' x news := by
  obtain ⟨a, c, rfl, hl, h | ⟨b, off, rfl, hbk, hc⟩⟩ := h
  · exact ⟨a, c, rfl, hl, .inl h⟩
  · refine ⟨_, c, rfl, hl, .inr ⟨b, off, rfl, ?_, fun j u hj => ?_⟩⟩
    · rcases hbk with h | h
      · exact .inl h
      · exact .inr (Nat.lt_of_lt_of_le h hb.size)
    · rcases hbk with rfl | h
      · simp at hj
      · exact (hb.cell (p := ⟨b, off + j, none⟩) h).trans (hc j u hj)
theorem SrcAt.drew {w : World} {x : Value} {news : List Value} (h : SrcAt w x news) : SrcAt w.drew x news := h
theorem wp_append_src {P : Program} {w : World} {ops : Array Oper} {rest : List Oper} {o : Oper} {a : Act} {Q : Exit → Act → World → Prop} (hgd : o.guard = none) (s x : Operand) (t : TypeId)
    (ho : o.op = .call { callee := .builtin .append, args := #[s, x], argTypes := #[t, t] })
    (base : Nat) (e : TypeId) (i : TypeInfo) (z : Value) (bytes : Nat) (ht : P.underlying t = some (.slice e)) (hi : P.info? e = some i) (hz : i.zero = some z)
    (hsize : i.size = 1) (hby : i.bytes = bytes) (hzs : z.cells.size = 1)
    (v : Value) (n : Nat) (xs : List Value) (hs : a.eval s = v) (hown : w.ownsRow base e 1 v n xs)
    (u : Value) (news : List Value) (hx : a.eval x = u) (hsrc : SrcAt w u news) (h1 : ∀ u ∈ news, u.oneCell' = true)
    (hn : n ≤ 4096) (hb24 : bytes ≤ 24) (hbase : base ≤ w.heap.size)
    (h : ∀ v' w', w'.ownsRow base e 1 v' (n + news.length) (xs ++ news) → w.grownBy w' v.ownBlock → wpList P ops Q rest (a.put o.dst v') w') : wpList P ops Q (o :: rest) a w := by
  obtain ⟨ap, c, rfl, hl, ⟨rfl, rfl, rfl⟩ | ⟨b, off, rfl, _, hc⟩⟩ := hsrc
  · refine wpList_plain hgd fun K hK => ?_
    have hrun := run_append_owned_none (P := P) (w := w) base t o.type e i 1 ht hi v n xs hown
    unfold Oper.wp
    simp only [List.length_nil] at hx
    simp [execOp, ho, resolve, invoke, builtin, hs, hx, hrun, Result.andThen]
    exact hK _ _ (h v w (by simpa using hown) ⟨rfl, rfl, rfl, Nat.le_refl _, fun _ _ _ => rfl⟩)
  · have hbb : (n + news.length) * bytes ≤ 140737488355328 := by
      have : (n + news.length) * bytes ≤ 8192 * 24 := Nat.mul_le_mul (by omega) hb24
      omega
    refine wpList_append_own w hgd s x t ho base e i z 1 bytes ht hi hz hsize hby hzs (by decide) v n xs hs hown ⟨b, off, none⟩ news.length c news hx (by simp) (fun j u hj => by rw [Addr.add_lit]; exact hc j u hj) h1 (by unfold maxLen; omega) hbb hbase ?_
    intro v' w' g1 g2 _
    exact h v' w' g1 g2
set_option maxRecDepth 100000 in
set_option maxHeartbeats 1600000 in
theorem growI_nil (w : World) : Calls Try.prog 119 #[.slice none 0 0, .int .i64 0] w fun e w' => ∃ v, e = .returned v ∧ w'.ownsRow w.heap.size 2 1 v 0 [] ∧ Below w.heap.size w w' := by
  go_enter Try.func119, Try.ntmps119
  go_wp2
  go_ret
  exact ⟨_, rfl, World.ownsRow_nil _ _ _ _, Below.refl _ _⟩
set_option maxRecDepth 100000 in
set_option maxHeartbeats 1600000 in
theorem growI_some (n : Nat) (w : World) (hn : n ≤ 4096) (h0 : 0 < n) : Calls Try.prog 119 #[.slice none 0 0, .int .i64 (n : Int)] w fun e w' => ∃ v, e = .returned v ∧ w'.ownsRow w.heap.size 2 1 v 0 [] ∧ Below w.heap.size w w' := by
  obtain ⟨i0, hi, hz0, hz1, hz2⟩ := info_parts info2
  have h1 : ¬ ((n : Int) < 0) := by omega
  have h2 : IntKind.i64.wrap (n : Int) = n := IntWalk.i64_in _ (by omega)
  have h3 : (n : Int) > 0 := by omega
  have happ := Lib.run_append_nil_zeros (P := Try.prog) w 25 3 25 2 i0 (.int .i64 0) .i64 .i64 Try.underlying25 Try.underlying3 hi hz0 n h0 (by omega) (by omega) (by rw [hz2]; omega)
  have hge := grownCap_ge w n 0 2
  have hle := grownCap_le_maxLen w n 0 2 (by unfold maxLen; omega)
  obtain ⟨cp, hcp⟩ : ∃ cp, grownCap w n 0 2 = cp := ⟨_, rfl⟩
  rw [hcp] at happ hge hle
  clear hcp
  go_enter Try.func119, Try.ntmps119
  go_wp2_with (at_builtin; refine Lib.wpList_append_run _ rfl _ _ _ _ rfl _ _ rfl rfl _ _ happ ?_)
  go_ret
  refine ⟨_, rfl, ⟨rfl, .inr ⟨w.heap.size, cp, _, rfl, Nat.le_refl _, heap_alloc_new w.drew _, Nat.zero_le _, hle, ?_, by simp⟩⟩, ⟨rfl, rfl, rfl, by simp, fun k hk => heap_alloc_old w.drew _ k hk⟩⟩
  simp only [Array.size_append, size_zeroCells]
  simp; omega
theorem growI_any (n : Nat) (w : World) (hn : n ≤ 4096) : Calls Try.prog 119 #[.slice none 0 0, .int .i64 (n : Int)] w fun e w' => ∃ v, e = .returned v ∧ w'.ownsRow w.heap.size 2 1 v 0 [] ∧ Below w.heap.size w w' := by
  by_cases h0 : n = 0
  · subst h0; exact growI_nil w
  · exact growI_some n w hn (by omega)
set_option maxRecDepth 100000 in
set_option maxHeartbeats 3200000 in
theorem concatI_any {u1 u2 : Value} {xs ys : List Value} {b c : Nat} (w : World) (hb : b < w.heap.size) (c1 : w.cell? ⟨b, 0, none⟩ = some u1) (c2 : w.cell? ⟨b, 1, none⟩ = some u2) (hx : SrcAt w u1 xs) (hy : SrcAt w u2 ys) (hl : xs.length + ys.length ≤ 4096) (o1 : ∀ u ∈ xs, u.oneCell' = true) (o2 : ∀ u ∈ ys, u.oneCell' = true) :
    Calls Try.prog 108 #[.slice (some ⟨b, 0, none⟩) 2 2] w fun e w' => ∃ v, e = .returned v ∧ w'.ownsRow w.heap.size 2 1 v (xs.length + ys.length) (xs ++ ys) ∧ Below w.heap.size w w' := by
  obtain ⟨i0, hi, hz0, hz1, hz2⟩ := info_parts info2
  have HX := Lib.hid hx
  have HY := Lib.hid hy
  have O1 := Lib.hid o1
  have O2 := Lib.hid o2
  obtain ⟨ax, cx, rfl, hlx, -⟩ := hx
  obtain ⟨ay, cy, rfl, hly, -⟩ := hy
  clear o1 o2
  obtain ⟨X, hX⟩ : ∃ X, xs.length = X := ⟨_, rfl⟩
  obtain ⟨Y, hY⟩ : ∃ Y, ys.length = Y := ⟨_, rfl⟩
  have HLX := Lib.hid hX
  have HLY := Lib.hid hY
  rw [hX] at c1 hl hlx HX ⊢
  rw [hY] at c2 hl hly HY ⊢
  clear hX hY
  have e0 : (0 : Int) < 2 := by omega
  have e1 : (1 : Int) < 2 := by omega
  have s1 : IntKind.i64.wrap ((X : Int) + (Y : Int)) = ((X + Y : Nat) : Int) := by rw [Int.natCast_add]; exact IntWalk.i64_in _ (by omega)
  have s2 : ¬ ((X : Int) < 0) := by omega
  have s3 : ¬ (((X + Y : Nat) : Int) < 0) := by omega
  have s4 : IntKind.i64.wrap (X : Int) = (X : Int) := IntWalk.i64_in _ (by omega)
  go_enter Try.func108, Try.ntmps108
  go_wp2
  go_loopw [3, 11] (fun s i wr => w = wr ∧ ((s = .int .i64 0 ∧ i = .int .i64 0) ∨ (s = .int .i64 (X : Int) ∧ i = .int .i64 1) ∨ (s = .int .i64 ((X + Y : Nat) : Int) ∧ i = .int .i64 2))) (fun _ i _ => 2 - (intOf i).toNat)
  case atStart => exact ⟨rfl, .inl ⟨rfl, rfl⟩⟩
  case round =>
    obtain ⟨rfl, ⟨rfl, rfl⟩ | ⟨rfl, rfl⟩ | ⟨rfl, rfl⟩⟩ := hrel
    · go_wp2
      go_roundw
      case rel => exact ⟨by first | rfl | trivial, .inr (.inl ⟨rfl, rfl⟩)⟩
      case measure => simp [intOf]
    · go_wp2
      go_roundw
      case rel => exact ⟨by first | rfl | trivial, .inr (.inr ⟨rfl, rfl⟩)⟩
      case measure => simp [intOf]
    · go_wp2_with fail
      refine (growI_any (X + Y) _ hl).mono ?_
      rintro e w1 ⟨v0, rfl, hv0, hbw⟩
      have HV0 := Lib.hid hv0
      have HB0 := Lib.hid hbw
      have d1 := (hbw.cell (p := ⟨b, 0, none⟩) hb).trans c1
      have d2 := (hbw.cell (p := ⟨b, 1, none⟩) hb).trans c2
      clear hv0 hbw
      go_wp2_with fail
      go_loopw [6, 27] (fun v i wz => Hid (Below w.heap.size w wz) ∧ ((i = .int .i64 0 ∧ Hid (wz.ownsRow w.heap.size 2 1 v 0 [])) ∨ (i = .int .i64 1 ∧ Hid (wz.ownsRow w.heap.size 2 1 v X xs)) ∨ (i = .int .i64 2 ∧ Hid (wz.ownsRow w.heap.size 2 1 v (X + Y) (xs ++ ys))))) (fun _ i _ => 2 - (intOf i).toNat)
      case atStart => exact ⟨HB0.out, .inl ⟨rfl, HV0.out⟩⟩
      case round =>
        clear d1 d2
        obtain ⟨HB, ⟨rfl, HV⟩ | ⟨rfl, HV⟩ | ⟨rfl, HV⟩⟩ := hrel
        · have d1 := (HB.out.cell (p := ⟨b, 0, none⟩) hb).trans c1
          have hsz := HB.out.size
          go_wp2_with (at_builtin; go_loud (refine wp_append_src rfl _ _ 25 rfl w.heap.size 2 i0 (.int .i64 0) 8 Try.underlying25 hi hz0 hz1 hz2 rfl _ 0 [] rfl HV.out _ xs rfl (HX.out.on HB.out) O1.out (by omega) (by omega) hsz ?_; rw [HLX.out]; intro v2 w2 hv2 hg2))
          have HV2 : Hid (w2.ownsRow w.heap.size 2 1 v2 X xs) := by show World.ownsRow _ _ _ _ _ _ _; simpa using hv2
          have HB2 := Lib.hid (HB.out.grown hg2 hsz (fun k hk => (HV.out.lt k hk).1))
          clear hv2 hg2 HV HB d1
          go_wp2
          go_roundw
          case rel => exact ⟨HB2.out, .inr (.inl ⟨rfl, HV2.out⟩)⟩
          case measure => simp [intOf]
        · have d2 := (HB.out.cell (p := ⟨b, 1, none⟩) hb).trans c2
          have hsz := HB.out.size
          go_wp2_with (at_builtin; go_loud (refine wp_append_src rfl _ _ 25 rfl w.heap.size 2 i0 (.int .i64 0) 8 Try.underlying25 hi hz0 hz1 hz2 rfl _ X xs rfl HV.out _ ys rfl (HY.out.on HB.out) O2.out (by omega) (by omega) hsz ?_; rw [HLY.out]; intro v2 w2 hv2 hg2))
          have HV2 := Lib.hid hv2
          have HB2 := Lib.hid (HB.out.grown hg2 hsz (fun k hk => (HV.out.lt k hk).1))
          clear hv2 hg2 HV HB d2
          go_wp2
          go_roundw
          case rel => exact ⟨HB2.out, .inr (.inr ⟨rfl, HV2.out⟩)⟩
          case measure => simp [intOf]
        · go_wp2
          go_ret
          exact ⟨_, rfl, HV.out, HB.out⟩
set_option maxRecDepth 100000 in
set_option maxHeartbeats 1600000 in
theorem growR_nil (w : World) : Calls Try.prog 107 #[.slice none 0 0, .int .i64 0] w fun e w' => ∃ v, e = .returned v ∧ w'.ownsRow w.heap.size 25 1 v 0 [] ∧ Below w.heap.size w w' := by
  go_enter Try.func107, Try.ntmps107
  go_wp2
  go_ret
  exact ⟨_, rfl, World.ownsRow_nil _ _ _ _, Below.refl _ _⟩
set_option maxRecDepth 100000 in
set_option maxHeartbeats 1600000 in
theorem growR_some (n : Nat) (w : World) (hn : n ≤ 4096) (h0 : 0 < n) : Calls Try.prog 107 #[.slice none 0 0, .int .i64 (n : Int)] w fun e w' => ∃ v, e = .returned v ∧ w'.ownsRow w.heap.size 25 1 v 0 [] ∧ Below w.heap.size w w' := by
  obtain ⟨i0, hi, hz0, hz1, hz2⟩ := info_parts info_s
  have h1 : ¬ ((n : Int) < 0) := by omega
  have h2 : IntKind.i64.wrap (n : Int) = n := IntWalk.i64_in _ (by omega)
  have h3 : (n : Int) > 0 := by omega
  have happ := Lib.run_append_nil_zeros (P := Try.prog) w 64 3 64 25 i0 (.slice none 0 0) .i64 .i64 Try.underlying64 Try.underlying3 hi hz0 n h0 (by omega) (by omega) (by rw [hz2]; omega)
  have hge := grownCap_ge w n 0 25
  have hle := grownCap_le_maxLen w n 0 25 (by unfold maxLen; omega)
  obtain ⟨cp, hcp⟩ : ∃ cp, grownCap w n 0 25 = cp := ⟨_, rfl⟩
  rw [hcp] at happ hge hle
  clear hcp
  go_enter Try.func107, Try.ntmps107
  go_wp2_with (at_builtin; refine Lib.wpList_append_run _ rfl _ _ _ _ rfl _ _ rfl rfl _ _ happ ?_)
  go_ret
  refine ⟨_, rfl, ⟨rfl, .inr ⟨w.heap.size, cp, _, rfl, Nat.le_refl _, heap_alloc_new w.drew _, Nat.zero_le _, hle, ?_, by simp⟩⟩, ⟨rfl, rfl, rfl, by simp, fun k hk => heap_alloc_old w.drew _ k hk⟩⟩
  simp only [Array.size_append, size_zeroCells]
  simp; omega
theorem growR_any (n : Nat) (w : World) (hn : n ≤ 4096) : Calls Try.prog 107 #[.slice none 0 0, .int .i64 (n : Int)] w fun e w' => ∃ v, e = .returned v ∧ w'.ownsRow w.heap.size 25 1 v 0 [] ∧ Below w.heap.size w w' := by
  by_cases h0 : n = 0
  · subst h0; exact growR_nil w
  · exact growR_some n w hn (by omega)
set_option maxRecDepth 100000 in
set_option maxHeartbeats 3200000 in
theorem concatR_any {u1 u2 : Value} {xs ys : List Value} {b c : Nat} (w : World) (hb : b < w.heap.size) (c1 : w.cell? ⟨b, 0, none⟩ = some u1) (c2 : w.cell? ⟨b, 1, none⟩ = some u2) (hx : SrcAt w u1 xs) (hy : SrcAt w u2 ys) (hl : xs.length + ys.length ≤ 4096) (o1 : ∀ u ∈ xs, u.oneCell' = true) (o2 : ∀ u ∈ ys, u.oneCell' = true) :
    Calls Try.prog 74 #[.slice (some ⟨b, 0, none⟩) 2 2] w fun e w' => ∃ v, e = .returned v ∧ w'.ownsRow w.heap.size 25 1 v (xs.length + ys.length) (xs ++ ys) ∧ Below w.heap.size w w' := by
  obtain ⟨i0, hi, hz0, hz1, hz2⟩ := info_parts info_s
  have HX := Lib.hid hx
  have HY := Lib.hid hy
  have O1 := Lib.hid o1
  have O2 := Lib.hid o2
  obtain ⟨ax, cx, rfl, hlx, -⟩ := hx
  obtain ⟨ay, cy, rfl, hly, -⟩ := hy
  clear o1 o2
  obtain ⟨X, hX⟩ : ∃ X, xs.length = X := ⟨_, rfl⟩
  obtain ⟨Y, hY⟩ : ∃ Y, ys.length = Y := ⟨_, rfl⟩
  have HLX := Lib.hid hX
  have HLY := Lib.hid hY
  rw [hX] at c1 hl hlx HX ⊢
  rw [hY] at c2 hl hly HY ⊢
  clear hX hY
  have e0 : (0 : Int) < 2 := by omega
  have e1 : (1 : Int) < 2 := by omega
  have s1 : IntKind.i64.wrap ((X : Int) + (Y : Int)) = ((X + Y : Nat) : Int) := by rw [Int.natCast_add]; exact IntWalk.i64_in _ (by omega)
  have s2 : ¬ ((X : Int) < 0) := by omega
  have s3 : ¬ (((X + Y : Nat) : Int) < 0) := by omega
  have s4 : IntKind.i64.wrap (X : Int) = (X : Int) := IntWalk.i64_in _ (by omega)
  go_enter Try.func74, Try.ntmps74
  go_wp2
  go_loopw [3, 11] (fun s i wr => w = wr ∧ ((s = .int .i64 0 ∧ i = .int .i64 0) ∨ (s = .int .i64 (X : Int) ∧ i = .int .i64 1) ∨ (s = .int .i64 ((X + Y : Nat) : Int) ∧ i = .int .i64 2))) (fun _ i _ => 2 - (intOf i).toNat)
  case atStart => exact ⟨rfl, .inl ⟨rfl, rfl⟩⟩
  case round =>
    obtain ⟨rfl, ⟨rfl, rfl⟩ | ⟨rfl, rfl⟩ | ⟨rfl, rfl⟩⟩ := hrel
    · go_wp2
      go_roundw
      case rel => exact ⟨by first | rfl | trivial, .inr (.inl ⟨rfl, rfl⟩)⟩
      case measure => simp [intOf]
    · go_wp2
      go_roundw
      case rel => exact ⟨by first | rfl | trivial, .inr (.inr ⟨rfl, rfl⟩)⟩
      case measure => simp [intOf]
    · go_wp2_with fail
      refine (growR_any (X + Y) _ hl).mono ?_
      rintro e w1 ⟨v0, rfl, hv0, hbw⟩
      have HV0 := Lib.hid hv0
      have HB0 := Lib.hid hbw
      have d1 := (hbw.cell (p := ⟨b, 0, none⟩) hb).trans c1
      have d2 := (hbw.cell (p := ⟨b, 1, none⟩) hb).trans c2
      clear hv0 hbw
      go_wp2_with fail
      go_loopw [6, 27] (fun v i wz => Hid (Below w.heap.size w wz) ∧ ((i = .int .i64 0 ∧ Hid (wz.ownsRow w.heap.size 25 1 v 0 [])) ∨ (i = .int .i64 1 ∧ Hid (wz.ownsRow w.heap.size 25 1 v X xs)) ∨ (i = .int .i64 2 ∧ Hid (wz.ownsRow w.heap.size 25 1 v (X + Y) (xs ++ ys))))) (fun _ i _ => 2 - (intOf i).toNat)
      case atStart => exact ⟨HB0.out, .inl ⟨rfl, HV0.out⟩⟩
      case round =>
        clear d1 d2
        obtain ⟨HB, ⟨rfl, HV⟩ | ⟨rfl, HV⟩ | ⟨rfl, HV⟩⟩ := hrel
        · have d1 := (HB.out.cell (p := ⟨b, 0, none⟩) hb).trans c1
          have hsz := HB.out.size
          go_wp2_with (at_builtin; go_loud (refine wp_append_src rfl _ _ 64 rfl w.heap.size 25 i0 (.slice none 0 0) 24 Try.underlying64 hi hz0 hz1 hz2 rfl _ 0 [] rfl HV.out _ xs rfl (HX.out.on HB.out) O1.out (by omega) (by omega) hsz ?_; rw [HLX.out]; intro v2 w2 hv2 hg2))
          have HV2 : Hid (w2.ownsRow w.heap.size 25 1 v2 X xs) := by show World.ownsRow _ _ _ _ _ _ _; simpa using hv2
          have HB2 := Lib.hid (HB.out.grown hg2 hsz (fun k hk => (HV.out.lt k hk).1))
          clear hv2 hg2 HV HB d1
          go_wp2
          go_roundw
          case rel => exact ⟨HB2.out, .inr (.inl ⟨rfl, HV2.out⟩)⟩
          case measure => simp [intOf]
        · have d2 := (HB.out.cell (p := ⟨b, 1, none⟩) hb).trans c2
          have hsz := HB.out.size
          go_wp2_with (at_builtin; go_loud (refine wp_append_src rfl _ _ 64 rfl w.heap.size 25 i0 (.slice none 0 0) 24 Try.underlying64 hi hz0 hz1 hz2 rfl _ X xs rfl HV.out _ ys rfl (HY.out.on HB.out) O2.out (by omega) (by omega) hsz ?_; rw [HLY.out]; intro v2 w2 hv2 hg2))
          have HV2 := Lib.hid hv2
          have HB2 := Lib.hid (HB.out.grown hg2 hsz (fun k hk => (HV.out.lt k hk).1))
          clear hv2 hg2 HV HB d2
          go_wp2
          go_roundw
          case rel => exact ⟨HB2.out, .inr (.inr ⟨rfl, HV2.out⟩)⟩
          case measure => simp [intOf]
        · go_wp2
          go_ret
          exact ⟨_, rfl, HV.out, HB.out⟩
theorem iv_app (xs ys : List Int) : iv (xs ++ ys) = iv xs ++ iv ys := by simp [iv]
theorem iv_one {xs : List Int} : ∀ u ∈ iv xs, u.oneCell' = true := by
  intro u hu
  obtain ⟨x, _, rfl⟩ := List.mem_map.1 hu
  rfl
theorem IntsC.src {w : World} {v : Value} {zs : List Int} (h : IntsC w v zs) (hl : zs.length ≤ 4096) : SrcAt w v (iv zs) := by
  obtain ⟨⟨a, cap, rfl, _, h2⟩, a', cap', e, h3, h4, h5⟩ := h
  simp only [Value.slice.injEq, true_and] at e
  obtain ⟨rfl, rfl⟩ := e
  refine ⟨a, cap, by rw [iv_len], by rw [iv_len]; exact hl, ?_⟩
  rcases h5 with ⟨rfl, rfl⟩ | ⟨g, off, rfl⟩
  · exact .inl ⟨rfl, rfl, by rw [List.eq_nil_of_length_eq_zero (by omega : zs.length = 0)]; rfl⟩
  · refine .inr ⟨g, off, rfl, ?_, ?_⟩
    · rcases h2 with rfl | ⟨b, o, e, hb, _⟩
      · exact .inl rfl
      · simp at e; obtain ⟨rfl, rfl⟩ := e; exact .inr hb
    · intro j u hj
      have hj' : j < zs.length := by have := (List.getElem?_eq_some_iff.1 hj).1; simpa [iv] using this
      rw [iv_at zs j hj'] at hj
      cases hj
      rcases h2 with rfl | ⟨b, o, e, hb, hc⟩
      · simp at hj'
      · simp at e; obtain ⟨rfl, rfl⟩ := e; exact hc j hj'
theorem concatI_ok {u1 u2 : Value} {xs ys : List Int} {b c : Nat} (w : World) (hb : b < w.heap.size) (c1 : w.cell? ⟨b, 0, none⟩ = some u1) (c2 : w.cell? ⟨b, 1, none⟩ = some u2) (hx : IntsC w u1 xs) (hy : IntsC w u2 ys) (hl : xs.length + ys.length ≤ 4096) :
    Calls Try.prog 108 #[.slice (some ⟨b, 0, none⟩) 2 2] w fun e w' => RetL (xs ++ ys) w e w' := by
  refine (concatI_any (c := c) w hb c1 c2 (hx.src (by omega)) (hy.src (by omega)) (by rw [iv_len, iv_len]; exact hl) iv_one iv_one).mono ?_
  rintro e w' ⟨v, rfl, ho, hb⟩
  refine ⟨v, rfl, ?_, hb⟩
  unfold OwnI
  rw [iv_app, List.length_append]
  simpa [iv_len] using ho
set_option maxRecDepth 100000 in
set_option maxHeartbeats 1600000 in
theorem cloneI_nil (w : World) : Calls Try.prog 113 #[.slice none 0 0] w fun e w' => RetL [] w e w' := by
  have q25 : ∀ (w : World) (a : Option Addr) (n c n' c' : Nat), (binOp .eql 25 (.slice a n c) (.slice none n' c')).run Try.prog w = .ok (.bool a.isNone) w := fun w a n c n' c' => Lib.run_eql_slice_nil w _ _ a n c n' c' Try.underlying25
  go_enter Try.func113, Try.ntmps113
  go_wp2
  go_ret
  exact ⟨_, rfl, OwnI.nul _ _, Below.refl _ _⟩
set_option maxRecDepth 100000 in
set_option maxHeartbeats 1600000 in
theorem cloneI_some {g off n c : Nat} {xs : List Value} (w : World) (hx : SrcAt w (.slice (some ⟨g, off, none⟩) n c) xs) (hn : xs.length = n) (o1 : ∀ u ∈ xs, u.oneCell' = true) :
    Calls Try.prog 113 #[.slice (some ⟨g, off, none⟩) n c] w fun e w' => ∃ v, e = .returned v ∧ w'.ownsRow w.heap.size 2 1 v n xs ∧ v ≠ .slice none 0 0 ∧ Below w.heap.size w w' := by
  obtain ⟨i0, hi, hz0, hz1, hz2⟩ := info_parts info2
  have HX := Lib.hid hx
  have O1 := Lib.hid o1
  have HN := Lib.hid hn
  clear hx o1 hn
  have q25 : ∀ (w : World) (a : Option Addr) (n c n' c' : Nat), (binOp .eql 25 (.slice a n c) (.slice none n' c')).run Try.prog w = .ok (.bool a.isNone) w := fun w a n c n' c' => Lib.run_eql_slice_nil w _ _ a n c n' c' Try.underlying25
  have hm := Lib.hid (World.ownsRow_made (base := w.heap.size) (e := 2) (size := 1) w #[] 0 (Nat.le_refl _) (Nat.zero_le _) rfl)
  go_enter Try.func113, Try.ntmps113
  go_wp2_with (at_builtin; go_loud (refine wpList_append_own _ rfl _ _ 25 rfl w.heap.size 2 i0 (.int .i64 0) 1 8 Try.underlying25 hi hz0 hz1 hz2 rfl (by decide) _ _ _ rfl hm.out ⟨g, off, none⟩ n c xs rfl ?ah1 ?ah2 ?ah3 ?ah4 ?ah5 ?ah6 ?_))
  case ah1 => have := HN.out; omega
  case ah2 =>
    intro j u hj
    rw [Addr.add_lit]
    obtain ⟨a', c', e, hl, h | ⟨b', off', e2, hb', hc'⟩⟩ := HX.out
    · obtain ⟨rfl, -, rfl⟩ := h
      simp at hj
    · simp at e e2
      obtain ⟨rfl, _, rfl⟩ := e
      cases e2
      rcases hb' with rfl | hb'
      · simp at hj
      · exact (((Below.refl _ w).alloc (Nat.le_refl _) _).cell (p := ⟨g, off + j, none⟩) hb').trans (hc' j u hj)
  case ah3 => exact O1.out
  case ah4 => obtain ⟨_, _, _, hl, _⟩ := HX.out; have := HN.out; unfold maxLen; omega
  case ah5 => obtain ⟨_, _, _, hl, _⟩ := HX.out; have := HN.out; omega
  case ah6 => simp
  intro v' w1 hown hgrow hnil
  go_wp2
  go_ret
  exact ⟨v', rfl, by simpa using hown, hnil, ((Below.refl _ w).alloc (Nat.le_refl _) _).grown hgrow (by simp) (by intro k hk; simp [Value.ownBlock] at hk; omega)⟩
end Go.Proofs.Ytabanmaaagmeaaa
