/-
  Draws of a number with a root and of two vectors; the sums that the law of roots compares.
-/
import Derived.Test.YtlikfgmhhjpggaaDrawC
import Derived.Test.YtlikfgmhhjpggaaVecC
import Derived.Test.YtlikfgmhhjpggaaOwnX
namespace Go.Proofs.Ytlikfgmhhjpggaa
open Go.RowKit
set_option linter.unusedVariables false

/-! ### Mathematics -/
theorem dot_lin (p : Int) : ∀ (xs ys : List Int), xs.length = ys.length → dotN (addL p xs ys) ys % p = (dotN xs ys + dotN ys ys) % p
  | [], [], _ => by simp [addL, dotN]
  | x :: xs, y :: ys, h => by
    have ih := dot_lin p xs ys (by simpa using h)
    have e : addL p (x :: xs) (y :: ys) = (x + y) % p :: addL p xs ys := by unfold addL; rw [List.zipWith_cons_cons]
    rw [e]
    simp only [dotN]
    rw [Int.add_emod, mm, ih, ← Int.add_emod, Int.add_mul]
    congr 1
    omega
theorem twice_eq {q : Int} (hq : 2 ≤ q) (xs : List Int) : sclC q (2 % q) xs = addL q xs xs := by
  induction xs with
  | nil => simp [sclC, addL]
  | cons x xs ih =>
    unfold sclC addL at *
    rw [List.map_cons, List.zipWith_cons_cons, ih, mm]
    congr 2
    omega
theorem addL_ok {p : Int} {xs ys : List Int} (hp : 2 ≤ p) (h : xs.length = ys.length) : NumOk p (addL p xs ys) := by
  intro j hj
  rw [addL_at h j (by rw [addL_len h] at hj; exact hj) hj]
  have := rem_bd (xs[j]'(by rw [addL_len h] at hj; exact hj) + ys[j]'(by rw [addL_len h] at hj; omega)) hp
  omega

/-! ### Equality of two lists -/
set_option maxHeartbeats 400000 in
theorem numsE_some (b1 o1 c1 b2 o2 c2 : Nat) (zs : List Int) (w : World) (hl : zs.length ≤ 1048576)
    (h1 : ∀ j (h : j < zs.length), w.cell? ⟨b1, o1 + j, none⟩ = some (.int .i64 zs[j])) (h2 : ∀ j (h : j < zs.length), w.cell? ⟨b2, o2 + j, none⟩ = some (.int .i64 zs[j])) :
    Calls Try.prog 34 #[.slice (some ⟨b1, o1, none⟩) zs.length c1, .slice (some ⟨b2, o2, none⟩) zs.length c2] w fun e w' => e = .returned (.bool true) ∧ ∃ n, w' = w.drewN n := by
  have H1 := Lib.hid h1
  have H2 := Lib.hid h2
  clear h1 h2
  go_enter Try.func34, Try.ntmps34
  go_wp2
  go_loopw [5] (fun i wr => ∃ k n : Nat, k ≤ zs.length ∧ i = .int .i64 (k : Int) ∧ wr = w.drewN n) (fun i _ => zs.length - (intOf i).toNat)
  case atStart => exact ⟨0, 0, Nat.zero_le _, rfl, rfl⟩
  case round =>
    obtain ⟨k, n, hk, rfl, rfl⟩ := hrel
    by_cases hlt : k < zs.length
    · obtain ⟨z, hz⟩ : ∃ z, zs[k] = z := ⟨_, rfl⟩
      have c1 := H1.out k hlt
      have c2 := H2.out k hlt
      rw [hz] at c1 c2
      clear hz
      have i0 : 0 ≤ (k : Int) := by omega
      have i1 : (k : Int) < zs.length := by omega
      have eb : (z != z) = false := by simp
      go_wp2
      go_quiet (fail)
      go_wp2
      go_roundw
      case rel => exact ⟨k + 1, _, by omega, by go_num, rfl⟩
      case measure => simp [intOf]; omega
    · go_wp2
      go_ret
      exact ⟨rfl, _, rfl⟩
theorem numsE_none (a1 a2 : Option Addr) (c1 c2 : Nat) (w : World) :
    Calls Try.prog 34 #[.slice a1 0 c1, .slice a2 0 c2] w fun e w' => e = .returned (.bool true) ∧ ∃ n, w' = w.drewN n := by
  go_enter Try.func34, Try.ntmps34
  go_wp2
  refine wp_loop_rounds 1 ?_
  rw [rounds_succ]
  go_wp2
  go_ret
  exact ⟨rfl, 0, rfl⟩
theorem numsE_any {v1 v2 : Value} {zs : List Int} {w : World} (h1 : IntsAt w v1 zs) (h2 : IntsAt w v2 zs) :
    Calls Try.prog 34 #[v1, v2] w fun e w' => e = .returned (.bool true) ∧ ∃ n, w' = w.drewN n := by
  obtain ⟨a1, c1, rfl, hl, h1⟩ := h1
  obtain ⟨a2, c2, rfl, _, h2⟩ := h2
  by_cases hz : zs = []
  · subst hz
    exact numsE_none a1 a2 c1 c2 w
  · rcases h1 with rfl | ⟨b1, o1, rfl, _, h1⟩
    · exact absurd rfl hz
    rcases h2 with rfl | ⟨b2, o2, rfl, _, h2⟩
    · exact absurd rfl hz
    exact numsE_some b1 o1 c1 b2 o2 c2 zs w hl h1 h2

/-! ### Draws -/
theorem Sc.low {p : Nat} {a : Option Addr} {len cap K : Nat} {w w' : World} (h : Sc p a len cap K w) (hb : Below (p + 1) w w') : Sc p a len cap K w' := by
  obtain ⟨⟨hl, hc⟩, h2, k, hk, s, s0, s1, c0, c1, c2, f1, f2⟩ := h
  have hp : p < p + 1 := Nat.lt_succ_self p
  refine ⟨⟨hl, ?_⟩, Nat.lt_of_lt_of_le h2 hb.size, k, hk, s, s0, s1, (hb.cell (p := ⟨p, 0, none⟩) hp).trans c0, (hb.cell (p := ⟨p, 1, none⟩) hp).trans c1, (hb.cell (p := ⟨p, 2, none⟩) hp).trans c2, (hb.frozen (p := ⟨p, 1, none⟩) hp).trans f1, (hb.frozen (p := ⟨p, 2, none⟩) hp).trans f2⟩
  rcases hc with rfl | ⟨b, off, rfl, hb', hc⟩
  · exact .inl rfl
  · refine .inr ⟨b, off, rfl, hb', fun j hj => ?_⟩
    obtain ⟨x, x0, x1, hx⟩ := hc j hj
    exact ⟨x, x0, x1, (hb.cell (p := ⟨b, off + j, none⟩) (Nat.lt_succ_of_lt hb')).trans hx⟩
def RetAPb (w : World) (e : Ending) (w' : World) : Prop := ∃ a p : Int, e = .returned (.tuple #[.int .i64 a, .int .i64 p]) ∧ Below w.heap.size w w'
set_option maxHeartbeats 800000 in
theorem drawRoot_any (w : World) (a : Option Addr) (len cap : Nat) (h : Bytes w a len) :
    Calls Try.prog 27 #[.slice a len cap] w fun e w' => RetAPb w e w' := by
  have H := Lib.hid h
  clear h
  go_enter Try.func27, Try.ntmps27
  go_wp2_with fail
  refine (from_any w a len cap).mono ?_
  rintro e w1 ⟨rfl, hs1, hb1, hp1⟩
  have S1 := Lib.hid (newSc H.out hs1 hb1 hp1)
  have B1 := Lib.hid hb1
  clear hs1 hb1
  go_wp2_with fail
  refine (bentPrime_any (by omega) S1.out).mono ?_
  rintro e w2 ⟨p, hp, rfl, hs, hg⟩
  obtain ⟨p0, p1⟩ := hp
  have S2 := Lib.hid hs
  have B2 := Lib.hid (B1.out.trans (below_gb2 hg (Nat.le_refl _) (Nat.le_of_lt hp1)))
  clear hs hg
  go_wp2_with fail
  refine (drawNumber_any p p0 p1 (by omega) S2.out).mono ?_
  rintro e w3 ⟨r, hr, rfl, hs, hg⟩
  obtain ⟨r0, r1⟩ := hr
  have S3 := Lib.hid hs
  have B3 := Lib.hid (B2.out.trans (below_gb2 hg (Nat.le_refl _) B2.out.size))
  clear hs hg
  go_wp2_with fail
  refine (one_any 2 (by omega) (by omega) S3.out).mono ?_
  rintro e w4 ⟨b, rfl, hs, hg⟩
  have B4 := Lib.hid (B3.out.trans (below_gb2 hg (Nat.le_refl _) B3.out.size))
  clear hs hg
  cases b
  · go_wp2_with fail
    go_ret2
    exact ⟨r, p, rfl, B4.out⟩
  · by_cases hp : IsPr p
    · have HP := Lib.hid hp
      have q0 := hp.1
      have q1 := hp.2.1
      have kz : ¬ p = 0 := by omega
      clear hp
      by_cases hn : r ≥ 0
      · have hn' : decide (r ≥ 0) = true := by simpa using hn
        have rr : 0 ≤ r * r ∧ r * r ≤ 66049 := by
          have h1 := Int.mul_le_mul r1 r1 hn (by omega : (0 : Int) ≤ 257)
          exact ⟨Int.mul_nonneg hn hn, by omega⟩
        obtain ⟨rr0, rr1⟩ := rr
        go_wp2_with fail
        refine (specPrime_yes _ _ HP.out).mono ?_
        rintro e w5 ⟨rfl, rfl⟩
        go_wp2_with fail
        go_ret2
        exact ⟨r * r % p, p, rfl, B4.out⟩
      · have hn' : decide (r ≥ 0) = false := by simpa using hn
        clear hn
        go_wp2_with fail
        refine (specPrime_yes _ _ HP.out).mono ?_
        rintro e w5 ⟨rfl, rfl⟩
        go_wp2_with fail
        go_ret2
        exact ⟨r, p, rfl, B4.out⟩
    · have HP := Lib.hid hp
      clear hp
      go_wp2_with fail
      refine (specPrime_no _ _ HP.out).mono ?_
      rintro e w5 ⟨rfl, rfl⟩
      go_wp2_with fail
      go_ret2
      exact ⟨r, p, rfl, B4.out⟩

/-- A drawn list. -/
def RetDV (p : Nat) (a : Option Addr) (len cap K : Nat) (n : Nat) (w : World) (e : Ending) (w' : World) : Prop :=
  ∃ v zs, e = .returned v ∧ zs.length = n ∧ OwnI w.heap.size w' v zs ∧ Sc p a len cap K w' ∧ w.grownBy w' (some p)
theorem gb_push {w wr w2 : World} {p : Nat} {o : Obj} {vb : Option Nat} (h : w.grownBy wr (some p)) (g : (wr.alloc o).grownBy w2 vb) (hv : ∀ k, vb = some k → w.heap.size ≤ k) : w.grownBy w2 (some p) := by
  have hz : wr.heap.size + 1 ≤ w2.heap.size := by have := g.size; simpa using this
  refine ⟨g.os.trans h.os, g.tape.trans h.tape, g.output.trans h.output, by have := h.size; omega, fun k hk hr => ?_⟩
  have hk2 : k < wr.heap.size := Nat.lt_of_lt_of_le hk h.size
  rw [g.block k (by simp; omega) (fun e => by have := hv k e.symm; omega), Below.heap_alloc _ _ _ hk2, h.block k hk hr]
set_option maxRecDepth 100000 in
set_option maxHeartbeats 1600000 in
theorem drawVector_any {p : Nat} {a : Option Addr} {len cap K : Nat} {w : World} (n : Nat) (q : Int) (hn : n ≤ 64) (hq : q ≤ 257) (hK : K ≤ 800000000) (h : Sc p a len cap K w) :
    Calls Try.prog 70 #[.pointer (some ⟨p, 0, none⟩), .int .i64 (n : Int), .int .i64 q] w fun e w' => RetDV p a len cap (K + 2 * n) n w e w' := by
  obtain ⟨i0, hi, hz0, hz1, hz2⟩ := info_parts info2
  have hpw := h.2.1
  have H := Lib.hid (h.alloc (.cells #[] 2))
  obtain ⟨m, hm⟩ : ∃ m, (if 1 > q then 1 else q) = m := ⟨_, rfl⟩
  have hm1 : m ≤ 257 := by rw [← hm]; split <;> omega
  have HM := Lib.hid hm
  clear h hm
  go_enter Try.func70, Try.ntmps70
  go_wp2
  go_loopw [7, 8] (fun v i wr => ∃ (k : Nat) (zs : List Int), k ≤ n ∧ zs.length = k ∧ i = .int .i64 (k : Int) ∧ OwnI w.heap.size wr v zs ∧ Sc p a len cap (K + 2 * k) wr ∧ w.grownBy wr (some p)) (fun _ i _ => n - (intOf i).toNat)
  case atStart => exact ⟨0, [], Nat.zero_le _, rfl, rfl, World.ownsRow_made w #[] 0 (Nat.le_refl _) (by unfold maxLen; omega) rfl, H.out, gb_alloc _ _ _⟩
  case round =>
    obtain ⟨k, zs, hk, hzl, rfl, hown, hsc, hgr⟩ := hrel
    by_cases hlt : k < n
    · have HO := Lib.hid hown
      have HS := Lib.hid hsc
      have HG := Lib.hid hgr
      have HZL := Lib.hid hzl
      have hsz := hgr.size
      have hki : (k : Int) < n := by omega
      clear hown hsc hgr hzl
      go_wp2_with fail
      refine (max_any 1 q _).mono ?_
      rintro e w2 ⟨rfl, rfl⟩
      rw [HM.out]
      go_wp2_with fail
      refine (pick_any m (by omega) (by omega) HS.out).mono ?_
      rintro e w3 ⟨r, hr, rfl, hs3, hg3⟩
      have hown3 : OwnI w.heap.size w3 _ zs := World.ownsRow.kept HO.out.out hg3 (by
        cases hv : Value.ownBlock _ with
        | none => exact .inl rfl
        | some b => right; intro e; have := (HO.out.out.lt b hv).1; have := Option.some.inj e; omega)
      have S3 := Lib.hid hs3
      have G3 : Hid (w.grownBy w3 (some p)) := gb_trans HG.out hg3
      have hsz3 : w.heap.size ≤ w3.heap.size := Nat.le_trans hsz hg3.size
      have hlen : zs.length + 1 ≤ 65 := by have := HZL.out; omega
      have S3low := Lib.hid hs3.2.1
      clear hs3 hg3 hr HO
      go_wp2_with (at_builtin; refine wpList_append_own _ rfl _ _ 33 rfl w.heap.size 2 i0 (.int .i64 0) 1 8 Try.underlying33 hi hz0 hz1 hz2 rfl (by decide) _ _ _ rfl (hown3.out.alloc _) ⟨w3.heap.size, 0, none⟩ 1 1 [.int .i64 r] rfl rfl ?ah1 ?ah2 ?ah3 ?ah4 ?ah5 ?_)
      try (case ah1 => exact row_int _ _ _)
      case ah2 => first | rfl | (intro u hu; simp at hu; subst hu; rfl)
      case ah3 => unfold maxLen; omega
      case ah4 => omega
      case ah5 => first | omega | (simp; omega)
      intro v2 w4 hown4 hgrow _
      have hO := pushI hown4
      have hvb : ∀ b, Value.ownBlock _ = some b → w.heap.size ≤ b := fun b hb => (hown3.out.lt b hb).1
      have hG4 := gb_push G3.out hgrow hvb
      have hS4 : Sc p a len cap (K + 2 * (k + 1)) w4 := ((S3.out.alloc _).low ⟨hgrow.os, hgrow.tape, hgrow.output, hgrow.size, fun b hb => hgrow.block b (by have := S3low.out; simp; omega) (fun e => by have := hvb b e.symm; omega)⟩).up (by omega)
      clear hown4 hgrow hown3 hvb
      go_wp2
      go_roundw
      case rel => exact ⟨k + 1, zs ++ [r], by omega, by rw [List.length_append, HZL.out]; rfl, by go_num, hO, hS4, hG4⟩
      case measure => simp [intOf]; omega
    · obtain rfl : k = n := by omega
      have HO := Lib.hid hown
      have HS := Lib.hid hsc
      have HG := Lib.hid hgr
      have HZL := Lib.hid hzl
      clear hown hsc hgr hzl
      go_wp2
      go_ret
      exact ⟨_, zs, rfl, HZL.out, HO.out, HS.out, HG.out⟩
/-- Nothing turns but block p and the list's own block. -/
def FrB (p : Nat) (vb : Option Nat) (w w' : World) : Prop :=
  w'.os = w.os ∧ w'.tape = w.tape ∧ w'.output = w.output ∧ w.heap.size ≤ w'.heap.size ∧ ∀ k, k < w.heap.size → k ≠ p → vb ≠ some k → w'.heap[k]? = w.heap[k]?
theorem frB_of {w w1 w2 : World} {p : Nat} {vb : Option Nat} {o : Obj} (h : w.grownBy w1 (some p)) (g : (w1.alloc o).grownBy w2 vb) : FrB p vb w w2 := by
  have hz : w1.heap.size + 1 ≤ w2.heap.size := by have := g.size; simpa using this
  refine ⟨g.os.trans h.os, g.tape.trans h.tape, g.output.trans h.output, by have := h.size; omega, fun k hk hp hv => ?_⟩
  have hk2 : k < w1.heap.size := Nat.lt_of_lt_of_le hk h.size
  rw [g.block k (by simp; omega) (fun e => hv e.symm), Below.heap_alloc _ _ _ hk2, h.block k hk (fun e => hp (Option.some.inj e))]
theorem frB_gb {w w1 : World} {p : Nat} {vb : Option Nat} (h : w.grownBy w1 (some p)) : FrB p vb w w1 :=
  ⟨h.os, h.tape, h.output, h.size, fun k hk hp _ => h.block k hk (fun e => hp (Option.some.inj e))⟩
theorem beq_no2 {a b : Int} (h : a ≠ b) : (a == b) = false := by simpa using h
theorem made_zero (m : Nat) : (madeCells #[Value.int .i64 0] m).toList = List.replicate m (Value.int .i64 0) := by
  apply List.ext_getElem
  · simp [madeCells]
  · intro i h1 h2
    simp [madeCells, Nat.mod_one]
/-- A bent list. -/
def RetBd (p B : Nat) (v : Value) (w : World) (e : Ending) (w' : World) : Prop :=
  ∃ v' zs, e = .returned v' ∧ zs.length ≤ 65 ∧ OwnI B w' v' zs ∧ FrB p v.ownBlock w w'
theorem own_gb {B p : Nat} {w w' : World} {v : Value} {zs : List Int} (h : OwnI B w v zs) (hg : w.grownBy w' (some p)) (hp : p < B) : OwnI B w' v zs :=
  World.ownsRow.kept h.out hg (by
    cases hv : v.ownBlock with
    | none => exact .inl rfl
    | some b => right; intro e; have := (h.out.lt b hv).1; have := Option.some.inj e; omega)
set_option maxRecDepth 100000 in
set_option maxHeartbeats 3200000 in
theorem bend_any {p : Nat} {a : Option Addr} {len cap K : Nat} {w : World} {B : Nat} {v : Value} {zs : List Int} (q : Int) (hp : p < B) (hB : B ≤ w.heap.size) (ho : OwnI B w v zs) (hl : zs.length ≤ 64) (hK : K ≤ 700000000) (h : Sc p a len cap K w) :
    Calls Try.prog 71 #[.pointer (some ⟨p, 0, none⟩), v, .int .i64 q] w fun e w' => RetBd p B v w e w' := by
  obtain ⟨i0, hi, hz0, hz1, hz2⟩ := info_parts info2
  have H := Lib.hid h
  have HO := Lib.hid ho
  clear h ho
  go_enter Try.func71, Try.ntmps71
  go_wp2_with fail
  refine (pick_any 24 (by omega) (by omega) H.out).mono ?_
  rintro e w1 ⟨r, hr, rfl, hs, hg⟩
  have S1 := Lib.hid hs
  have G1 := Lib.hid hg
  have O1 := Lib.hid (own_gb HO.out hg hp)
  have hB1 : B ≤ w1.heap.size := Nat.le_trans hB hg.size
  clear hs hg hr HO
  by_cases r0 : r = 0
  · subst r0
    go_wp2_with fail
    refine (among_lit [-1, q] _ _ 2 rfl rfl (by simp) (by simp) (by omega) S1.out).mono ?_
    rintro e w2 ⟨z, hr, rfl, hs, hg⟩
    have hown := own_gb O1.out hg hp
    have G2 := Lib.hid (gb_trans G1.out hg)
    have hB2 : B ≤ w2.heap.size := Nat.le_trans hB1 hg.size
    clear hs hg hr O1
    go_wp2_with (at_builtin; refine wpList_append_own _ rfl _ _ 33 rfl B 2 i0 (.int .i64 0) 1 8 Try.underlying33 hi hz0 hz1 hz2 rfl (by decide) _ _ _ rfl (hown.out.alloc _) ⟨w2.heap.size, 0, none⟩ 1 1 [.int .i64 z] rfl rfl ?ah1 ?ah2 ?ah3 ?ah4 ?ah5 ?_)
    try (case ah1 => exact row_int _ _ _)
    case ah2 => first | rfl | (intro u hu; simp at hu; subst hu; rfl)
    case ah3 => unfold maxLen; omega
    case ah4 => omega
    case ah5 => first | omega | (simp; omega)
    intro v2 w4 hown4 hgrow _
    have hO := Lib.hid (pushI hown4)
    have hF := Lib.hid (frB_of G2.out hgrow)
    clear hown4 hgrow hown
    go_wp2
    go_ret
    exact ⟨_, _, rfl, by simp; omega, hO.out, hF.out⟩
  · have e0 : (r == 0) = false := beq_no2 r0
    by_cases r1 : r = 1
    · subst r1
      clear r0
      go_wp2_with fail
      refine (among_lit [64, 65] _ _ 2 rfl rfl (by simp) (by simp) (by omega) S1.out).mono ?_
      rintro e w2 ⟨z, hr, rfl, hs, hg⟩
      have hz : z = 64 ∨ z = 65 := by simpa using hr
      obtain ⟨m, rfl⟩ : ∃ m : Nat, z = m := ⟨z.toNat, by omega⟩
      have hm : m ≤ 65 := by omega
      have G2 := Lib.hid (gb_trans G1.out hg)
      have hB2 : B ≤ w2.heap.size := Nat.le_trans hB1 hg.size
      clear hs hg hr hz O1
      go_wp2_with (at_make; refine wpList_make_full _ rfl _ _ 33 rfl B 2 i0 (.int .i64 0) 1 Try.underlying33 hi hz0 hz1 _ _ _ _ m rfl rfl rfl rfl ?ah1 ?ah2 ?ah3 ?_)
      case ah1 => rw [hz2]; omega
      case ah2 => unfold maxLen; omega
      case ah3 => exact hB2
      intro w4 hown hgrow
      have hO : Hid (OwnI B w4 (.slice (some ⟨w2.heap.size, 0, none⟩) m m) (List.replicate m 0)) := by
        unfold OwnI iv
        rw [List.length_replicate, List.map_replicate]
        have e : (madeCells #[Value.int .i64 0] m).toList = List.replicate m (Value.int .i64 0) := made_zero m
        rw [← e]
        show w4.ownsRow _ _ _ _ _ _
        simpa using hown
      have hF : Hid (FrB p v.ownBlock w w4) := ⟨hgrow.os.trans G2.out.os, hgrow.tape.trans G2.out.tape, hgrow.output.trans G2.out.output, Nat.le_trans G2.out.size hgrow.size,
        fun k hk hkp _ => (hgrow.block k (Nat.lt_of_lt_of_le hk G2.out.size) (fun e => by cases e)).trans (G2.out.block k hk (fun e => hkp (Option.some.inj e)))⟩
      clear hown hgrow
      go_wp2
      go_ret
      exact ⟨_, _, rfl, by rw [List.length_replicate]; exact hm, hO.out, hF.out⟩
    · have e1 : (r == 1) = false := beq_no2 r1
      by_cases r2 : r = 2
      · subst r2
        have hown := O1.out
        clear r0 r1 O1
        go_wp2_with (at_builtin; refine wpList_append_own _ rfl _ _ 33 rfl B 2 i0 (.int .i64 0) 1 8 Try.underlying33 hi hz0 hz1 hz2 rfl (by decide) _ _ _ rfl (hown.out.alloc _) ⟨w1.heap.size, 0, none⟩ 1 1 [.int .i64 0] rfl rfl ?ah1 ?ah2 ?ah3 ?ah4 ?ah5 ?_)
        try (case ah1 => exact row_int _ _ _)
        case ah2 => first | rfl | (intro u hu; simp at hu; subst hu; rfl)
        case ah3 => unfold maxLen; omega
        case ah4 => omega
        case ah5 => first | omega | (simp; omega)
        intro v2 w4 hown4 hgrow _
        have hO := Lib.hid (pushI hown4)
        have hF := Lib.hid (frB_of G1.out hgrow)
        clear hown4 hgrow hown
        go_wp2
        go_ret
        exact ⟨_, _, rfl, by simp; omega, hO.out, hF.out⟩
      · have e2 : (r == 2) = false := beq_no2 r2
        clear r0 r1 r2
        go_wp2_with fail
        go_ret
        exact ⟨_, zs, rfl, by omega, O1.out, frB_gb G1.out⟩
/-- Two drawn lists and a number. -/
def RetVV (w : World) (e : Ending) (w' : World) : Prop :=
  ∃ (v1 v2 : Value) (xs ys : List Int) (q : Int), e = .returned (.tuple #[v1, v2, .int .i64 q]) ∧ IntsAt w' v1 xs ∧ IntsAt w' v2 ys ∧ -2 ≤ q ∧ q ≤ 257 ∧ Below w.heap.size w w'
set_option maxHeartbeats 1600000 in
theorem drawDot_any (w : World) (a : Option Addr) (len cap : Nat) (h : Bytes w a len) :
    Calls Try.prog 30 #[.slice a len cap] w fun e w' => RetVV w e w' := by
  have H := Lib.hid h
  clear h
  go_enter Try.func30, Try.ntmps30
  go_wp2_with fail
  refine (from_any w a len cap).mono ?_
  rintro e w1 ⟨rfl, hs1, hb1, hp1⟩
  have S1 := Lib.hid (newSc H.out hs1 hb1 hp1)
  have B1 := Lib.hid hb1
  clear hs1 hb1
  obtain ⟨P, hP⟩ : ∃ P, w.heap.size = P := ⟨_, rfl⟩
  rw [hP] at S1 hp1 B1 ⊢
  have HP := Lib.hid hP
  clear hP
  go_wp2_with fail
  refine (bentPrime_any (by omega) S1.out).mono ?_
  rintro e w2 ⟨q, hq, rfl, hs, hg⟩
  obtain ⟨q0, q1⟩ := hq
  have S2 := Lib.hid hs
  have B2 := Lib.hid (B1.out.trans (below_gb2 hg (Nat.le_refl _) (Nat.le_of_lt hp1)))
  have hp2 := Nat.lt_of_lt_of_le hp1 hg.size
  clear hs hg
  go_wp2_with fail
  refine (pick_any 6 (by omega) (by omega) S2.out).mono ?_
  rintro e w3 ⟨n, hn, rfl, hs, hg⟩
  obtain ⟨m, rfl⟩ : ∃ m : Nat, n = m := ⟨n.toNat, by omega⟩
  have hm : m ≤ 6 := by omega
  have S3 := Lib.hid hs
  have B3 := Lib.hid (B2.out.trans (below_gb2 hg (Nat.le_refl _) (Nat.le_of_lt hp2)))
  have hp3 := Nat.lt_of_lt_of_le hp2 hg.size
  clear hs hg hn
  go_wp2_with fail
  refine (drawVector_any m q (by omega) q1 (by omega) S3.out).mono ?_
  rintro e w4 ⟨v1, xs, rfl, hx, ho, hs, hg⟩
  have S4 := Lib.hid hs
  have O4 := Lib.hid ho
  have B4 := Lib.hid (B3.out.trans (below_gb2 hg (Nat.le_refl _) (Nat.le_of_lt hp3)))
  have hp4 := Nat.lt_of_lt_of_le hp3 hg.size
  have hle34 := Lib.hid hg.size
  clear hs hg ho
  go_wp2_with fail
  refine (drawVector_any m q (by omega) q1 (by omega) S4.out).mono ?_
  rintro e w5 ⟨v2, ys, rfl, hy, ho, hs, hg⟩
  have S5 := Lib.hid hs
  have O5 := Lib.hid ho
  have O45 := Lib.hid (own_gb O4.out hg hp3)
  have B5 := Lib.hid (B4.out.trans (below_gb2 hg (Nat.le_refl _) (Nat.le_of_lt hp4)))
  have hp5 := Nat.lt_of_lt_of_le hp4 hg.size
  have hsz34 : w3.heap.size ≤ w5.heap.size := Nat.le_trans hle34.out hg.size
  clear hs hg ho
  go_wp2_with fail
  refine (bend_any q hp3 hsz34 O45.out (by omega) (by omega) S5.out).mono ?_
  rintro e w6 ⟨v3, zs, rfl, hz, ho, hf⟩
  have O6 := Lib.hid ho
  have F6 := Lib.hid hf
  have B6 : Hid (Below P w w6) := B5.out.trans ⟨hf.1, hf.2.1, hf.2.2.1, hf.2.2.2.1, fun k hk => hf.2.2.2.2 k (by omega) (by omega) (fun e => by have := (O45.out.out.lt k e).1; omega)⟩
  have O56 : Hid (OwnI w4.heap.size w6 v2 ys) := by
    have O5' := O5.out
    obtain ⟨hx, ⟨rfl, hn⟩ | ⟨g, cap, cur, rfl, hB, hcur, r⟩⟩ := O5'
    · exact ⟨hx, .inl ⟨rfl, hn⟩⟩
    · refine ⟨hx, .inr ⟨g, cap, cur, rfl, hB, ?_, r⟩⟩
      have hg5 := (O5.out.out.lt g rfl).2
      rw [hf.2.2.2.2 g hg5 (by omega) (fun e => by have := (O4.out.out.lt g e).2; omega)]; exact hcur
  clear ho hf
  go_wp2_with fail
  refine bodyPost_ret (v := .tuple #[v3, v2, .int .i64 q]) (by simp [results, Try.results30, go_sem]) rfl ⟨v3, v2, zs, ys, q, rfl, O6.out.at (by omega), O56.out.at (by omega), q0, q1, ?_⟩
  rw [HP.out]; exact B6.out
end Go.Proofs.Ytlikfgmhhjpggaa
