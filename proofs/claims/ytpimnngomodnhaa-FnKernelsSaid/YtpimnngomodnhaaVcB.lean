/-
  Contracts of the model's sums, multiples and products of vectors; both lists have the same length, of at most 64 numbers modulo the prime.
-/
import Derived.Test.YtpimnngomodnhaaVecA
import Derived.Test.YtpimnngomodnhaaPB
import Derived.Deep.RegionHeld3
import Derived.Deep.AppendLies
import Derived.Laws.AppendOwn
namespace Go.Proofs.Ytpimnngomodnhaa
open Go.RowKit
set_option linter.unusedVariables false

/-- xs plus a multiple of ys. -/
def addC (p c : Int) (xs ys : List Int) : List Int := List.zipWith (fun x y => (x + c * y) % p) xs ys
theorem addC_len {p c : Int} {xs ys : List Int} (h : xs.length = ys.length) : (addC p c xs ys).length = xs.length := by unfold addC; rw [List.length_zipWith]; omega
theorem addC_next {p c : Int} {xs ys : List Int} (h : xs.length = ys.length) (k : Nat) (hk : k < xs.length) : (addC p c xs ys).take (k + 1) = (addC p c xs ys).take k ++ [(xs[k] + c * (ys[k]'(by omega))) % p] := by
  rw [List.take_succ_eq_append_getElem (by rw [addC_len h]; exact hk)]
  unfold addC
  rw [List.getElem_zipWith]
theorem pushIV {B : Nat} {w : World} {v : Value} {zs : List Int} {z : Int} (h : w.ownsRow B 2 1 v (zs.length + 1) (iv zs ++ [.int .i64 z])) : OwnI B w v (zs ++ [z]) := by
  unfold OwnI iv at *; rw [List.length_append, List.map_append]; exact h
theorem madeIV (w : World) (B : Nat) (hB : B ≤ w.heap.size) : OwnI B (w.alloc (.cells #[] 2)) (.slice (some ⟨w.heap.size, 0, none⟩) 0 0) [] :=
  World.ownsRow_made w #[] 0 hB (by unfold maxLen; omega) rfl
theorem nilI (w : World) (B : Nat) : OwnI B w (.slice none 0 0) [] := World.ownsRow_nil w B 2 1
theorem below_pushIV {B0 B : Nat} {w0 w w1 : World} {v : Value} {zs : List Int} {o : Obj} (hb : Below B0 w0 w) (hle : B0 ≤ B) (hB : B ≤ w.heap.size) (h : OwnI B w v zs) (hg : (w.alloc o).grownBy w1 v.ownBlock) : Below B0 w0 w1 :=
  (hb.alloc (by omega) o).grown hg (by simp; omega) (fun k hk => by have := (h.out.lt k hk).1; omega)
theorem row_intV (w : World) (z : Int) (t : TypeId) : ∀ (j : Nat) (u : Value), [Value.int .i64 z][j]? = some u → (w.alloc (.cells #[.int .i64 z] t)).cell? ((⟨w.heap.size, 0, none⟩ : Addr).add j) = some u := by
  intro j u hu
  have hj : j = 0 := by
    have := (List.getElem?_eq_some_iff.1 hu).1
    simpa using this
  subst hj
  have e : (⟨w.heap.size, 0, none⟩ : Addr).add 0 = ⟨w.heap.size, 0, none⟩ := by simp [Addr.add]
  rw [e, World.cell?_alloc_at _ _ _ _ rfl]
  exact hu
theorem own_nv {B : Nat} {w : World} {v : Value} {zs : List Int} (h : OwnI B w v zs) {b : Nat} (hb : b < B) : v.ownBlock ≠ some b := by
  intro e
  have := (h.out.lt b e).1
  omega
theorem addc_bd {x y c p : Int} (hp : p ≤ 251) (x0 : 0 ≤ x) (x1 : x ≤ p - 1) (y0 : 0 ≤ y) (y1 : y ≤ p - 1) (c0 : 0 ≤ c) (c1 : c ≤ 250) : 0 ≤ c * y ∧ c * y ≤ 62500 ∧ 0 ≤ x + c * y ∧ x + c * y ≤ 62750 := by
  have h := Int.mul_le_mul c1 (show y ≤ 250 by omega) y0 (by omega)
  have h2 := Int.mul_nonneg c0 y0
  omega
theorem specAdd_nil (c p : Int) (a1 a2 : Option Addr) (c1 c2 : Nat) (w : World) :
    Calls Try.prog 61 #[.slice a1 0 c1, .slice a2 0 c2, .int .i64 c, .int .i64 p] w fun e w' => RetI w [] e w' := by
  go_enter Try.func61, Try.ntmps61
  go_wp2
  refine wp_loop_rounds 1 ?_
  rw [rounds_succ]
  go_wp2
  go_ret
  exact ⟨_, rfl, madeIV _ _ (Nat.le_refl _), (Below.refl _ _).alloc (Nat.le_refl _) _⟩
set_option maxRecDepth 100000 in
set_option maxHeartbeats 3200000 in
theorem specAdd_some (c p : Int) (b1 o1 c1 b2 o2 c2 : Nat) (xs ys : List Int) (w : World) (p0 : 2 ≤ p) (p1 : p ≤ 251) (cc0 : 0 ≤ c) (cc1 : c ≤ 250) (hl : xs.length = ys.length) (h64 : xs.length ≤ 64) (hb1 : b1 < w.heap.size) (hb2 : b2 < w.heap.size)
    (h1 : ∀ j (h : j < xs.length), w.cell? ⟨b1, o1 + j, none⟩ = some (.int .i64 xs[j])) (h2 : ∀ j (h : j < ys.length), w.cell? ⟨b2, o2 + j, none⟩ = some (.int .i64 ys[j])) (hx : NumOk p xs) (hy : NumOk p ys) :
    Calls Try.prog 61 #[.slice (some ⟨b1, o1, none⟩) xs.length c1, .slice (some ⟨b2, o2, none⟩) ys.length c2, .int .i64 c, .int .i64 p] w fun e w' => RetI w (addC p c xs ys) e w' := by
  obtain ⟨i0, hi, hz0, hz1, hz2⟩ := info_parts info2
  have H1 := Lib.hid h1
  have H2 := Lib.hid h2
  have HX := Lib.hid hx
  have HY := Lib.hid hy
  have HL := Lib.hid hl
  have kz : ¬ p = 0 := by omega
  clear h1 h2 hx hy hl
  go_enter Try.func61, Try.ntmps61
  go_wp2
  go_loopw [9, 10] (fun v i wr => ∃ k : Nat, k ≤ xs.length ∧ i = .int .i64 (k : Int) ∧ OwnI w.heap.size wr v ((addC p c xs ys).take k) ∧ Below w.heap.size w wr) (fun _ i _ => xs.length - (intOf i).toNat)
  case atStart => exact ⟨0, Nat.zero_le _, rfl, by rw [List.take_zero]; exact madeIV _ _ (Nat.le_refl _), (Below.refl _ _).alloc (Nat.le_refl _) _⟩
  case round =>
    obtain ⟨k, hk, rfl, hown, hbw⟩ := hrel
    by_cases hlt : k < xs.length
    · have hlt2 : k < ys.length := by have := HL.out; omega
      have hc1 : wr.cell? ⟨b1, o1 + k, none⟩ = some (.int .i64 xs[k]) := (hbw.cell (p := ⟨b1, o1 + k, none⟩) hb1).trans (H1.out k hlt)
      have hc2 : wr.cell? ⟨b2, o2 + k, none⟩ = some (.int .i64 ys[k]) := (hbw.cell (p := ⟨b2, o2 + k, none⟩) hb2).trans (H2.out k hlt2)
      have HN := Lib.hid (addC_next (p := p) (c := c) HL.out k hlt)
      obtain ⟨x0, x1⟩ := HX.out k hlt
      obtain ⟨y0, y1⟩ := HY.out k hlt2
      obtain ⟨x, hx⟩ : ∃ x, xs[k] = x := ⟨_, rfl⟩
      obtain ⟨y, hy⟩ : ∃ y, ys[k] = y := ⟨_, rfl⟩
      rw [hx] at hc1 x0 x1 HN
      rw [hy] at hc2 y0 y1 HN
      clear hx hy
      obtain ⟨m0, m1, m2, m3⟩ := addc_bd p1 x0 x1 y0 y1 cc0 cc1
      have i0' : 0 ≤ (k : Int) := by omega
      have i1 : (k : Int) < xs.length := by omega
      have i2 : (k : Int) < ys.length := by omega
      have w1 : IntKind.i64.wrap (c * y) = c * y := IntWalk.i64_in _ (by omega)
      have w2 : IntKind.i64.wrap (x + c * y) = x + c * y := IntWalk.i64_in _ (by omega)
      have w3 : (x + c * y).tmod p = (x + c * y) % p := Int.tmod_eq_emod_of_nonneg m2
      have lg := own_nv hown hb1
      have lg2 := own_nv hown hb2
      have hlen : ((addC p c xs ys).take k).length + 1 ≤ 65 := by rw [List.length_take]; omega
      have hw : b1 < wr.heap.size := Nat.lt_of_lt_of_le hb1 hbw.size
      have hw2 : b2 < wr.heap.size := Nat.lt_of_lt_of_le hb2 hbw.size
      obtain ⟨zs, hzs⟩ : ∃ zs, (addC p c xs ys).take k = zs := ⟨_, rfl⟩
      rw [hzs] at hown hlen HN
      clear hzs
      go_wp2_with fail
      go_region_held3 (fun w' => w'.cell? ⟨b1, o1 + k, none⟩ = some (.int .i64 x) ∧ w'.cell? ⟨b2, o2 + k, none⟩ = some (.int .i64 y))
        (first
          | go_keep
          | (go_split_ands
             refine ⟨?_, ?_⟩
             · (rw [hgrow.cell_far _ (by simp; omega) (Ne.symm lg)]; assumption)
             · (rw [hgrow.cell_far _ (by simp; omega) (Ne.symm lg2)]; assumption)))
        ((refine step_append_lies _ (by rfl) _ _ _ (by rfl) w.heap.size 2 i0 _ 1 8 Try.underlying24 hi hz0 hz1 hz2 rfl (by omega) _ zs.length (iv zs) (by rfl) ((hown.out.alloc _).drew)
            ⟨wr.heap.size, 0, none⟩ 1 1 [.int .i64 ((x + c * y) % p)] (by rfl) (by rfl) (World.news_of_block (cs := #[.int .i64 ((x + c * y) % p)]) (t := 2) (fr := (0, 0)) (heap_alloc_new wr _)) (by simp [Value.oneCell'])
            (by omega) (by unfold maxLen; omega) (by omega) (by have := hbw.size; simp; omega) (wr.heap.size + 1) (by simp) ?_; intro gg cap w1 hown1 hgrow hat hlt))
      have hO := pushIV hown1
      rw [← HN.out] at hO
      have hB2 : Below w.heap.size w w1 := ((hbw.alloc hbw.size _).drew).grown hgrow (by have := hbw.size; simp; omega) (fun k hk => by have := (hown.out.lt k hk).1; omega)
      clear hown1 hgrow hown hbw HN hat hc1 hc2
      go_wp2
      go_roundw
      case rel => exact ⟨k + 1, by omega, by go_num, hO, hB2⟩
      case measure => simp [intOf]; omega
    · obtain rfl : k = xs.length := by omega
      have e : (addC p c xs ys).take xs.length = addC p c xs ys := List.take_of_length_le (by rw [addC_len HL.out]; exact Nat.le_refl _)
      rw [e] at hown
      have HO := Lib.hid hown
      have HB := Lib.hid hbw
      clear hown hbw e
      go_wp2
      go_ret
      exact ⟨_, rfl, HO.out, HB.out⟩
theorem specAdd_any {c p : Int} {u v : Value} {xs ys : List Int} {w : World} (p0 : 2 ≤ p) (p1 : p ≤ 251) (cc0 : 0 ≤ c) (cc1 : c ≤ 250) (hu : IntsAt w u xs) (hv : IntsAt w v ys) (hl : xs.length = ys.length) (h64 : xs.length ≤ 64) (hx : NumOk p xs) (hy : NumOk p ys) :
    Calls Try.prog 61 #[u, v, .int .i64 c, .int .i64 p] w fun e w' => RetI w (addC p c xs ys) e w' := by
  obtain ⟨a1, c1, rfl, _, rfl | ⟨b1, o1, rfl, hb1, h1⟩⟩ := hu
  · obtain ⟨a2, c2, rfl, _, _⟩ := hv
    obtain rfl : ys = [] := List.eq_nil_of_length_eq_zero (by simpa using hl.symm)
    exact specAdd_nil c p a1 a2 c1 c2 w
  · obtain ⟨a2, c2, rfl, _, rfl | ⟨b2, o2, rfl, hb2, h2⟩⟩ := hv
    · obtain rfl : xs = [] := List.eq_nil_of_length_eq_zero (by simpa using hl)
      exact specAdd_nil c p _ a2 c1 c2 w
    · exact specAdd_some c p b1 o1 c1 b2 o2 c2 xs ys w p0 p1 cc0 cc1 hl h64 hb1 hb2 h1 h2 hx hy

/-! ### Multiples -/
def sclC (p c : Int) (xs : List Int) : List Int := xs.map fun x => c * x % p
theorem sclC_len (p c : Int) (xs : List Int) : (sclC p c xs).length = xs.length := by unfold sclC; rw [List.length_map]
theorem sclC_next {p c : Int} {xs : List Int} (k : Nat) (hk : k < xs.length) : (sclC p c xs).take (k + 1) = (sclC p c xs).take k ++ [c * xs[k] % p] := by
  rw [List.take_succ_eq_append_getElem (by rw [sclC_len]; exact hk)]
  unfold sclC
  rw [List.getElem_map]
theorem specScl_nil (c p : Int) (a1 : Option Addr) (c1 : Nat) (w : World) :
    Calls Try.prog 59 #[.slice a1 0 c1, .int .i64 c, .int .i64 p] w fun e w' => RetI w [] e w' := by
  go_enter Try.func59, Try.ntmps59
  go_wp2
  refine wp_loop_rounds 1 ?_
  rw [rounds_succ]
  go_wp2
  go_ret
  exact ⟨_, rfl, madeIV _ _ (Nat.le_refl _), (Below.refl _ _).alloc (Nat.le_refl _) _⟩
set_option maxRecDepth 100000 in
set_option maxHeartbeats 1600000 in
theorem specScl_some (c p : Int) (b1 o1 c1 : Nat) (xs : List Int) (w : World) (p0 : 2 ≤ p) (p1 : p ≤ 251) (cc0 : 0 ≤ c) (cc1 : c ≤ 250) (h64 : xs.length ≤ 64) (hb1 : b1 < w.heap.size)
    (h1 : ∀ j (h : j < xs.length), w.cell? ⟨b1, o1 + j, none⟩ = some (.int .i64 xs[j])) (hx : NumOk p xs) :
    Calls Try.prog 59 #[.slice (some ⟨b1, o1, none⟩) xs.length c1, .int .i64 c, .int .i64 p] w fun e w' => RetI w (sclC p c xs) e w' := by
  obtain ⟨i0, hi, hz0, hz1, hz2⟩ := info_parts info2
  have H1 := Lib.hid h1
  have HX := Lib.hid hx
  have kz : ¬ p = 0 := by omega
  clear h1 hx
  go_enter Try.func59, Try.ntmps59
  go_wp2
  go_loopw [7, 8] (fun v i wr => ∃ k : Nat, k ≤ xs.length ∧ i = .int .i64 (k : Int) ∧ OwnI w.heap.size wr v ((sclC p c xs).take k) ∧ Below w.heap.size w wr) (fun _ i _ => xs.length - (intOf i).toNat)
  case atStart => exact ⟨0, Nat.zero_le _, rfl, by rw [List.take_zero]; exact madeIV _ _ (Nat.le_refl _), (Below.refl _ _).alloc (Nat.le_refl _) _⟩
  case round =>
    obtain ⟨k, hk, rfl, hown, hbw⟩ := hrel
    by_cases hlt : k < xs.length
    · have hc1 : wr.cell? ⟨b1, o1 + k, none⟩ = some (.int .i64 xs[k]) := (hbw.cell (p := ⟨b1, o1 + k, none⟩) hb1).trans (H1.out k hlt)
      have HN := Lib.hid (sclC_next (p := p) (c := c) k hlt)
      obtain ⟨x0, x1⟩ := HX.out k hlt
      obtain ⟨x, hx⟩ : ∃ x, xs[k] = x := ⟨_, rfl⟩
      rw [hx] at hc1 x0 x1 HN
      clear hx
      obtain ⟨m0, m1, m2, m3⟩ := addc_bd (x := 0) p1 (by omega) (by omega) x0 x1 cc0 cc1
      have i0' : 0 ≤ (k : Int) := by omega
      have i1 : (k : Int) < xs.length := by omega
      have hlen : ((sclC p c xs).take k).length + 1 ≤ 65 := by rw [List.length_take]; omega
      have hsz := hbw.size
      obtain ⟨zs, hzs⟩ : ∃ zs, (sclC p c xs).take k = zs := ⟨_, rfl⟩
      rw [hzs] at hown hlen HN
      clear hzs m2 m3
      go_wp2_with (at_builtin; refine wpList_append_own _ rfl _ _ 24 rfl w.heap.size 2 i0 (.int .i64 0) 1 8 Try.underlying24 hi hz0 hz1 hz2 rfl (by decide) _ _ _ rfl (hown.out.alloc _) ⟨wr.heap.size, 0, none⟩ 1 1 [.int .i64 (c * x % p)] rfl rfl ?ah1 ?ah2 ?ah3 ?ah4 ?ah5 ?_)
      try (case ah1 => exact row_intV _ _ _)
      case ah2 => first | rfl | (intro u hu; simp at hu; subst hu; rfl)
      case ah3 => unfold maxLen; omega
      case ah4 => omega
      case ah5 => first | omega | (simp; omega)
      intro v2 w2 hown2 hgrow _
      have hO := pushIV hown2
      rw [← HN.out] at hO
      have hB2 := below_pushIV hbw (Nat.le_refl _) hsz hown hgrow
      clear hown2 hgrow hown hbw HN
      go_wp2
      go_roundw
      case rel => exact ⟨k + 1, by omega, by go_num, hO, hB2⟩
      case measure => simp [intOf]; omega
    · obtain rfl : k = xs.length := by omega
      have e : (sclC p c xs).take xs.length = sclC p c xs := List.take_of_length_le (by rw [sclC_len]; exact Nat.le_refl _)
      rw [e] at hown
      have HO := Lib.hid hown
      have HB := Lib.hid hbw
      clear hown hbw e
      go_wp2
      go_ret
      exact ⟨_, rfl, HO.out, HB.out⟩
theorem specScl_any {c p : Int} {u : Value} {xs : List Int} {w : World} (p0 : 2 ≤ p) (p1 : p ≤ 251) (cc0 : 0 ≤ c) (cc1 : c ≤ 250) (hu : IntsAt w u xs) (h64 : xs.length ≤ 64) (hx : NumOk p xs) :
    Calls Try.prog 59 #[u, .int .i64 c, .int .i64 p] w fun e w' => RetI w (sclC p c xs) e w' := by
  obtain ⟨a1, c1, rfl, _, rfl | ⟨b1, o1, rfl, hb1, h1⟩⟩ := hu
  · exact specScl_nil c p a1 c1 w
  · exact specScl_some c p b1 o1 c1 xs w p0 p1 cc0 cc1 h64 hb1 h1 hx

/-! ### Products -/
/-- The sum of the products of the first numbers. -/
def dotN : List Int → List Int → Int
  | x :: xs, y :: ys => x * y + dotN xs ys
  | _, _ => 0
theorem dotN_next : ∀ (xs ys : List Int) (k : Nat) (h1 : k < xs.length) (h2 : k < ys.length), dotN (xs.take (k + 1)) (ys.take (k + 1)) = dotN (xs.take k) (ys.take k) + xs[k] * ys[k]
  | x :: xs, y :: ys, 0, _, _ => by simp [dotN]
  | x :: xs, y :: ys, k + 1, h1, h2 => by
    have := dotN_next xs ys k (by simpa using h1) (by simpa using h2)
    simp only [List.take_succ_cons, dotN, List.getElem_cons_succ] at this ⊢
    rw [this]; omega
theorem dotN_bd {p : Int} (hp : p ≤ 251) : ∀ (xs ys : List Int), NumOk p xs → NumOk p ys → 0 ≤ dotN xs ys ∧ dotN xs ys ≤ 62500 * xs.length
  | [], _, _, _ => by simp [dotN]
  | _ :: _, [], _, _ => by simp [dotN]; omega
  | x :: xs, y :: ys, hx, hy => by
    have ih := dotN_bd hp xs ys (fun j h => hx (j + 1) (by simpa using h)) (fun j h => hy (j + 1) (by simpa using h))
    have h0 := hx 0 (by simp)
    have h1 := hy 0 (by simp)
    simp only [List.getElem_cons_zero] at h0 h1
    have := prod_bd hp h0.1 (by omega) h1.1 (by omega)
    simp only [dotN, List.length_cons]
    omega
theorem below_drewN2 {B : Nat} {a w : World} (h : Below B a w) (n : Nat) : Below B a (w.drewN n) := ⟨h.os, h.tape, h.output, h.size, h.block⟩
end Go.Proofs.Ytpimnngomodnhaa
