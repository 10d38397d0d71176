/-
  The law of the basics: roots, quotients, the number on a line, and texts that are read back.
-/
import Derived.Test.YtjgajnhefhgpkaaDoorBack
import Derived.Test.YtjgajnhefhgpkaaDoorArith
import Derived.Test.YtjgajnhefhgpkaaDoorNums
import Derived.Test.YtjgajnhefhgpkaaDoorLaw1
import Derived.Test.YtjgajnhefhgpkaaDoorReadListLaw
import Derived.Test.YtjgajnhefhgpkaaDoorEnv
namespace Go.Proofs.YtjgajnhefhgpkaaDoor
open Go.RowKit
set_option linter.unusedVariables false

theorem basics_long (a0 : Option Addr) (l0 c0 : Nat) (a1 : Option Addr) (l1 c1 : Nat) (w : World) (h : 1048576 < l0 ∨ 1048576 < l1) :
    Calls Tryd.prog 3 #[.slice a0 l0 c0, .slice a1 l1 c1] w fun e w' => e = .returned (.bool true) ∧ Below w.heap.size w w' := by
  have H := Lib.hid h
  clear h
  go_enter Tryd.func3, Tryd.ntmps3
  go_wp2_with fail
  refine (long_yes _ _ _ _ _ _ _ H.out).mono ?_
  rintro e w1 ⟨rfl, rfl⟩
  go_wp2_with fail
  go_ret
  exact ⟨rfl, Below.refl _ _⟩
theorem implRoot_is (n r : Int) (w : World) (hn : n ≤ 9223372036854775807) (h : rootI n = r) :
    Calls Tryd.prog 11 #[.int .i64 n] w fun e w' => e = .returned (.int .i64 r) ∧ w = w' := by
  rw [← h]; exact implRoot_any n w hn
theorem implDiv_is (a b q : Int) (w : World) (h : divI a b = q) :
    Calls Tryd.prog 12 #[.int .i64 a, .int .i64 b] w fun e w' => e = .returned (.int .i64 q) ∧ Below w.heap.size w w' := by
  rw [← h]; exact (implDiv_any a b w).mono fun e w' ⟨he, n, hn⟩ => ⟨he, by rw [hn]; exact below_drewN (Below.refl _ _) n⟩
theorem implBlend_is (x0 y0 x1 y1 x v : Int) (w : World) (h : blendI x0 y0 x1 y1 x = v) :
    Calls Tryd.prog 15 #[.int .i64 x0, .int .i64 y0, .int .i64 x1, .int .i64 y1, .int .i64 x] w fun e w' => e = .returned (.int .i64 v) ∧ Below w.heap.size w w' := by
  rw [← h]; exact (implBlend_any x0 y0 x1 y1 x w).mono fun e w' ⟨he, n, hn⟩ => ⟨he, by rw [hn]; exact below_drewN (Below.refl _ _) n⟩
theorem abs_is (n t : Int) (w : World) (h0 : -9223372036854775807 ≤ n) (h1 : n ≤ 9223372036854775807) (h : absI n = t) :
    Calls Tryd.prog 13 #[.int .i64 n] w fun e w' => e = .returned (.int .i64 t) ∧ w = w' := by
  rw [← h]; exact abs_any n w h0 h1
theorem root_two (a : Int) (h1 : a ≤ 3599780001) : ∃ r, rootI a = r ∧ ((a < 0 ∧ r = 0) ∨ (0 ≤ a ∧ 0 ≤ r ∧ r ≤ 60000 ∧ 0 ≤ r * r ∧ r * r ≤ a ∧ a < (r + 1) * (r + 1) ∧ (r + 1) * (r + 1) ≤ 3600120001)) := by
  refine ⟨_, rfl, ?_⟩
  by_cases h : a < 0
  · exact .inl ⟨h, rootI_neg a (by omega)⟩
  · obtain ⟨p, q, r, s⟩ := root_ok a (by omega) h1
    refine .inr ⟨by omega, p, q, Int.mul_nonneg p p, r, s, ?_⟩
    have := Int.mul_le_mul (show rootI a + 1 ≤ 60001 by omega) (show rootI a + 1 ≤ 60001 by omega) (by omega) (by omega : (0 : Int) ≤ 60001)
    omega
theorem quot_two (a b : Int) (h0 : -100000 ≤ a) (h1 : a ≤ 3599780001) (b0 : 1 ≤ b) (b1 : b ≤ 5000) :
    ∃ q t, divI a b = q ∧ divI (-a) b = -q ∧ absI (a - q * b) = t ∧ -30000000000000 ≤ q ∧ q ≤ 30000000000000 ∧ -30000000000000 ≤ q * b ∧ q * b ≤ 30000000000000 ∧ 0 ≤ t ∧ 2 * t ≤ b := by
  obtain ⟨p1, p2, p3, p4, p5⟩ := quot_ok a b h0 h1 b0 b1
  refine ⟨_, _, rfl, p3, rfl, p4, p5, by omega, by omega, ?_, ?_⟩ <;> (unfold absI; split <;> omega)
theorem blend_two (y z x : Int) (y0 : -2500 ≤ y) (y1 : y ≤ 2500) (z0 : -2500 ≤ z) (z1 : z ≤ 2500) (x0 : 0 ≤ x) (x1 : x ≤ 1000) :
    ∃ v, blendI 0 y 1000 z x = v ∧ ((y ≤ z ∧ y ≤ v ∧ v ≤ z) ∨ (z < y ∧ z ≤ v ∧ v ≤ y)) := by
  refine ⟨_, rfl, ?_⟩
  have m := blend_mid y z x y0 y1 z0 z1 x0 x1
  rcases Int.lt_or_le z y with h | h
  · exact .inr ⟨h, m.2 h⟩
  · exact .inl ⟨h, m.1 h⟩
theorem five_at (w : World) (a b c d e : Int) (u : TypeId) : IntsAt (w.alloc (.cells #[.int .i64 a, .int .i64 b, .int .i64 c, .int .i64 d, .int .i64 e] u)) (.slice (some ⟨w.heap.size, 0, none⟩) 5 5) [a, b, c, d, e] := by
  refine ⟨some ⟨w.heap.size, 0, none⟩, 5, rfl, by simp, .inr ⟨w.heap.size, 0, rfl, by simp, ?_⟩⟩
  intro j hj
  rw [World.cell?_alloc_at _ _ _ _ rfl]
  have hj' : j < 5 := by simpa using hj
  match j, hj' with
  | 0, _ => rfl
  | 1, _ => rfl
  | 2, _ => rfl
  | 3, _ => rfl
  | 4, _ => rfl
theorem five_fits (a b c d e : Int) (ha : -1000000000000 ≤ a ∧ a ≤ 1000000000000) (hb : -1000000000000 ≤ b ∧ b ≤ 1000000000000) (hc : -1000000000000 ≤ c ∧ c ≤ 1000000000000) (hd : -1000000000000 ≤ d ∧ d ≤ 1000000000000) (he : -1000000000000 ≤ e ∧ e ≤ 1000000000000) : Fits [a, b, c, d, e] := by
  refine ⟨fun z hz => ?_, by simp⟩
  simp only [List.mem_cons, List.not_mem_nil, or_false] at hz
  rcases hz with rfl | rfl | rfl | rfl | rfl <;> assumption
theorem mk_bytes (l : List UInt8) : (⟨l.toArray⟩ : ByteArray).data.toList = l := by simp
theorem itoa_len18 (n : Int) (h0 : -9223372036854775808 ≤ n) (h1 : n ≤ 9223372036854775807) : (⟨(Lib.itoa n).toArray⟩ : ByteArray).size ≤ 140737488355328 := by
  rw [size_mk]
  have := Lib.itoa_length_le n h0 h1
  omega
/-- The text of the list, read back. -/
theorem back_any (s : ByteArray) (zs : List Int) (w : World) {B : Nat} (hf : Fits zs) (h2 : 2 ≤ zs.length) (ht : IsTxt zs s.data.toList) (hE : Env B w) (hB : B ≤ w.heap.size) :
    Calls Tryd.prog 16 #[.string s] w fun e w' => ∃ v, e = .returned (.tuple #[v, .bool true]) ∧ OwnI w.heap.size w' v zs ∧ Below w.heap.size w w' := by
  have hj := txt_join hf h2 ht
  have hz := join_size hf hj
  refine (implReadList_any s w (by omega) hE hB).mono ?_
  rintro e w1 ⟨v, ys, ok, rfl, ho, hr, _, hb⟩
  rw [hj] at hr
  obtain ⟨rfl, rfl⟩ := back_rl hf h2 hr
  exact ⟨v, rfl, ho, hb⟩
theorem num_any (n : Int) (w : World) (h0 : -999999999999999999 ≤ n) (h1 : n ≤ 999999999999999999) {B : Nat} (hE : Env B w) (hB : B ≤ w.heap.size) :
    Calls Tryd.prog 18 #[.string ⟨(Lib.itoa n).toArray⟩] w fun e w' => e = .returned (.tuple #[.int .i64 n, .bool true]) ∧ Below w.heap.size w w' := by
  refine (implRead_err _ w (itoa_len18 n (by omega) (by omega)) (hE.up hB)).mono ?_
  rintro e w1 ⟨h, hb⟩
  exact ⟨num_back h0 h1 (mk_bytes _) h, hb⟩
set_option maxHeartbeats 2000000 in
set_option maxRecDepth 100000 in
theorem basics_walk (a0 : Option Addr) (l0 c0 : Nat) (a1 : Option Addr) (l1 c1 : Nat) (w : World) (h0 : Bytes w a0 l0) (h1 : Bytes w a1 l1) (hE : Env w.heap.size w) :
    Calls Tryd.prog 3 #[.slice a0 l0 c0, .slice a1 l1 c1] w fun e w' => e = .returned (.bool true) ∧ Below w.heap.size w w' := by
  have HE := Lib.hid hE
  have H0 := Lib.hid h0
  have H1 := Lib.hid h1
  have z0 := h0.1
  have z1 := h1.1
  clear hE h0 h1
  go_enter Tryd.func3, Tryd.ntmps3
  go_wp2_with fail
  refine (long_no _ _ _ _ _ _ _ z0 z1).mono ?_
  rintro e w1 ⟨rfl, rfl⟩
  go_wp2_with fail
  refine (numbers_any w a0 l0 c0 H0.out).mono ?_
  rintro e w1 ⟨a, b, ha0, ha1, hb0, hb1, rfl, hbl⟩
  have B1 := Lib.hid hbl
  clear hbl
  obtain ⟨r, hr, hrr⟩ := root_two a ha1
  have HR := Lib.hid hr
  obtain ⟨q, t, hq, hq2, ht, q0, q1, qb0, qb1, t0, t1⟩ := quot_two a b ha0 ha1 hb0 hb1
  have HQ := Lib.hid hq
  have HQ2 := Lib.hid hq2
  have HT := Lib.hid ht
  have eq1 : (-q != -q) = false := by simp
  clear hr hq hq2 ht
  go_wp2_with fail
  refine (implRoot_is a r w1 (by omega) HR.out).mono ?_
  rintro e w2 ⟨rfl, rfl⟩
  rcases hrr with ⟨ha, rfl⟩ | ⟨ha, r0, r1, rr0, rr1, rr2, rr3⟩
  all_goals
    go_wp2_with fail
    refine (implDiv_is a b q w1 HQ.out).mono ?_
    rintro e w2 ⟨rfl, hb2⟩
    have B2 := Lib.hid (B1.out.trans (hb2.mono B1.out.size))
    clear hb2
    go_wp2_with fail
    refine (abs_is (a - q * b) t _ (by omega) (by omega) HT.out).mono ?_
    rintro e w3 ⟨rfl, rfl⟩
    go_wp2_with fail
    refine (implDiv_is (-a) b (-q) _ HQ2.out).mono ?_
    rintro e w3 ⟨rfl, hb3⟩
    have B3 := Lib.hid (B2.out.trans (hb3.mono B2.out.size))
    clear hb3
    go_wp2_with fail
    refine (wide_any 0 1000 (by omega) (by omega) (by omega) (by omega) (H1.out.on B3.out)).mono ?_
    rintro e w3 ⟨x, x0, x1, rfl, rfl⟩
    go_wp2_with fail
    refine (wide_any 2 5000 (by omega) (by omega) (by omega) (by omega) (H1.out.on B3.out)).mono ?_
    rintro e w3 ⟨y, y0, y1, rfl, rfl⟩
    go_wp2_with fail
    refine (wide_any 4 5000 (by omega) (by omega) (by omega) (by omega) (H1.out.on B3.out)).mono ?_
    rintro e w3 ⟨z, z0, z1, rfl, rfl⟩
    obtain ⟨v, hv, hvv⟩ := blend_two (y - 2500) (z - 2500) x (by omega) (by omega) (by omega) (by omega) x0 (by omega)
    have HV := Lib.hid hv
    have HV0 := Lib.hid (blend_left (y - 2500) (z - 2500) (by omega) (by omega) (by omega) (by omega))
    have HV1 := Lib.hid (blend_right (y - 2500) (z - 2500) (by omega) (by omega) (by omega) (by omega))
    have ey : (y - 2500 != y - 2500) = false := by simp
    have ez : (z - 2500 != z - 2500) = false := by simp
    clear hv
    go_wp2_with fail
    refine (implBlend_is 0 (y - 2500) 1000 (z - 2500) x v _ HV.out).mono ?_
    rintro e w4 ⟨rfl, hb4⟩
    have B4 := Lib.hid (B3.out.trans (hb4.mono B3.out.size))
    clear hb4
    rcases hvv with ⟨hc, v0, v1⟩ | ⟨hc, v0, v1⟩
    all_goals
      go_wp2_with fail
      refine (implBlend_is 0 (y - 2500) 1000 (z - 2500) 0 (y - 2500) _ HV0.out).mono ?_
      rintro e w5 ⟨rfl, hb5⟩
      have B5 := Lib.hid (B4.out.trans (hb5.mono B4.out.size))
      clear hb5
      go_wp2_with fail
      refine (implBlend_is 0 (y - 2500) 1000 (z - 2500) 1000 (z - 2500) _ HV1.out).mono ?_
      rintro e w6 ⟨rfl, hb6⟩
      have B6 := Lib.hid (B5.out.trans (hb6.mono B5.out.size))
      clear hb6
      go_wp2_with fail
      obtain ⟨zs, hzs⟩ : ∃ zs, [a, b, x, y - 2500, z - 2500] = zs := ⟨_, rfl⟩
      have h5 := five_at w6 a b x (y - 2500) (z - 2500) 2
      have hf := five_fits a b x (y - 2500) (z - 2500) (by omega) (by omega) (by omega) (by omega) (by omega)
      have hl2 : 2 ≤ [a, b, x, y - 2500, z - 2500].length := by simp
      rw [hzs] at h5 hf hl2
      clear hzs
      have HF := Lib.hid hf
      clear hf
      have ba : Below w.heap.size w (w6.alloc (.cells #[.int .i64 a, .int .i64 b, .int .i64 x, .int .i64 (y - 2500), .int .i64 (z - 2500)] 2)) := B6.out.alloc B6.out.size _
      refine (implText_any h5 (HE.out.on ba).tab ba.size).mono ?_
      rintro e w7 ⟨s, rfl, htx, hb7⟩
      have I7 := Lib.hid (h5.on hb7)
      have T7 := Lib.hid htx
      have B7 := Lib.hid (ba.trans (hb7.mono ba.size))
      clear h5 htx ba hb7
      go_wp2_with fail
      refine (back_any s zs w7 HF.out hl2 T7.out (HE.out.on B7.out) B7.out.size).mono ?_
      rintro e w8 ⟨vb, rfl, ho, hb8⟩
      have I8 := Lib.hid (I7.out.on hb8)
      have O8 := Lib.hid ho
      have B8 := Lib.hid (B7.out.trans (hb8.mono B7.out.size))
      clear ho hb8
      go_wp2_with fail
      refine (implDec_any a w8 (by omega) (by omega) (HE.out.on B8.out).tab).mono ?_
      rintro e w9 ⟨rfl, hb9⟩
      have I9 := Lib.hid (I8.out.on hb9)
      have O9 := Lib.hid (O8.out.on hb9)
      have B9 := Lib.hid (B8.out.trans (hb9.mono B8.out.size))
      clear hb9
      go_wp2_with fail
      refine (num_any a w9 (by omega) (by omega) (HE.out.on B9.out) B9.out.size).mono ?_
      rintro e w10 ⟨rfl, hb10⟩
      have I10 := Lib.hid (I9.out.on hb10)
      have O10 := Lib.hid (O9.out.on hb10)
      have B10 := Lib.hid (B9.out.trans (hb10.mono B9.out.size))
      clear hb10
      go_wp2_with fail
      refine (sameI_any (O10.out.at (by have := HF.out.2; omega)) I10.out).mono ?_
      rintro e w11 ⟨rfl, n11, rfl⟩
      have ea : (a == a) = true := by simp
      go_wp2_with fail
      go_ret
      exact ⟨rfl, below_drewN B10.out n11⟩
theorem bytes_of {w : World} {a : Option Addr} {len cap : Nat} {zs : List Int} (hl : len ≤ 1048576)
    (h : (a = none ∧ len = 0 ∧ cap = 0 ∧ zs = []) ∨ ∃ x, a = some x ∧ len ≤ cap ∧ cap ≤ maxLen ∧ zs.length = cap ∧ (∀ i, i < zs.length → w.cell? (x.add i) = some (.int .u8 (zs.getD i 0))) ∧ ∀ n ∈ zs, (Lit.int .u8 n).wf = true) :
    Bytes w a len := by
  refine ⟨hl, ?_⟩
  rcases h with ⟨rfl, rfl, rfl, rfl⟩ | ⟨x, rfl, h1, _, h3, h4, h5⟩
  · exact .inl rfl
  · by_cases h0 : len = 0
    · exact .inl h0
    · right
      obtain ⟨b, off, spot⟩ := x
      have hc := h4 0 (by omega)
      have hspot : spot = none := by simpa [Addr.add] using World.cell?_spot hc
      subst hspot
      refine ⟨b, off, rfl, World.block_lt_of_cell? w _ (by simpa [Addr.add] using hc), fun j hj => ?_⟩
      have hj' : j < zs.length := by omega
      have := h4 j hj'
      have ea : (⟨b, off, none⟩ : Addr).add j = ⟨b, off + j, none⟩ := by
        unfold Addr.add; split <;> simp_all
      rw [ea] at this
      have hm : zs.getD j 0 ∈ zs := by simp [List.getD, List.getElem?_eq_getElem hj']
      have hw := h5 _ hm
      have m0 : IntKind.u8.min = 0 := by decide
      have m1 : IntKind.u8.max = 255 := by decide
      have hb : 0 ≤ zs.getD j 0 ∧ zs.getD j 0 ≤ 255 := by
        have hw' : IntKind.u8.min ≤ zs.getD j 0 ∧ zs.getD j 0 ≤ IntKind.u8.max := by simpa [Lit.wf] using hw
        rw [m0, m1] at hw'; exact hw'
      exact ⟨_, hb.1, hb.2, this⟩
theorem basics_of (a0 : Option Addr) (l0 c0 : Nat) (z0 : List Int) (a1 : Option Addr) (l1 c1 : Nat) (z1 : List Int) (w : World) (hL : laidMetH Tryd.prog Rows.fnBasicsRow.laid w)
    (h0 : (a0 = none ∧ l0 = 0 ∧ c0 = 0 ∧ z0 = []) ∨ ∃ x, a0 = some x ∧ l0 ≤ c0 ∧ c0 ≤ maxLen ∧ z0.length = c0 ∧ (∀ i, i < z0.length → w.cell? (x.add i) = some (.int .u8 (z0.getD i 0))) ∧ ∀ n ∈ z0, (Lit.int .u8 n).wf = true)
    (h1 : (a1 = none ∧ l1 = 0 ∧ c1 = 0 ∧ z1 = []) ∨ ∃ x, a1 = some x ∧ l1 ≤ c1 ∧ c1 ≤ maxLen ∧ z1.length = c1 ∧ (∀ i, i < z1.length → w.cell? (x.add i) = some (.int .u8 (z1.getD i 0))) ∧ ∀ n ∈ z1, (Lit.int .u8 n).wf = true) :
    Calls Tryd.prog 3 #[.slice a0 l0 c0, .slice a1 l1 c1] w fun e w' => e = .returned (.bool true) ∧ Below w.heap.size w w' := by
  rw [MakeChecks.laidMetH_plain _ _ _ (by kernel_rfl)] at hL
  by_cases h : 1048576 < l0 ∨ 1048576 < l1
  · exact basics_long a0 l0 c0 a1 l1 c1 w h
  · exact basics_walk a0 l0 c0 a1 l1 c1 w (bytes_of (by omega) h0) (bytes_of (by omega) h1) (env_mk (tab10_of hL) (syn_of (hL.tail.tail.tail.tail.tail)) (rng_of (hL.tail.tail.tail.tail)))
end Go.Proofs.YtjgajnhefhgpkaaDoor
