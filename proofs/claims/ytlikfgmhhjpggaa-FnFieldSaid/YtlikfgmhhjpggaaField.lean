/-
  The law of the field: whatever is drawn, inverses, powers, orders, generators and logarithms of the program fit together.
-/
import Derived.Test.YtlikfgmhhjpggaaDrawC
import Derived.Test.YtlikfgmhhjpggaaFldJ
import Derived.Test.YtlikfgmhhjpggaaFldK
namespace Go.Proofs.Ytlikfgmhhjpggaa
open Go.RowKit
set_option linter.unusedVariables false

/-! ### Orders divide -/
theorem ord_mod {p a : Int} {n N : Nat} (hp : 2 ≤ p) (h : IsOrd a p n) : pw a p N = pw a p (N % n) := by
  have e : a ^ N = (a ^ n) ^ (N / n) * a ^ (N % n) := by
    rw [← Int.pow_mul, ← Int.pow_add, Nat.div_add_mod]
  have h1 : a ^ n % p = 1 := h.2.1
  unfold pw
  rw [e, Int.mul_emod, ← pow_mod (a ^ n), h1, Int.one_pow, Int.emod_eq_of_lt (by omega : (0 : Int) ≤ 1) (by omega), Int.one_mul, Int.emod_emod]
theorem ord_dvd {p a : Int} {n N : Nat} (hp : 2 ≤ p) (h : IsOrd a p n) (hN : pw a p N = 1) : N % n = 0 := by
  rw [ord_mod hp h] at hN
  by_cases c : N % n = 0
  · exact c
  · exact absurd hN (h.2.2 (N % n) (by omega) (Nat.mod_lt _ (by have := h.1; omega)))
theorem ord_div {p a : Int} {n : Nat} (hp : IsPr p) (h : IsOrd a p n) (a0 : 1 ≤ a) (a1 : a < p) : (p - 1) % (n : Int) = 0 := by
  have h1 := hp.1
  have h2 := ord_dvd h1 h (fermat hp a0 a1)
  have : ((((p - 1).toNat % n : Nat)) : Int) = 0 := by rw [h2]; rfl
  rw [Int.natCast_emod, Int.toNat_of_nonneg (by omega)] at this
  exact this
theorem ord_unit {p : Int} {n : Nat} (hp : 2 ≤ p) (h : IsOrd 1 p n) : n = 1 := by
  by_cases c : n = 1
  · exact c
  · exact absurd (pw_one (by omega : (0 : Int) ≤ 1) (by omega)) (h.2.2 1 (by omega) (by have := h.1; omega))

/-! ### Draws -/
def RetAP (w : World) (e : Ending) (w' : World) : Prop := ∃ a p : Int, -2 ≤ a ∧ a ≤ 257 ∧ -2 ≤ p ∧ p ≤ 257 ∧ e = .returned (.tuple #[.int .i64 a, .int .i64 p]) ∧ Below w.heap.size w w'
theorem drawInverse_any (w : World) (a : Option Addr) (len cap : Nat) (h : Bytes w a len) :
    Calls Try.prog 19 #[.slice a len cap] w fun e w' => RetAP w e w' := by
  have H := Lib.hid h
  clear h
  go_enter Try.func19, Try.ntmps19
  go_wp2_with fail
  refine (from_any w a len cap).mono ?_
  rintro e w1 ⟨rfl, hs1, hb1, hp1⟩
  have S1 := Lib.hid (newSc H.out hs1 hb1 hp1)
  have B1 := Lib.hid hb1
  clear hs1 hb1
  go_wp2_with fail
  refine (bentPrime_any (by omega) S1.out).mono ?_
  rintro e w2 ⟨p, hp, rfl, hs, hg⟩
  obtain ⟨p0, p1⟩ := hp
  have S2 := Lib.hid hs
  have B2 := Lib.hid (B1.out.trans (below_gb2 hg (Nat.le_refl _) (Nat.le_of_lt hp1)))
  clear hs hg
  go_wp2_with fail
  refine (drawNumber_any p p0 p1 (by omega) S2.out).mono ?_
  rintro e w3 ⟨r, hr, rfl, hs, hg⟩
  obtain ⟨r0, r1⟩ := hr
  have B3 := Lib.hid (B2.out.trans (below_gb2 hg (Nat.le_refl _) B2.out.size))
  clear hs hg
  go_wp2_with fail
  go_ret2
  exact ⟨r, p, r0, r1, p0, p1, rfl, B3.out⟩
def RetABP (w : World) (e : Ending) (w' : World) : Prop := ∃ a b p : Int, -2 ≤ a ∧ a ≤ 257 ∧ -2 ≤ b ∧ b ≤ 257 ∧ -2 ≤ p ∧ p ≤ 257 ∧ e = .returned (.tuple #[.int .i64 a, .int .i64 b, .int .i64 p]) ∧ Below w.heap.size w w'
theorem drawLog_any (w : World) (a : Option Addr) (len cap : Nat) (h : Bytes w a len) :
    Calls Try.prog 24 #[.slice a len cap] w fun e w' => RetABP w e w' := by
  have H := Lib.hid h
  clear h
  go_enter Try.func24, Try.ntmps24
  go_wp2_with fail
  refine (from_any w a len cap).mono ?_
  rintro e w1 ⟨rfl, hs1, hb1, hp1⟩
  have S1 := Lib.hid (newSc H.out hs1 hb1 hp1)
  have B1 := Lib.hid hb1
  clear hs1 hb1
  go_wp2_with fail
  refine (bentPrime_any (by omega) S1.out).mono ?_
  rintro e w2 ⟨p, hp, rfl, hs, hg⟩
  obtain ⟨p0, p1⟩ := hp
  have S2 := Lib.hid hs
  have B2 := Lib.hid (B1.out.trans (below_gb2 hg (Nat.le_refl _) (Nat.le_of_lt hp1)))
  clear hs hg
  go_wp2_with fail
  refine (drawNumber_any p p0 p1 (by omega) S2.out).mono ?_
  rintro e w3 ⟨r, hr, rfl, hs, hg⟩
  obtain ⟨r0, r1⟩ := hr
  have S3 := Lib.hid hs
  have B3 := Lib.hid (B2.out.trans (below_gb2 hg (Nat.le_refl _) B2.out.size))
  clear hs hg
  go_wp2_with fail
  refine (drawNumber_any p p0 p1 (by omega) S3.out).mono ?_
  rintro e w4 ⟨s, hr, rfl, hs, hg⟩
  obtain ⟨s0, s1⟩ := hr
  have B4 := Lib.hid (B3.out.trans (below_gb2 hg (Nat.le_refl _) B3.out.size))
  clear hs hg
  go_wp2_with fail
  refine bodyPost_ret (v := .tuple #[.int .i64 r, .int .i64 s, .int .i64 p]) (by simp [results, Try.results24, go_sem]) rfl ⟨r, s, p, r0, r1, s0, s1, p0, p1, rfl, B4.out⟩

/-! ### The law -/
set_option maxRecDepth 100000 in
theorem field_long (a0 : Option Addr) (l0 c0 : Nat) (a1 : Option Addr) (l1 c1 : Nat) (w : World) (h : 1048576 < l0 ∨ 1048576 < l1) :
    Calls Try.prog 3 #[.slice a0 l0 c0, .slice a1 l1 c1] w fun e w' => e = .returned (.bool true) ∧ Below w.heap.size w w' := by
  by_cases h0 : 1048576 < l0
  · have H := Lib.hid h0
    clear h h0
    go_enter Try.func3, Try.ntmps3
    go_wp2_with fail
    refine (longB_yes _ _ _ _ H.out).mono ?_
    rintro e w1 ⟨rfl, rfl⟩
    go_wp2_with fail
    go_ret
    exact ⟨rfl, Below.refl _ _⟩
  · have H := Lib.hid (by omega : 1048576 < l1)
    have H0 := Lib.hid (by omega : l0 ≤ 1048576)
    clear h h0
    go_enter Try.func3, Try.ntmps3
    go_wp2_with fail
    refine (longB_no _ _ _ _ H0.out).mono ?_
    rintro e w1 ⟨rfl, rfl⟩
    go_wp2_with fail
    refine (longB_yes _ _ _ _ H.out).mono ?_
    rintro e w1 ⟨rfl, rfl⟩
    go_wp2_with fail
    go_ret
    exact ⟨rfl, Below.refl _ _⟩
set_option maxHeartbeats 4000000 in
set_option maxRecDepth 100000 in
theorem field_walk (a0 : Option Addr) (l0 c0 : Nat) (a1 : Option Addr) (l1 c1 : Nat) (w : World) (h0 : Bytes w a0 l0) (h1 : Bytes w a1 l1) :
    Calls Try.prog 3 #[.slice a0 l0 c0, .slice a1 l1 c1] w fun e w' => e = .returned (.bool true) ∧ Below w.heap.size w w' := by
  have H0 := Lib.hid h0
  have H1 := Lib.hid h1
  have z0 := h0.1
  have z1 := h1.1
  clear h0 h1
  go_enter Try.func3, Try.ntmps3
  go_wp2_with fail
  refine (longB_no _ _ _ _ z0).mono ?_
  rintro e w1 ⟨rfl, rfl⟩
  go_wp2_with fail
  refine (longB_no _ _ _ _ z1).mono ?_
  rintro e w1 ⟨rfl, rfl⟩
  go_wp2_with fail
  refine (drawInverse_any w a0 l0 c0 H0.out).mono ?_
  rintro e w1 ⟨a, p, ba0, ba1, bp0, bp1, rfl, hb1⟩
  have B1 := Lib.hid hb1
  clear hb1
  obtain ⟨x, one, hx⟩ := invRes_has p a
  have HX := Lib.hid hx
  go_wp2_with fail
  refine (implInverse_any _ HX.out).mono ?_
  rintro e w2 ⟨rfl, hb⟩
  have B2 := Lib.hid (B1.out.trans (hb.mono B1.out.size))
  clear hb
  obtain ⟨hu, hx⟩ := hx
  rcases hx with ⟨hc, rfl⟩ | ⟨rfl, hi⟩
  · obtain ⟨n, two, ho⟩ := ordRes_has p a
    have HO := Lib.hid ho
    have e1 : (one == 0) = false := by simpa using hc
    clear hu hc ho
    go_wp2_with fail
    refine (implOrder_any _ HO.out).mono ?_
    rintro e w3 ⟨rfl, hb⟩
    have B5 := Lib.hid (B2.out.trans (hb.mono B2.out.size))
    clear hb
    go_wp2_with fail
    refine (drawLog_any _ a1 l1 c1 (H1.out.on B5.out)).mono ?_
    rintro e w7 ⟨b, s, q, bb0, bb1, bs0, bs1, bq0, bq1, rfl, hb⟩
    have B7 := Lib.hid (B5.out.trans (hb.mono B5.out.size))
    clear hb
    obtain ⟨k, five, hk⟩ := logRes_has q b s
    have HK := Lib.hid hk
    go_wp2_with fail
    refine (implLog_any _ HK.out).mono ?_
    rintro e w8 ⟨rfl, hb⟩
    have B8 := Lib.hid (B7.out.trans (hb.mono B7.out.size))
    clear hb
    rcases hk with ⟨hc5, hl, rfl⟩ | ⟨hl, m, hm, hi5, rfl, rfl⟩ | ⟨hl, hn5, rfl, rfl⟩
    · have e5 : (five != 0) = true := by simpa using hc5
      clear hc5 hl
      go_wp2_with fail
      go_ret
      exact ⟨rfl, B8.out⟩
    · obtain ⟨hq, b0, b1, s0, s1⟩ := hl.good
      obtain ⟨g, hg⟩ := gen_has hq
      have hq0 := hq.1
      have hq1 := hq.2.1
      have HP5 : Hid (PowRes q s (m : Int) b 0) := .inr (.inr (.inr (.inr (.inl ⟨hq, by omega, s1, by omega, by omega, by rw [show ((m : Int)).toNat = m by omega]; exact hi5.1.symm, rfl⟩))))
      have HG : Hid (GenRes q g 0) := .inr ⟨hq, hg, rfl⟩
      obtain ⟨g0, g1, g2, _⟩ := hg
      have HO5 : Hid (OrdRes q g (q - 1) 0) := ⟨.inr (.inr (.inr ⟨hq, g0, g1, rfl⟩)), .inr ⟨rfl, (q - 1).toNat, by omega, g2, by omega⟩⟩
      have ebb : (b == b) = true := by simp
      have eqq : (q - 1 == q - 1) = true := by simp
      clear hq hl hi5 g2
      go_wp2_with fail
      refine (implPower_any _ HP5.out).mono ?_
      rintro e w9 ⟨rfl, hb⟩
      have B9 := Lib.hid (B8.out.trans (hb.mono B8.out.size))
      clear hb
      go_wp2_with fail
      refine (implGen_any _ HG.out).mono ?_
      rintro e w10 ⟨rfl, hb⟩
      have B10 := Lib.hid (B9.out.trans (hb.mono B9.out.size))
      clear hb
      go_wp2_with fail
      refine (implOrder_any _ HO5.out).mono ?_
      rintro e w11 ⟨rfl, hb⟩
      have B11 := Lib.hid (B10.out.trans (hb.mono B10.out.size))
      clear hb
      go_wp2_with fail
      go_ret
      exact ⟨rfl, B11.out⟩
    · clear hl hn5
      go_wp2_with fail
      go_ret
      exact ⟨rfl, B8.out⟩
  · obtain ⟨hp, q0, q1, ha⟩ := hu.good
    obtain ⟨n, hn, hn1⟩ := ord_has hp q0 q1
    have p0 := hp.1
    have p1 := hp.2.1
    have HP := Lib.hid hp
    have HO : Hid (OrdRes p a (n : Int) 0) := ⟨hu, .inr ⟨rfl, n, rfl, hn, hn1⟩⟩
    have n1 : (1 : Int) ≤ n := by have := hn.1; omega
    have HY : Hid (PowRes p a (n : Int) 1 0) := .inr (.inr (.inr (.inr (.inl ⟨hp, by omega, q1, by omega, by omega, by rw [show ((n : Int)).toNat = n by omega]; exact hn.2.1.symm, rfl⟩))))
    have HZ : Hid (PowRes p a ((n : Int) - 1) x 0) := .inr (.inr (.inr (.inr (.inl ⟨hp, by omega, q1, by omega, by omega, by rw [show ((n : Int) - 1).toNat = n - 1 by omega]; exact (ord_log p0 hn hi).1.symm, rfl⟩))))
    have x0 := inv_ne hi
    have x1 := hi.2.1
    have xa := hi.2.2
    obtain ⟨pb0, pb1⟩ := prod_bd p1 (by omega : 0 ≤ x) x1 (by omega : 0 ≤ a) q1
    have dv := ord_div hp hn q0 q1
    have HU : Hid (a = 1 → (n : Int) = 1) := fun e => by subst e; have := ord_unit p0 hn; omega
    clear hu hp hn ha hi
    go_wp2_with fail
    refine (implOrder_any _ HO.out).mono ?_
    rintro e w3 ⟨rfl, hb⟩
    have B3 := Lib.hid (B2.out.trans (hb.mono B2.out.size))
    clear hb
    go_wp2_with fail
    refine (implPower_any _ HY.out).mono ?_
    rintro e w4 ⟨rfl, hb⟩
    have B4 := Lib.hid (B3.out.trans (hb.mono B3.out.size))
    clear hb
    go_wp2_with fail
    refine (implPower_any _ HZ.out).mono ?_
    rintro e w5 ⟨rfl, hb⟩
    have B5 := Lib.hid (B4.out.trans (hb.mono B4.out.size))
    clear hb
    go_wp2_with fail
    refine (specVPy _ _ HP.out).mono ?_
    rintro e w6 ⟨rfl, rfl⟩
    have exx : (x != x) = false := by simp
    have hge : decide (x ≥ p) = false := by simp; omega
    by_cases hn2 : (n : Int) > 1
    · have ha1' : (a == 1) = false := beq_no (fun e => by have := HU.out e; omega)
      go_wp2_with fail
      refine (drawLog_any _ a1 l1 c1 (H1.out.on B5.out)).mono ?_
      rintro e w7 ⟨b, s, q, bb0, bb1, bs0, bs1, bq0, bq1, rfl, hb⟩
      have B7 := Lib.hid (B5.out.trans (hb.mono B5.out.size))
      clear hb
      obtain ⟨k, five, hk⟩ := logRes_has q b s
      have HK := Lib.hid hk
      go_wp2_with fail
      refine (implLog_any _ HK.out).mono ?_
      rintro e w8 ⟨rfl, hb⟩
      have B8 := Lib.hid (B7.out.trans (hb.mono B7.out.size))
      clear hb
      rcases hk with ⟨hc5, hl, rfl⟩ | ⟨hl, m, hm, hi5, rfl, rfl⟩ | ⟨hl, hn5, rfl, rfl⟩
      · have e5 : (five != 0) = true := by simpa using hc5
        clear hc5 hl
        go_wp2_with fail
        go_ret
        exact ⟨rfl, B8.out⟩
      · obtain ⟨hq, b0, b1, s0, s1⟩ := hl.good
        obtain ⟨g, hg⟩ := gen_has hq
        have hq0 := hq.1
        have hq1 := hq.2.1
        have HP5 : Hid (PowRes q s (m : Int) b 0) := .inr (.inr (.inr (.inr (.inl ⟨hq, by omega, s1, by omega, by omega, by rw [show ((m : Int)).toNat = m by omega]; exact hi5.1.symm, rfl⟩))))
        have HG : Hid (GenRes q g 0) := .inr ⟨hq, hg, rfl⟩
        obtain ⟨g0, g1, g2, _⟩ := hg
        have HO5 : Hid (OrdRes q g (q - 1) 0) := ⟨.inr (.inr (.inr ⟨hq, g0, g1, rfl⟩)), .inr ⟨rfl, (q - 1).toNat, by omega, g2, by omega⟩⟩
        have ebb : (b == b) = true := by simp
        have eqq : (q - 1 == q - 1) = true := by simp
        clear hq hl hi5 g2
        go_wp2_with fail
        refine (implPower_any _ HP5.out).mono ?_
        rintro e w9 ⟨rfl, hb⟩
        have B9 := Lib.hid (B8.out.trans (hb.mono B8.out.size))
        clear hb
        go_wp2_with fail
        refine (implGen_any _ HG.out).mono ?_
        rintro e w10 ⟨rfl, hb⟩
        have B10 := Lib.hid (B9.out.trans (hb.mono B9.out.size))
        clear hb
        go_wp2_with fail
        refine (implOrder_any _ HO5.out).mono ?_
        rintro e w11 ⟨rfl, hb⟩
        have B11 := Lib.hid (B10.out.trans (hb.mono B10.out.size))
        clear hb
        go_wp2_with fail
        go_ret
        exact ⟨rfl, B11.out⟩
      · clear hl hn5
        go_wp2_with fail
        go_ret
        exact ⟨rfl, B8.out⟩
    · have hgt : decide ((n : Int) > 1) = false := by simpa using hn2
      clear hn2
      go_wp2_with fail
      refine (drawLog_any _ a1 l1 c1 (H1.out.on B5.out)).mono ?_
      rintro e w7 ⟨b, s, q, bb0, bb1, bs0, bs1, bq0, bq1, rfl, hb⟩
      have B7 := Lib.hid (B5.out.trans (hb.mono B5.out.size))
      clear hb
      obtain ⟨k, five, hk⟩ := logRes_has q b s
      have HK := Lib.hid hk
      go_wp2_with fail
      refine (implLog_any _ HK.out).mono ?_
      rintro e w8 ⟨rfl, hb⟩
      have B8 := Lib.hid (B7.out.trans (hb.mono B7.out.size))
      clear hb
      rcases hk with ⟨hc5, hl, rfl⟩ | ⟨hl, m, hm, hi5, rfl, rfl⟩ | ⟨hl, hn5, rfl, rfl⟩
      · have e5 : (five != 0) = true := by simpa using hc5
        clear hc5 hl
        go_wp2_with fail
        go_ret
        exact ⟨rfl, B8.out⟩
      · obtain ⟨hq, b0, b1, s0, s1⟩ := hl.good
        obtain ⟨g, hg⟩ := gen_has hq
        have hq0 := hq.1
        have hq1 := hq.2.1
        have HP5 : Hid (PowRes q s (m : Int) b 0) := .inr (.inr (.inr (.inr (.inl ⟨hq, by omega, s1, by omega, by omega, by rw [show ((m : Int)).toNat = m by omega]; exact hi5.1.symm, rfl⟩))))
        have HG : Hid (GenRes q g 0) := .inr ⟨hq, hg, rfl⟩
        obtain ⟨g0, g1, g2, _⟩ := hg
        have HO5 : Hid (OrdRes q g (q - 1) 0) := ⟨.inr (.inr (.inr ⟨hq, g0, g1, rfl⟩)), .inr ⟨rfl, (q - 1).toNat, by omega, g2, by omega⟩⟩
        have ebb : (b == b) = true := by simp
        have eqq : (q - 1 == q - 1) = true := by simp
        clear hq hl hi5 g2
        go_wp2_with fail
        refine (implPower_any _ HP5.out).mono ?_
        rintro e w9 ⟨rfl, hb⟩
        have B9 := Lib.hid (B8.out.trans (hb.mono B8.out.size))
        clear hb
        go_wp2_with fail
        refine (implGen_any _ HG.out).mono ?_
        rintro e w10 ⟨rfl, hb⟩
        have B10 := Lib.hid (B9.out.trans (hb.mono B9.out.size))
        clear hb
        go_wp2_with fail
        refine (implOrder_any _ HO5.out).mono ?_
        rintro e w11 ⟨rfl, hb⟩
        have B11 := Lib.hid (B10.out.trans (hb.mono B10.out.size))
        clear hb
        go_wp2_with fail
        go_ret
        exact ⟨rfl, B11.out⟩
      · clear hl hn5
        go_wp2_with fail
        go_ret
        exact ⟨rfl, B8.out⟩
theorem field_of (a0 : Option Addr) (l0 c0 : Nat) (z0 : List Int) (a1 : Option Addr) (l1 c1 : Nat) (z1 : List Int) (w : World)
    (h0 : (a0 = none ∧ l0 = 0 ∧ c0 = 0 ∧ z0 = []) ∨ ∃ x, a0 = some x ∧ l0 ≤ c0 ∧ c0 ≤ maxLen ∧ z0.length = c0 ∧ (∀ i, i < z0.length → w.cell? (x.add i) = some (.int .u8 (z0.getD i 0))) ∧ ∀ n ∈ z0, (Lit.int .u8 n).wf = true)
    (h1 : (a1 = none ∧ l1 = 0 ∧ c1 = 0 ∧ z1 = []) ∨ ∃ x, a1 = some x ∧ l1 ≤ c1 ∧ c1 ≤ maxLen ∧ z1.length = c1 ∧ (∀ i, i < z1.length → w.cell? (x.add i) = some (.int .u8 (z1.getD i 0))) ∧ ∀ n ∈ z1, (Lit.int .u8 n).wf = true) :
    Calls Try.prog 3 #[.slice a0 l0 c0, .slice a1 l1 c1] w fun e w' => e = .returned (.bool true) ∧ Below w.heap.size w w' := by
  by_cases h : 1048576 < l0 ∨ 1048576 < l1
  · exact field_long a0 l0 c0 a1 l1 c1 w h
  · exact field_walk a0 l0 c0 a1 l1 c1 w (bytes_in (by omega) h0) (bytes_in (by omega) h1)
end Go.Proofs.Ytlikfgmhhjpggaa
