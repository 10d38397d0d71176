/-
  The contract of powers, as the program makes them.
-/
import Derived.Test.YtlikfgmhhjpggaaFldE
namespace Go.Proofs.Ytlikfgmhhjpggaa
open Go.RowKit
set_option linter.unusedVariables false

theorem pair_new2 (w : World) (g : Nat) (a p : Int) (u v : Value) (t : TypeId) : PairAt (((w.setCell ⟨g, 0, none⟩ u).setCell ⟨g, 1, none⟩ v).alloc (.cells #[.int .i64 a, .int .i64 p] t)) w.heap.size a p := by
  have := PairAt.new ((w.setCell ⟨g, 0, none⟩ u).setCell ⟨g, 1, none⟩ v) a p t
  simpa using this
theorem start4 (w : World) (a b p : Int) (t : TypeId) :
    PairAt ((((w.alloc (.cells #[.int .i64 a, .int .i64 p] t)).alloc (.cells #[.int .i64 0, .int .i64 0] t)).alloc (.cells #[.int .i64 1, .int .i64 p] t)).alloc (.cells #[.int .i64 b, .int .i64 p] t)) (w.heap.size + 1) 0 0 ∧
    PairAt ((((w.alloc (.cells #[.int .i64 a, .int .i64 p] t)).alloc (.cells #[.int .i64 0, .int .i64 0] t)).alloc (.cells #[.int .i64 1, .int .i64 p] t)).alloc (.cells #[.int .i64 b, .int .i64 p] t)) (w.heap.size + 1 + 1) 1 p ∧
    PairAt ((((w.alloc (.cells #[.int .i64 a, .int .i64 p] t)).alloc (.cells #[.int .i64 0, .int .i64 0] t)).alloc (.cells #[.int .i64 1, .int .i64 p] t)).alloc (.cells #[.int .i64 b, .int .i64 p] t)) (w.heap.size + 1 + 1 + 1) b p ∧
    Below w.heap.size w ((((w.alloc (.cells #[.int .i64 a, .int .i64 p] t)).alloc (.cells #[.int .i64 0, .int .i64 0] t)).alloc (.cells #[.int .i64 1, .int .i64 p] t)).alloc (.cells #[.int .i64 b, .int .i64 p] t)) := by
  have e1 : (w.alloc (.cells #[.int .i64 a, .int .i64 p] t)).heap.size = w.heap.size + 1 := by simp
  have e2 : ((w.alloc (.cells #[.int .i64 a, .int .i64 p] t)).alloc (.cells #[.int .i64 0, .int .i64 0] t)).heap.size = w.heap.size + 1 + 1 := by simp
  have e3 : (((w.alloc (.cells #[.int .i64 a, .int .i64 p] t)).alloc (.cells #[.int .i64 0, .int .i64 0] t)).alloc (.cells #[.int .i64 1, .int .i64 p] t)).heap.size = w.heap.size + 1 + 1 + 1 := by simp
  refine ⟨?_, ?_, ?_, ?_⟩
  · refine PairAt.old (PairAt.old ?_ (by rw [e2]; omega) _) (by rw [e3]; omega) _
    rw [← e1]; exact PairAt.new _ _ _ _
  · refine PairAt.old ?_ (by rw [e3]; omega) _
    rw [← e2]; exact PairAt.new _ _ _ _
  · rw [← e3]; exact PairAt.new _ _ _ _
  · exact (((((Below.refl _ _).alloc (Nat.le_refl _) _).alloc (by rw [e1]; omega) _).alloc (by rw [e2]; omega) _).alloc (by rw [e3]; omega) _)
set_option maxRecDepth 100000 in
set_option maxHeartbeats 1600000 in
theorem implPow_any (a n p : Int) (w : World) (h0 : 2 ≤ p) (h1 : p ≤ 251) (a0 : 0 ≤ a) (a1 : a < p) (n0 : 0 ≤ n) (n1 : n ≤ 1000000000000) :
    Calls Try.prog 62 #[.agg #[.int .i64 a, .int .i64 p], .int .i64 n] w fun e w' => e = .returned (.agg #[.int .i64 (pw a p n.toNat), .int .i64 p]) ∧ Below w.heap.size w w' := by
  have kz : ¬ p = 0 := by omega
  go_enter Try.func62, Try.ntmps62
  go_wp2
  go_loopw [1, 6] (fun i s wr => ∃ (m x o : Int) (g : Nat), 0 ≤ x ∧ x < p ∧ 0 ≤ m ∧ m ≤ 1000000000000 ∧ 0 ≤ o ∧ o < p ∧ i = .int .i64 m ∧ s = .pointer (some ⟨g, 0, none⟩) ∧ Hid (o * x ^ m.toNat % p = pw a p n.toNat) ∧ PairAt wr (w.heap.size + 1) 0 0 ∧ PairAt wr (w.heap.size + 1 + 1) o p ∧ PairAt wr g x p ∧ Below w.heap.size w wr ∧ w.heap.size + 1 + 1 < g ∧ g < wr.heap.size) (fun i _ _ => (intOf i).toNat)
  case atStart =>
    obtain ⟨s0, s1, s2, s3⟩ := start4 w a a p 54
    exact ⟨n, a, 1, _, a0, a1, n0, n1, by omega, by omega, rfl, rfl, by show _ = _; rw [Int.one_mul]; rfl, s0, s1, s2, s3, by omega, by simp⟩
  case round =>
    obtain ⟨m, x, o, g, x0, x1, m0, m1, o0, o1, rfl, rfl, HI, P0, P1, P2, hb, hg, hs⟩ := hrel
    have Q0 := Lib.hid P0
    have Q1 := Lib.hid P1
    have Q2 := Lib.hid P2
    have HB := Lib.hid hb
    obtain ⟨c0, c1, f0, f1⟩ := P0
    obtain ⟨c2, c3, f2, f3⟩ := P1
    obtain ⟨c4, c5, f4, f5⟩ := P2
    have hne : ¬ g = w.heap.size + 1 + 1 := by omega
    have HX := Lib.hid (rem_bd (x * x) h0)
    have HO := Lib.hid (rem_bd (o * x) h0)
    clear hb
    by_cases hm : 0 < m
    · by_cases hodd : m % 2 = 1
      · have HN : Hid (o * x % p * (x * x % p) ^ (m / 2).toNat % p = pw a p n.toNat) := by
          show _ = _; rw [toNat_half m0, sq_odd _ _ _ _ (by omega)]; exact HI.out
        go_wp2_with fail
        refine (times_any o x p _ h0 h1 o0 o1 x0 x1).mono ?_
        rintro e w1 ⟨rfl, hb1⟩
        have T0 := Lib.hid (Q0.out.on hb1 (by omega))
        have T1 := Lib.hid ((Q1.out.on hb1 (by omega)).same (o * x % p) p)
        have T2 := Lib.hid ((Q2.out.on hb1 hs).other (by omega : w.heap.size + 1 + 1 ≠ g) (.int .i64 (o * x % p)) (.int .i64 p))
        have T0' := Lib.hid (T0.out.other (by omega : w.heap.size + 1 + 1 ≠ w.heap.size + 1) (.int .i64 (o * x % p)) (.int .i64 p))
        have HB1 := Lib.hid (below_two (HB.out.trans (hb1.mono HB.out.size)) (by omega : w.heap.size ≤ w.heap.size + 1 + 1) (.int .i64 (o * x % p)) (.int .i64 p))
        have U1 := Lib.hid (Q1.out.on hb1 (by omega))
        have hs1 := Nat.lt_of_lt_of_le hs hb1.size
        obtain ⟨d2, d3, g2, g3⟩ := U1.out
        obtain ⟨d4, d5, g4, g5⟩ := T2.out
        clear c0 c1 c2 c3 c4 c5 f0 f1 f2 f3 f4 f5 hb1
        go_wp2_with fail
        refine (times_any x x p _ h0 h1 x0 x1 x0 x1).mono ?_
        rintro e w2 ⟨rfl, hb2⟩
        have V0 := Lib.hid (T0'.out.on hb2 (by first | omega | (simp; omega)))
        have V1 := Lib.hid (T1.out.on hb2 (by first | omega | (simp; omega)))
        have V2 := Lib.hid (T2.out.on hb2 (by simpa using hs1))
        have HB2 := Lib.hid (HB1.out.trans (hb2.mono HB1.out.size))
        have hs2 : g < w2.heap.size := Nat.lt_of_lt_of_le (by simpa using hs1) hb2.size
        obtain ⟨e4, e5, k4, k5⟩ := V2.out
        clear d2 d3 g2 g3 d4 d5 g4 g5 hb2
        go_wp2
        go_roundw
        case rel => exact ⟨m / 2, x * x % p, o * x % p, _, HX.out.1, HX.out.2, by omega, by omega, HO.out.1, HO.out.2, rfl, rfl, HN, (V0.out.other (by omega) _ _).old (by simp; omega) _, (V1.out.other (by omega) _ _).old (by simp; omega) _, pair_new2 _ _ _ _ _ _ _, (below_two HB2.out (by omega) _ _).alloc (by simp; omega) _, by omega, by simp⟩
        case measure => simp [intOf]; omega
      · have HN : Hid (o * (x * x % p) ^ (m / 2).toNat % p = pw a p n.toNat) := by
          show _ = _; rw [toNat_half m0, sq_even _ _ _ _ (by omega)]; exact HI.out
        have hev : m % 2 = 0 := by omega
        have T0' := Q0
        have T1 := Q1
        have T2 := Q2
        have HB1 := HB
        have hs1 := hs
        clear hodd Q0 Q1 Q2 HB
        go_wp2_with fail
        refine (times_any x x p _ h0 h1 x0 x1 x0 x1).mono ?_
        rintro e w2 ⟨rfl, hb2⟩
        have V0 := Lib.hid (T0'.out.on hb2 (by first | omega | (simp; omega)))
        have V1 := Lib.hid (T1.out.on hb2 (by first | omega | (simp; omega)))
        have V2 := Lib.hid (T2.out.on hb2 (by simpa using hs1))
        have HB2 := Lib.hid (HB1.out.trans (hb2.mono HB1.out.size))
        have hs2 : g < w2.heap.size := Nat.lt_of_lt_of_le (by simpa using hs1) hb2.size
        obtain ⟨e4, e5, k4, k5⟩ := V2.out
        clear c0 c1 c2 c3 c4 c5 f0 f1 f2 f3 f4 f5 hb2
        go_wp2
        go_roundw
        case rel => exact ⟨m / 2, x * x % p, o, _, HX.out.1, HX.out.2, by omega, by omega, o0, o1, rfl, rfl, HN, (V0.out.other (by omega) _ _).old (by simp; omega) _, (V1.out.other (by omega) _ _).old (by simp; omega) _, pair_new2 _ _ _ _ _ _ _, (below_two HB2.out (by omega) _ _).alloc (by simp; omega) _, by omega, by simp⟩
        case measure => simp [intOf]; omega
    · obtain rfl : m = 0 := by omega
      have HE : Hid (o = pw a p n.toNat) := by
        have := HI.out
        rw [show (0 : Int).toNat = 0 by rfl, Int.pow_zero, Int.mul_one, Int.emod_eq_of_lt o0 o1] at this
        exact this
      go_wp2
      refine bodyPost_ret (v := .agg #[.int .i64 o, .int .i64 p]) (by simp [results, Try.results62, go_sem, *]) rfl ⟨by rw [HE.out], ?_⟩
      exact below_two HB.out (by omega) _ _
end Go.Proofs.Ytlikfgmhhjpggaa
