/-
  Contracts of StackRows of the program.
-/
import Derived.Test.YtabanmaaagmeaaaMxCb
import Derived.Deep.AppendLies
namespace Go.Proofs.Ytabanmaaagmeaaa
open Go.RowKit
open Lin
set_option linter.unusedVariables false
set_option linter.unusedSectionVars false

/-- Two matrices and what StackRows answers. -/
def StRes (p r c : Int) (xs : List Int) (q s d : Int) (ys : List Int) (P R C : Int) (zs : List Int) (k : Int) : Prop :=
  ∃ k0, FitK p r c xs q s d ys (c == d) k0 ∧ ((k0 ≠ 0 ∧ k = k0 ∧ P = 0 ∧ R = 0 ∧ C = 0 ∧ zs = []) ∨ (k0 = 0 ∧ 32 < r + s ∧ k = 5 ∧ P = 0 ∧ R = 0 ∧ C = 0 ∧ zs = []) ∨ (k0 = 0 ∧ r + s ≤ 32 ∧ k = 0 ∧ P = p ∧ R = r + s ∧ C = c ∧ zs = xs ++ ys))
theorem stRes_has (p r c : Int) (xs : List Int) (q s d : Int) (ys : List Int) : ∃ P R C zs k, StRes p r c xs q s d ys P R C zs k := by
  obtain ⟨k0, hk⟩ := fitK_has p r c xs q s d ys (c == d)
  by_cases h0 : k0 = 0
  · by_cases h1 : r + s ≤ 32
    · exact ⟨_, _, _, _, _, k0, hk, .inr (.inr ⟨h0, h1, rfl, rfl, rfl, rfl, rfl⟩)⟩
    · exact ⟨_, _, _, _, _, k0, hk, .inr (.inl ⟨h0, by omega, rfl, rfl, rfl, rfl, rfl⟩)⟩
  · exact ⟨_, _, _, _, _, k0, hk, .inl ⟨h0, rfl, rfl, rfl, rfl, rfl⟩⟩
theorem mok_len {p r c : Int} {xs : List Int} (h : MOk p r c xs) : xs.length ≤ 1024 := by
  obtain ⟨u, i, m, n, A, hA⟩ := h.form
  have := side_mul hA.m32 hA.n32
  rw [hA.zs, flat_len]; exact this
theorem StRes.len {p r c : Int} {xs : List Int} {q s d : Int} {ys : List Int} {P R C : Int} {zs : List Int} {k : Int} (h : StRes p r c xs q s d ys P R C zs k) : zs.length ≤ 1048576 := by
  obtain ⟨k0, hk, ⟨_, _, _, _, _, rfl⟩ | ⟨_, _, _, _, _, _, rfl⟩ | ⟨rfl, _, _, _, _, _, rfl⟩⟩ := h
  · simp
  · simp
  · obtain ⟨h1, h2, _, _⟩ := hk.good
    have := mok_len h1
    have := mok_len h2
    rw [List.length_append]; omega
theorem flat_stack {q : Nat} [NeZero q] (m1 m2 n : Nat) (A B : Mt q) : flat (m1 + m2) n (stack m1 A B) = flat m1 n A ++ flat m2 n B := by
  apply List.ext_getElem
  · rw [List.length_append, flat_len, flat_len, flat_len, Nat.add_mul]
  · intro t h1 h2
    rw [flat_at]
    have hn : 0 < n := Nat.pos_of_ne_zero fun e => by subst e; rw [flat_len] at h1; simp at h1
    unfold stack
    by_cases h : t < m1 * n
    · rw [List.getElem_append_left (by rw [flat_len]; exact h), flat_at, if_pos (Nat.div_lt_of_lt_mul (by rw [Nat.mul_comm]; exact h))]
    · rw [List.getElem_append_right (by rw [flat_len]; omega)]
      rw [flat_at]
      obtain ⟨j, rfl⟩ : ∃ j, t = m1 * n + j := ⟨t - m1 * n, by omega⟩
      have e1 : (m1 * n + j) / n = m1 + j / n := by rw [Nat.add_comm, Nat.add_mul_div_right _ _ hn, Nat.add_comm]
      have e2 : (m1 * n + j) % n = j % n := by rw [Nat.add_comm, Nat.add_mul_mod_self_right]
      simp only [flat_len, Nat.add_sub_cancel_left, e1, e2]
      rw [if_neg (Nat.not_lt.2 (Nat.le_add_right _ _))]
theorem rowL_stack {q : Nat} [NeZero q] (m1 n : Nat) (A B : Mt q) (i : Nat) : rowL n (stack m1 A B) i = if i < m1 then rowL n A i else rowL n B (i - m1) := by
  unfold rowL stack
  by_cases h : i < m1
  · simp [h]
  · simp [h]
theorem RowsC.list {w : World} {v : Value} {m : Nat} {R : Nat → List Int} (h : RowsC w v m R) : ∃ L : List Value, L.length = m ∧ SrcAt w v L ∧ (∀ u ∈ L, u.oneCell' = true) ∧ ∀ i (h : i < L.length), IntsC w L[i] (R i) := by
  obtain ⟨a, cap, rfl, hm, ⟨rfl, rfl, rfl⟩ | ⟨H, o, rfl, hH, hc⟩⟩ := h
  · exact ⟨[], rfl, ⟨none, 0, rfl, by simp, .inl ⟨rfl, rfl, rfl⟩⟩, by simp, fun i h => by simp at h⟩
  · refine ⟨(List.range m).map fun i => (w.cell? ⟨H, o + i, none⟩).getD undef, by simp, ⟨_, cap, by simp, by simpa using hm, .inr ⟨H, o, rfl, ?_, ?_⟩⟩, ?_, ?_⟩
    · rcases hH with rfl | h
      · exact .inl (by simp)
      · exact .inr h
    · intro j u hj
      have hjm : j < m := by have := (List.getElem?_eq_some_iff.1 hj).1; simpa using this
      obtain ⟨x, hx, _⟩ := hc j hjm
      simp only [List.getElem?_map, List.getElem?_range hjm, Option.map_some, hx, Option.getD_some] at hj
      rw [hx]; exact hj
    · intro u hu
      obtain ⟨j, hj, rfl⟩ := List.mem_map.1 hu
      obtain ⟨x, hx, hI⟩ := hc j (by simpa using hj)
      rw [hx]
      obtain ⟨⟨a', c', rfl, _⟩, _⟩ := hI
      rfl
    · intro i hi
      have him : i < m := by simpa using hi
      obtain ⟨x, hx, hI⟩ := hc i him
      simp only [List.getElem_map, List.getElem_range, hx, Option.getD_some]
      exact hI
theorem RowsC.of_own {w : World} {B m : Nat} {v : Value} {L : List Value} {R : Nat → List Int} (h : w.ownsRow B 25 1 v m L) (hm : m ≤ 4096) (hl : L.length = m) (hR : ∀ i (h : i < L.length), IntsC w L[i] (R i)) : RowsC w v m R := by
  have h' := h
  obtain ⟨hx, ⟨rfl, rfl⟩ | ⟨g, cap, cur, rfl, hg, hcur, _⟩⟩ := h
  · exact ⟨none, 0, rfl, hm, .inl ⟨rfl, rfl, rfl⟩⟩
  · have hlt := h'.lt g rfl
    refine ⟨_, cap, rfl, hm, .inr ⟨g, 0, rfl, .inr hlt.2, fun i hi => ⟨L[i], ?_, hR i (by omega)⟩⟩⟩
    have := h'.cells (g := g) rfl i L[i] (List.getElem?_eq_getElem (by omega))
    rw [Addr.add_lit] at this
    exact this
theorem RowsC.stacked {q : Nat} [NeZero q] {w : World} {B m1 m2 n : Nat} {v : Value} {L1 L2 : List Value} {A1 A2 : Mt q} (h : w.ownsRow B 25 1 v (L1.length + L2.length) (L1 ++ L2)) (h1 : L1.length = m1) (h2 : L2.length = m2) (hm : m1 + m2 ≤ 4096)
    (i1 : ∀ i (h : i < L1.length), IntsC w L1[i] (rowL n A1 i)) (i2 : ∀ i (h : i < L2.length), IntsC w L2[i] (rowL n A2 i)) : RowsC w v (m1 + m2) (rowL n (stack m1 A1 A2)) := by
  subst h1 h2
  refine RowsC.of_own h hm (by simp) fun i hi => ?_
  rw [rowL_stack]
  by_cases hlt : i < L1.length
  · rw [if_pos hlt, List.getElem_append_left hlt]; exact i1 i hlt
  · rw [if_neg hlt, List.getElem_append_right (by omega)]; exact i2 _ _
set_option maxRecDepth 100000 in
set_option maxHeartbeats 1600000 in
theorem implSt_b {p r c q s d k : Int} {u v : Value} {xs ys : List Int} {w : World} (hu : IntsAt w u xs) (hv : IntsAt w v ys) {T : Bool} (e1 : (c == d) = T) (hk : FitK p r c xs q s d ys T k) (e0 : (k != 0) = true) :
    Calls Try.prog 27 #[.agg #[.int .i64 p, .int .i64 r, .int .i64 c, u], .agg #[.int .i64 q, .int .i64 s, .int .i64 d, v]] w fun e w' => RetMC 0 0 0 [] k w e w' := by
  have HU := Lib.hid hu
  have HV := Lib.hid hv
  obtain ⟨a1, c1, rfl, hl1, _⟩ := hu
  obtain ⟨a2, c2, rfl, hl2, _⟩ := hv
  have HK := Lib.hid hk
  clear hk
  have Pa0 := PtM.new2 w p r c (.slice a1 xs.length c1) 27 (.cells #[.int .i64 q, .int .i64 s, .int .i64 d, .slice a2 ys.length c2] 27) (.cells #[.int .i64 0, .int .i64 0, .int .i64 0, .slice none 0 0] 27)
  have Pb0 := PtM.new1 (w.alloc (.cells #[.int .i64 p, .int .i64 r, .int .i64 c, .slice a1 xs.length c1] 27)) q s d (.slice a2 ys.length c2) 27 (.cells #[.int .i64 0, .int .i64 0, .int .i64 0, .slice none 0 0] 27)
  have Pr0 := PtM.new ((w.alloc (.cells #[.int .i64 p, .int .i64 r, .int .i64 c, .slice a1 xs.length c1] 27)).alloc (.cells #[.int .i64 q, .int .i64 s, .int .i64 d, .slice a2 ys.length c2] 27)) 0 0 0 (.slice none 0 0) 27
  have Fr0 := Fz.new ((w.alloc (.cells #[.int .i64 p, .int .i64 r, .int .i64 c, .slice a1 xs.length c1] 27)).alloc (.cells #[.int .i64 q, .int .i64 s, .int .i64 d, .slice a2 ys.length c2] 27)) #[.int .i64 0, .int .i64 0, .int .i64 0, .slice none 0 0] 27
  rw [World.size_alloc] at Pb0
  rw [World.size_alloc, World.size_alloc] at Pr0 Fr0
  go_enter Try.func27, Try.ntmps27
  go_wp2_with fail
  refine (fit_any (HU.out.on (al1 (al1 (al1 (Below.refl _ _) _) _) _)) (HV.out.on (al1 (al1 (al1 (Below.refl _ _) _) _) _)) HK.out).mono ?_
  rintro e w1 ⟨rfl, hb⟩
  have Pa := Lib.hid (Pa0.on hb)
  have Pb := Lib.hid (Pb0.on hb)
  have Pr := Lib.hid (Pr0.on hb)
  have Fr : Hid (Fz w1 (w.heap.size + 1 + 1)) := Fr0.on (by simp) hb
  have HB := Lib.hid (up3 hb)
  have hz : w.heap.size + 3 ≤ w1.heap.size := by have := hb.size; simp at this; omega
  clear hb Pa0 Pb0 Pr0 Fr0
  obtain ⟨lA, x0, x1, x2, x3⟩ := Pa.out
  obtain ⟨lB, y0, y1, y2, y3⟩ := Pb.out
  obtain ⟨lR, r0, r1, r2, r3⟩ := Pr.out
  obtain ⟨f0, f1, f2, f3⟩ := Fr.out.all
  go_wp2_with fail
  refine bodyPost_ret (v := .tuple #[.agg #[.int .i64 0, .int .i64 0, .int .i64 0, .slice none 0 0], .int .i64 k]) (by simp [results, Try.results27, go_sem, r0, r1, r2, r3]) rfl ⟨_, rfl, OwnI.nul _ _, ?_⟩
  repeat (refine Below.setC ?_ (by omega) _)
  exact HB.out
set_option maxRecDepth 100000 in
set_option maxHeartbeats 1600000 in
theorem implSt_f {p r c q s d : Int} {u v : Value} {xs ys : List Int} {w : World} (hu : IntsAt w u xs) (hv : IntsAt w v ys) (e1 : (c == d) = true) (hk : FitK p r c xs q s d ys true 0) (hs : 32 < r + s) :
    Calls Try.prog 27 #[.agg #[.int .i64 p, .int .i64 r, .int .i64 c, u], .agg #[.int .i64 q, .int .i64 s, .int .i64 d, v]] w fun e w' => RetMC 0 0 0 [] 5 w e w' := by
  have w0 : IntKind.i64.wrap (r + s) = r + s := by
    obtain ⟨⟨_, _, h1, _⟩, ⟨_, _, h2, _⟩, _, _⟩ := hk.good
    exact IntWalk.i64_in _ (by omega)
  have hsd : inB (r + s) 0 32 = false := inB_no (by omega)
  have HU := Lib.hid hu
  have HV := Lib.hid hv
  obtain ⟨a1, c1, rfl, hl1, _⟩ := hu
  obtain ⟨a2, c2, rfl, hl2, _⟩ := hv
  have HK := Lib.hid hk
  clear hk
  have Pa0 := PtM.new2 w p r c (.slice a1 xs.length c1) 27 (.cells #[.int .i64 q, .int .i64 s, .int .i64 d, .slice a2 ys.length c2] 27) (.cells #[.int .i64 0, .int .i64 0, .int .i64 0, .slice none 0 0] 27)
  have Pb0 := PtM.new1 (w.alloc (.cells #[.int .i64 p, .int .i64 r, .int .i64 c, .slice a1 xs.length c1] 27)) q s d (.slice a2 ys.length c2) 27 (.cells #[.int .i64 0, .int .i64 0, .int .i64 0, .slice none 0 0] 27)
  have Pr0 := PtM.new ((w.alloc (.cells #[.int .i64 p, .int .i64 r, .int .i64 c, .slice a1 xs.length c1] 27)).alloc (.cells #[.int .i64 q, .int .i64 s, .int .i64 d, .slice a2 ys.length c2] 27)) 0 0 0 (.slice none 0 0) 27
  have Fr0 := Fz.new ((w.alloc (.cells #[.int .i64 p, .int .i64 r, .int .i64 c, .slice a1 xs.length c1] 27)).alloc (.cells #[.int .i64 q, .int .i64 s, .int .i64 d, .slice a2 ys.length c2] 27)) #[.int .i64 0, .int .i64 0, .int .i64 0, .slice none 0 0] 27
  rw [World.size_alloc] at Pb0
  rw [World.size_alloc, World.size_alloc] at Pr0 Fr0
  go_enter Try.func27, Try.ntmps27
  go_wp2_with fail
  refine (fit_any (HU.out.on (al1 (al1 (al1 (Below.refl _ _) _) _) _)) (HV.out.on (al1 (al1 (al1 (Below.refl _ _) _) _) _)) HK.out).mono ?_
  rintro e w1 ⟨rfl, hb⟩
  have Pa := Lib.hid (Pa0.on hb)
  have Pb := Lib.hid (Pb0.on hb)
  have Pr := Lib.hid (Pr0.on hb)
  have Fr : Hid (Fz w1 (w.heap.size + 1 + 1)) := Fr0.on (by simp) hb
  have HB := Lib.hid (up3 hb)
  have hz : w.heap.size + 3 ≤ w1.heap.size := by have := hb.size; simp at this; omega
  clear hb Pa0 Pb0 Pr0 Fr0
  obtain ⟨lA, x0, x1, x2, x3⟩ := Pa.out
  obtain ⟨lB, y0, y1, y2, y3⟩ := Pb.out
  obtain ⟨lR, r0, r1, r2, r3⟩ := Pr.out
  obtain ⟨f0, f1, f2, f3⟩ := Fr.out.all
  go_wp2_with fail
  refine (side_is _ hsd).mono ?_
  rintro e wx ⟨rfl, rfl⟩
  go_wp2_with fail
  refine bodyPost_ret (v := .tuple #[.agg #[.int .i64 0, .int .i64 0, .int .i64 0, .slice none 0 0], .int .i64 5]) (by simp [results, Try.results27, go_sem, r0, r1, r2, r3]) rfl ⟨_, rfl, OwnI.nul _ _, ?_⟩
  repeat (refine Below.setC ?_ (by omega) _)
  exact HB.out
set_option maxRecDepth 100000 in
set_option maxHeartbeats 3200000 in
theorem implSt_ok {q m1 m2 n : Nat} [NeZero q] {A B : Mt q} {u v : Value} {w : World} (hu : IntsC w u (flat m1 n A)) (hv : IntsC w v (flat m2 n B)) (hA : MIs q m1 n (flat m1 n A) q m1 n A) (hB : MIs q m2 n (flat m2 n B) q m2 n B) (hs : m1 + m2 ≤ 32) :
    Calls Try.prog 27 #[.agg #[.int .i64 (q : Int), .int .i64 (m1 : Int), .int .i64 (n : Int), u], .agg #[.int .i64 (q : Int), .int .i64 (m2 : Int), .int .i64 (n : Int), v]] w fun e w' => RetMC q ((m1 : Int) + m2) n (flat (m1 + m2) n (stack m1 A B)) 0 w e w' := by
  have hk : FitK (q : Int) m1 n (flat m1 n A) q m2 n (flat m2 n B) true 0 := .inr (.inr ⟨hA.ok, hB.ok, rfl, rfl, rfl⟩)
  obtain ⟨hq2, hq⟩ := hA.q2
  have e1 : ((n : Int) == (n : Int)) = true := by simp
  have HCU := Lib.hid hu
  have HCV := Lib.hid hv
  have HU := Lib.hid hu.1
  have HV := Lib.hid hv.1
  obtain ⟨a1, k1, rfl, hl1, -⟩ := hu.1
  obtain ⟨a2, k2, rfl, hl2, -⟩ := hv.1
  have HK := Lib.hid hk
  simp only [flat_len] at HU HV HCU HCV hl1 hl2 ⊢
  have hm32 := hA.m32
  have hl32 := hB.m32
  have hn32 := hB.n32
  clear hk hA hB hu hv
  have Pa0 := PtM.new2 w q m1 n (.slice a1 (m1 * n) k1) 27 (.cells #[.int .i64 q, .int .i64 m2, .int .i64 n, .slice a2 (m2 * n) k2] 27) (.cells #[.int .i64 0, .int .i64 0, .int .i64 0, .slice none 0 0] 27)
  have Pb0 := PtM.new1 (w.alloc (.cells #[.int .i64 q, .int .i64 m1, .int .i64 n, .slice a1 (m1 * n) k1] 27)) q m2 n (.slice a2 (m2 * n) k2) 27 (.cells #[.int .i64 0, .int .i64 0, .int .i64 0, .slice none 0 0] 27)
  have Pr0 := PtM.new ((w.alloc (.cells #[.int .i64 q, .int .i64 m1, .int .i64 n, .slice a1 (m1 * n) k1] 27)).alloc (.cells #[.int .i64 q, .int .i64 m2, .int .i64 n, .slice a2 (m2 * n) k2] 27)) 0 0 0 (.slice none 0 0) 27
  have Fr0 := Fz.new ((w.alloc (.cells #[.int .i64 q, .int .i64 m1, .int .i64 n, .slice a1 (m1 * n) k1] 27)).alloc (.cells #[.int .i64 q, .int .i64 m2, .int .i64 n, .slice a2 (m2 * n) k2] 27)) #[.int .i64 0, .int .i64 0, .int .i64 0, .slice none 0 0] 27
  rw [World.size_alloc] at Pb0
  rw [World.size_alloc, World.size_alloc] at Pr0 Fr0
  have w0 : IntKind.i64.wrap ((m1 : Int) + m2) = (m1 : Int) + m2 := IntWalk.i64_in _ (by omega)
  have hsd : inB ((m1 : Int) + m2) 0 32 = true := by simp [inB]; omega
  go_enter Try.func27, Try.ntmps27
  go_wp2_with fail
  refine (fit_any (HU.out.on (al1 (al1 (al1 (Below.refl _ _) _) _) _)) (HV.out.on (al1 (al1 (al1 (Below.refl _ _) _) _) _)) HK.out).mono ?_
  rintro e w1 ⟨rfl, hb⟩
  have Pa := Lib.hid (Pa0.on hb)
  have Pb := Lib.hid (Pb0.on hb)
  have Pr := Lib.hid (Pr0.on hb)
  have Fr : Hid (Fz w1 (w.heap.size + 1 + 1)) := Fr0.on (by simp) hb
  have HB := Lib.hid (up3 hb)
  have hz : w.heap.size + 3 ≤ w1.heap.size := by have := hb.size; simp at this; omega
  clear hb Pa0 Pb0 Pr0 Fr0
  obtain ⟨lA, x0, x1, x2, x3⟩ := Pa.out
  obtain ⟨lB, y0, y1, y2, y3⟩ := Pb.out
  obtain ⟨lR, r0, r1, r2, r3⟩ := Pr.out
  obtain ⟨f0, f1, f2, f3⟩ := Fr.out.all
  go_wp2_with fail
  refine (side_is _ hsd).mono ?_
  rintro e wx ⟨rfl, rfl⟩
  have neA := Pa.out.ne
  have neB := Pb.out.ne
  have neR := Pr.out.ne
  have nAR : w.heap.size + 1 + 1 ≠ w.heap.size := by omega
  have nAR' : ¬ w.heap.size + 1 + 1 = w.heap.size := by omega
  go_wp2_with fail
  go_region_held3 (fun w' => w'.cell? ⟨w.heap.size, 0, none⟩ = some (.int .i64 q) ∧ w'.cell? ⟨w.heap.size, 2, none⟩ = some (.int .i64 n)) (go_keep)
    (first
      | (go_at_call_of 68 (.pointer (some ⟨w.heap.size, 0, none⟩) : Value); refine (implRowsC Pa.out.drew (HCU.out.on HB.out).drew hm32 hn32).mono ?_; rintro e wa ⟨Ha, rfl, hra, hHa, hHa2, hba'⟩; have hba := undrew hba'; obtain ⟨_, _, _, _, _⟩ := Pa.out.on hba; have := (Pa.out.on hba).ne)
      | (go_at_call 68; have hx := implRowsC (Pb.out.on hba) ((HCV.out.on HB.out).on hba) hl32 hn32; refine hx.mono ?_; rintro e wb ⟨Hb, rfl, hrb, hHb, hHb2, hbb⟩; have hb2 : Below w1.heap.size w1 wb := hba.trans (hbb.mono hba.size); obtain ⟨_, _, _, _, _⟩ := Pa.out.on hb2; have := (Pa.out.on hb2).ne)
      | (go_at_call 74; obtain ⟨LA, hLA, sA, oA, iA⟩ := hra.list; obtain ⟨LB, hLB, sB, oB, iB⟩ := hrb.list; have hbs := (Below.refl _ wb).alloc (Nat.le_refl _) (.cells #[.slice (some ⟨Ha, 0, none⟩) m1 m1, .slice (some ⟨Hb, 0, none⟩) m2 m2] 64); refine (concatR_any (b := wb.heap.size) (c := 2) (wb.alloc (.cells #[.slice (some ⟨Ha, 0, none⟩) m1 m1, .slice (some ⟨Hb, 0, none⟩) m2 m2] 64)) (by simp) (by rw [World.cell?_alloc_at _ _ _ _ rfl]; rfl) (by rw [World.cell?_alloc_at _ _ _ _ rfl]; rfl) ((sA.on hbb).on hbs) (sB.on hbs) (by omega) oA oB).mono ?_; rintro e wc ⟨vc, rfl, hvc, hbc⟩; have hrc := RowsC.stacked hvc hLA hLB (by omega) (fun i h => (((iA i h).on hbb).on hbs).on hbc) (fun i h => ((iB i h).on hbs).on hbc); have hb3 : Below w1.heap.size w1 wc := hb2.trans ((hbs.trans (hbc.mono hbs.size)).mono hb2.size); obtain ⟨_, _, _, _, _⟩ := Pa.out.on hb3; have := (Pa.out.on hb3).ne)
      | (go_at_call 69; refine (matrixOf_any q hrc (by omega) hn32).mono ?_; rintro e wd ⟨vd, rfl, hod, hbd⟩; obtain ⟨vda, vdc, rfl⟩ := hod.slice; have hb4 : Below w1.heap.size w1 wd := hb3.trans (hbd.mono hb3.size); obtain ⟨_, _, _, _, _⟩ := Pa.out.on hb4; obtain ⟨_, _, _, _, _⟩ := Pr.out.on hb4; obtain ⟨_, _, _, _⟩ := (Fr.out.on (by omega) hb4).all; have := (Pa.out.on hb4).ne))
  have hq := Lib.hid ((Pr.out.on hb4).set4 q ((m1 : Int) + m2) n (.slice vda (flat (m1 + m2) n (stack m1 A B)).length vdc))
  have HO := Lib.hid hod
  have HB4 := Lib.hid (HB.out.trans (hb4.mono (by omega)))
  have hz3 : w.heap.size + 3 ≤ wc.heap.size := by have := hb3.size; omega
  go_wp2_with fail
  obtain ⟨_, q0, q1, q2, q3⟩ := hq.out
  refine bodyPost_ret (v := .tuple #[.agg #[.int .i64 q, .int .i64 ((m1 : Int) + m2), .int .i64 n, .slice vda (flat (m1 + m2) n (stack m1 A B)).length vdc], .int .i64 0]) (by simp [results, Try.results27, go_sem, q0, q1, q2, q3]) rfl ⟨_, rfl, ?_, below_set4 HB4.out (by omega) _ _ _ _⟩
  refine OwnI.mono (B := wc.heap.size) ?_ (by omega)
  repeat (refine OwnI.setOut ?_ (by omega) _)
  exact HO.out
theorem implSt_any {p r c q s d P R C k : Int} {u v : Value} {xs ys zs : List Int} {w : World} (hu : IntsC w u xs) (hv : IntsC w v ys) (h : StRes p r c xs q s d ys P R C zs k) :
    Calls Try.prog 27 #[.agg #[.int .i64 p, .int .i64 r, .int .i64 c, u], .agg #[.int .i64 q, .int .i64 s, .int .i64 d, v]] w fun e w' => RetMC P R C zs k w e w' := by
  obtain ⟨k0, hk, ⟨h0, rfl, rfl, rfl, rfl, rfl⟩ | ⟨rfl, h1, rfl, rfl, rfl, rfl, rfl⟩ | ⟨rfl, h1, rfl, rfl, rfl, rfl, rfl⟩⟩ := h
  · exact implSt_b hu.1 hv.1 rfl hk (by simpa using h0)
  · have e1 := hk.good.2.2.2
    rw [e1] at hk
    exact implSt_f hu.1 hv.1 e1 hk h1
  · obtain ⟨g1, g2, e, hf⟩ := hk.good
    have e1 : C = d := by simpa using hf
    subst e e1
    obtain ⟨u', i, m1, n, A, m2, n', B, hA, hB⟩ := g1.form2 g2
    obtain rfl : n = n' := by have := hA.c; have := hB.c; omega
    obtain ⟨rfl, rfl, rfl, rfl, h5, h6, h7⟩ := hA
    obtain ⟨_, rfl, _, rfl, g5, g6, g7⟩ := hB
    have hst := implSt_ok (w := w) hu hv ⟨rfl, rfl, rfl, rfl, h5, h6, h7⟩ ⟨rfl, rfl, rfl, rfl, g5, g6, g7⟩ (by omega)
    rw [flat_stack] at hst
    exact hst
end Go.Proofs.Ytabanmaaagmeaaa
