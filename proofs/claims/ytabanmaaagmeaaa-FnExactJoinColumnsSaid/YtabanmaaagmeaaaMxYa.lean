/-
  Contracts of ApplyMatrix of the model and of the program.
-/
import Derived.Test.YtabanmaaagmeaaaMxY
namespace Go.Proofs.Ytabanmaaagmeaaa
open Go.RowKit
open Lin
set_option linter.unusedVariables false
set_option linter.unusedSectionVars false

def ApRes (p r c : Int) (xs ys zs : List Int) (k : Int) : Prop :=
  (¬ (MOk p r c xs ∧ MOk p c 1 ys) ∧ zs = [] ∧ k = 1) ∨ (k = 0 ∧ ∃ (u : Nat) (_ : NeZero u) (m n : Nat) (A B : Mt u), MIs p r c xs u m n A ∧ MIs p c 1 ys u n 1 B ∧ zs = flat m 1 (muC n A B))
theorem apRes_has (p r c : Int) (xs ys : List Int) : ∃ zs k, ApRes p r c xs ys zs k := by
  by_cases h : MOk p r c xs ∧ MOk p c 1 ys
  · obtain ⟨u, i, m, n, A, m', n', B, hA, hB⟩ := h.1.form2 h.2
    obtain rfl : n = m' := by have := hA.c; have := hB.r; omega
    obtain rfl : n' = 1 := by have := hB.c; omega
    exact ⟨_, 0, .inr ⟨rfl, u, i, m, n, A, B, hA, hB, rfl⟩⟩
  · exact ⟨_, _, .inl ⟨h, rfl, rfl⟩⟩
theorem ApRes.len {p r c : Int} {xs ys zs : List Int} {k : Int} (h : ApRes p r c xs ys zs k) : zs.length ≤ 1048576 := by
  rcases h with ⟨_, rfl, _⟩ | ⟨_, u, _, m, n, A, B, hA, hB, rfl⟩
  · simp
  · rw [flat_len]; have := hA.m32; omega
theorem col_ok {p r c : Int} {xs ys : List Int} (h : MOk p r c xs) : colB ys c p = true ↔ MOk p c 1 ys := by
  have e : colB ys c p = true ↔ (NumOk p ys ∧ (ys.length : Int) = c) := by simp [colB]
  rw [e]
  obtain ⟨h1, h2, h3, h4, h5, h6, h7⟩ := h
  constructor
  · rintro ⟨g1, g2⟩; exact ⟨h1, h4, h5, by omega, by omega, by omega, g1⟩
  · rintro ⟨g1, g2, g3, g4, g5, g6, g7⟩; exact ⟨g7, by omega⟩
set_option maxRecDepth 100000 in
set_option maxHeartbeats 1600000 in
theorem specAp_b1 {p r c : Int} {u v : Value} {xs ys : List Int} {w : World} (hu : IntsAt w u xs) (hv : IntsAt w v ys) (hk : okB p r c xs = false) :
    Calls Try.prog 52 #[.agg #[.int .i64 p, .int .i64 r, .int .i64 c, u], v] w fun e w' => RetLC [] 1 w e w' := by
  have HU := Lib.hid hu
  obtain ⟨a1, c1, rfl, -, -⟩ := hu
  obtain ⟨a2, c2, rfl, -, -⟩ := hv
  have HK := Lib.hid hk
  clear hk
  have Pa0 := PtM.new w p r c (.slice a1 xs.length c1) 27
  go_enter Try.func52, Try.ntmps52
  go_wp2_with fail
  with_reducible refine Calls.mono (specOk_is (T := false) Pa0 (HU.out.on (al1 (Below.refl _ _) _)) HK.out) ?_
  rintro e w1 ⟨rfl, d, hw1⟩
  have hb : Below (w.alloc (.cells #[.int .i64 p, .int .i64 r, .int .i64 c, .slice a1 xs.length c1] 27)).heap.size (w.alloc (.cells #[.int .i64 p, .int .i64 r, .int .i64 c, .slice a1 xs.length c1] 27)) w1 := by rw [hw1]; exact below_drewX (Below.refl _ _) d
  clear hw1
  have Pa := Lib.hid (Pa0.on hb)
  have HB := Lib.hid (up1 hb)
  have hz : w.heap.size + 1 ≤ w1.heap.size := by have := hb.size; simp at this; omega
  clear hb Pa0
  obtain ⟨lA, x0, x1, x2, x3⟩ := Pa.out
  go_wp2_with fail
  go_ret2
  exact ⟨_, rfl, OwnI.nul _ _, HB.out⟩
set_option maxRecDepth 100000 in
set_option maxHeartbeats 1600000 in
theorem specAp_b2 {p r c : Int} {u v : Value} {xs ys : List Int} {w : World} (hu : IntsAt w u xs) (hv : IntsAt w v ys) (hk : okB p r c xs = true) (hp : IsPr p) (hc : colB ys c p = false) :
    Calls Try.prog 52 #[.agg #[.int .i64 p, .int .i64 r, .int .i64 c, u], v] w fun e w' => RetLC [] 1 w e w' := by
  have HU := Lib.hid hu
  have HV := Lib.hid hv
  obtain ⟨a1, c1, rfl, -, -⟩ := hu
  obtain ⟨a2, c2, rfl, -, -⟩ := hv
  have HK := Lib.hid hk
  have p0 := hp.1
  have p1 := hp.2.1
  clear hk hp
  have Pa0 := PtM.new w p r c (.slice a1 xs.length c1) 27
  go_enter Try.func52, Try.ntmps52
  go_wp2_with fail
  with_reducible refine Calls.mono (specOk_is (T := true) Pa0 (HU.out.on (al1 (Below.refl _ _) _)) HK.out) ?_
  rintro e w1 ⟨rfl, d, hw1⟩
  have hb : Below (w.alloc (.cells #[.int .i64 p, .int .i64 r, .int .i64 c, .slice a1 xs.length c1] 27)).heap.size (w.alloc (.cells #[.int .i64 p, .int .i64 r, .int .i64 c, .slice a1 xs.length c1] 27)) w1 := by rw [hw1]; exact below_drewX (Below.refl _ _) d
  clear hw1
  have Pa := Lib.hid (Pa0.on hb)
  have HB := Lib.hid (up1 hb)
  have hz : w.heap.size + 1 ≤ w1.heap.size := by have := hb.size; simp at this; omega
  clear hb Pa0
  obtain ⟨lA, x0, x1, x2, x3⟩ := Pa.out
  go_wp2_with fail
  refine (specCol_any p0 p1 (HV.out.on HB.out)).mono ?_
  rintro e w2 ⟨rfl, rfl⟩
  go_wp2_with fail
  go_ret2
  exact ⟨_, rfl, OwnI.nul _ _, HB.out⟩
set_option maxRecDepth 100000 in
set_option maxHeartbeats 1600000 in
theorem specAp_ok {q m n : Nat} [NeZero q] {A B : Mt q} {u v : Value} {w : World} (hu : IntsAt w u (flat m n A)) (hv : IntsAt w v (flat n 1 B)) (hA : MIs q m n (flat m n A) q m n A) (hB : MIs q n 1 (flat n 1 B) q n 1 B) :
    Calls Try.prog 52 #[.agg #[.int .i64 (q : Int), .int .i64 (m : Int), .int .i64 (n : Int), u], v] w fun e w' => RetLC (flat m 1 (muC n A B)) 0 w e w' := by
  have hk : okB (q : Int) m n (flat m n A) = true := okB_yes hA.ok
  have hc : colB (flat n 1 B) n q = true := (col_ok hA.ok).2 hB.ok
  obtain ⟨hq2, hq⟩ := hA.q2
  have p0 : 2 ≤ (q : Int) := by omega
  have p1 : (q : Int) ≤ 251 := by omega
  have HA := Lib.hid hA
  have HU := Lib.hid hu
  have HV := Lib.hid hv
  obtain ⟨a1, c1, rfl, -, -⟩ := hu
  obtain ⟨a2, c2, rfl, -, -⟩ := hv
  have HK := Lib.hid hk
  clear hk hA hB
  have Pa0 := PtM.new w q m n (.slice a1 (flat m n A).length c1) 27
  go_enter Try.func52, Try.ntmps52
  go_wp2_with fail
  with_reducible refine Calls.mono (specOk_is (T := true) Pa0 (HU.out.on (al1 (Below.refl _ _) _)) HK.out) ?_
  rintro e w1 ⟨rfl, d, hw1⟩
  have hb : Below (w.alloc (.cells #[.int .i64 q, .int .i64 m, .int .i64 n, .slice a1 (flat m n A).length c1] 27)).heap.size (w.alloc (.cells #[.int .i64 q, .int .i64 m, .int .i64 n, .slice a1 (flat m n A).length c1] 27)) w1 := by rw [hw1]; exact below_drewX (Below.refl _ _) d
  clear hw1
  have Pa := Lib.hid (Pa0.on hb)
  have HB := Lib.hid (up1 hb)
  have hz : w.heap.size + 1 ≤ w1.heap.size := by have := hb.size; simp at this; omega
  clear hb Pa0
  obtain ⟨lA, x0, x1, x2, x3⟩ := Pa.out
  go_wp2_with fail
  refine (specCol_any p0 p1 (HV.out.on HB.out)).mono ?_
  rintro e w2 ⟨rfl, rfl⟩
  go_wp2_with fail
  with_reducible refine Calls.mono (l03Apply_any Pa.out (HU.out.on HB.out) (HV.out.on HB.out) hq2 hq HA.out.m32 HA.out.n32) ?_
  rintro e w2 ⟨v, rfl, ho, hb⟩
  obtain ⟨va, vc, rfl⟩ := ho.slice
  have HO := Lib.hid (ho.mono HB.out.size)
  have HB2 := Lib.hid (HB.out.trans (hb.mono HB.out.size))
  clear ho hb lA x0 x1 x2 x3
  go_wp2_with fail
  go_ret2
  exact ⟨_, rfl, HO.out, HB2.out⟩
theorem specAp_any {p r c k : Int} {u v : Value} {xs ys zs : List Int} {w : World} (hu : IntsAt w u xs) (hv : IntsAt w v ys) (h : ApRes p r c xs ys zs k) :
    Calls Try.prog 52 #[.agg #[.int .i64 p, .int .i64 r, .int .i64 c, u], v] w fun e w' => RetLC zs k w e w' := by
  rcases h with ⟨h, rfl, rfl⟩ | ⟨rfl, u', _, m, n, A, B, hA, hB, rfl⟩
  · by_cases h1 : MOk p r c xs
    · refine specAp_b2 hu hv (okB_yes h1) h1.1 ?_
      cases e : colB ys c p with
      | false => rfl
      | true => exact absurd ⟨h1, (col_ok h1).1 e⟩ h
    · exact specAp_b1 hu hv (okB_no h1)
  · obtain ⟨rfl, rfl, rfl, rfl, h5, h6, h7⟩ := hA
    obtain ⟨_, _, _, rfl, g5, g6, g7⟩ := hB
    exact specAp_ok hu hv ⟨rfl, rfl, rfl, rfl, h5, h6, h7⟩ ⟨rfl, rfl, rfl, rfl, g5, g6, g7⟩
theorem apRes_mu {p r c k : Int} {xs ys zs : List Int} (h : ApRes p r c xs ys zs k) : ∃ P R C, MuRes p r c xs p c 1 ys P R C zs k := by
  rcases h with ⟨h, rfl, rfl⟩ | ⟨rfl, u', i, m, n, A, B, hA, hB, rfl⟩
  · exact ⟨0, 0, 0, .inl ⟨h, rfl⟩, .inl ⟨by omega, rfl, rfl, rfl, rfl⟩⟩
  · exact ⟨_, _, _, .inr (.inr ⟨hA.ok, hB.ok, rfl, by simp, rfl⟩), .inr ⟨rfl, rfl, rfl, rfl, u', i, m, n, 1, A, B, hA, hB, rfl⟩⟩
set_option maxRecDepth 100000 in
set_option maxHeartbeats 1600000 in
theorem implAp_any {p r c k : Int} {u v : Value} {xs ys zs : List Int} {w : World} (hu : IntsC w u xs) (hv : IntsC w v ys) (h : ApRes p r c xs ys zs k) :
    Calls Try.prog 54 #[.agg #[.int .i64 p, .int .i64 r, .int .i64 c, u], v] w fun e w' => RetLC zs k w e w' := by
  obtain ⟨P, R, C, hm⟩ := apRes_mu h
  have HU := Lib.hid hu
  have HV := Lib.hid hv
  obtain ⟨a1, c1, rfl, -, -⟩ := hu.1
  obtain ⟨a2, c2, rfl, -, -⟩ := hv.1
  have HM := Lib.hid hm
  clear h hm hu hv
  have Pa := PtM.new w p r c (.slice a1 xs.length c1) 27
  obtain ⟨lA, x0, x1, x2, x3⟩ := Pa
  go_enter Try.func54, Try.ntmps54
  go_wp2_with fail
  refine (implMu_any (HU.out.on (al1 (Below.refl _ _) _)) (HV.out.on (al1 (Below.refl _ _) _)) HM.out).mono ?_
  rintro e w1 ⟨v, rfl, ho, hb⟩
  obtain ⟨va, vc, rfl⟩ := ho.slice
  have hB := up1 hb
  have hO := ho.mono (show w.heap.size ≤ (w.alloc _).heap.size by simp)
  have HB := Lib.hid (al1 hB (.cells #[.int .i64 P, .int .i64 R, .int .i64 C, .slice va zs.length vc] 27))
  have HO := Lib.hid (hO.on ((Below.refl _ _).alloc (Nat.le_refl _) (.cells #[.int .i64 P, .int .i64 R, .int .i64 C, .slice va zs.length vc] 27)))
  clear hO hB ho hb
  have Pn := PtM.new w1 P R C (.slice va zs.length vc) 27
  obtain ⟨ln, y0, y1, y2, y3⟩ := Pn
  go_wp2_with fail
  go_ret2
  exact ⟨_, rfl, HO.out, HB.out⟩
end Go.Proofs.Ytabanmaaagmeaaa
