/-
  Contracts of the codes for two matrices and for a square one, of the model and of the program.
-/
import Derived.Test.YtabanmaaagmeaaaMxU
namespace Go.Proofs.Ytabanmaaagmeaaa
open Go.RowKit
set_option linter.unusedVariables false

/-- The code for two matrices and sides that fit. -/
def FitK (p r c : Int) (xs : List Int) (q s d : Int) (ys : List Int) (fit : Bool) (k : Int) : Prop :=
  (¬ (MOk p r c xs ∧ MOk q s d ys) ∧ k = 1) ∨ (MOk p r c xs ∧ MOk q s d ys ∧ ¬ (p = q ∧ fit = true) ∧ k = 6) ∨ (MOk p r c xs ∧ MOk q s d ys ∧ p = q ∧ fit = true ∧ k = 0)
theorem fitK_has (p r c : Int) (xs : List Int) (q s d : Int) (ys : List Int) (fit : Bool) : ∃ k, FitK p r c xs q s d ys fit k := by
  by_cases h : MOk p r c xs ∧ MOk q s d ys
  · by_cases h2 : p = q ∧ fit = true
    · exact ⟨0, .inr (.inr ⟨h.1, h.2, h2.1, h2.2, rfl⟩)⟩
    · exact ⟨6, .inr (.inl ⟨h.1, h.2, h2, rfl⟩)⟩
  · exact ⟨1, .inl ⟨h, rfl⟩⟩
theorem FitK.good {p r c : Int} {xs : List Int} {q s d : Int} {ys : List Int} {fit : Bool} (h : FitK p r c xs q s d ys fit 0) : MOk p r c xs ∧ MOk q s d ys ∧ p = q ∧ fit = true := by
  rcases h with ⟨_, h⟩ | ⟨_, _, _, h⟩ | ⟨a, b, c, d, _⟩
  · exact absurd h (by decide)
  · exact absurd h (by decide)
  · exact ⟨a, b, c, d⟩
theorem FitK.bad {p r c : Int} {xs : List Int} {q s d : Int} {ys : List Int} {fit : Bool} {k : Int} (h : FitK p r c xs q s d ys fit k) (hk : k ≠ 0) : (¬ (MOk p r c xs ∧ MOk q s d ys) ∧ k = 1) ∨ (MOk p r c xs ∧ MOk q s d ys ∧ ¬ (p = q ∧ fit = true) ∧ k = 6) := by
  rcases h with h | h | ⟨_, _, _, _, h⟩
  · exact .inl h
  · exact .inr h
  · exact absurd h hk
theorem implVM_is {p r c : Int} {v : Value} {zs : List Int} {T : Bool} {w : World} (hv : IntsAt w v zs) (h : okB p r c zs = T) :
    Calls Try.prog 38 #[.agg #[.int .i64 p, .int .i64 r, .int .i64 c, v]] w fun e w' => e = .returned (.bool T) ∧ Below w.heap.size w w' := by subst h; exact implVM_any hv
set_option maxRecDepth 100000 in
set_option maxHeartbeats 800000 in
theorem fit_x {p r c q s d : Int} {u v : Value} {xs ys : List Int} {fit : Bool} {w : World} (hu : IntsAt w u xs) (hv : IntsAt w v ys) (g1 : okB p r c xs = false) :
    Calls Try.prog 72 #[.agg #[.int .i64 p, .int .i64 r, .int .i64 c, u], .agg #[.int .i64 q, .int .i64 s, .int .i64 d, v], .bool fit] w fun e w' => e = .returned (.int .i64 1) ∧ Below w.heap.size w w' := by
  have HU := Lib.hid hu
  have HV := Lib.hid hv
  obtain ⟨a1, c1, rfl, hl1, _⟩ := hu
  obtain ⟨a2, c2, rfl, hl2, _⟩ := hv
  go_enter Try.func72, Try.ntmps72
  go_wp2_with fail
  refine (implVM_is (HU.out.on (al1 (al1 (Below.refl _ _) _) _)) (by assumption)).mono ?_
  rintro e w1 ⟨rfl, hb⟩
  obtain ⟨lP, x0, x1, x2, x3⟩ := (PtM.new1 w p r c (.slice a1 xs.length c1) 27 (.cells #[.int .i64 q, .int .i64 s, .int .i64 d, .slice a2 ys.length c2] 27)).on hb
  have P2 := (PtM.new (w.alloc (.cells #[.int .i64 p, .int .i64 r, .int .i64 c, .slice a1 xs.length c1] 27)) q s d (.slice a2 ys.length c2) 27).on hb
  rw [World.size_alloc] at P2
  obtain ⟨lQ, y0, y1, y2, y3⟩ := P2
  have HB := Lib.hid (up2 hb)
  clear hb
  go_wp2_with fail
  go_ret
  exact ⟨rfl, HB.out⟩
set_option maxRecDepth 100000 in
set_option maxHeartbeats 800000 in
theorem fit_y {p r c q s d : Int} {u v : Value} {xs ys : List Int} {fit : Bool} {w : World} (hu : IntsAt w u xs) (hv : IntsAt w v ys) (g1 : okB p r c xs = true) (g2 : okB q s d ys = false) :
    Calls Try.prog 72 #[.agg #[.int .i64 p, .int .i64 r, .int .i64 c, u], .agg #[.int .i64 q, .int .i64 s, .int .i64 d, v], .bool fit] w fun e w' => e = .returned (.int .i64 1) ∧ Below w.heap.size w w' := by
  have HU := Lib.hid hu
  have HV := Lib.hid hv
  obtain ⟨a1, c1, rfl, hl1, _⟩ := hu
  obtain ⟨a2, c2, rfl, hl2, _⟩ := hv
  go_enter Try.func72, Try.ntmps72
  go_wp2_with fail
  refine (implVM_is (HU.out.on (al1 (al1 (Below.refl _ _) _) _)) (by assumption)).mono ?_
  rintro e w1 ⟨rfl, hb⟩
  obtain ⟨lP, x0, x1, x2, x3⟩ := (PtM.new1 w p r c (.slice a1 xs.length c1) 27 (.cells #[.int .i64 q, .int .i64 s, .int .i64 d, .slice a2 ys.length c2] 27)).on hb
  have P2 := (PtM.new (w.alloc (.cells #[.int .i64 p, .int .i64 r, .int .i64 c, .slice a1 xs.length c1] 27)) q s d (.slice a2 ys.length c2) 27).on hb
  rw [World.size_alloc] at P2
  obtain ⟨lQ, y0, y1, y2, y3⟩ := P2
  have HB := Lib.hid (up2 hb)
  clear hb
  go_wp2_with fail
  refine (implVM_is (HV.out.on HB.out) (by assumption)).mono ?_
  rintro e w2 ⟨rfl, hb⟩
  obtain ⟨lP, x0, x1, x2, x3⟩ := PtM.on (L := w.heap.size) (p := p) (r := r) (c := c) (v := .slice a1 xs.length c1) ⟨lP, x0, x1, x2, x3⟩ hb
  obtain ⟨lQ, y0, y1, y2, y3⟩ := PtM.on (L := w.heap.size + 1) (p := q) (r := s) (c := d) (v := .slice a2 ys.length c2) ⟨lQ, y0, y1, y2, y3⟩ hb
  have HB := Lib.hid (HB.out.trans (hb.mono HB.out.size))
  clear hb
  go_wp2_with fail
  go_ret
  exact ⟨rfl, HB.out⟩
set_option maxRecDepth 100000 in
set_option maxHeartbeats 800000 in
theorem fit_p {p r c q s d : Int} {u v : Value} {xs ys : List Int} {fit : Bool} {w : World} (hu : IntsAt w u xs) (hv : IntsAt w v ys) (g1 : okB p r c xs = true) (g2 : okB q s d ys = true) (e : (p != q) = true) :
    Calls Try.prog 72 #[.agg #[.int .i64 p, .int .i64 r, .int .i64 c, u], .agg #[.int .i64 q, .int .i64 s, .int .i64 d, v], .bool fit] w fun e w' => e = .returned (.int .i64 6) ∧ Below w.heap.size w w' := by
  have HU := Lib.hid hu
  have HV := Lib.hid hv
  obtain ⟨a1, c1, rfl, hl1, _⟩ := hu
  obtain ⟨a2, c2, rfl, hl2, _⟩ := hv
  go_enter Try.func72, Try.ntmps72
  go_wp2_with fail
  refine (implVM_is (HU.out.on (al1 (al1 (Below.refl _ _) _) _)) (by assumption)).mono ?_
  rintro e w1 ⟨rfl, hb⟩
  obtain ⟨lP, x0, x1, x2, x3⟩ := (PtM.new1 w p r c (.slice a1 xs.length c1) 27 (.cells #[.int .i64 q, .int .i64 s, .int .i64 d, .slice a2 ys.length c2] 27)).on hb
  have P2 := (PtM.new (w.alloc (.cells #[.int .i64 p, .int .i64 r, .int .i64 c, .slice a1 xs.length c1] 27)) q s d (.slice a2 ys.length c2) 27).on hb
  rw [World.size_alloc] at P2
  obtain ⟨lQ, y0, y1, y2, y3⟩ := P2
  have HB := Lib.hid (up2 hb)
  clear hb
  go_wp2_with fail
  refine (implVM_is (HV.out.on HB.out) (by assumption)).mono ?_
  rintro e w2 ⟨rfl, hb⟩
  obtain ⟨lP, x0, x1, x2, x3⟩ := PtM.on (L := w.heap.size) (p := p) (r := r) (c := c) (v := .slice a1 xs.length c1) ⟨lP, x0, x1, x2, x3⟩ hb
  obtain ⟨lQ, y0, y1, y2, y3⟩ := PtM.on (L := w.heap.size + 1) (p := q) (r := s) (c := d) (v := .slice a2 ys.length c2) ⟨lQ, y0, y1, y2, y3⟩ hb
  have HB := Lib.hid (HB.out.trans (hb.mono HB.out.size))
  clear hb
  go_wp2_with fail
  go_ret
  exact ⟨rfl, HB.out⟩
set_option maxRecDepth 100000 in
set_option maxHeartbeats 800000 in
theorem fit_f {p r c q s d : Int} {u v : Value} {xs ys : List Int} {fit : Bool} {w : World} (hu : IntsAt w u xs) (hv : IntsAt w v ys) (g1 : okB p r c xs = true) (g2 : okB q s d ys = true) (e : (p != q) = false) (hf : fit = false) :
    Calls Try.prog 72 #[.agg #[.int .i64 p, .int .i64 r, .int .i64 c, u], .agg #[.int .i64 q, .int .i64 s, .int .i64 d, v], .bool fit] w fun e w' => e = .returned (.int .i64 6) ∧ Below w.heap.size w w' := by
  subst hf
  have HU := Lib.hid hu
  have HV := Lib.hid hv
  obtain ⟨a1, c1, rfl, hl1, _⟩ := hu
  obtain ⟨a2, c2, rfl, hl2, _⟩ := hv
  go_enter Try.func72, Try.ntmps72
  go_wp2_with fail
  refine (implVM_is (HU.out.on (al1 (al1 (Below.refl _ _) _) _)) (by assumption)).mono ?_
  rintro e w1 ⟨rfl, hb⟩
  obtain ⟨lP, x0, x1, x2, x3⟩ := (PtM.new1 w p r c (.slice a1 xs.length c1) 27 (.cells #[.int .i64 q, .int .i64 s, .int .i64 d, .slice a2 ys.length c2] 27)).on hb
  have P2 := (PtM.new (w.alloc (.cells #[.int .i64 p, .int .i64 r, .int .i64 c, .slice a1 xs.length c1] 27)) q s d (.slice a2 ys.length c2) 27).on hb
  rw [World.size_alloc] at P2
  obtain ⟨lQ, y0, y1, y2, y3⟩ := P2
  have HB := Lib.hid (up2 hb)
  clear hb
  go_wp2_with fail
  refine (implVM_is (HV.out.on HB.out) (by assumption)).mono ?_
  rintro e w2 ⟨rfl, hb⟩
  obtain ⟨lP, x0, x1, x2, x3⟩ := PtM.on (L := w.heap.size) (p := p) (r := r) (c := c) (v := .slice a1 xs.length c1) ⟨lP, x0, x1, x2, x3⟩ hb
  obtain ⟨lQ, y0, y1, y2, y3⟩ := PtM.on (L := w.heap.size + 1) (p := q) (r := s) (c := d) (v := .slice a2 ys.length c2) ⟨lQ, y0, y1, y2, y3⟩ hb
  have HB := Lib.hid (HB.out.trans (hb.mono HB.out.size))
  clear hb
  go_wp2_with fail
  go_ret
  exact ⟨rfl, HB.out⟩
set_option maxRecDepth 100000 in
set_option maxHeartbeats 800000 in
theorem fit_t {p r c q s d : Int} {u v : Value} {xs ys : List Int} {fit : Bool} {w : World} (hu : IntsAt w u xs) (hv : IntsAt w v ys) (g1 : okB p r c xs = true) (g2 : okB q s d ys = true) (e : (p != q) = false) (hf : fit = true) :
    Calls Try.prog 72 #[.agg #[.int .i64 p, .int .i64 r, .int .i64 c, u], .agg #[.int .i64 q, .int .i64 s, .int .i64 d, v], .bool fit] w fun e w' => e = .returned (.int .i64 0) ∧ Below w.heap.size w w' := by
  subst hf
  have HU := Lib.hid hu
  have HV := Lib.hid hv
  obtain ⟨a1, c1, rfl, hl1, _⟩ := hu
  obtain ⟨a2, c2, rfl, hl2, _⟩ := hv
  go_enter Try.func72, Try.ntmps72
  go_wp2_with fail
  refine (implVM_is (HU.out.on (al1 (al1 (Below.refl _ _) _) _)) (by assumption)).mono ?_
  rintro e w1 ⟨rfl, hb⟩
  obtain ⟨lP, x0, x1, x2, x3⟩ := (PtM.new1 w p r c (.slice a1 xs.length c1) 27 (.cells #[.int .i64 q, .int .i64 s, .int .i64 d, .slice a2 ys.length c2] 27)).on hb
  have P2 := (PtM.new (w.alloc (.cells #[.int .i64 p, .int .i64 r, .int .i64 c, .slice a1 xs.length c1] 27)) q s d (.slice a2 ys.length c2) 27).on hb
  rw [World.size_alloc] at P2
  obtain ⟨lQ, y0, y1, y2, y3⟩ := P2
  have HB := Lib.hid (up2 hb)
  clear hb
  go_wp2_with fail
  refine (implVM_is (HV.out.on HB.out) (by assumption)).mono ?_
  rintro e w2 ⟨rfl, hb⟩
  obtain ⟨lP, x0, x1, x2, x3⟩ := PtM.on (L := w.heap.size) (p := p) (r := r) (c := c) (v := .slice a1 xs.length c1) ⟨lP, x0, x1, x2, x3⟩ hb
  obtain ⟨lQ, y0, y1, y2, y3⟩ := PtM.on (L := w.heap.size + 1) (p := q) (r := s) (c := d) (v := .slice a2 ys.length c2) ⟨lQ, y0, y1, y2, y3⟩ hb
  have HB := Lib.hid (HB.out.trans (hb.mono HB.out.size))
  clear hb
  go_wp2_with fail
  go_ret
  exact ⟨rfl, HB.out⟩
theorem fit_any {p r c q s d k : Int} {u v : Value} {xs ys : List Int} {fit : Bool} {w : World} (hu : IntsAt w u xs) (hv : IntsAt w v ys) (h : FitK p r c xs q s d ys fit k) :
    Calls Try.prog 72 #[.agg #[.int .i64 p, .int .i64 r, .int .i64 c, u], .agg #[.int .i64 q, .int .i64 s, .int .i64 d, v], .bool fit] w fun e w' => e = .returned (.int .i64 k) ∧ Below w.heap.size w w' := by
  rcases h with ⟨h, rfl⟩ | ⟨h1, h2, h3, rfl⟩ | ⟨h1, h2, rfl, h3, rfl⟩
  · by_cases h1 : MOk p r c xs
    · exact fit_y hu hv (okB_yes h1) (okB_no fun g => h ⟨h1, g⟩)
    · exact fit_x hu hv (okB_no h1)
  · by_cases e : p = q
    · have hf : fit = false := by cases fit with | false => rfl | true => exact absurd ⟨e, rfl⟩ h3
      exact fit_f hu hv (okB_yes h1) (okB_yes h2) (by simpa using e) hf
    · exact fit_p hu hv (okB_yes h1) (okB_yes h2) (by simpa using e)
  · exact fit_t hu hv (okB_yes h1) (okB_yes h2) (by simp) h3

/-! ### The model's -/
theorem specOk_is {p r c : Int} {v : Value} {zs : List Int} {T : Bool} {L : Nat} {w : World} (hp : PtM w L p r c v) (hv : IntsAt w v zs) (h : okB p r c zs = T) :
    Calls Try.prog 81 #[.pointer (some ⟨L, 0, none⟩)] w fun e w' => e = .returned (.bool T) ∧ ∃ n, w' = w.drewN n := by subst h; exact specOk_any hp hv
/-- Both matrices are valid, as a Bool. -/
noncomputable def bothB (p r c : Int) (xs : List Int) (q s d : Int) (ys : List Int) : Bool := okB p r c xs && okB q s d ys
theorem bothB_yes {p r c : Int} {xs : List Int} {q s d : Int} {ys : List Int} (h1 : MOk p r c xs) (h2 : MOk q s d ys) : bothB p r c xs q s d ys = true := by simp [bothB, okB_yes h1, okB_yes h2]
theorem bothB_no {p r c : Int} {xs : List Int} {q s d : Int} {ys : List Int} (h : ¬ (MOk p r c xs ∧ MOk q s d ys)) : bothB p r c xs q s d ys = false := by
  unfold bothB
  by_cases h1 : MOk p r c xs
  · rw [okB_no (fun g => h ⟨h1, g⟩), Bool.and_false]
  · rw [okB_no h1, Bool.false_and]
set_option maxRecDepth 100000 in
theorem both_x {p r c q s d : Int} {u v : Value} {xs ys : List Int} {L M : Nat} {w : World} (h1 : PtM w L p r c u) (h2 : PtM w M q s d v) (hu : IntsAt w u xs) (hv : IntsAt w v ys) (g1 : okB p r c xs = false) :
    Calls Try.prog 89 #[.pointer (some ⟨L, 0, none⟩), .pointer (some ⟨M, 0, none⟩)] w fun e w' => e = .returned (.bool false) ∧ ∃ n, w' = w.drewN n := by
  have HU := Lib.hid hu
  have HV := Lib.hid hv
  have H1 := Lib.hid h1
  have H2 := Lib.hid h2
  clear hu hv h1 h2
  go_enter Try.func89, Try.ntmps89
  go_wp2_with fail
  refine (specOk_is H1.out HU.out (by assumption)).mono ?_
  rintro e w1 ⟨rfl, n, rfl⟩
  go_wp2_with fail
  go_ret
  exact ⟨rfl, _, rfl⟩
set_option maxRecDepth 100000 in
theorem both_y {p r c q s d : Int} {u v : Value} {xs ys : List Int} {L M : Nat} {w : World} (h1 : PtM w L p r c u) (h2 : PtM w M q s d v) (hu : IntsAt w u xs) (hv : IntsAt w v ys) {T : Bool} (g1 : okB p r c xs = true) (g2 : okB q s d ys = T) :
    Calls Try.prog 89 #[.pointer (some ⟨L, 0, none⟩), .pointer (some ⟨M, 0, none⟩)] w fun e w' => e = .returned (.bool T) ∧ ∃ n, w' = w.drewN n := by
  have HU := Lib.hid hu
  have HV := Lib.hid hv
  have H1 := Lib.hid h1
  have H2 := Lib.hid h2
  clear hu hv h1 h2
  go_enter Try.func89, Try.ntmps89
  go_wp2_with fail
  refine (specOk_is H1.out HU.out (by assumption)).mono ?_
  rintro e w1 ⟨rfl, n, rfl⟩
  go_wp2_with fail
  refine (specOk_is (H2.out.drewN n) HV.out (by assumption)).mono ?_
  rintro e w1 ⟨rfl, n2, rfl⟩
  go_wp2_with fail
  go_ret
  exact ⟨rfl, _, rfl⟩
theorem both_is {p r c q s d : Int} {u v : Value} {xs ys : List Int} {T : Bool} {L M : Nat} {w : World} (h1 : PtM w L p r c u) (h2 : PtM w M q s d v) (hu : IntsAt w u xs) (hv : IntsAt w v ys) (h : bothB p r c xs q s d ys = T) :
    Calls Try.prog 89 #[.pointer (some ⟨L, 0, none⟩), .pointer (some ⟨M, 0, none⟩)] w fun e w' => e = .returned (.bool T) ∧ Below w.heap.size w w' := by
  subst h
  refine Calls.mono (R := fun e w' => e = .returned (.bool (bothB p r c xs q s d ys)) ∧ ∃ n, w' = w.drewN n) ?_ (fun e w' ⟨he, n, hn⟩ => ⟨he, by rw [hn]; exact below_drewX (Below.refl _ _) n⟩)
  cases g1 : okB p r c xs with
  | false => unfold bothB; rw [g1, Bool.false_and]; exact both_x h1 h2 hu hv g1
  | true => unfold bothB; rw [g1, Bool.true_and]; exact both_y h1 h2 hu hv g1 rfl
end Go.Proofs.Ytabanmaaagmeaaa
