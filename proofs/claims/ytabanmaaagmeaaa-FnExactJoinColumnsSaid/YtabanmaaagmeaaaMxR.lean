/-
  Blocks that a call makes and fills: rows of numbers; matrices of zeros.
-/
import Derived.Test.YtabanmaaagmeaaaMxW
namespace Go.Proofs.Ytabanmaaagmeaaa
open Go.RowKit
set_option linter.unusedVariables false

theorem OwnI.of_row {B g : Nat} {w : World} {zs : List Int} (h : w.rowIs g 2 zs.length (fun t => .int .i64 (zs.getD t 0))) (hB : B ≤ g) (hl : zs.length ≤ 1048576) : OwnI B w (.slice (some ⟨g, 0, none⟩) zs.length zs.length) zs := by
  obtain ⟨c, hc, hn, hi⟩ := h
  refine ⟨by simp [iv_len], .inr ⟨g, zs.length, c, rfl, hB, hc, Nat.le_refl _, by unfold maxLen; omega, by omega, ?_⟩⟩
  refine List.ext_getElem (by simp [iv_len, hn]) fun j h1 h2 => ?_
  have hj : j < zs.length := by simpa [iv_len] using h2
  have := hi j hj
  rw [getElem?_pos c j (by omega)] at this
  injection this with this
  rw [List.getElem_take]
  show c[j] = (iv zs)[j]
  rw [this]
  simp [iv, List.getD, List.getElem?_eq_getElem hj]
theorem gb_set {a w : World} {g o : Nat} (h : a.grownBy w (some g)) (v : Value) : a.grownBy (w.setCell ⟨g, o, none⟩ v) (some g) :=
  ⟨h.os, h.tape, h.output, by simpa [World.setCell] using h.size, fun i hi hne => (Deep.blk_setCell_other _ _ _ _ (fun e => hne (by rw [e]))).trans (h.block i hi hne)⟩
theorem gb_drew {a w : World} {row : Option Nat} (h : a.grownBy w row) : a.grownBy w.drew row := ⟨h.os, h.tape, h.output, h.size, h.block⟩
theorem gb_drewN {a w : World} {row : Option Nat} (h : a.grownBy w row) (n : Nat) : a.grownBy (w.drewN n) row := ⟨h.os, h.tape, h.output, h.size, h.block⟩
theorem gb_alloc {a w : World} {row : Option Nat} (h : a.grownBy w row) (o : Obj) : a.grownBy (w.alloc o) row :=
  ⟨h.os, h.tape, h.output, Nat.le_trans h.size (by simp), fun i hi hne => (Deep.blk_alloc_lt w o i (Nat.lt_of_lt_of_le hi h.size)).trans (h.block i hi hne)⟩
theorem gb_below {a w : World} (h : Below a.heap.size a w) (row : Option Nat) : a.grownBy w row := ⟨h.os, h.tape, h.output, h.size, fun i hi _ => h.block i hi⟩
theorem PtM.gb {a w : World} {L g : Nat} {p r c : Int} {v : Value} (h : PtM a L p r c v) (hg : a.grownBy w (some g)) (hne : L ≠ g) : PtM w L p r c v := by
  have hb : ∀ o, w.cell? ⟨L, o, none⟩ = a.cell? ⟨L, o, none⟩ := fun o => World.cell?_of_block (hg.block L h.1 (fun e => hne (by injection e)))
  obtain ⟨h0, h1, h2, h3, h4⟩ := h
  exact ⟨Nat.lt_of_lt_of_le h0 hg.size, (hb _).trans h1, (hb _).trans h2, (hb _).trans h3, (hb _).trans h4⟩
theorem below_gb {B : Nat} {w0 a w : World} {g : Nat} (h : Below B w0 a) (hg : a.grownBy w (some g)) (hB : B ≤ g) (hs : B ≤ a.heap.size) : Below B w0 w :=
  h.grown hg hs (fun k e => by injection e with e; omega)
theorem rowIs_drewN {w : World} {b : Nat} {t : TypeId} {n : Nat} {f : Nat → Value} (h : w.rowIs b t n f) (k : Nat) : (w.drewN k).rowIs b t n f := h
theorem rowIs_on {w w' : World} {b : Nat} {t : TypeId} {n : Nat} {f : Nat → Value} (h : w.rowIs b t n f) (hb : Below w.heap.size w w') : w'.rowIs b t n f := h.of_block (hb.block b h.lt)
theorem rowIs_gb {a w : World} {b g : Nat} {t : TypeId} {n : Nat} {f : Nat → Value} (h : a.rowIs b t n f) (hg : a.grownBy w (some g)) (hne : b ≠ g) : w.rowIs b t n f := h.of_block (hg.block b h.lt (fun e => hne (by injection e)))
theorem info_i : (Try.prog.info? 2).map (fun i => (i.zero, i.size, i.bytes)) = some (some (.int .i64 0), 1, 8) := info2
/-- How a call ends that makes a matrix of zeros of n cells. -/
def RetZ (p r c : Int) (n : Nat) (w : World) (e : Ending) (w' : World) : Prop :=
  ∃ g, e = .returned (.agg #[.int .i64 p, .int .i64 r, .int .i64 c, .slice (some ⟨g, 0, none⟩) n n]) ∧ w.heap.size ≤ g ∧ w'.rowIs g 2 n (fun _ => .int .i64 0) ∧ Below w.heap.size w w'
theorem row_made (w : World) (n : Nat) (o : Obj) : (w.alloc (.cells (madeCells #[.int .i64 0] n) 2)).rowIs w.heap.size 2 n (fun _ => .int .i64 0) := World.rowIs_made w _ n _
theorem rowIs_setO {w : World} {b : Nat} {t : TypeId} {n : Nat} {f : Nat → Value} (h : w.rowIs b t n f) {c o : Nat} (hne : b ≠ c) (v : Value) : (w.setCell ⟨c, o, none⟩ v).rowIs b t n f := h.setOther (a := ⟨c, o, none⟩) hne v
set_option maxRecDepth 100000 in
set_option maxHeartbeats 800000 in
theorem implZeros_any (p r c : Int) (n : Nat) (w : World) (hn : r * c = n) (hl : n ≤ 1048576) :
    Calls Try.prog 70 #[.int .i64 p, .int .i64 r, .int .i64 c] w fun e w' => RetZ p r c n w e w' := by
  have wr : IntKind.i64.wrap (r * c) = (n : Int) := by rw [hn]; exact IntWalk.i64_in _ (by omega)
  have hmk := run_make_row' (P := Try.prog) 25 2 (.int .i64 0) 8 Try.underlying25 info2 rfl .i64 .i64 n (by omega) (by omega)
  have HN := Lib.hid hn
  clear hn
  go_enter Try.func70, Try.ntmps70
  go_wp2
  refine bodyPost_ret (v := .agg #[.int .i64 p, .int .i64 r, .int .i64 c, .slice (some ⟨w.heap.size + 1, 0, none⟩) n n]) (by simp [results, Try.results70, go_sem]) rfl ⟨_, rfl, by omega, ?_, ?_⟩
  · simpa using World.rowIs_made (w.alloc _) (.int .i64 0) n 2
  · exact al1 (al1 (Below.refl _ _) _) _
set_option maxRecDepth 100000 in
set_option maxHeartbeats 800000 in
theorem specZeros_any (p r c : Int) (n : Nat) (w : World) (hn : r * c = n) (hl : n ≤ 1048576) :
    Calls Try.prog 86 #[.int .i64 p, .int .i64 r, .int .i64 c] w fun e w' => RetZ p r c n w e w' := by
  have wr : IntKind.i64.wrap (r * c) = (n : Int) := by rw [hn]; exact IntWalk.i64_in _ (by omega)
  have hmk := run_make_row' (P := Try.prog) 25 2 (.int .i64 0) 8 Try.underlying25 info2 rfl .i64 .i64 n (by omega) (by omega)
  have HN := Lib.hid hn
  clear hn
  go_enter Try.func86, Try.ntmps86
  go_wp2
  refine bodyPost_ret (v := .agg #[.int .i64 p, .int .i64 r, .int .i64 c, .slice (some ⟨w.heap.size + 1, 0, none⟩) n n]) (by simp [results, Try.results86, go_sem]) rfl ⟨_, rfl, by omega, ?_, ?_⟩
  · simpa using World.rowIs_made (w.alloc _) (.int .i64 0) n 2
  · exact al1 (al1 (Below.refl _ _) _) _
/-- A matrix and a code. -/
def RetMC (P R C : Int) (zs : List Int) (k : Int) (w : World) (e : Ending) (w' : World) : Prop :=
  ∃ v, e = .returned (.tuple #[.agg #[.int .i64 P, .int .i64 R, .int .i64 C, v], .int .i64 k]) ∧ OwnI w.heap.size w' v zs ∧ Below w.heap.size w w'
theorem OwnI.nul (B : Nat) (w : World) : OwnI B w (.slice none 0 0) [] := World.ownsRow_nil _ _ _ _
theorem OwnI.zeros {B g n : Nat} {w : World} (h : w.rowIs g 2 n (fun _ => .int .i64 0)) (hB : B ≤ g) (hl : n ≤ 1048576) : OwnI B w (.slice (some ⟨g, 0, none⟩) n n) (List.replicate n 0) := by
  have e : (List.replicate n (0 : Int)).length = n := by simp
  have := OwnI.of_row (zs := List.replicate n 0) (B := B) (g := g) (w := w) (by rw [e]; exact h.congr fun i hi => by simp [List.getD, hi]) hB (by rw [e]; exact hl)
  rwa [e] at this

theorem specVPy {p : Int} (w : World) (h : IsPr p) : Calls Try.prog 84 #[.int .i64 p] w fun e w' => e = .returned (.bool true) ∧ w = w' := specVP_is w (prB_yes h)
theorem specVPn {p : Int} (w : World) (h : ¬ IsPr p) : Calls Try.prog 84 #[.int .i64 p] w fun e w' => e = .returned (.bool false) ∧ w = w' := specVP_is w (prB_no h)

/-! ### ZeroMatrix -/
def ZRes (p r c P R C : Int) (zs : List Int) (k : Int) : Prop :=
  (¬ IsPr p ∧ P = 0 ∧ R = 0 ∧ C = 0 ∧ zs = [] ∧ k = 1) ∨ (IsPr p ∧ (inB r 0 32 && inB c 0 32) = false ∧ P = 0 ∧ R = 0 ∧ C = 0 ∧ zs = [] ∧ k = 2) ∨
  (IsPr p ∧ inB r 0 32 = true ∧ inB c 0 32 = true ∧ P = p ∧ R = r ∧ C = c ∧ zs = List.replicate (r * c).toNat 0 ∧ k = 0)
theorem inB_and {n lo hi : Int} : inB n lo hi = true → lo ≤ n ∧ n ≤ hi := by simp [inB]
theorem zRes_has (p r c : Int) : ∃ P R C zs k, ZRes p r c P R C zs k := by
  by_cases hp : IsPr p
  · cases hr : inB r 0 32 with
    | false => exact ⟨_, _, _, _, _, .inr (.inl ⟨hp, by rw [hr]; rfl, rfl, rfl, rfl, rfl, rfl⟩)⟩
    | true =>
      cases hc : inB c 0 32 with
      | false => exact ⟨_, _, _, _, _, .inr (.inl ⟨hp, by rw [hr, hc]; rfl, rfl, rfl, rfl, rfl, rfl⟩)⟩
      | true => exact ⟨_, _, _, _, _, .inr (.inr ⟨hp, hr, hc, rfl, rfl, rfl, rfl, rfl⟩)⟩
  · exact ⟨_, _, _, _, _, .inl ⟨hp, rfl, rfl, rfl, rfl, rfl⟩⟩
theorem ZRes.len {p r c P R C k : Int} {zs : List Int} (h : ZRes p r c P R C zs k) : zs.length ≤ 1048576 := by
  rcases h with ⟨_, _, _, _, rfl, _⟩ | ⟨_, _, _, _, _, rfl, _⟩ | ⟨_, hr, hc, _, _, _, rfl, _⟩
  · simp
  · simp
  · have := mul_side (inB_and hr).1 (inB_and hr).2 (inB_and hc).1 (inB_and hc).2
    rw [List.length_replicate]; omega
set_option maxRecDepth 100000 in
set_option maxHeartbeats 800000 in
theorem specZero_np {p r c : Int} {w : World} (hp : ¬ IsPr p) :
    Calls Try.prog 41 #[.int .i64 p, .int .i64 r, .int .i64 c] w fun e w' => RetMC 0 0 0 [] 1 w e w' := by
  have HP := Lib.hid hp
  clear hp
  go_enter Try.func41, Try.ntmps41
  go_wp2_with fail
  refine (specVPn _ HP.out).mono ?_
  rintro e w' ⟨rfl, rfl⟩
  go_wp2_with fail
  exact bodyPost_ret (v := .tuple #[.agg #[.int .i64 0, .int .i64 0, .int .i64 0, .slice none 0 0], .int .i64 1]) (by simp [results, Try.results41, go_sem]) rfl ⟨_, rfl, OwnI.nul _ _, al1 (Below.refl _ _) _⟩
set_option maxRecDepth 100000 in
set_option maxHeartbeats 800000 in
theorem specZero_nr {p r c : Int} {w : World} (hp : IsPr p) (g1 : inB r 0 32 = false) :
    Calls Try.prog 41 #[.int .i64 p, .int .i64 r, .int .i64 c] w fun e w' => RetMC 0 0 0 [] 2 w e w' := by
  have HP := Lib.hid hp
  clear hp
  go_enter Try.func41, Try.ntmps41
  go_wp2_with fail
  refine (specVPy _ HP.out).mono ?_
  rintro e w' ⟨rfl, rfl⟩
  go_wp2_with fail
  refine (l00In_is _ (by assumption)).mono ?_
  rintro e w' ⟨rfl, rfl⟩
  go_wp2_with fail
  exact bodyPost_ret (v := .tuple #[.agg #[.int .i64 0, .int .i64 0, .int .i64 0, .slice none 0 0], .int .i64 2]) (by simp [results, Try.results41, go_sem]) rfl ⟨_, rfl, OwnI.nul _ _, al1 (Below.refl _ _) _⟩
set_option maxRecDepth 100000 in
set_option maxHeartbeats 800000 in
theorem specZero_nc {p r c : Int} {w : World} (hp : IsPr p) (g1 : inB r 0 32 = true) (g2 : inB c 0 32 = false) :
    Calls Try.prog 41 #[.int .i64 p, .int .i64 r, .int .i64 c] w fun e w' => RetMC 0 0 0 [] 2 w e w' := by
  have HP := Lib.hid hp
  clear hp
  go_enter Try.func41, Try.ntmps41
  go_wp2_with fail
  refine (specVPy _ HP.out).mono ?_
  rintro e w' ⟨rfl, rfl⟩
  go_wp2_with fail
  refine (l00In_is _ (by assumption)).mono ?_
  rintro e w' ⟨rfl, rfl⟩
  go_wp2_with fail
  refine (l00In_is _ (by assumption)).mono ?_
  rintro e w' ⟨rfl, rfl⟩
  go_wp2_with fail
  exact bodyPost_ret (v := .tuple #[.agg #[.int .i64 0, .int .i64 0, .int .i64 0, .slice none 0 0], .int .i64 2]) (by simp [results, Try.results41, go_sem]) rfl ⟨_, rfl, OwnI.nul _ _, al1 (Below.refl _ _) _⟩
set_option maxRecDepth 100000 in
set_option maxHeartbeats 800000 in
theorem specZero_ok {p r c : Int} {w : World} (n : Nat) (hn : r * c = n) (hl : n ≤ 1048576) (hp : IsPr p) (g1 : inB r 0 32 = true) (g2 : inB c 0 32 = true) :
    Calls Try.prog 41 #[.int .i64 p, .int .i64 r, .int .i64 c] w fun e w' => RetMC p r c (List.replicate n 0) 0 w e w' := by
  have HP := Lib.hid hp
  have HN := Lib.hid hn
  clear hp hn
  go_enter Try.func41, Try.ntmps41
  go_wp2_with fail
  refine (specVPy _ HP.out).mono ?_
  rintro e w' ⟨rfl, rfl⟩
  go_wp2_with fail
  refine (l00In_is _ (by assumption)).mono ?_
  rintro e w' ⟨rfl, rfl⟩
  go_wp2_with fail
  refine (l00In_is _ (by assumption)).mono ?_
  rintro e w' ⟨rfl, rfl⟩
  go_wp2_with fail
  refine (specZeros_any p r c n _ HN.out hl).mono ?_
  rintro e w1 ⟨g, rfl, hg, hrow, hb⟩
  obtain ⟨hc, hf⟩ := bcell hb
  have HR := Lib.hid hrow
  have HB := Lib.hid hb
  have hz : w.heap.size + 1 ≤ w1.heap.size := by have := hb.size; simp at this; omega
  have hg2 : w.heap.size + 1 ≤ g := by simpa using hg
  clear hrow hb hg
  go_wp2_with fail
  refine bodyPost_ret (v := .tuple #[.agg #[.int .i64 p, .int .i64 r, .int .i64 c, .slice (some ⟨g, 0, none⟩) n n], .int .i64 0]) (by simp [results, Try.results41, go_sem, hc]) rfl ⟨_, rfl, ?_, ?_⟩
  · refine OwnI.mono (B := w.heap.size + 1) ?_ (by omega)
    repeat (refine OwnI.setOut ?_ (by omega) _)
    exact OwnI.zeros HR.out hg2 hl
  · repeat (refine Below.setC ?_ (by omega) _)
    exact up1 HB.out
theorem specZero_any {p r c P R C k : Int} {zs : List Int} (w : World) (h : ZRes p r c P R C zs k) :
    Calls Try.prog 41 #[.int .i64 p, .int .i64 r, .int .i64 c] w fun e w' => RetMC P R C zs k w e w' := by
  rcases h with ⟨hp, rfl, rfl, rfl, rfl, rfl⟩ | ⟨hp, hs, rfl, rfl, rfl, rfl, rfl⟩ | ⟨hp, hr, hc, rfl, rfl, rfl, rfl, rfl⟩
  · exact specZero_np hp
  · cases hr : inB r 0 32 with
    | false => exact specZero_nr hp hr
    | true => rw [hr] at hs; exact specZero_nc hp hr hs
  · have hm := mul_side (inB_and hr).1 (inB_and hr).2 (inB_and hc).1 (inB_and hc).2
    exact specZero_ok (R * C).toNat (by omega) (by omega) hp hr hc
set_option maxRecDepth 100000 in
set_option maxHeartbeats 800000 in
theorem implZero_np {p r c : Int} {w : World} (hp : ¬ IsPr p) :
    Calls Try.prog 42 #[.int .i64 p, .int .i64 r, .int .i64 c] w fun e w' => RetMC 0 0 0 [] 1 w e w' := by
  have HP := Lib.hid hp
  clear hp
  go_enter Try.func42, Try.ntmps42
  go_wp2_with fail
  refine (implPrime_no _ _ HP.out).mono ?_
  rintro e w' ⟨rfl, rfl⟩
  go_wp2_with fail
  exact bodyPost_ret (v := .tuple #[.agg #[.int .i64 0, .int .i64 0, .int .i64 0, .slice none 0 0], .int .i64 1]) (by simp [results, Try.results42, go_sem]) rfl ⟨_, rfl, OwnI.nul _ _, al1 (Below.refl _ _) _⟩
set_option maxRecDepth 100000 in
set_option maxHeartbeats 800000 in
theorem implZero_nr {p r c : Int} {w : World} (hp : IsPr p) (g1 : inB r 0 32 = false) :
    Calls Try.prog 42 #[.int .i64 p, .int .i64 r, .int .i64 c] w fun e w' => RetMC 0 0 0 [] 2 w e w' := by
  have HP := Lib.hid hp
  clear hp
  go_enter Try.func42, Try.ntmps42
  go_wp2_with fail
  refine (implPrime_yes _ _ HP.out).mono ?_
  rintro e w' ⟨rfl, rfl⟩
  go_wp2_with fail
  refine (side_is _ (by assumption)).mono ?_
  rintro e w' ⟨rfl, rfl⟩
  go_wp2_with fail
  exact bodyPost_ret (v := .tuple #[.agg #[.int .i64 0, .int .i64 0, .int .i64 0, .slice none 0 0], .int .i64 2]) (by simp [results, Try.results42, go_sem]) rfl ⟨_, rfl, OwnI.nul _ _, al1 (Below.refl _ _) _⟩
set_option maxRecDepth 100000 in
set_option maxHeartbeats 800000 in
theorem implZero_nc {p r c : Int} {w : World} (hp : IsPr p) (g1 : inB r 0 32 = true) (g2 : inB c 0 32 = false) :
    Calls Try.prog 42 #[.int .i64 p, .int .i64 r, .int .i64 c] w fun e w' => RetMC 0 0 0 [] 2 w e w' := by
  have HP := Lib.hid hp
  clear hp
  go_enter Try.func42, Try.ntmps42
  go_wp2_with fail
  refine (implPrime_yes _ _ HP.out).mono ?_
  rintro e w' ⟨rfl, rfl⟩
  go_wp2_with fail
  refine (side_is _ (by assumption)).mono ?_
  rintro e w' ⟨rfl, rfl⟩
  go_wp2_with fail
  refine (side_is _ (by assumption)).mono ?_
  rintro e w' ⟨rfl, rfl⟩
  go_wp2_with fail
  exact bodyPost_ret (v := .tuple #[.agg #[.int .i64 0, .int .i64 0, .int .i64 0, .slice none 0 0], .int .i64 2]) (by simp [results, Try.results42, go_sem]) rfl ⟨_, rfl, OwnI.nul _ _, al1 (Below.refl _ _) _⟩
set_option maxRecDepth 100000 in
set_option maxHeartbeats 800000 in
theorem implZero_ok {p r c : Int} {w : World} (n : Nat) (hn : r * c = n) (hl : n ≤ 1048576) (hp : IsPr p) (g1 : inB r 0 32 = true) (g2 : inB c 0 32 = true) :
    Calls Try.prog 42 #[.int .i64 p, .int .i64 r, .int .i64 c] w fun e w' => RetMC p r c (List.replicate n 0) 0 w e w' := by
  have HP := Lib.hid hp
  have HN := Lib.hid hn
  clear hp hn
  go_enter Try.func42, Try.ntmps42
  go_wp2_with fail
  refine (implPrime_yes _ _ HP.out).mono ?_
  rintro e w' ⟨rfl, rfl⟩
  go_wp2_with fail
  refine (side_is _ (by assumption)).mono ?_
  rintro e w' ⟨rfl, rfl⟩
  go_wp2_with fail
  refine (side_is _ (by assumption)).mono ?_
  rintro e w' ⟨rfl, rfl⟩
  go_wp2_with fail
  refine (implZeros_any p r c n _ HN.out hl).mono ?_
  rintro e w1 ⟨g, rfl, hg, hrow, hb⟩
  obtain ⟨hc, hf⟩ := bcell hb
  have HR := Lib.hid hrow
  have HB := Lib.hid hb
  have hz : w.heap.size + 1 ≤ w1.heap.size := by have := hb.size; simp at this; omega
  have hg2 : w.heap.size + 1 ≤ g := by simpa using hg
  clear hrow hb hg
  go_wp2_with fail
  refine bodyPost_ret (v := .tuple #[.agg #[.int .i64 p, .int .i64 r, .int .i64 c, .slice (some ⟨g, 0, none⟩) n n], .int .i64 0]) (by simp [results, Try.results42, go_sem, hc]) rfl ⟨_, rfl, ?_, ?_⟩
  · refine OwnI.mono (B := w.heap.size + 1) ?_ (by omega)
    repeat (refine OwnI.setOut ?_ (by omega) _)
    exact OwnI.zeros HR.out hg2 hl
  · repeat (refine Below.setC ?_ (by omega) _)
    exact up1 HB.out
theorem implZero_any {p r c P R C k : Int} {zs : List Int} (w : World) (h : ZRes p r c P R C zs k) :
    Calls Try.prog 42 #[.int .i64 p, .int .i64 r, .int .i64 c] w fun e w' => RetMC P R C zs k w e w' := by
  rcases h with ⟨hp, rfl, rfl, rfl, rfl, rfl⟩ | ⟨hp, hs, rfl, rfl, rfl, rfl, rfl⟩ | ⟨hp, hr, hc, rfl, rfl, rfl, rfl, rfl⟩
  · exact implZero_np hp
  · cases hr : inB r 0 32 with
    | false => exact implZero_nr hp hr
    | true => rw [hr] at hs; exact implZero_nc hp hr hs
  · have hm := mul_side (inB_and hr).1 (inB_and hr).2 (inB_and hc).1 (inB_and hc).2
    exact implZero_ok (R * C).toNat (by omega) (by omega) hp hr hc
end Go.Proofs.Ytabanmaaagmeaaa
