/-
  The parts of a set of vertices, plainly and by the program: faces.
-/
import Derived.Test.YtibdcejglkhcfaaGreatDoorCxU
import Derived.Test.YtibdcejglkhcfaaGreatDoorCxP
namespace Go.Proofs.YtibdcejglkhcfaaGreatDoor
open Go.RowKit Go.Sort Go.Shelf
set_option linter.unusedVariables false
set_option linter.unusedSimpArgs false

/-- The parts of m from f downwards, n of them at most. -/
def runM (m : Nat) : Nat → Nat → List Nat
  | 0, _ => []
  | n + 1, f => if f = 0 then [] else f :: runM m n ((f - 1) &&& m)
theorem runM_zero (m n : Nat) : runM m n 0 = [] := by cases n <;> simp [runM]
theorem runM_pos {m n f : Nat} (h : f ≠ 0) : runM m (n + 1) f = f :: runM m n ((f - 1) &&& m) := by simp [runM, h]
/-- The parts of m that are not empty. -/
def subM (m : Nat) : List Nat := runM m 16 m
def chkM (m : Nat) : Bool := decide ((subM m).length ≤ 15) && ((List.range (m + 1)).filter fun f => f != 0 && (f &&& m == f)).all (fun f => (subM m).contains f) && (subM m).all fun f => f != 0 && (f &&& m == f)
theorem chk_all : ∀ m : Fin 1024, (vertsOf m.val).length ≤ 4 → chkM m.val = true := by decide +kernel
theorem subM_len {m : Nat} (hm : m < 1024) (h4 : (vertsOf m).length ≤ 4) : (subM m).length ≤ 15 := by
  have := chk_all ⟨m, hm⟩ h4
  simp only [chkM, Bool.and_eq_true, decide_eq_true_eq] at this
  exact this.1.1
theorem mem_subM {m f : Nat} (hm : m < 1024) (h4 : (vertsOf m).length ≤ 4) : f ∈ subM m ↔ f ≠ 0 ∧ SubM f m := by
  have h := chk_all ⟨m, hm⟩ h4
  simp only [chkM, Bool.and_eq_true, decide_eq_true_eq, List.all_eq_true, List.mem_filter, List.mem_range, bne_iff_ne, ne_eq, beq_iff_eq, List.contains_iff_mem] at h
  constructor
  · intro hf
    have := h.2 f hf
    exact ⟨this.1, subM_and.2 this.2⟩
  · rintro ⟨h0, hs⟩
    have hs' := subM_and.1 hs
    refine h.1.2 f ⟨?_, h0, hs'⟩
    have : f &&& m ≤ m := Nat.and_le_right
    omega
/-- Numbers of sets as values. -/
def uv (fs : List Nat) : List Value := fs.map fun (f : Nat) => .int .u16 (f : Int)
def OwnU (B : Nat) (w : World) (v : Value) (fs : List Nat) : Prop := w.ownsRow B 68 1 v fs.length (uv fs)
theorem OwnU.out {B : Nat} {w : World} {v : Value} {fs : List Nat} (h : OwnU B w v fs) : w.ownsRow B 68 1 v fs.length (uv fs) := h
theorem pushUv {B : Nat} {w : World} {v : Value} {fs : List Nat} {f : Nat} (h : w.ownsRow B 68 1 v (fs.length + 1) (uv fs ++ [.int .u16 (f : Int)])) : OwnU B w v (fs ++ [f]) := by
  unfold OwnU uv at *; rw [List.length_append, List.map_append]; exact h
theorem below_pushUv {B0 B : Nat} {w0 w w1 : World} {v : Value} {fs : List Nat} {o : Obj} (hb : Below B0 w0 w) (hle : B0 ≤ B) (hB : B ≤ w.heap.size) (h : OwnU B w v fs) (hg : (w.alloc o).grownBy w1 v.ownBlock) : Below B0 w0 w1 :=
  (hb.alloc (by omega) o).grown hg (by simp; omega) (fun k hk => by have := (h.out.lt k hk).1; omega)
theorem info_u : (Tryz.prog.info? 68).map (fun i => (i.zero, i.size, i.bytes)) = some (some (.int .u16 0), 1, 2) := by kernel_rfl
def RetU (fs : List Nat) (w : World) (e : Ending) (w' : World) : Prop := ∃ v, e = .returned v ∧ OwnU w.heap.size w' v fs ∧ Below w.heap.size w w'
set_option maxRecDepth 100000 in
set_option maxHeartbeats 1600000 in
theorem faces_any {m : Nat} (hm : m < 1024) (h4 : (vertsOf m).length ≤ 4) (w : World) :
    Calls Tryz.prog 162 #[.int .u16 (m : Int)] w fun e w' => RetU (subM m) w e w' := by
  obtain ⟨i0, hi, iz0, iz1, iz2⟩ := info_parts info_u
  have HL := Lib.hid (subM_len hm h4)
  clear h4
  go_enter Tryz.func162, Tryz.ntmps162
  go_wp2_with fail
  go_loopw [3, 4] (fun sv sf wr => ∃ (f n : Nat) (fs : List Nat), sf = .int .u16 (f : Int) ∧ f < 1024 ∧ Hid (n + fs.length = 16) ∧ Hid (fs ++ runM m n f = subM m) ∧ Hid (OwnU w.heap.size wr sv fs) ∧ Hid (Below w.heap.size w wr)) (fun _ sf _ => (intOf sf).toNat)
  case atStart => exact ⟨m, 16, [], rfl, hm, rfl, rfl, World.ownsRow_nil _ _ _ _, Below.refl _ _⟩
  case round =>
    obtain ⟨f, n, fs, rfl, hf, HN, HR, HO, HB⟩ := hrel
    have hs := HB.out.size
    have hfl : fs.length ≤ 16 := by have := HN.out; omega
    rcases Nat.eq_zero_or_pos f with h0 | h0
    · subst h0
      have ht : Hid (fs = subM m) := by
        show _ = _
        have := HR.out
        rw [runM_zero, List.append_nil] at this
        exact this
      have e0 : (((0 : Nat) : Int) != 0) = false := by simp
      go_wp2_with fail
      go_ret
      exact ⟨_, rfl, by rw [← ht.out]; exact HO.out, HB.out⟩
    · obtain ⟨q, hq⟩ : ∃ q, n = q + 1 := by
        cases n with
        | zero =>
          have h1 := HR.out
          have h2 := HN.out
          simp only [runM, List.append_nil] at h1
          have h3 := HL.out
          rw [← h1] at h3; omega
        | succ q => exact ⟨q, rfl⟩
      have hr := HR.out
      rw [hq, runM_pos (by omega)] at hr
      have HR2 : Hid ((fs ++ [f]) ++ runM m q ((f - 1) &&& m) = subM m) := by show _ = _; rw [List.append_assoc]; exact hr
      have HN2 : Hid (q + (fs ++ [f]).length = 16) := by show _ = _; rw [List.length_append]; have := HN.out; rw [List.length_singleton]; omega
      have hle : (f - 1) &&& m ≤ f - 1 := Nat.and_le_left
      have hg : (f - 1) &&& m < 1024 := by omega
      have hlt : (f - 1) &&& m < f := by omega
      have e0 : ((f : Int) != 0) = true := by simp; omega
      have e0' : ((f : Int) == 0) = false := by simp; omega
      have e1 : IntKind.u16.wrap ((f : Int) - 1) = ((f - 1 : Nat) : Int) := by
        rw [show (f : Int) - 1 = ((f - 1 : Nat) : Int) by omega]
        simp only [IntKind.wrap, IntKind.bits, IntKind.signed, Bool.false_and]
        simp
        omega
      have e2 : bits BinOp.and IntKind.u16 ((f - 1 : Nat) : Int) (m : Int) = (((f - 1) &&& m : Nat) : Int) := and_u16 (by omega) (by omega)
      have e3 : bits BinOp.and IntKind.u16 ((f : Int) - 1) (m : Int) = (((f - 1) &&& m : Nat) : Int) := by rw [← e2]; congr 1; omega
      obtain ⟨g, hgg⟩ : ∃ g, (f - 1) &&& m = g := ⟨_, rfl⟩
      rw [hgg] at hg hlt e2 e3 HR2
      have f1 : (1 : Int) ≤ (f : Int) := by omega
      clear hr hq HR HN hgg hle
      have hown := HO.out
      go_wp2_with (at_builtin; refine wpList_append_own _ rfl _ _ 64 rfl w.heap.size 68 i0 (.int .u16 0) 1 2 Tryz.underlying64 hi iz0 iz1 iz2 rfl (by decide) _ _ _ rfl (hown.out.alloc _) ⟨wr.heap.size, 0, none⟩ 1 1 [.int .u16 (f : Int)] rfl rfl ?ah1 ?ah2 ?ah3 ?ah4 ?ah5 ?_)
      try (case ah1 => exact row_one _ _ _)
      case ah2 => first | rfl | (intro u hu; simp at hu; subst hu; rfl)
      case ah3 => unfold maxLen; omega
      case ah4 => omega
      case ah5 => first | omega | (simp; omega)
      intro v2 w10 hown3 hgrow _
      have HO2 := Lib.hid (pushUv hown3)
      have HB2 := Lib.hid (below_pushUv HB.out (Nat.le_refl _) hs hown hgrow)
      clear hown3 hgrow hown HO
      go_wp2_with fail
      go_roundw
      case rel => exact ⟨g, q, fs ++ [f], rfl, hg, HN2, HR2, HO2, HB2⟩
      case measure => simp [intOf]; omega
end Go.Proofs.YtibdcejglkhcfaaGreatDoor
