/-
  The space of some vectors, by the program.
-/
import Derived.Test.YtpimnngomodnhaaSpB
import Derived.Test.YtpimnngomodnhaaPF
import Derived.Deep.DeepCutAuto
namespace Go.Proofs.Ytpimnngomodnhaa
open Go.RowKit
open Lin
set_option linter.unusedVariables false
set_option linter.unusedSectionVars false

/-- A row of numbers as an own row. -/
theorem OwnI.of_rowIs {B g n c : Nat} {w : World} {F : Nat → Value} {zs : List Int} (h : w.rowIs g 2 c F) (hB : B ≤ g) (hn : zs.length = n) (hc : n ≤ c) (hm : c ≤ maxLen) (hF : ∀ j (h : j < zs.length), F j = .int .i64 zs[j]) : OwnI B w (.slice (some ⟨g, 0, none⟩) n c) zs := by
  subst hn
  obtain ⟨cur, hcur, hs, hi⟩ := h
  refine ⟨by simp [iv_len], .inr ⟨g, c, cur, rfl, hB, hcur, hc, hm, by omega, ?_⟩⟩
  refine List.ext_getElem (by simp [iv_len, hs]; omega) fun j h1 h2 => ?_
  have hj : j < zs.length := by simpa [iv_len] using h2
  have := hi j (by omega)
  rw [getElem?_pos cur j (by omega), hF j hj] at this
  injection this with this
  rw [List.getElem_take]
  show cur[j] = (iv zs)[j]
  rw [this]
  simp [iv]
/-- What reduce hands back: the first rows lie in blocks of their own. -/
def RedU {q : Nat} [NeZero q] (B : Nat) (w : World) (L m N : Nat) (s : St q) : Prop :=
  ∃ (H : Nat) (zs : List Int) (pv : Value) (V : Nat → Value), PtR w L H m q zs pv (fv s.d) ∧ OwnI B w pv (pivI s.piv) ∧
    (∀ i, i < s.piv.length → w.cell? ⟨H, i, none⟩ = some (V i) ∧ OwnI B w (V i) (rowL N s.A i)) ∧ ∀ i j g, i < s.piv.length → j < s.piv.length → (V i).ownBlock = some g → (V j).ownBlock = some g → i = j
theorem reduce_own {q m N : Nat} [NeZero q] {A : Mt q} {v : Value} {w : World} (hv : RowsC w v m (rowL N A)) (hq : IsPr (q : Int)) (hm : m ≤ 1048576) (hN : N ≤ 64) :
    Calls Try.prog 82 #[v, .int .i64 (N : Int), .int .i64 (q : Int)] w fun e w' => ∃ L, e = .returned (.pointer (some ⟨L, 0, none⟩)) ∧ w.heap.size ≤ L ∧ RedU w.heap.size w' L m N (red m A N) ∧ Below w.heap.size w w' := by
  by_cases hN0 : N = 0
  · subst hN0
    refine (reduce_zero hv hq hm).mono ?_
    rintro e w' ⟨L, rfl, hL, ⟨H, zs, pv, hP, _, hO⟩, hb⟩
    exact ⟨L, rfl, hL, ⟨H, zs, pv, fun _ => .slice none 0 0, hP, hO, fun i hi => absurd hi (Nat.not_lt_zero _), fun i j g hi => absurd hi (Nat.not_lt_zero _)⟩, hb⟩
  · refine (reduce_some (c := N) hv hq hm hN (by omega) (Nat.le_refl _)).mono ?_
    rintro e w' ⟨L, H, zs, rfl, hH, hL, hS, hb⟩
    obtain ⟨G, C, pv, hP, hR, hO, hGL⟩ := hS.ex
    have hle := piv_le_rows (fd_of hq) m N A
    refine ⟨L, rfl, by omega, ⟨H, zs, pv, fun i => .slice (some ⟨G i, 0, none⟩) N (C i), hP, hO.mono (by omega), fun i hi => ⟨?_, ?_⟩, fun i j g hi hj h1 h2 => ?_⟩, hb⟩
    · have := hR.list.cell (i := i) (by omega)
      rw [if_pos (by omega)] at this
      exact this
    · obtain ⟨F, r1, r2⟩ := hR.row i (by omega)
      have hc := hR.cap i (by omega)
      exact OwnI.of_rowIs r1 (hR.own i (by omega)).1 (rowL_len _ _ _) hc.1 hc.2 (fun j hj => by rw [r2 j (by rw [rowL_len] at hj; exact hj), rowL_at])
    · simp [Value.ownBlock] at h1 h2
      refine Classical.byContradiction fun hij => hR.dis i j (by omega) (by omega) hij (h1.trans h2.symm)
/-- copy of the first rows. -/
theorem wp_copy_head {P : Program} {w : World} {ops : Array Oper} {rest : List Oper} {o : Oper} {a : Act} {Q : Exit → Act → World → Prop} (hgd : o.guard = none) (d s : Operand) (dT sT : TypeId)
    (ho : o.op = .call { callee := .builtin .copy, args := #[d, s], argTypes := #[dT, sT] }) (elem : TypeId) (hu : P.underlying dT = some (.slice elem)) (hsz : (P.info? elem).map (·.size) = some 1)
    (g n dCap : Nat) (F V : Nat → Value) (t : TypeId) (hd : a.eval d = .slice (some ⟨g, 0, none⟩) n dCap) (b m c : Nat) (hs : a.eval s = .slice (some ⟨b, 0, none⟩) m c) (hnm : n ≤ m) (hx : ∀ i, i < n → w.cell? ⟨b, i, none⟩ = some (V i))
    (hrow : w.rowIs g t n F) (h1 : ∀ i, i < n → (V i).oneCell' = true)
    (h : ∀ w', w'.rowIs g t n V → w.grownBy w' (some g) → wpList P ops Q rest (a.put o.dst (goInt n)) w') : wpList P ops Q (o :: rest) a w := by
  by_cases h0 : n = 0
  · subst h0
    refine wpList_copy_nothing hgd d s dT sT ho elem hu hsz _ _ 0 dCap m c hd hs (by simp) ?_
    exact h w (hrow.congr fun y hy => absurd hy (Nat.not_lt_zero _)) ⟨rfl, rfl, rfl, Nat.le_refl _, fun _ _ _ => rfl⟩
  · obtain ⟨cur, hg, hcs, hF⟩ := hrow
    have hl : ((List.range n).map V).length = n := by simp
    refine wpList_copy_own hgd d s dT sT ho elem hu hsz g 0 n dCap ⟨b, 0, none⟩ m c hd hs cur t hg ((List.range n).map V) (by rw [hl]; exact (Nat.min_eq_right hnm).symm) (fun j v hj => ?_) (by rw [hl, hcs]; omega) (fun v hv => ?_) ?_
    · have hjn : j < n := by have := (List.getElem?_eq_some_iff.1 hj).1; rwa [hl] at this
      rw [List.getElem?_map, List.getElem?_range hjn] at hj
      simp only [Option.map_some, Option.some.injEq] at hj
      rw [Addr.add_lit, Nat.zero_add, ← hj]
      exact hx j hjn
    · obtain ⟨i, hi, rfl⟩ := List.mem_map.1 hv
      exact h1 i (List.mem_range.1 hi)
    · rw [hl]
      refine h _ ⟨_, setRow_heap w g _ _ t _ hg, ?_, fun i hi => ?_⟩ (setRow_grown _ _ _)
      · simp; omega
      · simp only [List.take_zero, List.nil_append, Nat.zero_add, List.getElem?_toArray]
        rw [List.getElem?_append_left (by rw [hl]; exact hi), List.getElem?_map, List.getElem?_range hi]
        rfl
theorem slice_one {a : Option Addr} {n c : Nat} : (Value.slice a n c).oneCell' = true := rfl
/-- The copied rows are the call's own. -/
theorem span_own {B r K : Nat} {w W w3 : World} {V : Nat → Value} {zz : List (List Int)} (hl : zz.length = r) (hV : ∀ i, i < r → OwnI B w (V i) (zz.getD i [])) (hs : ∀ i j g, i < r → j < r → (V i).ownBlock = some g → (V j).ownBlock = some g → i = j)
    (hb : Below w.heap.size w W) (hK : w.heap.size ≤ K) (hB : B ≤ w.heap.size) (hr : w3.rowIs K 24 r V) (hg : W.grownBy w3 (some K)) (hr2 : r ≤ 1048576) : OwnRI B w3 (.slice (some ⟨K, 0, none⟩) r r) zz := by
  subst hl
  have lt : ∀ i g, i < zz.length → (V i).ownBlock = some g → g < w.heap.size := fun i g hi h => ((hV i hi).out.lt g h).2
  have hK3 := hr.lt
  have get : ∀ (i : Nat) (u : Value), ((List.range zz.length).map V)[i]? = some u → i < zz.length ∧ u = V i := fun i u hu => by
    have hi : i < zz.length := by have := (List.getElem?_eq_some_iff.1 hu).1; simpa using this
    refine ⟨hi, ?_⟩
    rw [List.getElem?_map, List.getElem?_range hi] at hu
    simpa using hu.symm
  refine ⟨(List.range zz.length).map V, by simp, ownsRow_of hr (by omega) (by omega), fun i u zs h1 h2 => ?_, fun i u g h1 h2 => ?_, fun i j u x g h1 h2 h3 h4 => ?_, Nat.le_refl _, fun g hg => ?_, fun i u g h1 h2 => ?_⟩
  · obtain ⟨hi, rfl⟩ := get i u h1
    have := hV i hi
    rw [getD_row hi] at this
    rw [List.getElem?_eq_getElem hi] at h2
    injection h2 with h2
    rw [← h2]
    refine (this.on hb).out.kept hg ?_
    cases hv : (V i).ownBlock with
    | none => exact .inl rfl
    | some g => exact .inr fun e => by have := lt i g hi hv; injection e; omega
  · obtain ⟨hi, rfl⟩ := get i u h1
    have := lt i g hi h2
    intro e
    simp [Value.ownBlock] at e
    omega
  · obtain ⟨hi, rfl⟩ := get i u h1
    obtain ⟨hj, rfl⟩ := get j x h2
    exact hs i j g hi hj h3 h4
  · simp [Value.ownBlock] at hg; omega
  · obtain ⟨hi, rfl⟩ := get i u h1
    have := lt i g hi h2
    have h5 := hg.size
    have h6 := hb.size
    omega
set_option maxRecDepth 100000 in
set_option maxHeartbeats 3200000 in
theorem span_any {q m N : Nat} [NeZero q] {A : Mt q} {v : Value} {w : World} (hv : RowsC w v m (rowL N A)) (hq : IsPr (q : Int)) (hm : m ≤ 1048576) (hN : N ≤ 64) :
    Calls Try.prog 68 #[.agg #[.int .i64 (q : Int), .int .i64 (N : Int)], v] w fun e w' => RetV q N (basOf m N A) w e w' := by
  have HV := Lib.hid hv
  have HQ := Lib.hid hq
  have hpm := piv_le_rows (fd_of hq) m N A
  have hpn := piv_le_cols (fd_of hq) m N A
  have HBL : Hid ((basOf m N A).length = (red m A N).piv.length) := rowsOf_len _ _ _
  have HBG : Hid (∀ i, i < (red m A N).piv.length → (basOf m N A).getD i [] = rowL N (red m A N).A i) := fun i hi => by
    have h : i < (basOf m N A).length := by rw [HBL.out]; exact hi
    rw [getD_row h]
    exact rowsOf_at _ _ _ _ h
  obtain ⟨bs, hbs⟩ : ∃ b, basOf m N A = b := ⟨_, rfl⟩
  rw [hbs] at HBL HBG ⊢
  obtain ⟨s, hs⟩ : ∃ s, red m A N = s := ⟨_, rfl⟩
  have HS := Lib.hid hs
  rw [hs] at hpm hpn HBL HBG
  obtain ⟨a1, c1, rfl, -, -⟩ := hv
  obtain ⟨r, hr⟩ : ∃ r, s.piv.length = r := ⟨_, rfl⟩
  have HR := Lib.hid hr
  rw [hr] at hpm hpn HBL HBG
  have hmk := run_make_row' (P := Try.prog) 28 24 (.slice none 0 0) 24 Try.underlying28 info_r rfl .i64 .i64 r (by omega) (by omega)
  clear hq hs hr hbs
  have bb := al1 (al1 (Below.refl w.heap.size w) (.cells #[.int .i64 (q : Int), .int .i64 (N : Int)] 96)) (.cells #[.int .i64 0, .int .i64 0, .slice none 0 0] 32)
  have s0 : ((w.alloc (.cells #[.int .i64 (q : Int), .int .i64 (N : Int)] 96)).alloc (.cells #[.int .i64 0, .int .i64 0, .slice none 0 0] 32)).cell? ⟨w.heap.size, 0, none⟩ = some (.int .i64 (q : Int)) := by
    rw [((Below.refl _ _).alloc (Nat.le_refl _) _).cell (p := ⟨w.heap.size, 0, none⟩) (by simp)]; exact cell_new0 _ _ _ _
  have s1 : ((w.alloc (.cells #[.int .i64 (q : Int), .int .i64 (N : Int)] 96)).alloc (.cells #[.int .i64 0, .int .i64 0, .slice none 0 0] 32)).cell? ⟨w.heap.size, 1, none⟩ = some (.int .i64 (N : Int)) := by
    rw [((Below.refl _ _).alloc (Nat.le_refl _) _).cell (p := ⟨w.heap.size, 1, none⟩) (by simp)]; exact cell_new1 _ _ _ _
  have Pr0 := PtV.new (w.alloc (.cells #[.int .i64 (q : Int), .int .i64 (N : Int)] 96)) 0 0 (.slice none 0 0) 32
  have Fr0 := Fz.new (w.alloc (.cells #[.int .i64 (q : Int), .int .i64 (N : Int)] 96)) #[.int .i64 0, .int .i64 0, .slice none 0 0] 32
  rw [World.size_alloc] at Pr0 Fr0
  go_enter Try.func68, Try.ntmps68
  go_wp2_with fail
  generalize hW : World.alloc (World.alloc w (.cells #[.int .i64 (q : Int), .int .i64 (N : Int)] 96)) (.cells #[.int .i64 0, .int .i64 0, .slice none 0 0] 32) = W0 at bb s0 s1 Pr0 Fr0 ⊢
  obtain ⟨R, hR⟩ : ∃ R, w.heap.size = R := ⟨_, rfl⟩
  have hz : R + 2 = W0.heap.size := by rw [← hW, ← hR]; simp
  have HVW := Lib.hid (HV.out.on bb)
  rw [hR] at s0 s1 Pr0 Fr0 ⊢
  have HB := Lib.hid bb
  have HPr := Lib.hid Pr0
  have HFr : Hid (Fz W0 (R + 1)) := Fr0
  have HRR := Lib.hid hR
  clear hW bb Pr0 Fr0 hR
  refine (reduce_own HVW.out HQ.out hm hN).mono ?_
  rintro e w1 ⟨L, rfl, hL, hU, hb⟩
  rw [HS.out] at hU
  obtain ⟨H, zs, pv, V, hP, hO, hV, hsep⟩ := hU
  obtain ⟨pa, pc, rfl⟩ := hO.slice
  have hO2 := hO
  rw [pivI_len, HR.out] at hP
  rw [HR.out] at hV hsep
  obtain ⟨hc, hf⟩ := bcell hb
  have hs1 := hb.size
  have p0 := hP.rows
  have p3 := hP.piv
  have lL := hP.lt
  have t0 := (hc R 0 (by omega)).trans s0
  have t1 := (hc R 1 (by omega)).trans s1
  have HB1 := Lib.hid hb
  have HV1 := Lib.hid hV
  have HSEP := Lib.hid hsep
  have HPr1 := Lib.hid (HPr.out.on hb)
  have HFr1 : Hid (Fz w1 (R + 1)) := HFr.out.on (by omega) hb
  have hrow := World.rowIs_made w1 (.slice none 0 0) r 24
  have ba := (Below.refl w1.heap.size w1).alloc (Nat.le_refl _) (.cells (madeCells #[.slice none 0 0] r) 24)
  have HROW := Lib.hid hrow
  have HBA := Lib.hid ba
  have h1V : Hid (∀ i, i < r → (V i).oneCell' = true) := fun i hi => by
    obtain ⟨x, c, e⟩ := (HV1.out i hi).2.slice
    rw [e]; rfl
  have hXV : Hid (∀ i, i < r → (w1.alloc (.cells (madeCells #[.slice none 0 0] r) 24)).cell? ⟨H, i, none⟩ = some (V i)) := fun i hi => by
    have h := (HV1.out i hi).1
    have hlt : H < w1.heap.size := World.block_lt_of_cell? w1 _ h
    exact (HBA.out.cell (p := ⟨H, i, none⟩) hlt).trans h
  clear hO hO2 hV hsep hc hf hP hb hrow ba s0 s1
  have HF3 : Hid (∀ w3 : World, w3.rowIs w1.heap.size 24 r V → (w1.alloc (.cells (madeCells #[.slice none 0 0] r) 24)).grownBy w3 (some w1.heap.size) → w3.cell? ⟨R, 0, none⟩ = some (.int .i64 (q : Int)) ∧ w3.cell? ⟨R, 1, none⟩ = some (.int .i64 (N : Int)) ∧ PtV w3 (R + 1) 0 0 (.slice none 0 0) ∧ Fz w3 (R + 1) ∧ Hid (OwnRI W0.heap.size w3 (.slice (some ⟨w1.heap.size, 0, none⟩) r r) bs) ∧ Hid (Below w.heap.size w w3)) := fun w3 hr3 hg3 => by
    have hs3 := hg3.size
    rw [World.size_alloc] at hs3
    refine ⟨?_, ?_, ?_, ?_, ?_, ?_⟩
    · exact (gb_cell hg3 (b := R) (o := 0) (by rw [World.size_alloc]; omega) (by omega)).trans ((HBA.out.cell (p := ⟨R, 0, none⟩) (show R < _ by omega)).trans t0)
    · exact (gb_cell hg3 (b := R) (o := 1) (by rw [World.size_alloc]; omega) (by omega)).trans ((HBA.out.cell (p := ⟨R, 1, none⟩) (show R < _ by omega)).trans t1)
    · exact (HPr1.out.on HBA.out).gb hg3 (by omega)
    · exact (HFr1.out.on (by omega) HBA.out).gb (by rw [World.size_alloc]; omega) hg3 (by omega)
    · exact span_own HBL.out (fun i hi => by rw [HBG.out i hi]; exact (HV1.out i hi).2) HSEP.out HBA.out (Nat.le_refl _) hs1 hr3 hg3 (by omega)
    · have h1 := HB.out.trans (HB1.out.mono (by have := HRR.out; omega))
      exact below_gb (h1.alloc (by have := HRR.out; omega) _) hg3 (by have := HRR.out; omega) (by rw [World.size_alloc]; have := HRR.out; omega)
  clear t0 t1
  go_wp2_with (refine wp_copy_head rfl _ _ 28 70 rfl 24 Try.underlying28 (by kernel_rfl) w1.heap.size r r _ V 24 rfl H m m rfl hpm hXV.out HROW.out h1V.out ?_; intro w3 hr3 hg3; obtain ⟨u0, u1, hp3, hfz, HOWN, HB3⟩ := HF3.out w3 hr3 hg3; have HQ3 := Lib.hid (hp3.set3 q N (.slice (some ⟨w1.heap.size, 0, none⟩) r r)); obtain ⟨lR, r0, r1, r2⟩ := hp3; have f0 := hfz 0; have f1 := hfz 1; have f2 := hfz 2; clear hr3 hg3 hfz)
  obtain ⟨_, q0, q1, q2⟩ := HQ3.out
  refine bodyPost_ret (v := .agg #[.int .i64 q, .int .i64 N, .slice (some ⟨w1.heap.size, 0, none⟩) r r]) (by simp [results, Try.results68, go_sem, q0, q1, q2]) rfl ⟨_, rfl, ?_, ?_⟩
  · refine OwnRI.mono (B := W0.heap.size) ?_ (by have := HRR.out; omega)
    repeat (refine OwnRI.setOut ?_ (by omega) _)
    exact HOWN.out
  · repeat (refine Below.setC ?_ (by have := HRR.out; omega) _)
    exact HB3.out
end Go.Proofs.Ytpimnngomodnhaa
