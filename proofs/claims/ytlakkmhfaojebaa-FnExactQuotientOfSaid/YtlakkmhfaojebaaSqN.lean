/-
  QuotientOf of the program.
-/
import Derived.Test.YtlakkmhfaojebaaSqM
import Derived.Test.YtlakkmhfaojebaaSqE
import Derived.Test.YtlakkmhfaojebaaSqO
namespace Go.Proofs.Ytlakkmhfaojebaa
open Go.RowKit
open Lin
set_option linter.unusedVariables false
set_option linter.unusedSectionVars false

theorem cloneI_any {u : Value} {zs : List Int} {w : World} (h : IntsC w u zs) (hl : zs.length ≤ 2097152) : Calls Try.prog 101 #[u] w fun e w' => RetL zs w e w' := by
  have hs := h.src hl
  obtain ⟨_, a, cap, rfl, h1, _, ⟨rfl, rfl⟩ | ⟨g, off, rfl⟩⟩ := h
  · obtain rfl : zs = [] := List.length_eq_zero_iff.1 (by omega)
    exact cloneI_nil w
  · refine (cloneI_some (xs := iv zs) w hs (by rw [iv_len]) iv_one).mono ?_
    rintro e w' ⟨v, rfl, ho, -, hb⟩
    have h2 : OwnI w.heap.size w' v zs := by unfold OwnI; exact ho
    exact ⟨v, rfl, h2, hb⟩
/-- A matrix variable that has been made and not yet been filled. -/
def ZeroM (w : World) (L : Nat) : Prop := PtM w L 0 0 0 (.slice none 0 0) ∧ Fz w L
theorem ZeroM.new (w : World) : ZeroM (w.alloc (.cells #[.int .i64 0, .int .i64 0, .int .i64 0, .slice none 0 0] 26)) w.heap.size := ⟨PtM.new _ _ _ _ _ _, Fz.new _ _ _⟩
theorem ZeroM.on {w w' : World} {L : Nat} (h : ZeroM w L) (hb : Below w.heap.size w w') : ZeroM w' L := ⟨h.1.on hb, h.2.on h.1.1 hb⟩
theorem ZeroM.new2a (w : World) : ZeroM ((w.alloc (.cells #[.int .i64 0, .int .i64 0, .int .i64 0, .slice none 0 0] 26)).alloc (.cells #[.int .i64 0, .int .i64 0, .int .i64 0, .slice none 0 0] 26)) w.heap.size := (ZeroM.new w).on (al1 (Below.refl _ _) _)
theorem ZeroM.new2b (w : World) : ZeroM ((w.alloc (.cells #[.int .i64 0, .int .i64 0, .int .i64 0, .slice none 0 0] 26)).alloc (.cells #[.int .i64 0, .int .i64 0, .int .i64 0, .slice none 0 0] 26)) (w.heap.size + 1) := by
  have h := ZeroM.new (w.alloc (.cells #[.int .i64 0, .int .i64 0, .int .i64 0, .slice none 0 0] 26))
  rw [World.size_alloc] at h
  exact h
theorem join_turn {q : Nat} [NeZero q] (s : Nat) (A B : Mt q) : join s (turn B) (turn A) = turn (stack s B A) := rfl
/-- Two matrix variables, each with its numbers. -/
def TwoP (w0 w : World) (L L' : Nat) (p r c : Int) (v : Value) (zs : List Int) (p' r' c' : Int) (v' : Value) (zs' : List Int) : Prop :=
  PtM w L p r c v ∧ PtM w L' p' r' c' v' ∧ IntsC w v zs ∧ IntsC w v' zs' ∧ Below w0.heap.size w0 w
theorem TwoP.symm {w0 w : World} {L L' : Nat} {p r c : Int} {v : Value} {zs : List Int} {p' r' c' : Int} {v' : Value} {zs' : List Int} (h : TwoP w0 w L L' p r c v zs p' r' c' v' zs') : TwoP w0 w L' L p' r' c' v' zs' p r c v zs := ⟨h.2.1, h.1, h.2.2.2.1, h.2.2.1, h.2.2.2.2⟩
theorem fr_gb {w w' : World} {g : Nat} (h : w.grownBy w' (some g)) : Fr g (g + 1) w w' := ⟨h.os, h.tape, h.output, h.size, fun k hk hd => h.block k hk (fun e => by injection e with e; omega)⟩
theorem fr_set4 (w : World) (L : Nat) (x0 x1 x2 x3 : Value) : Fr L (L + 1) w ((((w.setCell ⟨L, 0, none⟩ x0).setCell ⟨L, 1, none⟩ x1).setCell ⟨L, 2, none⟩ x2).setCell ⟨L, 3, none⟩ x3) :=
  fr_gb (gb_set (gb_set (gb_set (gb_set (grown_refl _ _) _) _) _) _)
section
variable {w0 w : World} {L L' B E B' E' : Nat} {p r c : Int} {v : Value} {zs : List Int} {p' r' c' : Int} {v' : Value} {zs' : List Int}
theorem TwoP.nn (t t' : TypeId) (h : OwnX B E w v zs) (h' : OwnX B' E' w v' zs') (hl : zs.length ≤ 1048576) (hl' : zs'.length ≤ 1048576) (hb : Below w0.heap.size w0 w) :
    TwoP w0 ((w.alloc (.cells #[.int .i64 p, .int .i64 r, .int .i64 c, v] t)).alloc (.cells #[.int .i64 p', .int .i64 r', .int .i64 c', v'] t')) w.heap.size (w.heap.size + 1) p r c v zs p' r' c' v' zs' := by
  have b2 : Below w.heap.size w ((w.alloc (.cells #[.int .i64 p, .int .i64 r, .int .i64 c, v] t)).alloc (.cells #[.int .i64 p', .int .i64 r', .int .i64 c', v'] t')) := al1 (al1 (Below.refl _ _) _) _
  have h2 := PtM.new (w.alloc (.cells #[.int .i64 p, .int .i64 r, .int .i64 c, v] t)) p' r' c' v' t'
  rw [World.size_alloc] at h2
  exact ⟨PtM.new1 _ _ _ _ _ _ _, h2, (h.atC hl).on b2, (h'.atC hl').on b2, al1 (al1 hb _) _⟩
theorem TwoP.sn (t' : TypeId) {p0 r0 c0 : Int} {v0 : Value} (hp : PtM w L p0 r0 c0 v0) (h : OwnX B E w v zs) (h' : OwnX B' E' w v' zs') (hd : L < B ∨ E ≤ L) (hd' : L < B' ∨ E' ≤ L) (hl : zs.length ≤ 1048576) (hl' : zs'.length ≤ 1048576) (h0 : w0.heap.size ≤ L) (hb : Below w0.heap.size w0 w) :
    TwoP w0 (((((w.setCell ⟨L, 0, none⟩ (.int .i64 p)).setCell ⟨L, 1, none⟩ (.int .i64 r)).setCell ⟨L, 2, none⟩ (.int .i64 c)).setCell ⟨L, 3, none⟩ v).alloc (.cells #[.int .i64 p', .int .i64 r', .int .i64 c', v'] t')) L w.heap.size p r c v zs p' r' c' v' zs' := by
  have hf := fr_set4 w L (.int .i64 p) (.int .i64 r) (.int .i64 c) v
  have h1 := (h.fr hf (by omega)).atC hl
  have h2 := (h'.fr hf (by omega)).atC hl'
  have hs := hp.set4 p r c v
  have bs := Below.setC (Below.setC (Below.setC (Below.setC hb h0 (o := 0) (.int .i64 p)) h0 (o := 1) (.int .i64 r)) h0 (o := 2) (.int .i64 c)) h0 (o := 3) v
  have hn := PtM.new ((((w.setCell ⟨L, 0, none⟩ (.int .i64 p)).setCell ⟨L, 1, none⟩ (.int .i64 r)).setCell ⟨L, 2, none⟩ (.int .i64 c)).setCell ⟨L, 3, none⟩ v) p' r' c' v' t'
  simp only [World.size_setCell] at hn
  have b1 := al1 (Below.refl _ ((((w.setCell ⟨L, 0, none⟩ (.int .i64 p)).setCell ⟨L, 1, none⟩ (.int .i64 r)).setCell ⟨L, 2, none⟩ (.int .i64 c)).setCell ⟨L, 3, none⟩ v)) (.cells #[.int .i64 p', .int .i64 r', .int .i64 c', v'] t')
  exact ⟨hs.on b1, hn, h1.on b1, h2.on b1, al1 bs _⟩
theorem TwoP.ss {p0 r0 c0 : Int} {v0 : Value} {p1 r1 c1 : Int} {v1 : Value} (hp : PtM w L p0 r0 c0 v0) (hp' : PtM w L' p1 r1 c1 v1) (h : OwnX B E w v zs) (h' : OwnX B' E' w v' zs') (hne : L ≠ L') (hd : L < B ∨ E ≤ L) (hd' : L < B' ∨ E' ≤ L) (hd2 : L' < B ∨ E ≤ L') (hd2' : L' < B' ∨ E' ≤ L')
    (hl : zs.length ≤ 1048576) (hl' : zs'.length ≤ 1048576) (h0 : w0.heap.size ≤ L) (h0' : w0.heap.size ≤ L') (hb : Below w0.heap.size w0 w) :
    TwoP w0 ((((((((w.setCell ⟨L, 0, none⟩ (.int .i64 p)).setCell ⟨L, 1, none⟩ (.int .i64 r)).setCell ⟨L, 2, none⟩ (.int .i64 c)).setCell ⟨L, 3, none⟩ v).setCell ⟨L', 0, none⟩ (.int .i64 p')).setCell ⟨L', 1, none⟩ (.int .i64 r')).setCell ⟨L', 2, none⟩ (.int .i64 c')).setCell ⟨L', 3, none⟩ v') L L' p r c v zs p' r' c' v' zs' := by
  have hf := fr_set4 w L (.int .i64 p) (.int .i64 r) (.int .i64 c) v
  have hf' := fr_set4 ((((w.setCell ⟨L, 0, none⟩ (.int .i64 p)).setCell ⟨L, 1, none⟩ (.int .i64 r)).setCell ⟨L, 2, none⟩ (.int .i64 c)).setCell ⟨L, 3, none⟩ v) L' (.int .i64 p') (.int .i64 r') (.int .i64 c') v'
  have h1 := ((h.fr hf (by omega)).fr hf' (by omega)).atC hl
  have h2 := ((h'.fr hf (by omega)).fr hf' (by omega)).atC hl'
  have hs := (hp.set4 p r c v).fr hf' (by omega)
  have hs' := (hp'.fr hf (by omega)).set4 p' r' c' v'
  have bs := Below.setC (Below.setC (Below.setC (Below.setC hb h0 (o := 0) (.int .i64 p)) h0 (o := 1) (.int .i64 r)) h0 (o := 2) (.int .i64 c)) h0 (o := 3) v
  have bs' := Below.setC (Below.setC (Below.setC (Below.setC bs h0' (o := 0) (.int .i64 p')) h0' (o := 1) (.int .i64 r')) h0' (o := 2) (.int .i64 c')) h0' (o := 3) v'
  exact ⟨hs, hs', h1, h2, bs'⟩
end
set_option maxRecDepth 100000 in
set_option maxHeartbeats 6400000 in
theorem implQuo_b {p n q m k : Int} {u v : Value} {xx yy : List (List Int)} {w : World} (hu : RowsD w u xx) (hv : RowsD w v yy) (h : TwoK p n xx q m yy k) (hk : k ≠ 0) :
    Calls Try.prog 45 #[.agg #[.int .i64 p, .int .i64 n, u], .agg #[.int .i64 q, .int .i64 m, v]] w fun e w' => RetRC [] k w e w' := by
  have HU := Lib.hid hu
  have HV := Lib.hid hv
  have HK : Hid (SumRes p n xx q m yy 0 0 [] k) := .inl ⟨k, h, hk, rfl, rfl, rfl, rfl⟩
  have ek : (k != 0) = true := by simpa using hk
  obtain ⟨a1, c1, rfl⟩ := hu.1.slice
  obtain ⟨a2, c2, rfl⟩ := hv.1.slice
  clear hu hv h hk
  have Pa0 := PtV.new1 w p n (.slice a1 xx.length c1) 32 (.cells #[.int .i64 q, .int .i64 m, .slice a2 yy.length c2] 32)
  have Pb0 := PtV.new (w.alloc (.cells #[.int .i64 p, .int .i64 n, .slice a1 xx.length c1] 32)) q m (.slice a2 yy.length c2) 32
  rw [World.size_alloc] at Pb0
  have bb := al1 (al1 (Below.refl w.heap.size w) (.cells #[.int .i64 p, .int .i64 n, .slice a1 xx.length c1] 32)) (.cells #[.int .i64 q, .int .i64 m, .slice a2 yy.length c2] 32)
  go_enter Try.func45, Try.ntmps45
  go_wp2_with fail
  generalize hW : ((w.alloc (.cells #[.int .i64 p, .int .i64 n, .slice a1 xx.length c1] 32)).alloc (.cells #[.int .i64 q, .int .i64 m, .slice a2 yy.length c2] 32)) = W0 at bb Pa0 Pb0 ⊢
  have hz0 : w.heap.size + 2 ≤ W0.heap.size := by rw [← hW]; simp
  have Pa := Lib.hid Pa0
  have Pb := Lib.hid Pb0
  have HB := Lib.hid bb
  clear hW bb Pa0 Pb0
  refine (implSum_any (HU.out.on HB.out) (HV.out.on HB.out) HK.out).mono ?_
  rintro e w1 ⟨v1, rfl, ho, hb⟩
  obtain ⟨va, vc, rfl⟩ := ho.slice
  have HB := Lib.hid (HB.out.trans (hb.mono HB.out.size))
  clear ho hb
  go_wp2_with fail
  go_ret2
  exact ⟨_, rfl, OwnRI.nul _ _, al1 HB.out _⟩
set_option maxRecDepth 100000 in
set_option maxHeartbeats 6400000 in
theorem implQuo_n {q N r s : Nat} [NeZero q] {A B : Mt q} {u v : Value} {xx yy : List (List Int)} {w : World} (hu : RowsD w u xx) (hv : RowsD w v yy) (hA : VIs q N xx q N r A) (hB : VIs q N yy q N s B) (hin : ¬ ∀ i, i < s → In r N A (B i)) :
    Calls Try.prog 45 #[.agg #[.int .i64 (q : Int), .int .i64 (N : Int), u], .agg #[.int .i64 (q : Int), .int .i64 (N : Int), v]] w fun e w' => RetRC [] 6 w e w' := by
  have HU := Lib.hid hu
  have HV := Lib.hid hv
  have HSR : Hid (SumRes (q : Int) N xx q N yy q N (sumOf r s N A B) 0) := .inr ⟨rfl, rfl, rfl, rfl, rfl, q, inferInstance, N, r, s, A, B, hA, hB, rfl⟩
  have FS : Hid (FitR (sumOf r s N A B)) := fit_basOf (fd_of hA.pr) _ (by have := hA.n32; omega)
  have hsm := sum_same hA hB
  have HIN := Lib.hid hin
  obtain ⟨zs, hzs⟩ : ∃ z, sumOf r s N A B = z := ⟨_, rfl⟩
  rw [hzs] at HSR FS hsm
  have HSM := Lib.hid hsm
  have HPR := Lib.hid hA.pr
  have HMA := Lib.hid hA.mis
  have HMB := Lib.hid hB.mis
  have HRA := Lib.hid (hA.rowsC hu)
  have HRB := Lib.hid (hB.rowsC hv)
  have hr32 := hA.mis.m32
  have hs32 := hB.mis.m32
  have hN32 := hA.n32
  have hl1 := hA.len
  have hl2 := hB.len
  obtain ⟨a1, c1, rfl⟩ := hu.1.slice
  obtain ⟨a2, c2, rfl⟩ := hv.1.slice
  rw [hl1] at HU HRA ⊢
  rw [hl2] at HV HRB ⊢
  clear hu hv hA hB hl1 hl2 hin hsm hzs
  have Pa0 := PtV.new1 w (q : Int) (N : Int) (.slice a1 r c1) 32 (.cells #[.int .i64 (q : Int), .int .i64 (N : Int), .slice a2 s c2] 32)
  have Pb0 := PtV.new (w.alloc (.cells #[.int .i64 (q : Int), .int .i64 (N : Int), .slice a1 r c1] 32)) (q : Int) (N : Int) (.slice a2 s c2) 32
  rw [World.size_alloc] at Pb0
  have bb := al1 (al1 (Below.refl w.heap.size w) (.cells #[.int .i64 (q : Int), .int .i64 (N : Int), .slice a1 r c1] 32)) (.cells #[.int .i64 (q : Int), .int .i64 (N : Int), .slice a2 s c2] 32)
  go_enter Try.func45, Try.ntmps45
  go_wp2_with fail
  generalize hW : ((w.alloc (.cells #[.int .i64 (q : Int), .int .i64 (N : Int), .slice a1 r c1] 32)).alloc (.cells #[.int .i64 (q : Int), .int .i64 (N : Int), .slice a2 s c2] 32)) = W0 at bb Pa0 Pb0 ⊢
  have hz0 : w.heap.size + 2 ≤ W0.heap.size := by rw [← hW]; simp
  have Pa := Lib.hid Pa0
  have Pb := Lib.hid Pb0
  have HB := Lib.hid bb
  clear hW bb Pa0 Pb0
  refine (implSum_any (HU.out.on HB.out) (HV.out.on HB.out) HSR.out).mono ?_
  rintro e w1 ⟨v1, rfl, ho, hb⟩
  have HO := Lib.hid (ho.at FS.out)
  obtain ⟨va, vc, rfl⟩ := ho.slice
  have HB := Lib.hid (HB.out.trans (hb.mono HB.out.size))
  have Pa := Lib.hid (Pa.out.on hb)
  have Pb := Lib.hid (Pb.out.on hb)
  have hz1 : w.heap.size + 2 ≤ w1.heap.size := by have := hb.size; omega
  clear ho hb
  obtain ⟨lA, x0, x1, x2⟩ := Pa.out
  go_wp2_with fail
  have hT : false = ssB (q : Int) N zs q N xx := (ssB_no fun h => HIN.out (HSM.out.1 h.2.2)).symm
  refine (implSS_is (HO.out.on (al1 (Below.refl _ _) _)) (HU.out.1.on (al1 HB.out _)) hT).mono ?_
  rintro e w2 ⟨rfl, hb⟩
  have HB2 := Lib.hid (HB.out.trans ((up1 hb).mono HB.out.size))
  clear hb hT
  go_wp2_with fail
  go_ret2
  exact ⟨_, rfl, OwnRI.nul _ _, HB2.out⟩
set_option maxRecDepth 100000 in
set_option maxHeartbeats 6400000 in
theorem implQuo_y {q N r s : Nat} [NeZero q] {A B : Mt q} {u v : Value} {xx yy : List (List Int)} {w : World} (hu : RowsD w u xx) (hv : RowsD w v yy) (hA : VIs q N xx q N r A) (hB : VIs q N yy q N s B) (hin : ∀ i, i < s → In r N A (B i)) :
    Calls Try.prog 45 #[.agg #[.int .i64 (q : Int), .int .i64 (N : Int), u], .agg #[.int .i64 (q : Int), .int .i64 (N : Int), v]] w fun e w' => RetRC (quoL N s r A B) 0 w e w' := by
  have HU := Lib.hid hu
  have HV := Lib.hid hv
  have HSR : Hid (SumRes (q : Int) N xx q N yy q N (sumOf r s N A B) 0) := .inr ⟨rfl, rfl, rfl, rfl, rfl, q, inferInstance, N, r, s, A, B, hA, hB, rfl⟩
  have FS : Hid (FitR (sumOf r s N A B)) := fit_basOf (fd_of hA.pr) _ (by have := hA.n32; omega)
  have hsm := sum_same hA hB
  have HIN := Lib.hid hin
  obtain ⟨zs, hzs⟩ : ∃ z, sumOf r s N A B = z := ⟨_, rfl⟩
  rw [hzs] at HSR FS hsm
  have HSM := Lib.hid hsm
  have HPR := Lib.hid hA.pr
  have HMA := Lib.hid hA.mis
  have HMB := Lib.hid hB.mis
  have HRA := Lib.hid (hA.rowsC hu)
  have HRB := Lib.hid (hB.rowsC hv)
  have hr32 := hA.mis.m32
  have hs32 := hB.mis.m32
  have hN32 := hA.n32
  have hl1 := hA.len
  have hl2 := hB.len
  obtain ⟨a1, c1, rfl⟩ := hu.1.slice
  obtain ⟨a2, c2, rfl⟩ := hv.1.slice
  rw [hl1] at HU HRA ⊢
  rw [hl2] at HV HRB ⊢
  clear hu hv hA hB hl1 hl2 hin hsm hzs
  have Pa0 := PtV.new1 w (q : Int) (N : Int) (.slice a1 r c1) 32 (.cells #[.int .i64 (q : Int), .int .i64 (N : Int), .slice a2 s c2] 32)
  have Pb0 := PtV.new (w.alloc (.cells #[.int .i64 (q : Int), .int .i64 (N : Int), .slice a1 r c1] 32)) (q : Int) (N : Int) (.slice a2 s c2) 32
  rw [World.size_alloc] at Pb0
  have bb := al1 (al1 (Below.refl w.heap.size w) (.cells #[.int .i64 (q : Int), .int .i64 (N : Int), .slice a1 r c1] 32)) (.cells #[.int .i64 (q : Int), .int .i64 (N : Int), .slice a2 s c2] 32)
  go_enter Try.func45, Try.ntmps45
  go_wp2_with fail
  generalize hW : ((w.alloc (.cells #[.int .i64 (q : Int), .int .i64 (N : Int), .slice a1 r c1] 32)).alloc (.cells #[.int .i64 (q : Int), .int .i64 (N : Int), .slice a2 s c2] 32)) = W0 at bb Pa0 Pb0 ⊢
  have hz0 : w.heap.size + 2 ≤ W0.heap.size := by rw [← hW]; simp
  have Pa := Lib.hid Pa0
  have Pb := Lib.hid Pb0
  have HB := Lib.hid bb
  clear hW bb Pa0 Pb0
  refine (implSum_any (HU.out.on HB.out) (HV.out.on HB.out) HSR.out).mono ?_
  rintro e w1 ⟨v1, rfl, ho, hb⟩
  have HO := Lib.hid (ho.at FS.out)
  obtain ⟨va, vc, rfl⟩ := ho.slice
  have HB := Lib.hid (HB.out.trans (hb.mono HB.out.size))
  have Pa := Lib.hid (Pa.out.on hb)
  have Pb := Lib.hid (Pb.out.on hb)
  have hz1 : w.heap.size + 2 ≤ w1.heap.size := by have := hb.size; omega
  clear ho hb
  obtain ⟨lA, x0, x1, x2⟩ := Pa.out
  go_wp2_with fail
  have hT : true = ssB (q : Int) N zs q N xx := by
    unfold ssB
    simp [HSM.out.2 HIN.out]
  refine (implSS_is (HO.out.on (al1 (Below.refl _ _) _)) (HU.out.1.on (al1 HB.out _)) hT).mono ?_
  rintro e W ⟨rfl, hb'⟩
  have hb := up1 hb'
  have HRA := Lib.hid (HRA.out.on (HB.out.trans (hb.mono HB.out.size)))
  have HRB := Lib.hid (HRB.out.on (HB.out.trans (hb.mono HB.out.size)))
  have HB := Lib.hid (HB.out.trans (hb.mono HB.out.size))
  have Pa := Lib.hid (Pa.out.on hb)
  have Pb := Lib.hid (Pb.out.on hb)
  have hz2 : w.heap.size + 2 ≤ W.heap.size := by have := hb.size; omega
  have hrN : N * r ≤ 1024 := Nat.mul_le_mul hN32 hr32
  have hsN : N * s ≤ 1024 := Nat.mul_le_mul hN32 hs32
  clear hb hb' hT HU HV HO HSR FS HSM lA x0 x1 x2
  obtain ⟨lA, x0, x1, x2⟩ := Pa.out
  obtain ⟨lB, y0, y1, y2⟩ := Pb.out
  have neA := Pa.out.ne
  have neB := Pb.out.ne
  have ZP1 : Hid (ZeroM (W.alloc (.cells #[.int .i64 0, .int .i64 0, .int .i64 0, .slice none 0 0] 26)).drew W.heap.size) := ZeroM.new W
  have ZP2a : Hid (ZeroM ((W.alloc (.cells #[.int .i64 0, .int .i64 0, .int .i64 0, .slice none 0 0] 26)).alloc (.cells #[.int .i64 0, .int .i64 0, .int .i64 0, .slice none 0 0] 26)).drew W.heap.size) := (ZeroM.new W).on (drew_below (al1 (Below.refl _ _) _))
  have ZP2b : Hid (ZeroM ((W.alloc (.cells #[.int .i64 0, .int .i64 0, .int .i64 0, .slice none 0 0] 26)).alloc (.cells #[.int .i64 0, .int .i64 0, .int .i64 0, .slice none 0 0] 26)).drew (W.heap.size + 1)) := by
    have h := ZeroM.new (W.alloc (.cells #[.int .i64 0, .int .i64 0, .int .i64 0, .slice none 0 0] 26))
    rw [World.size_alloc] at h
    exact h
  go_wp2_with fail
  go_cut [8, 9] (fun sp sk wx => ∃ (L8 L9 : Nat) (a8 a9 : Option Addr) (c8 c9 : Nat), sp = .pointer (some ⟨L8, 0, none⟩) ∧ sk = .pointer (some ⟨L9, 0, none⟩) ∧ Hid (TwoP W wx L8 L9 (q : Int) N s (.slice a8 (N * s) c8) (flat N s (turn B)) q N r (.slice a9 (N * r) c9) (flat N r (turn A))))
  case first =>
    go_region_held3 (fun w' => w'.cell? ⟨w.heap.size, 0, none⟩ = some (.int .i64 (q : Int)) ∧ w'.cell? ⟨w.heap.size, 1, none⟩ = some (.int .i64 (N : Int)) ∧ w'.cell? ⟨w.heap.size, 2, none⟩ = some (.slice a1 r c1) ∧ w'.cell? ⟨w.heap.size + 1, 0, none⟩ = some (.int .i64 (q : Int)) ∧ w'.cell? ⟨w.heap.size + 1, 1, none⟩ = some (.int .i64 (N : Int)) ∧ w'.cell? ⟨w.heap.size + 1, 2, none⟩ = some (.slice a2 s c2)) (go_keep)
      (first
        | (go_at_call_of 69 (.agg #[.int .i64 (q : Int), .int .i64 (N : Int), .slice a2 s c2] : Value); refine (basisCols_any (A := B) (HRB.out.on (by repeat (first | with_reducible exact Below.refl _ _ | with_reducible refine drew_below ?_ | with_reducible refine al1 ?_ _))) HMB.out).mono ?_; rintro e wa ⟨v8, rfl, ho8, hb8'⟩; have hb8 : Below W.heap.size W wa := Below.trans (by repeat (first | with_reducible exact Below.refl _ _ | with_reducible refine drew_below ?_ | with_reducible refine al1 ?_ _)) (hb8'.mono (by first | exact Nat.le_refl _ | (simp; done) | (simp; omega))); have hs8 := hb8.size; (try (with_reducible have ZA := Lib.hid (ZP1.out.on hb8'))); (try (with_reducible have ZA := Lib.hid (ZP2a.out.on hb8'))); (try (with_reducible have ZB := Lib.hid (ZP2b.out.on hb8'))); obtain ⟨v8a, v8c, rfl⟩ := ho8.slice; rw [flat_len] at *; (try have := ZA.out.1.1); (try have := ZB.out.1.1); obtain ⟨_, _, _, _⟩ := Pa.out.on hb8; obtain ⟨_, _, _, _⟩ := Pb.out.on hb8; have := (Pa.out.on hb8).ne; have := (Pb.out.on hb8).ne)
        | (go_at_call 69; refine (basisCols_any (A := A) (HRA.out.on (by repeat (first | with_reducible exact hb8 | with_reducible exact Below.refl _ _ | with_reducible refine drew_below ?_ | with_reducible refine al1 ?_ _))) HMA.out).mono ?_; rintro e wb ⟨v9, rfl, ho9, hb9'⟩; have hb89 : Below wa.heap.size wa wb := Below.trans (by repeat (first | with_reducible exact Below.refl _ _ | with_reducible refine drew_below ?_ | with_reducible refine al1 ?_ _)) (hb9'.mono (by first | exact Nat.le_refl _ | (simp; done) | (simp; omega))); have hb9 : Below W.heap.size W wb := hb8.trans (hb89.mono hb8.size); have hs9 := hb89.size; (try have ZA := Lib.hid (ZA.out.on hb89)); (try have ZB := Lib.hid (ZB.out.on hb89)); (try (with_reducible have YA := Lib.hid ((ZeroM.new wa).on hb9'))); (try (with_reducible have YA := Lib.hid ((ZeroM.new2a wa).on hb9'))); (try (with_reducible have YB := Lib.hid ((ZeroM.new2b wa).on hb9'))); obtain ⟨v9a, v9c, rfl⟩ := ho9.slice; rw [flat_len] at *; (try have := YA.out.1.1); (try have := YB.out.1.1); (try have : ¬ W.heap.size = w.heap.size := (by omega)); (try have : ¬ w.heap.size = W.heap.size := (by omega)); (try have : ¬ W.heap.size = w.heap.size + 1 := (by omega)); (try have : ¬ w.heap.size + 1 = W.heap.size := (by omega)); (try have : ¬ W.heap.size + 1 = w.heap.size := (by omega)); (try have : ¬ w.heap.size = W.heap.size + 1 := (by omega)); (try have : ¬ W.heap.size + 1 = w.heap.size + 1 := (by omega)); (try have : ¬ w.heap.size + 1 = W.heap.size + 1 := (by omega)); (try have : ¬ wa.heap.size = w.heap.size := (by omega)); (try have : ¬ w.heap.size = wa.heap.size := (by omega)); (try have : ¬ wa.heap.size = w.heap.size + 1 := (by omega)); (try have : ¬ w.heap.size + 1 = wa.heap.size := (by omega)); (try have : ¬ wa.heap.size + 1 = w.heap.size := (by omega)); (try have : ¬ w.heap.size = wa.heap.size + 1 := (by omega)); (try have : ¬ wa.heap.size + 1 = w.heap.size + 1 := (by omega)); (try have : ¬ w.heap.size + 1 = wa.heap.size + 1 := (by omega)); (try have : ¬ wb.heap.size = w.heap.size := (by omega)); (try have : ¬ w.heap.size = wb.heap.size := (by omega)); (try have : ¬ wb.heap.size = w.heap.size + 1 := (by omega)); (try have : ¬ w.heap.size + 1 = wb.heap.size := (by omega)); (try have : ¬ wb.heap.size + 1 = w.heap.size := (by omega)); (try have : ¬ w.heap.size = wb.heap.size + 1 := (by omega)); (try have : ¬ wb.heap.size + 1 = w.heap.size + 1 := (by omega)); (try have : ¬ w.heap.size + 1 = wb.heap.size + 1 := (by omega)); (try (obtain ⟨_, _, _, _, _⟩ := ZA.out.1; have := ZA.out.2 0; have := ZA.out.2 1; have := ZA.out.2 2; have := ZA.out.2 3)); (try (obtain ⟨_, _, _, _, _⟩ := ZB.out.1; have := ZB.out.2 0; have := ZB.out.2 1; have := ZB.out.2 2; have := ZB.out.2 3)); (try (obtain ⟨_, _, _, _, _⟩ := YA.out.1; have := YA.out.2 0; have := YA.out.2 1; have := YA.out.2 2; have := YA.out.2 3)); (try (obtain ⟨_, _, _, _, _⟩ := YB.out.1; have := YB.out.2 0; have := YB.out.2 1; have := YB.out.2 2; have := YB.out.2 3)); obtain ⟨_, _, _, _⟩ := Pa.out.on hb9; obtain ⟨_, _, _, _⟩ := Pb.out.on hb9; have := (Pa.out.on hb9).ne; have := (Pb.out.on hb9).ne))
    · go_wp2_with fail
      go_meet
      case rel => exact ⟨_, _, _, _, _, _, rfl, rfl, TwoP.nn _ _ ((OwnX.new ho8).on hb89) (OwnX.new ho9) (by rw [flat_len]; omega) (by rw [flat_len]; omega) hb9⟩
    · go_wp2_with fail
      go_meet
      case rel => exact ⟨_, _, _, _, _, _, rfl, rfl, (TwoP.nn _ _ (OwnX.new ho9) ((OwnX.new ho8).on hb89) (by rw [flat_len]; omega) (by rw [flat_len]; omega) hb9).symm⟩
    · go_wp2_with fail
      go_meet
      case rel => exact ⟨_, _, _, _, _, _, rfl, rfl, TwoP.sn _ YA.out.1 ((OwnX.new ho8).on hb89) (OwnX.new ho9) (by have h1 := hb8'.size; have h2 := hb9'.size; (try simp at h1 h2); first | omega | (simp; done) | (simp; omega)) (by have h1 := hb8'.size; have h2 := hb9'.size; (try simp at h1 h2); first | omega | (simp; done) | (simp; omega)) (by rw [flat_len]; omega) (by rw [flat_len]; omega) (by have h1 := hb8'.size; have h2 := hb9'.size; (try simp at h1 h2); first | omega | (simp; done) | (simp; omega)) hb9⟩
    · go_wp2_with fail
      go_meet
      case rel => exact ⟨_, _, _, _, _, _, rfl, rfl, TwoP.ss YA.out.1 YB.out.1 ((OwnX.new ho8).on hb89) (OwnX.new ho9) (by have h1 := hb8'.size; have h2 := hb9'.size; (try simp at h1 h2); first | omega | (simp; done) | (simp; omega)) (by have h1 := hb8'.size; have h2 := hb9'.size; (try simp at h1 h2); first | omega | (simp; done) | (simp; omega)) (by have h1 := hb8'.size; have h2 := hb9'.size; (try simp at h1 h2); first | omega | (simp; done) | (simp; omega)) (by have h1 := hb8'.size; have h2 := hb9'.size; (try simp at h1 h2); first | omega | (simp; done) | (simp; omega)) (by have h1 := hb8'.size; have h2 := hb9'.size; (try simp at h1 h2); first | omega | (simp; done) | (simp; omega)) (by rw [flat_len]; omega) (by rw [flat_len]; omega) (by have h1 := hb8'.size; have h2 := hb9'.size; (try simp at h1 h2); first | omega | (simp; done) | (simp; omega)) (by have h1 := hb8'.size; have h2 := hb9'.size; (try simp at h1 h2); first | omega | (simp; done) | (simp; omega)) hb9⟩
    · go_wp2_with fail
      go_meet
      case rel => exact ⟨_, _, _, _, _, _, rfl, rfl, (TwoP.sn _ YA.out.1 (OwnX.new ho9) ((OwnX.new ho8).on hb89) (by have h1 := hb8'.size; have h2 := hb9'.size; (try simp at h1 h2); first | omega | (simp; done) | (simp; omega)) (by have h1 := hb8'.size; have h2 := hb9'.size; (try simp at h1 h2); first | omega | (simp; done) | (simp; omega)) (by rw [flat_len]; omega) (by rw [flat_len]; omega) (by have h1 := hb8'.size; have h2 := hb9'.size; (try simp at h1 h2); first | omega | (simp; done) | (simp; omega)) hb9).symm⟩
    · go_wp2_with fail
      go_meet
      case rel => exact ⟨_, _, _, _, _, _, rfl, rfl, TwoP.ss YB.out.1 YA.out.1 ((OwnX.new ho8).on hb89) (OwnX.new ho9) (by have h1 := hb8'.size; have h2 := hb9'.size; (try simp at h1 h2); first | omega | (simp; done) | (simp; omega)) (by have h1 := hb8'.size; have h2 := hb9'.size; (try simp at h1 h2); first | omega | (simp; done) | (simp; omega)) (by have h1 := hb8'.size; have h2 := hb9'.size; (try simp at h1 h2); first | omega | (simp; done) | (simp; omega)) (by have h1 := hb8'.size; have h2 := hb9'.size; (try simp at h1 h2); first | omega | (simp; done) | (simp; omega)) (by have h1 := hb8'.size; have h2 := hb9'.size; (try simp at h1 h2); first | omega | (simp; done) | (simp; omega)) (by rw [flat_len]; omega) (by rw [flat_len]; omega) (by have h1 := hb8'.size; have h2 := hb9'.size; (try simp at h1 h2); first | omega | (simp; done) | (simp; omega)) (by have h1 := hb8'.size; have h2 := hb9'.size; (try simp at h1 h2); first | omega | (simp; done) | (simp; omega)) hb9⟩
    · go_wp2_with fail
      go_meet
      case rel => exact ⟨_, _, _, _, _, _, rfl, rfl, TwoP.sn _ ZA.out.1 ((OwnX.new ho8).on hb89) (OwnX.new ho9) (by have h1 := hb8'.size; have h2 := hb9'.size; (try simp at h1 h2); first | omega | (simp; done) | (simp; omega)) (by have h1 := hb8'.size; have h2 := hb9'.size; (try simp at h1 h2); first | omega | (simp; done) | (simp; omega)) (by rw [flat_len]; omega) (by rw [flat_len]; omega) (by have h1 := hb8'.size; have h2 := hb9'.size; (try simp at h1 h2); first | omega | (simp; done) | (simp; omega)) hb9⟩
    · go_wp2_with fail
      go_meet
      case rel => exact ⟨_, _, _, _, _, _, rfl, rfl, TwoP.ss ZA.out.1 YA.out.1 ((OwnX.new ho8).on hb89) (OwnX.new ho9) (by have h1 := hb8'.size; have h2 := hb9'.size; (try simp at h1 h2); first | omega | (simp; done) | (simp; omega)) (by have h1 := hb8'.size; have h2 := hb9'.size; (try simp at h1 h2); first | omega | (simp; done) | (simp; omega)) (by have h1 := hb8'.size; have h2 := hb9'.size; (try simp at h1 h2); first | omega | (simp; done) | (simp; omega)) (by have h1 := hb8'.size; have h2 := hb9'.size; (try simp at h1 h2); first | omega | (simp; done) | (simp; omega)) (by have h1 := hb8'.size; have h2 := hb9'.size; (try simp at h1 h2); first | omega | (simp; done) | (simp; omega)) (by rw [flat_len]; omega) (by rw [flat_len]; omega) (by have h1 := hb8'.size; have h2 := hb9'.size; (try simp at h1 h2); first | omega | (simp; done) | (simp; omega)) (by have h1 := hb8'.size; have h2 := hb9'.size; (try simp at h1 h2); first | omega | (simp; done) | (simp; omega)) hb9⟩
    · go_wp2_with fail
      go_meet
      case rel => exact ⟨_, _, _, _, _, _, rfl, rfl, TwoP.ss ZA.out.1 ZB.out.1 ((OwnX.new ho8).on hb89) (OwnX.new ho9) (by have h1 := hb8'.size; have h2 := hb9'.size; (try simp at h1 h2); first | omega | (simp; done) | (simp; omega)) (by have h1 := hb8'.size; have h2 := hb9'.size; (try simp at h1 h2); first | omega | (simp; done) | (simp; omega)) (by have h1 := hb8'.size; have h2 := hb9'.size; (try simp at h1 h2); first | omega | (simp; done) | (simp; omega)) (by have h1 := hb8'.size; have h2 := hb9'.size; (try simp at h1 h2); first | omega | (simp; done) | (simp; omega)) (by have h1 := hb8'.size; have h2 := hb9'.size; (try simp at h1 h2); first | omega | (simp; done) | (simp; omega)) (by rw [flat_len]; omega) (by rw [flat_len]; omega) (by have h1 := hb8'.size; have h2 := hb9'.size; (try simp at h1 h2); first | omega | (simp; done) | (simp; omega)) (by have h1 := hb8'.size; have h2 := hb9'.size; (try simp at h1 h2); first | omega | (simp; done) | (simp; omega)) hb9⟩
    · go_wp2_with fail
      go_meet
      case rel => exact ⟨_, _, _, _, _, _, rfl, rfl, (TwoP.sn _ ZA.out.1 (OwnX.new ho9) ((OwnX.new ho8).on hb89) (by have h1 := hb8'.size; have h2 := hb9'.size; (try simp at h1 h2); first | omega | (simp; done) | (simp; omega)) (by have h1 := hb8'.size; have h2 := hb9'.size; (try simp at h1 h2); first | omega | (simp; done) | (simp; omega)) (by rw [flat_len]; omega) (by rw [flat_len]; omega) (by have h1 := hb8'.size; have h2 := hb9'.size; (try simp at h1 h2); first | omega | (simp; done) | (simp; omega)) hb9).symm⟩
    · go_wp2_with fail
      go_meet
      case rel => exact ⟨_, _, _, _, _, _, rfl, rfl, TwoP.ss YA.out.1 ZA.out.1 ((OwnX.new ho8).on hb89) (OwnX.new ho9) (by have h1 := hb8'.size; have h2 := hb9'.size; (try simp at h1 h2); first | omega | (simp; done) | (simp; omega)) (by have h1 := hb8'.size; have h2 := hb9'.size; (try simp at h1 h2); first | omega | (simp; done) | (simp; omega)) (by have h1 := hb8'.size; have h2 := hb9'.size; (try simp at h1 h2); first | omega | (simp; done) | (simp; omega)) (by have h1 := hb8'.size; have h2 := hb9'.size; (try simp at h1 h2); first | omega | (simp; done) | (simp; omega)) (by have h1 := hb8'.size; have h2 := hb9'.size; (try simp at h1 h2); first | omega | (simp; done) | (simp; omega)) (by rw [flat_len]; omega) (by rw [flat_len]; omega) (by have h1 := hb8'.size; have h2 := hb9'.size; (try simp at h1 h2); first | omega | (simp; done) | (simp; omega)) (by have h1 := hb8'.size; have h2 := hb9'.size; (try simp at h1 h2); first | omega | (simp; done) | (simp; omega)) hb9⟩
    · go_wp2_with fail
      go_meet
      case rel => exact ⟨_, _, _, _, _, _, rfl, rfl, TwoP.ss ZB.out.1 ZA.out.1 ((OwnX.new ho8).on hb89) (OwnX.new ho9) (by have h1 := hb8'.size; have h2 := hb9'.size; (try simp at h1 h2); first | omega | (simp; done) | (simp; omega)) (by have h1 := hb8'.size; have h2 := hb9'.size; (try simp at h1 h2); first | omega | (simp; done) | (simp; omega)) (by have h1 := hb8'.size; have h2 := hb9'.size; (try simp at h1 h2); first | omega | (simp; done) | (simp; omega)) (by have h1 := hb8'.size; have h2 := hb9'.size; (try simp at h1 h2); first | omega | (simp; done) | (simp; omega)) (by have h1 := hb8'.size; have h2 := hb9'.size; (try simp at h1 h2); first | omega | (simp; done) | (simp; omega)) (by rw [flat_len]; omega) (by rw [flat_len]; omega) (by have h1 := hb8'.size; have h2 := hb9'.size; (try simp at h1 h2); first | omega | (simp; done) | (simp; omega)) (by have h1 := hb8'.size; have h2 := hb9'.size; (try simp at h1 h2); first | omega | (simp; done) | (simp; omega)) hb9⟩
  obtain ⟨L8, L9, a8, a9, c8, c9, rfl, rfl, hc⟩ := hcut
  obtain ⟨hp8, hp9, hc8, hc9, hbc⟩ := hc.out
  clear hc x0 x1 x2 lA y0 y1 y2 lB neA neB ZP1 ZP2a ZP2b
  rename World => W3
  have P8 := Lib.hid hp8
  have P9 := Lib.hid hp9
  have C8 := Lib.hid hc8
  have C9 := Lib.hid hc9
  have HB := Lib.hid (HB.out.trans (hbc.mono (by omega)))
  have Pa := Lib.hid (Pa.out.on hbc)
  have HRA := Lib.hid (HRA.out.on hbc)
  have hz3 : w.heap.size + 2 ≤ W3.heap.size := by have := hbc.size; omega
  clear hp8 hp9 hc8 hc9 hbc
  obtain ⟨lA, x0, x1, x2⟩ := Pa.out
  obtain ⟨l8, y0, y1, y2, y3⟩ := P8.out
  obtain ⟨l9, z0, z1, z2, z3⟩ := P9.out
  obtain ⟨K, hK⟩ : ∃ K, s + r = K := ⟨_, rfl⟩
  have wK : IntKind.i64.wrap ((s : Int) + (r : Int)) = (K : Int) := by rw [← hK, Int.natCast_add]; exact IntWalk.i64_in _ (by omega)
  have HJ : Hid ((fun i => rowL s (turn B) i ++ rowL r (turn A) i) = rowL K (turn (stack s B A))) := by show _ = _; rw [← hK]; exact funext fun i => (rowL_join s r (turn B) (turn A) i).symm
  have HPE : Hid ((red N (turn (stack s B A)) K).piv = quoP N s r A B K) := by show _ = _; rw [← hK]; exact quo_piv (fd_of HPR.out) N s r A B
  have HPK : Hid (∀ k ∈ quoP N s r A B K, k < K) := fun k hk => by
    unfold quoP at hk
    exact List.mem_range.1 (List.mem_filter.1 hk).1
  have HQL : Hid (quoL N s r A B = quoR N s A (quoP N s r A B K)) := by show _ = _; unfold quoL; rw [hK]
  have hK64 : K ≤ 64 := by omega
  have hPL := quoP_len N s r A B K
  go_wp2_with fail
  go_region_held3 (fun w' => w'.cell? ⟨L8, 2, none⟩ = some (.int .i64 (s : Int)) ∧ w'.cell? ⟨L9, 2, none⟩ = some (.int .i64 (r : Int)) ∧ w'.cell? ⟨w.heap.size, 0, none⟩ = some (.int .i64 (q : Int))) (go_keep)
    (first
      | (go_at_call_of 52 (.pointer (some ⟨L8, 0, none⟩) : Value); refine (implRowsC P8.out.drew C8.out.drew hN32 hs32).mono ?_; rintro e wa ⟨Ha, rfl, hra, hHa, hHa2, hba'⟩; have hba := undrew hba'; obtain ⟨_, _, _, _⟩ := Pa.out.on hba; obtain ⟨_, _, _, _, _⟩ := P8.out.on hba; obtain ⟨_, _, _, _, _⟩ := P9.out.on hba)
      | (go_at_call 52; have hx := implRowsC (P9.out.on hba) (C9.out.on hba) hN32 hr32; refine hx.mono ?_; rintro e wb ⟨Hb, rfl, hrb, hHb, hHb2, hbb⟩; have hb2 : Below W3.heap.size W3 wb := hba.trans (hbb.mono hba.size); obtain ⟨_, _, _, _⟩ := Pa.out.on hb2; obtain ⟨_, _, _, _, _⟩ := P8.out.on hb2; obtain ⟨_, _, _, _, _⟩ := P9.out.on hb2)
      | (go_at_call 100; have hx := besides_any (hra.on hbb) hrb hN32 (fun i _ => by rw [rowL_len]; omega) (fun i _ => by rw [rowL_len]; omega); refine hx.mono ?_; rintro e wc ⟨Hc, rfl, hHc, hmc, hbc⟩; have hrc : RowsC wc (.slice (some ⟨Hc, 0, none⟩) N N) N (rowL K (turn (stack s B A))) := (by have h := hmc.rows (by omega) (fun i _ => by rw [List.length_append, rowL_len, rowL_len]; omega); rw [HJ.out] at h; exact h); have hb3 : Below W3.heap.size W3 wc := hb2.trans (hbc.mono hb2.size); obtain ⟨_, _, _, _⟩ := Pa.out.on hb3; obtain ⟨_, _, _, _, _⟩ := P8.out.on hb3; obtain ⟨_, _, _, _, _⟩ := P9.out.on hb3)
      | (go_at_call 99; refine (reduce_big (c := K) (N := K) (A := turn (stack s B A)) hrc HPR.out (by omega) (by omega) (Nat.le_refl _)).mono ?_; rintro e wd ⟨L, rfl, hL, hT, hbd⟩; have hb4 : Below W3.heap.size W3 wd := hb3.trans (hbd.mono hb3.size); obtain ⟨_, _, _, _⟩ := Pa.out.on hb4; obtain ⟨_, _, _, _, _⟩ := P8.out.on hb4; obtain ⟨_, _, _, _, _⟩ := P9.out.on hb4))
  obtain ⟨H3, zs3, pv, hP, hR3, hO⟩ := hT
  rw [HPE.out] at hO
  obtain ⟨M, hM⟩ : ∃ M, (quoP N s r A B K).length = M := ⟨_, rfl⟩
  rw [hM] at hPL
  have HML := Lib.hid hM
  have HPV := Lib.hid (hO.at (by rw [pivI_len, hM]; omega))
  obtain ⟨pa, pc, rfl⟩ := hO.slice
  simp only [pivI_len, hM] at HPV hP ⊢
  have HPT := Lib.hid hP
  have HB := Lib.hid (HB.out.trans (hb4.mono (by omega)))
  have Pa := Lib.hid (Pa.out.on hb4)
  have P8 := Lib.hid (P8.out.on hb4)
  have HRA := Lib.hid (HRA.out.on hb4)
  have hz4 : w.heap.size + 2 ≤ wd.heap.size := by have := hb4.size; omega
  obtain ⟨i0, hi0, iz0, iz1, iz2⟩ := info_parts info_r
  have p3 := hP.piv
  clear hP hR3 hO hb4 hbd hba hbb hb2 hbc hb3 hra hrb hrc hmc hba' lA x0 x1 x2 l8 y0 y1 y2 y3 l9 z0 z1 z2 z3 hM wK
  go_wp2_with fail
  go_loopw [47, 11] (fun sj so wr => ∃ j : Nat, j ≤ M ∧ sj = .int .i64 (j : Int) ∧ Hid (OwnRI wd.heap.size wr so (quoR N s A ((quoP N s r A B K).take j))) ∧ Hid (Below wd.heap.size wd wr)) (fun sj _ _ => M - (intOf sj).toNat)
  case atStart => exact ⟨0, Nat.zero_le _, rfl, OwnRI.nul _ _, Below.refl _ _⟩
  case round =>
    obtain ⟨j, hj, rfl, HX, HK⟩ := hrel
    have sk := HK.out.size
    by_cases hlt : j < M
    · have hjl : j < (quoP N s r A B K).length := by rw [HML.out]; exact hlt
      obtain ⟨k, hk⟩ : ∃ k, (quoP N s r A B K)[j] = k := ⟨_, rfl⟩
      have hkK : k < K := HPK.out k (by rw [← hk]; exact List.getElem_mem hjl)
      obtain ⟨gb, go, rfl, hgb, c1⟩ : ∃ b o, pa = some ⟨b, o, none⟩ ∧ b < wd.heap.size ∧ wd.cell? ⟨b, o + j, none⟩ = some (.int .i64 (k : Int)) := by
        obtain ⟨a', c', e', -, h | ⟨b, o, rfl, hb, h⟩⟩ := HPV.out
        · exfalso; have h0 : (quoP N s r A B K).length = 0 := by rw [← pivI_len, h]; rfl
          omega
        · have := h j (by rw [pivI_len]; exact hjl)
          rw [pivI_at, hk] at this
          simp only [Value.slice.injEq] at e'
          exact ⟨b, o, e'.1, hb, this⟩
      have d1 := (HK.out.cell (p := ⟨gb, go + j, none⟩) hgb).trans c1
      have HTK : Hid (quoR N s A ((quoP N s r A B K).take (j + 1)) = quoR N s A ((quoP N s r A B K).take j) ++ quoR N s A [k]) := by
        show _ = _; rw [List.take_succ_eq_append_getElem hjl, hk, quoR_app]
      have j0 : (0 : Int) ≤ (j : Int) := by omega
      have j1 : (j : Int) < (M : Int) := by omega
      obtain ⟨l8, y0, y1, y2, y3⟩ := P8.out.on HK.out
      clear hk hjl c1 hgb
      by_cases hks : s ≤ k
      · obtain ⟨d, rfl⟩ : ∃ d, k = s + d := ⟨k - s, by omega⟩
        have hdr : d < r := by omega
        obtain ⟨Hr, ro, rc, ur, e, hHr, d0, hui⟩ := HRA.out.at hdr
        simp only [Value.slice.injEq, true_and] at e
        obtain ⟨rfl, rfl⟩ := e
        obtain ⟨ua, uc, rfl⟩ := hui.1.slice
        rw [rowL_len] at d0 hui
        have hHr' : Hr < wd.heap.size := by omega
        have d2 := (HK.out.cell (p := ⟨Hr, ro + d, none⟩) hHr').trans d0
        have HUI := Lib.hid (hui.on HK.out)
        have HQ1 := Lib.hid (quoR_one N s A (c := s + d) (by omega))
        obtain ⟨k', hk'⟩ : ∃ k', s + d = k' := ⟨_, rfl⟩
        rw [hk'] at d1 HTK HQ1
        have gk : s ≤ k' := by omega
        have wk : IntKind.i64.wrap ((k' : Int) - (s : Int)) = (d : Int) := by rw [show ((k' : Int) - (s : Int)) = (d : Int) by omega]; exact IntWalk.i64_in _ (by omega)
        have HQ2 : Hid (quoR N s A [k'] = [rowL N A d]) := by show _ = _; rw [HQ1.out, ← hk', Nat.add_sub_cancel_left]
        have e0 : (0 : Int) ≤ (d : Int) := by omega
        have e1 : (d : Int) < (r : Int) := by omega
        obtain ⟨lA, x0, x1, x2⟩ := Pa.out.on HK.out
        clear hui d0 HQ1 hk'
        go_wp2_with fail
        refine (cloneI_any HUI.out (by rw [rowL_len]; omega)).mono ?_
        rintro e w7 ⟨v7, rfl, ho7, hb7⟩
        have HC := Lib.hid ho7
        have HBC := Lib.hid hb7
        obtain ⟨xa, xc, rfl⟩ := ho7.slice
        have s7 := hb7.size
        obtain ⟨L0, hL0⟩ := HX.out
        have HL := Lib.hid hL0
        obtain ⟨M2, hM2⟩ : ∃ M, (quoR N s A ((quoP N s r A B K).take j)).length = M := ⟨_, rfl⟩
        have hM3 : M2 ≤ j := by rw [← hM2]; exact Nat.le_trans (quoR_len _ _ _ _) (by rw [List.length_take]; omega)
        have HM2 := Lib.hid hM2
        have hso := HX.out.slice
        rw [hM2] at hso
        obtain ⟨ya, yc, hy⟩ := hso
        rw [rowL_len] at HC ⊢
        clear ho7 hb7 hL0 hM2
        subst hy
        go_wp2_with (at_builtin; refine wpList_append_place _ rfl _ _ 28 rfl wd.heap.size 24 i0 (.slice none 0 0) 24 Try.underlying28 hi0 iz0 iz1 iz2 rfl _ M2 L0 rfl (by have h := (HL.out.on HBC.out).row; rw [HM2.out] at h; exact h.alloc _) ⟨w7.heap.size, 0, none⟩ _ (.slice xa N xc) rfl (row_val _ _ _) (fun y hy => by simp at hy; rw [hy]; rfl) (by unfold maxLen; omega) (by omega) (by rw [World.size_alloc]; omega) ?_; intro v8 w8 hr8 hg8 hv8)
        have hp8 := OwnRI.push HL.out HC.out HBC.out (by omega) (by rw [HM2.out]; exact hr8) hg8 (fun g hg => (hv8 g hg).imp id (fun h => by rw [World.size_alloc] at h; omega))
        have hk8 := below_pushR HK.out (Nat.le_refl _) (by omega) HX.out HBC.out hg8
        have HX8 : Hid (OwnRI wd.heap.size w8 v8 (quoR N s A ((quoP N s r A B K).take (j + 1)))) := by show OwnRI _ _ _ _; rw [HTK.out, HQ2.out]; exact hp8
        have HK8 := Lib.hid hk8
        clear hp8 hk8 hr8 hg8 hv8 HC HBC HL
        go_wp2
        go_roundw
        case rel => exact ⟨j + 1, by omega, by go_num, HX8.out, HK8.out⟩
        case measure => simp [intOf]; omega
      · have HQ2 := Lib.hid (quoR_not N s A (c := k) (by omega))
        have hx8 := HX.out
        have ht2 : quoR N s A ((quoP N s r A B K).take (j + 1)) = quoR N s A ((quoP N s r A B K).take j) := by rw [HTK.out, HQ2.out, List.append_nil]
        rw [← ht2] at hx8
        have HX8 := Lib.hid hx8
        clear ht2
        clear hx8
        go_wp2
        go_roundw
        case rel => exact ⟨j + 1, by omega, by go_num, HX8.out, HK.out⟩
        case measure => simp [intOf]; omega
    · obtain rfl : j = M := by omega
      have HB9 := Lib.hid (HB.out.trans (HK.out.mono (by omega)))
      have hxe := HX.out
      rw [show (quoP N s r A B K).take j = quoP N s r A B K by rw [← HML.out, List.take_length], ← HQL.out] at hxe
      have HXE := Lib.hid hxe
      clear hxe HX
      go_wp2
      go_ret2
      exact ⟨_, rfl, HXE.out.mono (by omega), HB9.out⟩
theorem implQuo_any {p n q m k : Int} {u v : Value} {xx yy Z : List (List Int)} {w : World} (hu : RowsD w u xx) (hv : RowsD w v yy) (h : QuoRes p n xx q m yy Z k) :
    Calls Try.prog 45 #[.agg #[.int .i64 p, .int .i64 n, u], .agg #[.int .i64 q, .int .i64 m, v]] w fun e w' => RetRC Z k w e w' := by
  rcases h with ⟨c, hc, h0, rfl, rfl⟩ | ⟨rfl, rfl, u', _, M, r, s, A, B, hA, hB, ⟨hin, rfl, rfl⟩ | ⟨hin, rfl, rfl⟩⟩
  · exact implQuo_b hu hv hc h0
  · obtain ⟨rfl, rfl⟩ : p = u' ∧ n = M := ⟨hA.p, hA.n⟩
    exact implQuo_n hu hv hA hB hin
  · obtain ⟨rfl, rfl⟩ : p = u' ∧ n = M := ⟨hA.p, hA.n⟩
    exact implQuo_y hu hv hA hB hin
end Go.Proofs.Ytlakkmhfaojebaa
