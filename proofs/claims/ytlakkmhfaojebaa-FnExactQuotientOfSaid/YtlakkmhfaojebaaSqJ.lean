/-
  MeetSpaces of the model.
-/
import Derived.Test.YtlakkmhfaojebaaSqE
import Derived.Test.YtlakkmhfaojebaaSqF
import Derived.Test.YtlakkmhfaojebaaSqC
import Derived.Test.YtlakkmhfaojebaaSqK
namespace Go.Proofs.Ytlakkmhfaojebaa
open Go.RowKit
open Lin
set_option linter.unusedVariables false
set_option linter.unusedSectionVars false

theorem own_made (w : World) (B n : Nat) (t : TypeId) (hn : n = w.heap.size) (hB : B ≤ n) : (w.alloc (.cells #[] t)).ownsRow B t 1 (.slice (some ⟨n, 0, none⟩) 0 0) 0 [] := by
  subst hn; exact World.ownsRow_made w #[] 0 hB (Nat.zero_le _) rfl
/-! ### An append of some values: where the row lies then -/
theorem run_append_placeM {P : Program} (w : World) (base : Nat) (t ty e : TypeId) (i : TypeInfo) (z : Value) (bytes : Nat) (ht : P.underlying t = some (.slice e)) (hi : P.info? e = some i) (hz : i.zero = some z)
    (hsize : i.size = 1) (hby : i.bytes = bytes) (hzs : z.cells.size = 1) (v : Value) (n : Nat) (xs : List Value) (hown : w.ownsRow base e 1 v n xs)
    (a : Addr) (m c : Nat) (news : List Value) (hl : news.length = m * 1) (hnew : ∀ j x, news[j]? = some x → w.cell? (a.add j) = some x) (h1 : ∀ x ∈ news, x.oneCell' = true)
    (h63 : n + m ≤ maxLen) (hbytes : (n + m) * bytes ≤ 140737488355328) (hbase : base ≤ w.heap.size) :
    ∃ v' w', (Builtin.append_ #[t, t] ty #[v, .slice (some a) m c]).run P w = .ok v' w' ∧ w'.ownsRow base e 1 v' (n + m) (xs ++ news) ∧ w.grownBy w' v.ownBlock ∧
      ∀ g, v'.ownBlock = some g → v.ownBlock = some g ∨ w.heap.size ≤ g := by
  obtain ⟨v', w', hr, h2, h3, h4⟩ := run_append_own (P := P) w base t ty e i z 1 bytes ht hi hz hsize hby hzs (by decide) v n xs hown a m c news hl hnew h1 h63 hbytes hbase
  refine ⟨v', w', hr, h2, h3, fun g hg => ?_⟩
  have hsmall : n + m ≤ 9223372036854775807 := by simp only [maxLen] at h63; omega
  subst hby
  rcases hown.2 with ⟨rfl, rfl⟩ | ⟨b, cap, cur, rfl, hbg, hcur, hnc, hcm, hcs, htake⟩
  · by_cases hm : m = 0
    · rw [h4.2 ⟨rfl, hm⟩] at hg
      simp [Value.ownBlock] at hg
    have hr2 := run_append_nil (P := P) w t ty e i z ht hi hz a m c news (by rw [hsize]; exact hl) hnew (by omega) (by omega) (by have hb := hbytes; simp only [Nat.zero_add] at hb; omega)
    have e := hr.symm.trans hr2
    simp only [Result.ok.injEq] at e
    rw [e.1] at hg
    simp [Value.ownBlock] at hg
    exact .inr (by omega)
  · by_cases hroom : n + m ≤ cap
    · have hr2 := run_append_room (P := P) w t ty e i ht hi b n cap cur hcur a m c news (by rw [hsize]; exact hl) hnew h1 hroom (by rw [hsize]; simp; omega)
      have e := hr.symm.trans hr2
      simp only [Result.ok.injEq] at e
      rw [e.1] at hg
      exact .inl hg
    · have holds : ∀ j x, xs[j]? = some x → w.cell? ((⟨b, 0, none⟩ : Addr).add j) = some x := hown.cells (g := b) rfl
      have hr2 := run_append_grow (P := P) w t ty e i z ht hi hz ⟨b, 0, none⟩ n cap xs (by rw [hsize]; exact hown.1) holds a m c news (by rw [hsize]; exact hl) hnew (by omega) (by omega) (growslice_fits (by omega) hbytes)
      have e := hr.symm.trans hr2
      simp only [Result.ok.injEq] at e
      rw [e.1] at hg
      simp [Value.ownBlock] at hg
      exact .inr (by omega)
theorem step_append_srcP {P : Program} {w : World} {ops : Array Oper} {o : Oper} {a : Act} {K : Act → World → Prop} {Q : Exit → Act → World → Prop} {E : Prop} (hgd : o.guard = none) (s x : Operand) (t : TypeId)
    (ho : o.op = .call { callee := .builtin .append, args := #[s, x], argTypes := #[t, t] })
    (base : Nat) (e : TypeId) (i : TypeInfo) (z : Value) (bytes : Nat) (ht : P.underlying t = some (.slice e)) (hi : P.info? e = some i) (hz : i.zero = some z)
    (hsize : i.size = 1) (hby : i.bytes = bytes) (hzs : z.cells.size = 1)
    (v : Value) (n : Nat) (xs : List Value) (hown : w.ownsRow base e 1 v n xs) (hs : a.eval s = v)
    (u : Value) (news : List Value) (hx : a.eval x = u) (hsrc : SrcAt w u news) (h1 : ∀ u ∈ news, u.oneCell' = true)
    (hn : n ≤ 2097152) (hb24 : bytes ≤ 24) (hbase : base ≤ w.heap.size)
    (h : ∀ v' w', w'.ownsRow base e 1 v' (n + news.length) (xs ++ news) → w.grownBy w' v.ownBlock → (∀ g, v'.ownBlock = some g → v.ownBlock = some g ∨ w.heap.size ≤ g) → K (a.put o.dst v') w') : if Region.wanted o (yielded ops a.tmps) = true then Oper.wp P o a w K Q else E := by
  have hw : Region.wanted o (yielded ops a.tmps) = true := by simp [Region.wanted, hgd]
  rw [if_pos hw]
  obtain ⟨ap, c, rfl, hl, ⟨rfl, rfl, rfl⟩ | ⟨b, off, rfl, _, hc⟩⟩ := hsrc
  · have hrun := run_append_owned_none (P := P) (w := w) base t o.type e i 1 ht hi v n xs hown
    unfold Oper.wp
    simp only [List.length_nil] at hx
    simp [execOp, ho, resolve, invoke, builtin, hs, hx, hrun, Result.andThen]
    exact h v w (by simpa using hown) ⟨rfl, rfl, rfl, Nat.le_refl _, fun _ _ _ => rfl⟩ (fun g hg => .inl hg)
  · have hbb : (n + news.length) * bytes ≤ 140737488355328 := by
      have : (n + news.length) * bytes ≤ 4194304 * 24 := Nat.mul_le_mul (by omega) hb24
      omega
    obtain ⟨v', w', hr, h2, h3, h4⟩ := run_append_placeM (P := P) w base t o.type e i z bytes ht hi hz hsize hby hzs v n xs hown ⟨b, off, none⟩ news.length c news (by simp) (fun j u hj => by rw [Addr.add_lit]; exact hc j u hj) h1 (by unfold maxLen; omega) hbb hbase
    unfold Oper.wp
    simp [execOp, ho, resolve, invoke, builtin, hs, hx, hr, Result.andThen]
    exact h v' w' h2 h3 h4
theorem PtV.gbv {a w : World} {L : Nat} {g : Option Nat} {p n : Int} {v : Value} (h : PtV a L p n v) (hg : a.grownBy w g) (hne : ∀ k, g = some k → k ≠ L) : PtV w L p n v := by
  rcases g with _ | k
  · exact h.on ⟨hg.os, hg.tape, hg.output, hg.size, fun i hi => hg.block i hi (by simp)⟩
  · exact h.gb hg (fun e => hne k rfl e.symm)
theorem Fz.gbv {a w : World} {L : Nat} {g : Option Nat} (h : Fz a L) (hL : L < a.heap.size) (hg : a.grownBy w g) (hne : ∀ k, g = some k → k ≠ L) : Fz w L := by
  rcases g with _ | k
  · exact h.on hL ⟨hg.os, hg.tape, hg.output, hg.size, fun i hi => hg.block i hi (by simp)⟩
  · exact h.gb hL hg (fun e => hne k rfl e.symm)
/-- A variable that has been made and not yet been filled: its block, apart from a row's. -/
def Var0 (w : World) (L : Nat) (v : Value) : Prop := PtV w L 0 0 (.slice none 0 0) ∧ Fz w L ∧ ∀ k, v.ownBlock = some k → k ≠ L
theorem Var0.push {a w : World} {L : Nat} {v v' : Value} (h : Var0 a L v) (hg : a.grownBy w v.ownBlock) (hp : ∀ g, v'.ownBlock = some g → v.ownBlock = some g ∨ a.heap.size ≤ g) : Var0 w L v' :=
  ⟨h.1.gbv hg h.2.2, h.2.1.gbv h.1.1 hg h.2.2, fun k hk => by
    rcases hp k hk with h1 | h1
    · exact h.2.2 k h1
    · have := h.1.1; omega⟩
theorem Var0.on {a w : World} {L : Nat} {v : Value} (h : Var0 a L v) (hb : Below a.heap.size a w) : Var0 w L v := ⟨h.1.on hb, h.2.1.on h.1.1 hb, h.2.2⟩
theorem Var0.new (w : World) (t : TypeId) (v : Value) (hv : ∀ k, v.ownBlock = some k → k < w.heap.size) : Var0 (w.alloc (.cells #[.int .i64 0, .int .i64 0, .slice none 0 0] t)) w.heap.size v := ⟨PtV.new _ _ _ _ _, Fz.new _ _ _, fun k hk => by have := hv k hk; omega⟩
set_option maxRecDepth 100000 in
set_option maxHeartbeats 6400000 in
theorem specMeet_b {p n q m k : Int} {u v : Value} {xx yy : List (List Int)} {w : World} (hu : RowsD w u xx) (hv : RowsD w v yy) (h : TwoK p n xx q m yy k) (hk : k ≠ 0) :
    Calls Try.prog 40 #[.agg #[.int .i64 p, .int .i64 n, u], .agg #[.int .i64 q, .int .i64 m, v]] w fun e w' => RetVC 0 0 [] k w e w' := by
  have HU := Lib.hid hu
  have HV := Lib.hid hv
  have HK := Lib.hid h
  have ek : (k != 0) = true := by simpa using hk
  obtain ⟨a1, c1, rfl⟩ := hu.1.slice
  obtain ⟨a2, c2, rfl⟩ := hv.1.slice
  clear hu hv h hk
  have Pa0 := PtV.new1 w p n (.slice a1 xx.length c1) 32 (.cells #[.int .i64 q, .int .i64 m, .slice a2 yy.length c2] 32)
  have Pb0 := PtV.new (w.alloc (.cells #[.int .i64 p, .int .i64 n, .slice a1 xx.length c1] 32)) q m (.slice a2 yy.length c2) 32
  have Pr0 := PtV.new ((w.alloc (.cells #[.int .i64 p, .int .i64 n, .slice a1 xx.length c1] 32)).alloc (.cells #[.int .i64 q, .int .i64 m, .slice a2 yy.length c2] 32)) 0 0 (.slice none 0 0) 32
  have Fr0 := Fz.new ((w.alloc (.cells #[.int .i64 p, .int .i64 n, .slice a1 xx.length c1] 32)).alloc (.cells #[.int .i64 q, .int .i64 m, .slice a2 yy.length c2] 32)) #[.int .i64 0, .int .i64 0, .slice none 0 0] 32
  rw [World.size_alloc] at Pb0
  simp only [World.size_alloc] at Pr0 Fr0
  have b3 := (Below.refl ((w.alloc (.cells #[.int .i64 p, .int .i64 n, .slice a1 xx.length c1] 32)).alloc (.cells #[.int .i64 q, .int .i64 m, .slice a2 yy.length c2] 32)).heap.size ((w.alloc (.cells #[.int .i64 p, .int .i64 n, .slice a1 xx.length c1] 32)).alloc (.cells #[.int .i64 q, .int .i64 m, .slice a2 yy.length c2] 32))).alloc (Nat.le_refl _) (.cells #[.int .i64 0, .int .i64 0, .slice none 0 0] 32)
  have Pa0 := Pa0.on b3
  have Pb0 := Pb0.on b3
  have bb := al1 (al1 (al1 (Below.refl w.heap.size w) (.cells #[.int .i64 p, .int .i64 n, .slice a1 xx.length c1] 32)) (.cells #[.int .i64 q, .int .i64 m, .slice a2 yy.length c2] 32)) (.cells #[.int .i64 0, .int .i64 0, .slice none 0 0] 32)
  clear b3
  go_enter Try.func40, Try.ntmps40
  go_wp2_with fail
  generalize hW : World.alloc ((w.alloc (.cells #[.int .i64 p, .int .i64 n, .slice a1 xx.length c1] 32)).alloc (.cells #[.int .i64 q, .int .i64 m, .slice a2 yy.length c2] 32)) (.cells #[.int .i64 0, .int .i64 0, .slice none 0 0] 32) = W0 at bb Pa0 Pb0 Pr0 Fr0 ⊢
  have hz : w.heap.size + 3 ≤ W0.heap.size := by rw [← hW]; simp
  have Pa := Lib.hid Pa0
  have Pb := Lib.hid Pb0
  have Pr := Lib.hid Pr0
  have Fr : Hid (Fz W0 (w.heap.size + 1 + 1)) := Fr0
  have HB := Lib.hid bb
  clear hW bb Pa0 Pb0 Pr0 Fr0
  refine (l04Two_is Pa.out Pb.out (HU.out.on HB.out) (HV.out.on HB.out) HK.out).mono ?_
  rintro e w1 ⟨rfl, hb⟩
  have HB := Lib.hid (HB.out.trans (hb.mono HB.out.size))
  have Pa := Lib.hid (Pa.out.on hb)
  have Pb := Lib.hid (Pb.out.on hb)
  have Pr := Lib.hid (Pr.out.on hb)
  have Fr : Hid (Fz w1 (w.heap.size + 1 + 1)) := Fr.out.on (by omega) hb
  have hz1 : w.heap.size + 3 ≤ w1.heap.size := by have := hb.size; omega
  clear hb
  obtain ⟨lR, r0, r1, r2⟩ := Pr.out
  have f0 := Fr.out 0
  have f1 := Fr.out 1
  have f2 := Fr.out 2
  have HQ3 := Lib.hid (Pr.out.set3 0 0 (.slice none 0 0))
  go_wp2_with fail
  obtain ⟨_, q0, q1, q2⟩ := HQ3.out
  refine bodyPost_ret (v := .tuple #[.agg #[.int .i64 0, .int .i64 0, .slice none 0 0], .int .i64 k]) (by simp [results, Try.results40, go_sem, q0, q1, q2]) rfl ⟨_, rfl, OwnRI.nul _ _, ?_⟩
  repeat (refine Below.setC ?_ (by omega) _)
  exact HB.out
set_option maxRecDepth 100000 in
set_option maxHeartbeats 6400000 in
theorem specMeet_ok {q N r s : Nat} [NeZero q] {A B : Mt q} {u v : Value} {xx yy : List (List Int)} {w : World} (hu : RowsD w u xx) (hv : RowsD w v yy) (hA : VIs q N xx q N r A) (hB : VIs q N yy q N s B) :
    Calls Try.prog 40 #[.agg #[.int .i64 (q : Int), .int .i64 (N : Int), u], .agg #[.int .i64 (q : Int), .int .i64 (N : Int), v]] w fun e w' => RetVC q N (meetOf r s N A B) 0 w e w' := by
  have HU := Lib.hid hu
  have HV := Lib.hid hv
  have HK : Hid (TwoK (q : Int) N xx q N yy 0) := .inr (.inr ⟨hA.ok, hB.ok, rfl, rfl, rfl⟩)
  have HVA := Lib.hid hA
  have HPR := Lib.hid hA.pr
  have hr32 := hA.mis.m32
  have hs32 := hB.mis.m32
  have hN32 := hA.n32
  have HRA := Lib.hid (hA.rowsC hu)
  have HRB := Lib.hid (hB.rowsC hv)
  obtain ⟨i0, hi0, iz0, iz1, iz2⟩ := info_parts info_r
  have HVB := Lib.hid hB
  have V1 := Lib.hid (vis_ortOf hA.pr hA.n32 r A)
  have V2 := Lib.hid (vis_ortOf hA.pr hA.n32 s B)
  have V3 := Lib.hid (vis_sumOf hA.pr hA.n32 (ortR r N A) (ortR s N B) (ortA r N A) (ortA s N B))
  have F1 := Lib.hid (fit_ortOf (m := r) (n := N) (fd_of hA.pr) A (by have := hA.n32; omega))
  have F2 := Lib.hid (fit_ortOf (m := s) (n := N) (fd_of hA.pr) B (by have := hA.n32; omega))
  have F3 : Hid (FitR (sumOf (ortR r N A) (ortR s N B) N (ortA r N A) (ortA s N B))) := fit_basOf (fd_of hA.pr) _ (by have := hA.n32; omega)
  have HME : Hid (meetOf r s N A B = ortOf (sumR (ortR r N A) (ortR s N B) N (ortA r N A) (ortA s N B)) N (sumA (ortR r N A) (ortR s N B) N (ortA r N A) (ortA s N B))) := rfl
  generalize meetOf r s N A B = zm at HME ⊢
  obtain ⟨z3, hz3e⟩ : ∃ z, sumOf (ortR r N A) (ortR s N B) N (ortA r N A) (ortA s N B) = z := ⟨_, rfl⟩
  rw [hz3e] at V3 F3
  have HS3 : Hid (basOf (ortR r N A + ortR s N B) N (stack (ortR r N A) (ortA r N A) (ortA s N B)) = z3) := hz3e
  clear hz3e
  obtain ⟨a1, c1, rfl⟩ := hu.1.slice
  obtain ⟨a2, c2, rfl⟩ := hv.1.slice
  have hl1 := hA.len
  have hl2 := hB.len
  rw [hl1] at HU HRA ⊢
  rw [hl2] at HV HRB ⊢
  clear hu hv hA hB hl1 hl2
  have Pa0 := PtV.new1 w (q : Int) (N : Int) (.slice a1 r c1) 32 (.cells #[.int .i64 (q : Int), .int .i64 (N : Int), .slice a2 s c2] 32)
  have Pb0 := PtV.new (w.alloc (.cells #[.int .i64 (q : Int), .int .i64 (N : Int), .slice a1 r c1] 32)) (q : Int) (N : Int) (.slice a2 s c2) 32
  have Pr0 := PtV.new ((w.alloc (.cells #[.int .i64 (q : Int), .int .i64 (N : Int), .slice a1 r c1] 32)).alloc (.cells #[.int .i64 (q : Int), .int .i64 (N : Int), .slice a2 s c2] 32)) 0 0 (.slice none 0 0) 32
  have Fr0 := Fz.new ((w.alloc (.cells #[.int .i64 (q : Int), .int .i64 (N : Int), .slice a1 r c1] 32)).alloc (.cells #[.int .i64 (q : Int), .int .i64 (N : Int), .slice a2 s c2] 32)) #[.int .i64 0, .int .i64 0, .slice none 0 0] 32
  rw [World.size_alloc] at Pb0
  simp only [World.size_alloc] at Pr0 Fr0
  have b3 := (Below.refl ((w.alloc (.cells #[.int .i64 (q : Int), .int .i64 (N : Int), .slice a1 r c1] 32)).alloc (.cells #[.int .i64 (q : Int), .int .i64 (N : Int), .slice a2 s c2] 32)).heap.size ((w.alloc (.cells #[.int .i64 (q : Int), .int .i64 (N : Int), .slice a1 r c1] 32)).alloc (.cells #[.int .i64 (q : Int), .int .i64 (N : Int), .slice a2 s c2] 32))).alloc (Nat.le_refl _) (.cells #[.int .i64 0, .int .i64 0, .slice none 0 0] 32)
  have Pa0 := Pa0.on b3
  have Pb0 := Pb0.on b3
  have bb := al1 (al1 (al1 (Below.refl w.heap.size w) (.cells #[.int .i64 (q : Int), .int .i64 (N : Int), .slice a1 r c1] 32)) (.cells #[.int .i64 (q : Int), .int .i64 (N : Int), .slice a2 s c2] 32)) (.cells #[.int .i64 0, .int .i64 0, .slice none 0 0] 32)
  clear b3
  go_enter Try.func40, Try.ntmps40
  go_wp2_with fail
  generalize hW : World.alloc ((w.alloc (.cells #[.int .i64 (q : Int), .int .i64 (N : Int), .slice a1 r c1] 32)).alloc (.cells #[.int .i64 (q : Int), .int .i64 (N : Int), .slice a2 s c2] 32)) (.cells #[.int .i64 0, .int .i64 0, .slice none 0 0] 32) = W0 at bb Pa0 Pb0 Pr0 Fr0 ⊢
  have hz : w.heap.size + 3 ≤ W0.heap.size := by rw [← hW]; simp
  have Pa := Lib.hid Pa0
  have Pb := Lib.hid Pb0
  have Pr := Lib.hid Pr0
  have Fr : Hid (Fz W0 (w.heap.size + 1 + 1)) := Fr0
  have HB := Lib.hid bb
  clear hW bb Pa0 Pb0 Pr0 Fr0
  refine (l04Two_is Pa.out Pb.out (HU.out.on HB.out) (HV.out.on HB.out) HK.out).mono ?_
  rintro e w1 ⟨rfl, hb⟩
  have HB := Lib.hid (HB.out.trans (hb.mono HB.out.size))
  have Pa := Lib.hid (Pa.out.on hb)
  have Pb := Lib.hid (Pb.out.on hb)
  have Pr := Lib.hid (Pr.out.on hb)
  have Fr : Hid (Fz w1 (w.heap.size + 1 + 1)) := Fr.out.on (by omega) hb
  have hz1 : w.heap.size + 3 ≤ w1.heap.size := by have := hb.size; omega
  clear hb
  have hx1 := Pa.out.1
  go_wp2_with fail
  refine (l04Ort_any Pa.out (HRA.out.on HB.out) HPR.out (by omega) hN32).mono ?_
  rintro e w2 ⟨v2, rfl, ho, hb⟩
  have HO1 := Lib.hid (ho.atD F1.out)
  obtain ⟨va, vc, rfl⟩ := ho.slice
  have HB := Lib.hid (HB.out.trans (hb.mono HB.out.size))
  have Pa := Lib.hid (Pa.out.on hb)
  have Pb := Lib.hid (Pb.out.on hb)
  have Pr := Lib.hid (Pr.out.on hb)
  have Fr : Hid (Fz w2 (w.heap.size + 1 + 1)) := Fr.out.on (by omega) hb
  have hz2 : w.heap.size + 3 ≤ w2.heap.size := by have := hb.size; omega
  clear ho hb
  have Px0 := PtV.new w2 (q : Int) (N : Int) (.slice va (ortOf r N A).length vc) 32
  go_wp2_with fail
  refine (l04Ort_any (Pb.out.on (al1 (Below.refl _ _) _)) (HRB.out.on (al1 HB.out _)) HPR.out (by omega) hN32).mono ?_
  rintro e w3 ⟨v3, rfl, ho, hb'⟩
  have hb := up1 hb'
  have HO2 := Lib.hid (ho.atD F2.out)
  obtain ⟨vb, vd, rfl⟩ := ho.slice
  obtain ⟨X2, hX2⟩ : ∃ X, w2.heap.size = X := ⟨_, rfl⟩
  have HB := Lib.hid (HB.out.trans (hb.mono HB.out.size))
  have Px := Lib.hid (Px0.on hb')
  have Pa := Lib.hid (Pa.out.on hb)
  have Pr := Lib.hid (Pr.out.on hb)
  have HO1 := Lib.hid (HO1.out.on hb)
  have Fr : Hid (Fz w3 (w.heap.size + 1 + 1)) := Fr.out.on (by omega) hb
  have hz3 : X2 + 1 ≤ w3.heap.size := by have := hb'.size; rw [World.size_alloc] at this; omega
  rw [hX2] at Px hz2 ⊢
  clear ho hb hb' Px0 Pb hX2
  have Py0 := PtV.new w3 (q : Int) (N : Int) (.slice vb (ortOf s N B).length vd) 32
  have bb := al1 (Below.refl w3.heap.size w3) (.cells #[.int .i64 (q : Int), .int .i64 (N : Int), .slice vb (ortOf s N B).length vd] 32)
  have hzw : (w3.alloc (.cells #[.int .i64 (q : Int), .int .i64 (N : Int), .slice vb (ortOf s N B).length vd] 32)).heap.size = w3.heap.size + 1 := by simp
  go_wp2_with fail
  generalize hW : World.alloc w3 (.cells #[.int .i64 (q : Int), .int .i64 (N : Int), .slice vb (ortOf s N B).length vd] 32) = W at bb Py0 hzw ⊢
  obtain ⟨X3, hX3⟩ : ∃ X, w3.heap.size = X := ⟨_, rfl⟩
  have HB := Lib.hid (HB.out.trans (bb.mono HB.out.size))
  have Px := Lib.hid (Px.out.on bb)
  have Py := Lib.hid Py0
  have Pa := Lib.hid (Pa.out.on bb)
  have Pr := Lib.hid (Pr.out.on bb)
  have hra := V1.out.rowsC (HO1.out.on bb)
  have hrb := V2.out.rowsC (HO2.out.on bb)
  have Fr : Hid (Fz W (w.heap.size + 1 + 1)) := Fr.out.on (by omega) bb
  rw [hX3] at Py hz3 hzw ⊢
  have hzw' : X3 + 1 ≤ W.heap.size := Nat.le_of_eq hzw.symm
  clear hzw
  have l1 := V1.out.len
  have l2 := V2.out.len
  have m1 := V1.out.r32
  have m2 := V2.out.r32
  rw [l1] at Px hra ⊢
  rw [l2] at Py hrb ⊢
  obtain ⟨LA, hLA, sA, oA, iA⟩ := hra.list
  obtain ⟨LB, hLB, sB, oB, iB⟩ := hrb.list
  have HLA := Lib.hid hLA
  have HLB := Lib.hid hLB
  have SA := Lib.hid sA
  have SB := Lib.hid sB
  have OA := Lib.hid oA
  have OB := Lib.hid oB
  have IA : Hid (∀ i (h : i < LA.length), IntsC W LA[i] (rowL N (ortA r N A) i)) := iA
  have IB : Hid (∀ i (h : i < LB.length), IntsC W LB[i] (rowL N (ortA s N B) i)) := iB
  obtain ⟨R1, hR1⟩ : ∃ x, ortR r N A = x := ⟨_, rfl⟩
  obtain ⟨R2, hR2⟩ : ∃ x, ortR s N B = x := ⟨_, rfl⟩
  obtain ⟨A1, hA1⟩ : ∃ x, ortA r N A = x := ⟨_, rfl⟩
  obtain ⟨A2, hA2⟩ : ∃ x, ortA s N B = x := ⟨_, rfl⟩
  rw [hR1] at m1 HLA Px ⊢
  rw [hR2] at m2 HLB Py ⊢
  rw [hR1, hR2, hA1, hA2] at V3 HS3 HME
  rw [hR1] at SA
  rw [hR2] at SB
  rw [hA1] at IA
  rw [hA2] at IB
  have hrs : (R1 + R2) * N ≤ 1048576 := Nat.le_trans (Nat.mul_le_mul (show R1 + R2 ≤ 64 by omega) hN32) (by decide)
  clear bb hW Py0 hX3 hra hrb hLA hLB sA sB oA oB iA iB l1 l2 hR1 hR2 hA1 hA2 V1 V2 HO1 HO2 HRA HRB HU HV
  obtain ⟨lA, x0, x1, x2⟩ := Pa.out
  obtain ⟨lX, y0, y1, y2⟩ := Px.out
  obtain ⟨lY, z0, z1, z2⟩ := Py.out
  have neA := Pa.out.ne
  have neX := Px.out.ne
  have neY := Py.out.ne
  go_cut [9] (fun sp wx => ∃ (L B E : Nat) (a : Option Addr) (c : Nat), sp = .pointer (some ⟨L, 0, none⟩) ∧ Hid (RegV W wx L B E (q : Int) (N : Int) (.slice a z3.length c) z3))
  case first =>
    have O9t : True := trivial
    have HMa : Hid ((W.alloc (.cells #[] 24)).drew.ownsRow W.heap.size 24 1 (.slice (some ⟨W.heap.size, 0, none⟩) 0 0) 0 []) := own_made W.drew _ _ _ rfl (Nat.le_refl _)
    have HMb : Hid (((W.alloc (.cells #[] 24)).alloc (.cells #[.int .i64 0, .int .i64 0, .slice none 0 0] 32)).drew.ownsRow W.heap.size 24 1 (.slice (some ⟨W.heap.size, 0, none⟩) 0 0) 0 []) := HMa.out.alloc _
    have HMc : Hid (((W.alloc (.cells #[.int .i64 0, .int .i64 0, .slice none 0 0] 32)).alloc (.cells #[] 24)).drew.ownsRow W.heap.size 24 1 (.slice (some ⟨W.heap.size + 1, 0, none⟩) 0 0) 0 []) := own_made (W.alloc (.cells #[.int .i64 0, .int .i64 0, .slice none 0 0] 32)).drew _ _ _ (by simp) (by omega)
    have VPb : Hid (Var0 ((W.alloc (.cells #[] 24)).alloc (.cells #[.int .i64 0, .int .i64 0, .slice none 0 0] 32)).drew (W.heap.size + 1) (.slice (some ⟨W.heap.size, 0, none⟩) 0 0)) := by
      have h := Var0.new (W.alloc (.cells #[] 24)) 32 (.slice (some ⟨W.heap.size, 0, none⟩) 0 0) (fun k hk => by simp [Value.ownBlock] at hk; simp; omega)
      rw [World.size_alloc] at h
      exact h
    have VPc : Hid (Var0 ((W.alloc (.cells #[.int .i64 0, .int .i64 0, .slice none 0 0] 32)).alloc (.cells #[] 24)).drew W.heap.size (.slice (some ⟨W.heap.size + 1, 0, none⟩) 0 0)) := by
      have h : PtV (W.alloc (.cells #[.int .i64 0, .int .i64 0, .slice none 0 0] 32)) W.heap.size 0 0 (.slice none 0 0) := PtV.new W 0 0 (.slice none 0 0) 32
      have hf : Fz (W.alloc (.cells #[.int .i64 0, .int .i64 0, .slice none 0 0] 32)) W.heap.size := Fz.new W #[.int .i64 0, .int .i64 0, .slice none 0 0] 32
      have hb := al1 (Below.refl (W.alloc (.cells #[.int .i64 0, .int .i64 0, .slice none 0 0] 32)).heap.size (W.alloc (.cells #[.int .i64 0, .int .i64 0, .slice none 0 0] 32))) (.cells #[] 24)
      exact ⟨h.on (drew_below hb), hf.on (by simp) (drew_below hb), fun k hk => by simp [Value.ownBlock] at hk; omega⟩
    go_region_held3 (fun w' => w'.cell? ⟨w.heap.size, 0, none⟩ = some (.int .i64 (q : Int)) ∧ w'.cell? ⟨w.heap.size, 1, none⟩ = some (.int .i64 (N : Int)) ∧ w'.cell? ⟨X2, 2, none⟩ = some (.slice va R1 vc) ∧ w'.cell? ⟨X3, 2, none⟩ = some (.slice vb R2 vd)) (go_keep)
      (first
        | (refine step_append_srcP (by rfl) _ _ _ (by rfl) W.heap.size 24 i0 (.slice none 0 0) 24 Try.underlying28 hi0 iz0 iz1 iz2 (by rfl) (.slice (some ⟨W.heap.size, 0, none⟩) 0 0) 0 [] (by with_reducible exact HMa.out) (by rfl) _ LA (by rfl) (SA.out.on (by repeat (first | with_reducible exact Below.refl _ _ | with_reducible refine drew_below ?_ | with_reducible refine al1 ?_ _))) OA.out (by omega) (by omega) (by simp only [World.size_alloc, World.size_drew]; omega) ?_; intro v4 w4 hv4 hg4 hp4; have hb4 : Below W.heap.size W w4 := Below.grown (by repeat (first | with_reducible exact Below.refl _ _ | with_reducible refine drew_below ?_ | with_reducible refine al1 ?_ _)) hg4 (by simp only [World.size_alloc, World.size_drew]; omega) (fun k hk => by simp [Value.ownBlock] at hk; omega); have hs4 := hb4.size; rw [HLA.out, Nat.zero_add, List.nil_append] at hv4; obtain ⟨v4a, v4c, rfl⟩ := row_slice hv4; obtain ⟨_, _, _, _⟩ := Pa.out.on hb4; obtain ⟨_, _, _, _⟩ := Px.out.on hb4; obtain ⟨_, _, _, _⟩ := Py.out.on hb4; have := (Pa.out.on hb4).ne; have := (Px.out.on hb4).ne; have := (Py.out.on hb4).ne)
        | (refine step_append_srcP (by rfl) _ _ _ (by rfl) W.heap.size 24 i0 (.slice none 0 0) 24 Try.underlying28 hi0 iz0 iz1 iz2 (by rfl) (.slice (some ⟨W.heap.size, 0, none⟩) 0 0) 0 [] (by with_reducible exact HMb.out) (by rfl) _ LA (by rfl) (SA.out.on (by repeat (first | with_reducible exact Below.refl _ _ | with_reducible refine drew_below ?_ | with_reducible refine al1 ?_ _))) OA.out (by omega) (by omega) (by simp only [World.size_alloc, World.size_drew]; omega) ?_; intro v4 w4 hv4 hg4 hp4; have hb4 : Below W.heap.size W w4 := Below.grown (by repeat (first | with_reducible exact Below.refl _ _ | with_reducible refine drew_below ?_ | with_reducible refine al1 ?_ _)) hg4 (by simp only [World.size_alloc, World.size_drew]; omega) (fun k hk => by simp [Value.ownBlock] at hk; omega); have hs4 := hb4.size; rw [HLA.out, Nat.zero_add, List.nil_append] at hv4; obtain ⟨v4a, v4c, rfl⟩ := row_slice hv4; have V9 := Lib.hid (VPb.out.push hg4 hp4); obtain ⟨_, _, _, _⟩ := Pa.out.on hb4; obtain ⟨_, _, _, _⟩ := Px.out.on hb4; obtain ⟨_, _, _, _⟩ := Py.out.on hb4; have := (Pa.out.on hb4).ne; have := (Px.out.on hb4).ne; have := (Py.out.on hb4).ne)
        | (refine step_append_srcP (by rfl) _ _ _ (by rfl) W.heap.size 24 i0 (.slice none 0 0) 24 Try.underlying28 hi0 iz0 iz1 iz2 (by rfl) (.slice (some ⟨W.heap.size + 1, 0, none⟩) 0 0) 0 [] (by with_reducible exact HMc.out) (by rfl) _ LA (by rfl) (SA.out.on (by repeat (first | with_reducible exact Below.refl _ _ | with_reducible refine drew_below ?_ | with_reducible refine al1 ?_ _))) OA.out (by omega) (by omega) (by simp only [World.size_alloc, World.size_drew]; omega) ?_; intro v4 w4 hv4 hg4 hp4; have hb4 : Below W.heap.size W w4 := Below.grown (by repeat (first | with_reducible exact Below.refl _ _ | with_reducible refine drew_below ?_ | with_reducible refine al1 ?_ _)) hg4 (by simp only [World.size_alloc, World.size_drew]; omega) (fun k hk => by simp [Value.ownBlock] at hk; omega); have hs4 := hb4.size; rw [HLA.out, Nat.zero_add, List.nil_append] at hv4; obtain ⟨v4a, v4c, rfl⟩ := row_slice hv4; have V9 := Lib.hid (VPc.out.push hg4 hp4); obtain ⟨_, _, _, _⟩ := Pa.out.on hb4; obtain ⟨_, _, _, _⟩ := Px.out.on hb4; obtain ⟨_, _, _, _⟩ := Py.out.on hb4; have := (Pa.out.on hb4).ne; have := (Px.out.on hb4).ne; have := (Py.out.on hb4).ne)
        | (refine step_append_srcP (by rfl) _ _ _ (by rfl) W.heap.size 24 i0 (.slice none 0 0) 24 Try.underlying28 hi0 iz0 iz1 iz2 (by rfl) _ R1 LA (by with_reducible exact hv4) (by rfl) _ LB (by rfl) (SB.out.on hb4) OB.out (by omega) (by omega) hs4 ?_; intro v5 w5 hv5 hg5 hp5; have hb5 : Below W.heap.size W w5 := Below.grown hb4 hg5 hs4 (fun k hk => (hv4.lt k hk).1); have hs5 := hb5.size; have hrc := RowsC.stacked (by rw [HLA.out]; exact hv5) HLA.out HLB.out (by omega) (fun i h => (IA.out i h).on hb5) (fun i h => (IB.out i h).on hb5); obtain ⟨vca, vcc, rfl⟩ : ∃ a c, v5 = .slice a (R1 + R2) c := (by obtain ⟨a, c, h, _⟩ := hrc; exact ⟨a, c, h⟩); (try have V9 := Lib.hid (V9.out.push hg5 hp5)); obtain ⟨_, _, _, _⟩ := Pa.out.on hb5; obtain ⟨_, _, _, _⟩ := Px.out.on hb5; obtain ⟨_, _, _, _⟩ := Py.out.on hb5; have := (Pa.out.on hb5).ne; have := (Px.out.on hb5).ne; have := (Py.out.on hb5).ne)
        | (refine step_append_srcP (by rfl) _ _ _ (by rfl) W.heap.size 24 i0 (.slice none 0 0) 24 Try.underlying28 hi0 iz0 iz1 iz2 (by rfl) _ R1 LA (by with_reducible exact hv4.alloc _) (by rfl) _ LB (by rfl) (SB.out.on (al1 hb4 _)) OB.out (by omega) (by omega) (by simp only [World.size_alloc]; omega) ?_; intro v5 w5 hv5 hg5 hp5; have hb5 : Below W.heap.size W w5 := Below.grown (al1 hb4 _) hg5 (by simp only [World.size_alloc]; omega) (fun k hk => (hv4.lt k hk).1); have hs5 := hb5.size; have hrc := RowsC.stacked (by rw [HLA.out]; exact hv5) HLA.out HLB.out (by omega) (fun i h => (IA.out i h).on hb5) (fun i h => (IB.out i h).on hb5); obtain ⟨vca, vcc, rfl⟩ : ∃ a c, v5 = .slice a (R1 + R2) c := (by obtain ⟨a, c, h, _⟩ := hrc; exact ⟨a, c, h⟩); have V9 := Lib.hid ((Var0.new w4 32 _ (fun k hk => (hv4.lt k hk).2)).push hg5 hp5); obtain ⟨_, _, _, _⟩ := Pa.out.on hb5; obtain ⟨_, _, _, _⟩ := Px.out.on hb5; obtain ⟨_, _, _, _⟩ := Py.out.on hb5; have := (Pa.out.on hb5).ne; have := (Px.out.on hb5).ne; have := (Py.out.on hb5).ne)
        | (go_at_call 86; refine (l04Space_any (A := stack R1 A1 A2) (by with_reducible exact hrc) HPR.out (by omega) (by omega) hrs).mono ?_; have : ¬ W.heap.size = w.heap.size := (by omega); have : ¬ w.heap.size = W.heap.size := (by omega); have : ¬ W.heap.size = X2 := (by omega); have : ¬ X2 = W.heap.size := (by omega); have : ¬ W.heap.size = X3 := (by omega); have : ¬ X3 = W.heap.size := (by omega); have : ¬ W.heap.size + 1 = w.heap.size := (by omega); have : ¬ w.heap.size = W.heap.size + 1 := (by omega); have : ¬ W.heap.size + 1 = X2 := (by omega); have : ¬ X2 = W.heap.size + 1 := (by omega); have : ¬ W.heap.size + 1 = X3 := (by omega); have : ¬ X3 = W.heap.size + 1 := (by omega); have : ¬ w4.heap.size = w.heap.size := (by omega); have : ¬ w.heap.size = w4.heap.size := (by omega); have : ¬ w4.heap.size = X2 := (by omega); have : ¬ X2 = w4.heap.size := (by omega); have : ¬ w4.heap.size = X3 := (by omega); have : ¬ X3 = w4.heap.size := (by omega); have : ¬ w5.heap.size = w.heap.size := (by omega); have : ¬ w.heap.size = w5.heap.size := (by omega); have : ¬ w5.heap.size = X2 := (by omega); have : ¬ X2 = w5.heap.size := (by omega); have : ¬ w5.heap.size = X3 := (by omega); have : ¬ X3 = w5.heap.size := (by omega); rintro e w6 ⟨v6, rfl, ho6, hb6'⟩; have hb6 : Below W.heap.size W w6 := hb5.trans (hb6'.mono hb5.size); (try have V9 := Lib.hid (V9.out.on hb6')); rw [HS3.out] at ho6; obtain ⟨v6a, v6c, rfl⟩ := ho6.slice; (try obtain ⟨_, _, _, _⟩ := V9.out.1); (try have := V9.out.2.1 0); (try have := V9.out.2.1 1); (try have := V9.out.2.1 2); obtain ⟨_, _, _, _⟩ := Pa.out.on hb6; obtain ⟨_, _, _, _⟩ := Px.out.on hb6; obtain ⟨_, _, _, _⟩ := Py.out.on hb6; have := (Pa.out.on hb6).ne; have := (Px.out.on hb6).ne; have := (Py.out.on hb6).ne)
        | (go_at_call 86; refine (l04Space_any (A := stack R1 A1 A2) (hrc.on (al1 (Below.refl _ _) _)) HPR.out (by omega) (by omega) hrs).mono ?_; have : ¬ W.heap.size = w.heap.size := (by omega); have : ¬ w.heap.size = W.heap.size := (by omega); have : ¬ W.heap.size = X2 := (by omega); have : ¬ X2 = W.heap.size := (by omega); have : ¬ W.heap.size = X3 := (by omega); have : ¬ X3 = W.heap.size := (by omega); have : ¬ W.heap.size + 1 = w.heap.size := (by omega); have : ¬ w.heap.size = W.heap.size + 1 := (by omega); have : ¬ W.heap.size + 1 = X2 := (by omega); have : ¬ X2 = W.heap.size + 1 := (by omega); have : ¬ W.heap.size + 1 = X3 := (by omega); have : ¬ X3 = W.heap.size + 1 := (by omega); have : ¬ w4.heap.size = w.heap.size := (by omega); have : ¬ w.heap.size = w4.heap.size := (by omega); have : ¬ w4.heap.size = X2 := (by omega); have : ¬ X2 = w4.heap.size := (by omega); have : ¬ w4.heap.size = X3 := (by omega); have : ¬ X3 = w4.heap.size := (by omega); have : ¬ w5.heap.size = w.heap.size := (by omega); have : ¬ w.heap.size = w5.heap.size := (by omega); have : ¬ w5.heap.size = X2 := (by omega); have : ¬ X2 = w5.heap.size := (by omega); have : ¬ w5.heap.size = X3 := (by omega); have : ¬ X3 = w5.heap.size := (by omega); rintro e w6 ⟨v6, rfl, ho6, hb6'⟩; have hb6 : Below W.heap.size W w6 := hb5.trans ((up1 hb6').mono hb5.size); have V9 := Lib.hid ((Var0.new w5 32 (.slice none 0 0) (fun k hk => by simp [Value.ownBlock] at hk)).on hb6'); rw [HS3.out] at ho6; obtain ⟨v6a, v6c, rfl⟩ := ho6.slice; obtain ⟨_, _, _, _⟩ := V9.out.1; have := V9.out.2.1 0; have := V9.out.2.1 1; have := V9.out.2.1 2; obtain ⟨_, _, _, _⟩ := Pa.out.on hb6; obtain ⟨_, _, _, _⟩ := Px.out.on hb6; obtain ⟨_, _, _, _⟩ := Py.out.on hb6; have := (Pa.out.on hb6).ne; have := (Px.out.on hb6).ne; have := (Py.out.on hb6).ne))
    · go_wp2_with fail
      go_meet
      case rel => exact ⟨_, _, _, _, _, rfl, RegV.new (OwnRX.of ho6 (Nat.le_refl _)) hs5 hb6⟩
    · go_wp2_with fail
      go_meet
      case rel => exact ⟨_, _, _, _, _, rfl, RegV.set V9.out.1 (OwnRX.of ho6 (Nat.le_refl _)) (by simp only [World.size_alloc]; omega) (by simp only [World.size_alloc]; omega) (by omega) hb6⟩
    · go_wp2_with fail
      go_meet
      case rel => exact ⟨_, _, _, _, _, rfl, RegV.set V9.out.1 (OwnRX.of ho6 (Nat.le_refl _)) (by omega) (by have := hg5.size; rw [World.size_alloc] at this; omega) (by omega) hb6⟩
    · go_wp2_with fail
      go_meet
      case rel => exact ⟨_, _, _, _, _, rfl, RegV.set V9.out.1 (OwnRX.of ho6 (Nat.le_refl _)) (by omega) (by have h1 := hg4.size; have h2 := hg5.size; simp only [World.size_alloc, World.size_drew] at h1 h2; omega) (by omega) hb6⟩
    · go_wp2_with fail
      go_meet
      case rel => exact ⟨_, _, _, _, _, rfl, RegV.set V9.out.1 (OwnRX.of ho6 (Nat.le_refl _)) (by omega) (by have h1 := hg4.size; have h2 := hg5.size; simp only [World.size_alloc, World.size_drew] at h1 h2; omega) (by omega) hb6⟩
  obtain ⟨L9, B9, E9, v9a, v9c, rfl, hc⟩ := hcut
  obtain ⟨hp9, ho9, hB9, hd9, hL9, hb9⟩ := hc.out
  clear hc x0 x1 x2 lA y0 y1 y2 lX z0 z1 z2 lY neA neX neY
  rename World => w6
  have P9 := Lib.hid hp9
  have HR9 := Lib.hid (V3.out.rowsC (OwnRX.atD ho9 F3.out))
  have HB := Lib.hid (HB.out.trans (hb9.mono HB.out.size))
  have Pr := Lib.hid (Pr.out.on hb9)
  have Fr : Hid (Fz w6 (w.heap.size + 1 + 1)) := Fr.out.on (by omega) hb9
  have hl3 := V3.out.len
  have hr3 := V3.out.r32
  have hz6 : w.heap.size + 3 ≤ w6.heap.size := by have := hb9.size; omega
  rw [hl3] at HR9 P9
  clear hp9 ho9 hd9 hb9
  go_wp2_with fail
  refine (l04Ort_any P9.out HR9.out HPR.out (by omega) hN32).mono ?_
  rintro e w7 ⟨v7, rfl, ho, hb⟩
  rw [← HME.out] at ho
  have HO := Lib.hid ho
  obtain ⟨vg, vh, rfl⟩ := ho.slice
  have HB := Lib.hid (HB.out.trans (hb.mono HB.out.size))
  have Pr := Lib.hid (Pr.out.on hb)
  have Fr : Hid (Fz w7 (w.heap.size + 1 + 1)) := Fr.out.on (by omega) hb
  have hz7 := hb.size
  clear ho hb
  obtain ⟨lR, r0, r1, r2⟩ := Pr.out
  have f0 := Fr.out 0
  have f1 := Fr.out 1
  have f2 := Fr.out 2
  have HQ3 := Lib.hid (Pr.out.set3 q N (.slice vg zm.length vh))
  go_wp2_with fail
  obtain ⟨_, q0, q1, q2⟩ := HQ3.out
  refine bodyPost_ret (v := .tuple #[.agg #[.int .i64 q, .int .i64 N, .slice vg zm.length vh], .int .i64 0]) (by simp [results, Try.results40, go_sem, q0, q1, q2]) rfl ⟨_, rfl, ?_, ?_⟩
  · refine OwnRI.mono (B := w6.heap.size) ?_ (by omega)
    repeat (refine OwnRI.setOut ?_ (by omega) _)
    exact HO.out
  · repeat (refine Below.setC ?_ (by omega) _)
    exact HB.out
theorem specMeet_any {p n q m P N k : Int} {u v : Value} {xx yy Z : List (List Int)} {w : World} (hu : RowsD w u xx) (hv : RowsD w v yy) (h : MeetRes p n xx q m yy P N Z k) :
    Calls Try.prog 40 #[.agg #[.int .i64 p, .int .i64 n, u], .agg #[.int .i64 q, .int .i64 m, v]] w fun e w' => RetVC P N Z k w e w' := by
  rcases h with ⟨c, hc, h0, rfl, rfl, rfl, rfl⟩ | ⟨rfl, rfl, rfl, rfl, rfl, u', _, M, r, s, A, B, hA, hB, rfl⟩
  · exact specMeet_b hu hv hc h0
  · obtain ⟨rfl, rfl⟩ : P = u' ∧ N = M := ⟨hA.p, hA.n⟩
    exact specMeet_ok hu hv hA hB
end Go.Proofs.Ytlakkmhfaojebaa
