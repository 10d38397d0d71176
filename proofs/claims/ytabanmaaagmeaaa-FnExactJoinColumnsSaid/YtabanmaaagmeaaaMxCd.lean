/-
  Contracts of StackRows of the model.
-/
import Derived.Test.YtabanmaaagmeaaaMxCc
import Derived.Test.YtabanmaaagmeaaaMxN
namespace Go.Proofs.Ytabanmaaagmeaaa
open Go.RowKit
open Lin
set_option linter.unusedVariables false
set_option linter.unusedSectionVars false

theorem own_ne {B : Nat} {w : World} {v : Value} {zs : List Int} (h : OwnI B w v zs) {b : Nat} (hb : b < B) : v.ownBlock ≠ some b := by
  intro e
  have := (h.out.lt b e).1
  omega
theorem step_append_src {P : Program} {w : World} {ops : Array Oper} {o : Oper} {a : Act} {K : Act → World → Prop} {Q : Exit → Act → World → Prop} {E : Prop} (hgd : o.guard = none) (s x : Operand) (t : TypeId)
    (ho : o.op = .call { callee := .builtin .append, args := #[s, x], argTypes := #[t, t] })
    (base : Nat) (e : TypeId) (i : TypeInfo) (z : Value) (bytes : Nat) (ht : P.underlying t = some (.slice e)) (hi : P.info? e = some i) (hz : i.zero = some z)
    (hsize : i.size = 1) (hby : i.bytes = bytes) (hzs : z.cells.size = 1)
    (v : Value) (n : Nat) (xs : List Value) (hs : a.eval s = v) (hown : w.ownsRow base e 1 v n xs)
    (u : Value) (news : List Value) (hx : a.eval x = u) (hsrc : SrcAt w u news) (h1 : ∀ u ∈ news, u.oneCell' = true)
    (hn : n ≤ 4096) (hb24 : bytes ≤ 24) (hbase : base ≤ w.heap.size)
    (h : ∀ v' w', w'.ownsRow base e 1 v' (n + news.length) (xs ++ news) → w.grownBy w' v.ownBlock → K (a.put o.dst v') w') : if Region.wanted o (yielded ops a.tmps) = true then Oper.wp P o a w K Q else E := by
  have hw : Region.wanted o (yielded ops a.tmps) = true := by simp [Region.wanted, hgd]
  rw [if_pos hw]
  obtain ⟨ap, c, rfl, hl, ⟨rfl, rfl, rfl⟩ | ⟨b, off, rfl, _, hc⟩⟩ := hsrc
  · have hrun := run_append_owned_none (P := P) (w := w) base t o.type e i 1 ht hi v n xs hown
    unfold Oper.wp
    simp only [List.length_nil] at hx
    simp [execOp, ho, resolve, invoke, builtin, hs, hx, hrun, Result.andThen]
    exact h v w (by simpa using hown) ⟨rfl, rfl, rfl, Nat.le_refl _, fun _ _ _ => rfl⟩
  · have hbb : (n + news.length) * bytes ≤ 140737488355328 := by
      have : (n + news.length) * bytes ≤ 8192 * 24 := Nat.mul_le_mul (by omega) hb24
      omega
    exact wp_append_own w s x t ho base e i z 1 bytes ht hi hz hsize hby hzs (by decide) v n xs hs hown ⟨b, off, none⟩ news.length c news hx (by simp) (fun j u hj => by rw [Addr.add_lit]; exact hc j u hj) h1 (by unfold maxLen; omega) hbb hbase (fun v' w' g1 g2 _ => h v' w' g1 g2)
set_option maxRecDepth 100000 in
set_option maxHeartbeats 1600000 in
theorem l00Own_any {v : Value} {zs : List Int} {w : World} (hv : IntsC w v zs) (hl : zs.length ≤ 4096) : Calls Try.prog 95 #[v] w fun e w' => RetL zs w e w' := by
  obtain ⟨i0, hi, hz0, hz1, hz2⟩ := info_parts info2
  have HS := Lib.hid (hv.src hl)
  obtain ⟨⟨a, c, rfl, -, -⟩, -⟩ := hv
  have hm := Lib.hid (World.ownsRow_made (base := w.heap.size) (e := 2) (size := 1) w #[] 0 (Nat.le_refl _) (Nat.zero_le _) rfl)
  have bs := (Below.refl w.heap.size w).alloc (Nat.le_refl _) (.cells #[] 2)
  have BS := Lib.hid bs
  clear bs
  go_enter Try.func95, Try.ntmps95
  go_wp2_with (at_builtin; refine wp_append_src rfl _ _ 25 rfl w.heap.size 2 i0 (.int .i64 0) 8 Try.underlying25 hi hz0 hz1 hz2 rfl _ 0 [] rfl hm.out _ (iv zs) rfl (HS.out.on BS.out) iv_one (by omega) (by omega) (by simp) ?_; intro v2 w2 hv2 hg2)
  have HB := Lib.hid (BS.out.grown hg2 (by simp) (fun k hk => (hm.out.lt k hk).1))
  have HV : Hid (OwnI w.heap.size w2 v2 zs) := by
    show World.ownsRow _ _ _ _ _ _ _
    simpa [iv_len] using hv2
  clear hv2 hg2
  go_wp2
  go_ret
  exact ⟨_, rfl, HV.out, HB.out⟩
set_option maxRecDepth 100000 in
set_option maxHeartbeats 1600000 in
theorem specSt_b0 {p r c q s d : Int} {u v : Value} {xs ys : List Int} {w : World} (hu : IntsAt w u xs) (hv : IntsAt w v ys) (hk : bothB p r c xs q s d ys = false) :
    Calls Try.prog 58 #[.agg #[.int .i64 p, .int .i64 r, .int .i64 c, u], .agg #[.int .i64 q, .int .i64 s, .int .i64 d, v]] w fun e w' => RetMC 0 0 0 [] 1 w e w' := by
  have HU := Lib.hid hu
  have HV := Lib.hid hv
  obtain ⟨a1, c1, rfl, hl1, _⟩ := hu
  obtain ⟨a2, c2, rfl, hl2, _⟩ := hv
  have HK := Lib.hid hk
  clear hk
  have Pa0 := PtM.new2 w p r c (.slice a1 xs.length c1) 27 (.cells #[.int .i64 q, .int .i64 s, .int .i64 d, .slice a2 ys.length c2] 27) (.cells #[.int .i64 0, .int .i64 0, .int .i64 0, .slice none 0 0] 27)
  have Pb0 := PtM.new1 (w.alloc (.cells #[.int .i64 p, .int .i64 r, .int .i64 c, .slice a1 xs.length c1] 27)) q s d (.slice a2 ys.length c2) 27 (.cells #[.int .i64 0, .int .i64 0, .int .i64 0, .slice none 0 0] 27)
  have Pr0 := PtM.new ((w.alloc (.cells #[.int .i64 p, .int .i64 r, .int .i64 c, .slice a1 xs.length c1] 27)).alloc (.cells #[.int .i64 q, .int .i64 s, .int .i64 d, .slice a2 ys.length c2] 27)) 0 0 0 (.slice none 0 0) 27
  have Fr0 := Fz.new ((w.alloc (.cells #[.int .i64 p, .int .i64 r, .int .i64 c, .slice a1 xs.length c1] 27)).alloc (.cells #[.int .i64 q, .int .i64 s, .int .i64 d, .slice a2 ys.length c2] 27)) #[.int .i64 0, .int .i64 0, .int .i64 0, .slice none 0 0] 27
  rw [World.size_alloc] at Pb0
  rw [World.size_alloc, World.size_alloc] at Pr0 Fr0
  go_enter Try.func58, Try.ntmps58
  go_wp2_with fail
  with_reducible refine Calls.mono (both_is (T := false) Pa0 Pb0 (HU.out.on (al1 (al1 (al1 (Below.refl _ _) _) _) _)) (HV.out.on (al1 (al1 (al1 (Below.refl _ _) _) _) _)) HK.out) ?_
  rintro e w1 ⟨rfl, hb⟩
  have Pa := Lib.hid (Pa0.on hb)
  have Pb := Lib.hid (Pb0.on hb)
  have Pr := Lib.hid (Pr0.on hb)
  have Fr : Hid (Fz w1 (w.heap.size + 1 + 1)) := Fr0.on (by simp) hb
  have HB := Lib.hid (up3 hb)
  have hz : w.heap.size + 3 ≤ w1.heap.size := by have := hb.size; simp at this; omega
  clear hb Pa0 Pb0 Pr0 Fr0
  obtain ⟨lA, x0, x1, x2, x3⟩ := Pa.out
  obtain ⟨lB, y0, y1, y2, y3⟩ := Pb.out
  obtain ⟨lR, r0, r1, r2, r3⟩ := Pr.out
  obtain ⟨f0, f1, f2, f3⟩ := Fr.out.all
  go_wp2_with fail
  refine bodyPost_ret (v := .tuple #[.agg #[.int .i64 0, .int .i64 0, .int .i64 0, .slice none 0 0], .int .i64 1]) (by simp [results, Try.results58, go_sem, r0, r1, r2, r3]) rfl ⟨_, rfl, OwnI.nul _ _, ?_⟩
  repeat (refine Below.setC ?_ (by omega) _)
  exact HB.out
set_option maxRecDepth 100000 in
set_option maxHeartbeats 1600000 in
theorem specSt_b1 {p r c q s d : Int} {u v : Value} {xs ys : List Int} {w : World} (hu : IntsAt w u xs) (hv : IntsAt w v ys) (hk : bothB p r c xs q s d ys = true) (e0 : (p != q) = true) :
    Calls Try.prog 58 #[.agg #[.int .i64 p, .int .i64 r, .int .i64 c, u], .agg #[.int .i64 q, .int .i64 s, .int .i64 d, v]] w fun e w' => RetMC 0 0 0 [] 6 w e w' := by
  have HU := Lib.hid hu
  have HV := Lib.hid hv
  obtain ⟨a1, c1, rfl, hl1, _⟩ := hu
  obtain ⟨a2, c2, rfl, hl2, _⟩ := hv
  have HK := Lib.hid hk
  clear hk
  have Pa0 := PtM.new2 w p r c (.slice a1 xs.length c1) 27 (.cells #[.int .i64 q, .int .i64 s, .int .i64 d, .slice a2 ys.length c2] 27) (.cells #[.int .i64 0, .int .i64 0, .int .i64 0, .slice none 0 0] 27)
  have Pb0 := PtM.new1 (w.alloc (.cells #[.int .i64 p, .int .i64 r, .int .i64 c, .slice a1 xs.length c1] 27)) q s d (.slice a2 ys.length c2) 27 (.cells #[.int .i64 0, .int .i64 0, .int .i64 0, .slice none 0 0] 27)
  have Pr0 := PtM.new ((w.alloc (.cells #[.int .i64 p, .int .i64 r, .int .i64 c, .slice a1 xs.length c1] 27)).alloc (.cells #[.int .i64 q, .int .i64 s, .int .i64 d, .slice a2 ys.length c2] 27)) 0 0 0 (.slice none 0 0) 27
  have Fr0 := Fz.new ((w.alloc (.cells #[.int .i64 p, .int .i64 r, .int .i64 c, .slice a1 xs.length c1] 27)).alloc (.cells #[.int .i64 q, .int .i64 s, .int .i64 d, .slice a2 ys.length c2] 27)) #[.int .i64 0, .int .i64 0, .int .i64 0, .slice none 0 0] 27
  rw [World.size_alloc] at Pb0
  rw [World.size_alloc, World.size_alloc] at Pr0 Fr0
  go_enter Try.func58, Try.ntmps58
  go_wp2_with fail
  with_reducible refine Calls.mono (both_is (T := true) Pa0 Pb0 (HU.out.on (al1 (al1 (al1 (Below.refl _ _) _) _) _)) (HV.out.on (al1 (al1 (al1 (Below.refl _ _) _) _) _)) HK.out) ?_
  rintro e w1 ⟨rfl, hb⟩
  have Pa := Lib.hid (Pa0.on hb)
  have Pb := Lib.hid (Pb0.on hb)
  have Pr := Lib.hid (Pr0.on hb)
  have Fr : Hid (Fz w1 (w.heap.size + 1 + 1)) := Fr0.on (by simp) hb
  have HB := Lib.hid (up3 hb)
  have hz : w.heap.size + 3 ≤ w1.heap.size := by have := hb.size; simp at this; omega
  clear hb Pa0 Pb0 Pr0 Fr0
  obtain ⟨lA, x0, x1, x2, x3⟩ := Pa.out
  obtain ⟨lB, y0, y1, y2, y3⟩ := Pb.out
  obtain ⟨lR, r0, r1, r2, r3⟩ := Pr.out
  obtain ⟨f0, f1, f2, f3⟩ := Fr.out.all
  go_wp2_with fail
  refine bodyPost_ret (v := .tuple #[.agg #[.int .i64 0, .int .i64 0, .int .i64 0, .slice none 0 0], .int .i64 6]) (by simp [results, Try.results58, go_sem, r0, r1, r2, r3]) rfl ⟨_, rfl, OwnI.nul _ _, ?_⟩
  repeat (refine Below.setC ?_ (by omega) _)
  exact HB.out
set_option maxRecDepth 100000 in
set_option maxHeartbeats 1600000 in
theorem specSt_b2 {p r c q s d : Int} {u v : Value} {xs ys : List Int} {w : World} (hu : IntsAt w u xs) (hv : IntsAt w v ys) (hk : bothB p r c xs q s d ys = true) (e0 : (p != q) = false) (e1 : (c != d) = true) :
    Calls Try.prog 58 #[.agg #[.int .i64 p, .int .i64 r, .int .i64 c, u], .agg #[.int .i64 q, .int .i64 s, .int .i64 d, v]] w fun e w' => RetMC 0 0 0 [] 6 w e w' := by
  have HU := Lib.hid hu
  have HV := Lib.hid hv
  obtain ⟨a1, c1, rfl, hl1, _⟩ := hu
  obtain ⟨a2, c2, rfl, hl2, _⟩ := hv
  have HK := Lib.hid hk
  clear hk
  have Pa0 := PtM.new2 w p r c (.slice a1 xs.length c1) 27 (.cells #[.int .i64 q, .int .i64 s, .int .i64 d, .slice a2 ys.length c2] 27) (.cells #[.int .i64 0, .int .i64 0, .int .i64 0, .slice none 0 0] 27)
  have Pb0 := PtM.new1 (w.alloc (.cells #[.int .i64 p, .int .i64 r, .int .i64 c, .slice a1 xs.length c1] 27)) q s d (.slice a2 ys.length c2) 27 (.cells #[.int .i64 0, .int .i64 0, .int .i64 0, .slice none 0 0] 27)
  have Pr0 := PtM.new ((w.alloc (.cells #[.int .i64 p, .int .i64 r, .int .i64 c, .slice a1 xs.length c1] 27)).alloc (.cells #[.int .i64 q, .int .i64 s, .int .i64 d, .slice a2 ys.length c2] 27)) 0 0 0 (.slice none 0 0) 27
  have Fr0 := Fz.new ((w.alloc (.cells #[.int .i64 p, .int .i64 r, .int .i64 c, .slice a1 xs.length c1] 27)).alloc (.cells #[.int .i64 q, .int .i64 s, .int .i64 d, .slice a2 ys.length c2] 27)) #[.int .i64 0, .int .i64 0, .int .i64 0, .slice none 0 0] 27
  rw [World.size_alloc] at Pb0
  rw [World.size_alloc, World.size_alloc] at Pr0 Fr0
  go_enter Try.func58, Try.ntmps58
  go_wp2_with fail
  with_reducible refine Calls.mono (both_is (T := true) Pa0 Pb0 (HU.out.on (al1 (al1 (al1 (Below.refl _ _) _) _) _)) (HV.out.on (al1 (al1 (al1 (Below.refl _ _) _) _) _)) HK.out) ?_
  rintro e w1 ⟨rfl, hb⟩
  have Pa := Lib.hid (Pa0.on hb)
  have Pb := Lib.hid (Pb0.on hb)
  have Pr := Lib.hid (Pr0.on hb)
  have Fr : Hid (Fz w1 (w.heap.size + 1 + 1)) := Fr0.on (by simp) hb
  have HB := Lib.hid (up3 hb)
  have hz : w.heap.size + 3 ≤ w1.heap.size := by have := hb.size; simp at this; omega
  clear hb Pa0 Pb0 Pr0 Fr0
  obtain ⟨lA, x0, x1, x2, x3⟩ := Pa.out
  obtain ⟨lB, y0, y1, y2, y3⟩ := Pb.out
  obtain ⟨lR, r0, r1, r2, r3⟩ := Pr.out
  obtain ⟨f0, f1, f2, f3⟩ := Fr.out.all
  go_wp2_with fail
  refine bodyPost_ret (v := .tuple #[.agg #[.int .i64 0, .int .i64 0, .int .i64 0, .slice none 0 0], .int .i64 6]) (by simp [results, Try.results58, go_sem, r0, r1, r2, r3]) rfl ⟨_, rfl, OwnI.nul _ _, ?_⟩
  repeat (refine Below.setC ?_ (by omega) _)
  exact HB.out
set_option maxRecDepth 100000 in
set_option maxHeartbeats 1600000 in
theorem specSt_b3 {p r c q s d : Int} {u v : Value} {xs ys : List Int} {w : World} (hu : IntsAt w u xs) (hv : IntsAt w v ys) (hk : bothB p r c xs q s d ys = true) (e0 : (p != q) = false) (e1 : (c != d) = false) (hr : 0 ≤ r ∧ r ≤ 32 ∧ 0 ≤ s ∧ s ≤ 32) (h : r + s > 32) :
    Calls Try.prog 58 #[.agg #[.int .i64 p, .int .i64 r, .int .i64 c, u], .agg #[.int .i64 q, .int .i64 s, .int .i64 d, v]] w fun e w' => RetMC 0 0 0 [] 5 w e w' := by
  have w0 : IntKind.i64.wrap (r + s) = r + s := IntWalk.i64_in _ (by omega)
  have HU := Lib.hid hu
  have HV := Lib.hid hv
  obtain ⟨a1, c1, rfl, hl1, _⟩ := hu
  obtain ⟨a2, c2, rfl, hl2, _⟩ := hv
  have HK := Lib.hid hk
  clear hk
  have Pa0 := PtM.new2 w p r c (.slice a1 xs.length c1) 27 (.cells #[.int .i64 q, .int .i64 s, .int .i64 d, .slice a2 ys.length c2] 27) (.cells #[.int .i64 0, .int .i64 0, .int .i64 0, .slice none 0 0] 27)
  have Pb0 := PtM.new1 (w.alloc (.cells #[.int .i64 p, .int .i64 r, .int .i64 c, .slice a1 xs.length c1] 27)) q s d (.slice a2 ys.length c2) 27 (.cells #[.int .i64 0, .int .i64 0, .int .i64 0, .slice none 0 0] 27)
  have Pr0 := PtM.new ((w.alloc (.cells #[.int .i64 p, .int .i64 r, .int .i64 c, .slice a1 xs.length c1] 27)).alloc (.cells #[.int .i64 q, .int .i64 s, .int .i64 d, .slice a2 ys.length c2] 27)) 0 0 0 (.slice none 0 0) 27
  have Fr0 := Fz.new ((w.alloc (.cells #[.int .i64 p, .int .i64 r, .int .i64 c, .slice a1 xs.length c1] 27)).alloc (.cells #[.int .i64 q, .int .i64 s, .int .i64 d, .slice a2 ys.length c2] 27)) #[.int .i64 0, .int .i64 0, .int .i64 0, .slice none 0 0] 27
  rw [World.size_alloc] at Pb0
  rw [World.size_alloc, World.size_alloc] at Pr0 Fr0
  go_enter Try.func58, Try.ntmps58
  go_wp2_with fail
  with_reducible refine Calls.mono (both_is (T := true) Pa0 Pb0 (HU.out.on (al1 (al1 (al1 (Below.refl _ _) _) _) _)) (HV.out.on (al1 (al1 (al1 (Below.refl _ _) _) _) _)) HK.out) ?_
  rintro e w1 ⟨rfl, hb⟩
  have Pa := Lib.hid (Pa0.on hb)
  have Pb := Lib.hid (Pb0.on hb)
  have Pr := Lib.hid (Pr0.on hb)
  have Fr : Hid (Fz w1 (w.heap.size + 1 + 1)) := Fr0.on (by simp) hb
  have HB := Lib.hid (up3 hb)
  have hz : w.heap.size + 3 ≤ w1.heap.size := by have := hb.size; simp at this; omega
  clear hb Pa0 Pb0 Pr0 Fr0
  obtain ⟨lA, x0, x1, x2, x3⟩ := Pa.out
  obtain ⟨lB, y0, y1, y2, y3⟩ := Pb.out
  obtain ⟨lR, r0, r1, r2, r3⟩ := Pr.out
  obtain ⟨f0, f1, f2, f3⟩ := Fr.out.all
  go_wp2_with fail
  refine bodyPost_ret (v := .tuple #[.agg #[.int .i64 0, .int .i64 0, .int .i64 0, .slice none 0 0], .int .i64 5]) (by simp [results, Try.results58, go_sem, r0, r1, r2, r3]) rfl ⟨_, rfl, OwnI.nul _ _, ?_⟩
  repeat (refine Below.setC ?_ (by omega) _)
  exact HB.out
set_option maxRecDepth 100000 in
set_option maxHeartbeats 1600000 in
theorem specSt_ok {p r c q s d : Int} {u v : Value} {xs ys : List Int} {w : World} (hu : IntsC w u xs) (hv : IntsC w v ys) (hk : bothB p r c xs q s d ys = true) (e0 : (p != q) = false) (e1 : (c != d) = false) (hr : 0 ≤ r ∧ r ≤ 32 ∧ 0 ≤ s ∧ s ≤ 32) (h : ¬ (r + s > 32)) (hx : xs.length ≤ 1024) (hy : ys.length ≤ 1024) :
    Calls Try.prog 58 #[.agg #[.int .i64 p, .int .i64 r, .int .i64 c, u], .agg #[.int .i64 q, .int .i64 s, .int .i64 d, v]] w fun e w' => RetMC p (r + s) c (xs ++ ys) 0 w e w' := by
  have w0 : IntKind.i64.wrap (r + s) = r + s := IntWalk.i64_in _ (by omega)
  obtain ⟨i0, hi, hz0, hz1, hz2⟩ := info_parts info2
  have HCU := Lib.hid hu
  have HCV := Lib.hid hv
  have HU := Lib.hid hu.1
  have HV := Lib.hid hv.1
  obtain ⟨a1, c1, rfl, hl1, -⟩ := hu.1
  obtain ⟨a2, c2, rfl, hl2, -⟩ := hv.1
  clear hu hv
  have HK := Lib.hid hk
  clear hk
  have Pa0 := PtM.new2 w p r c (.slice a1 xs.length c1) 27 (.cells #[.int .i64 q, .int .i64 s, .int .i64 d, .slice a2 ys.length c2] 27) (.cells #[.int .i64 0, .int .i64 0, .int .i64 0, .slice none 0 0] 27)
  have Pb0 := PtM.new1 (w.alloc (.cells #[.int .i64 p, .int .i64 r, .int .i64 c, .slice a1 xs.length c1] 27)) q s d (.slice a2 ys.length c2) 27 (.cells #[.int .i64 0, .int .i64 0, .int .i64 0, .slice none 0 0] 27)
  have Pr0 := PtM.new ((w.alloc (.cells #[.int .i64 p, .int .i64 r, .int .i64 c, .slice a1 xs.length c1] 27)).alloc (.cells #[.int .i64 q, .int .i64 s, .int .i64 d, .slice a2 ys.length c2] 27)) 0 0 0 (.slice none 0 0) 27
  have Fr0 := Fz.new ((w.alloc (.cells #[.int .i64 p, .int .i64 r, .int .i64 c, .slice a1 xs.length c1] 27)).alloc (.cells #[.int .i64 q, .int .i64 s, .int .i64 d, .slice a2 ys.length c2] 27)) #[.int .i64 0, .int .i64 0, .int .i64 0, .slice none 0 0] 27
  rw [World.size_alloc] at Pb0
  rw [World.size_alloc, World.size_alloc] at Pr0 Fr0
  go_enter Try.func58, Try.ntmps58
  go_wp2_with fail
  with_reducible refine Calls.mono (both_is (T := true) Pa0 Pb0 (HU.out.on (al1 (al1 (al1 (Below.refl _ _) _) _) _)) (HV.out.on (al1 (al1 (al1 (Below.refl _ _) _) _) _)) HK.out) ?_
  rintro e w1 ⟨rfl, hb⟩
  have Pa := Lib.hid (Pa0.on hb)
  have Pb := Lib.hid (Pb0.on hb)
  have Pr := Lib.hid (Pr0.on hb)
  have Fr : Hid (Fz w1 (w.heap.size + 1 + 1)) := Fr0.on (by simp) hb
  have HB := Lib.hid (up3 hb)
  have hz : w.heap.size + 3 ≤ w1.heap.size := by have := hb.size; simp at this; omega
  clear hb Pa0 Pb0 Pr0 Fr0
  obtain ⟨lA, x0, x1, x2, x3⟩ := Pa.out
  obtain ⟨lB, y0, y1, y2, y3⟩ := Pb.out
  obtain ⟨lR, r0, r1, r2, r3⟩ := Pr.out
  obtain ⟨f0, f1, f2, f3⟩ := Fr.out.all
  have neA := Pa.out.ne
  have neB := Pb.out.ne
  have nAR : ¬ w.heap.size + 1 + 1 = w.heap.size := by omega
  have nBR : ¬ w.heap.size + 1 + 1 = w.heap.size + 1 := by omega
  go_wp2_with fail
  go_region_held3 (fun w' => w'.cell? ⟨w.heap.size, 0, none⟩ = some (.int .i64 p) ∧ w'.cell? ⟨w.heap.size, 1, none⟩ = some (.int .i64 r) ∧ w'.cell? ⟨w.heap.size, 2, none⟩ = some (.int .i64 c) ∧ w'.cell? ⟨w.heap.size, 3, none⟩ = some (.slice a1 xs.length c1) ∧ w'.cell? ⟨w.heap.size + 1, 1, none⟩ = some (.int .i64 s) ∧ w'.cell? ⟨w.heap.size + 1, 3, none⟩ = some (.slice a2 ys.length c2)) (go_keep)
    (first
      | (go_at_call 95; refine (l00Own_any (HCU.out.on HB.out).drew (by omega)).mono ?_; rintro e wa ⟨va, rfl, hoa, hba'⟩; have hba := undrew hba'; obtain ⟨vaa, vac, rfl⟩ := hoa.slice; obtain ⟨_, _, _, _, _⟩ := Pa.out.on hba; obtain ⟨_, _, _, _, _⟩ := Pb.out.on hba)
      | (refine step_append_src (by rfl) _ _ _ (by rfl) w1.heap.size 2 i0 _ 8 Try.underlying25 hi hz0 hz1 hz2 (by rfl) _ xs.length (iv xs) (by rfl) hoa.out _ (iv ys) (by rfl) (((HCV.out.on HB.out).on hba).src (by omega)) iv_one (by omega) (by omega) hba.size ?_; intro vn wn hon' hgn; have hbn : Below w1.heap.size w1 wn := hba.grown hgn hba.size (fun k hk => (hoa.out.lt k hk).1); have hon : OwnI w1.heap.size wn vn (xs ++ ys) := (by unfold OwnI; rw [iv_app, List.length_append]; simpa [iv_len] using hon'); obtain ⟨vna, vnc, rfl⟩ := hon.slice; rw [List.length_append] at hon; obtain ⟨_, _, _, _, _⟩ := Pa.out.on hbn; obtain ⟨_, _, _, _, _⟩ := Pb.out.on hbn; obtain ⟨_, _, _, _, _⟩ := Pr.out.on hbn; obtain ⟨_, _, _, _⟩ := (Fr.out.on (by omega) hbn).all))
  have hq := Lib.hid ((Pr.out.on hbn).set4 p (r + s) c (.slice vna (xs.length + ys.length) vnc))
  have HO := Lib.hid hon
  have HB4 := Lib.hid (HB.out.trans (hbn.mono (by omega)))
  go_wp2_with fail
  obtain ⟨_, q0, q1, q2, q3⟩ := hq.out
  refine bodyPost_ret (v := .tuple #[.agg #[.int .i64 p, .int .i64 (r + s), .int .i64 c, .slice vna (xs.length + ys.length) vnc], .int .i64 0]) (by simp [results, Try.results58, go_sem, q0, q1, q2, q3]) rfl ⟨_, rfl, ?_, below_set4 HB4.out (by omega) _ _ _ _⟩
  refine OwnI.mono (B := w1.heap.size) ?_ (by omega)
  repeat (refine OwnI.setOut ?_ (by omega) _)
  exact HO.out
theorem specSt_any {p r c q s d P R C k : Int} {u v : Value} {xs ys zs : List Int} {w : World} (hu : IntsC w u xs) (hv : IntsC w v ys) (h : StRes p r c xs q s d ys P R C zs k) :
    Calls Try.prog 58 #[.agg #[.int .i64 p, .int .i64 r, .int .i64 c, u], .agg #[.int .i64 q, .int .i64 s, .int .i64 d, v]] w fun e w' => RetMC P R C zs k w e w' := by
  obtain ⟨k0, hk, ⟨h0, rfl, rfl, rfl, rfl, rfl⟩ | ⟨rfl, h1, rfl, rfl, rfl, rfl, rfl⟩ | ⟨rfl, h1, rfl, rfl, rfl, rfl, rfl⟩⟩ := h
  · rcases hk.bad h0 with ⟨hb, rfl⟩ | ⟨h1, h2, hf, rfl⟩
    · exact specSt_b0 hu.1 hv.1 (bothB_no hb)
    · have hb := bothB_yes h1 h2
      by_cases e0 : p = q
      · by_cases e1 : c = d
        · exact absurd ⟨e0, by simp [e1]⟩ hf
        · exact specSt_b2 hu.1 hv.1 hb (by simpa using e0) (by simpa using e1)
      · exact specSt_b1 hu.1 hv.1 hb (by simpa using e0)
  · obtain ⟨g1, g2, e, hf⟩ := hk.good
    have e1 : c = d := by simpa using hf
    exact specSt_b3 hu.1 hv.1 (bothB_yes g1 g2) (by simpa using e) (by simpa using e1) ⟨g1.2.1, g1.2.2.1, g2.2.1, g2.2.2.1⟩ h1
  · obtain ⟨g1, g2, e, hf⟩ := hk.good
    have hl1 := mok_len g1
    have hl2 := mok_len g2
    exact specSt_ok hu hv (bothB_yes g1 g2) (by simpa using e) (by simpa using hf) ⟨g1.2.1, g1.2.2.1, g2.2.1, g2.2.2.1⟩ (by omega) hl1 hl2
end Go.Proofs.Ytabanmaaagmeaaa
