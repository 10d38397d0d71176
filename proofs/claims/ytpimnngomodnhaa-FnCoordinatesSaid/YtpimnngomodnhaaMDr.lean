/-
  Matrices are drawn and bent, by the model.
-/
import Derived.Test.YtpimnngomodnhaaMFilS
import Derived.Test.YtpimnngomodnhaaGbv
import Derived.Test.YtpimnngomodnhaaPD
namespace Go.Proofs.Ytpimnngomodnhaa
open Go.RowKit
open Lin
set_option linter.unusedVariables false
set_option linter.unusedSectionVars false

theorem pr_small {p k : Nat} (h : ∀ i, i < k → 2 ≤ i → p % i ≠ 0) (h0 : 2 ≤ p) (h1 : p ≤ 251) (hk : 2 ≤ k) (hkk : p < k * k) : IsPr (p : Int) := by
  refine ⟨by omega, by omega, fun i hi hii e => ?_⟩
  obtain ⟨j, rfl⟩ : ∃ j : Nat, i = j := ⟨i.toNat, by omega⟩
  have h2 : j * j ≤ p := by rw [← Int.natCast_mul] at hii; omega
  have h3 : j < k := by
    rcases Nat.lt_or_ge j k with g | g
    · exact g
    · have := Nat.mul_le_mul g g; omega
  have h4 : p % j = 0 := by rw [← Int.natCast_emod] at e; omega
  exact h j h3 (by omega) h4
theorem pr_draw {r : Int} (h : r ∈ [2, 2, 3, 5, 7, 31, 251]) : ∃ q : Nat, r = (q : Int) ∧ IsPr (q : Int) := by
  have h2 : r = 2 ∨ r = 3 ∨ r = 5 ∨ r = 7 ∨ r = 31 ∨ r = 251 := by simp at h; omega
  rcases h2 with rfl | rfl | rfl | rfl | rfl | rfl
  · exact ⟨2, rfl, pr_small (k := 2) (by decide) (by decide) (by decide) (by decide) (by decide)⟩
  · exact ⟨3, rfl, pr_small (k := 2) (by decide) (by decide) (by decide) (by decide) (by decide)⟩
  · exact ⟨5, rfl, pr_small (k := 3) (by decide) (by decide) (by decide) (by decide) (by decide)⟩
  · exact ⟨7, rfl, pr_small (k := 3) (by decide) (by decide) (by decide) (by decide) (by decide)⟩
  · exact ⟨31, rfl, pr_small (k := 6) (by decide) (by decide) (by decide) (by decide) (by decide)⟩
  · exact ⟨251, rfl, pr_small (k := 16) (by decide) (by decide) (by decide) (by decide) (by decide)⟩
set_option maxHeartbeats 800000 in
theorem drawPrime3_any {p : Nat} {a : Option Addr} {len cap K : Nat} {w : World} (hK : K ≤ 900000000) (h : Sc p a len cap K w) :
    Calls Try.prog 110 #[.pointer (some ⟨p, 0, none⟩)] w fun e w' => RetDr (fun r => ∃ q : Nat, r = (q : Int) ∧ IsPr (q : Int)) p a len cap (K + 2) w e w' := by
  have H := Lib.hid h
  clear h
  go_enter Try.func110, Try.ntmps110
  go_wp2_with fail
  refine (among_lit [2, 2, 3, 5, 7, 31, 251] _ _ 7 rfl rfl (by simp) (by simp) hK H.out).mono ?_
  rintro e w1 ⟨r, hr, rfl, hs, hg⟩
  have HR := Lib.hid (pr_draw hr)
  have HS := Lib.hid hs
  have HG := Lib.hid hg
  clear hs hg hr
  go_wp2_with fail
  go_ret
  exact ⟨r, HR.out, rfl, HS.out, HG.out⟩

theorem setC_cells (w : World) (L o : Nat) (u : Value) : Fr L (L + 1) w (w.setCell ⟨L, o, none⟩ u) :=
  let hb := (Below.refl L w).setCell (p := ⟨L, o, none⟩) (Nat.le_refl _) u
  ⟨hb.os, hb.tape, hb.output, hb.size, fun k hk hd => Below.heap_setCell w ⟨L, o, none⟩ u k (show k ≠ L by omega)⟩
theorem Fz.set {w : World} {L b o : Nat} (h : Fz w L) (u : Value) : Fz (w.setCell ⟨b, o, none⟩ u) L := fun k => (World.frozen?_setCell _ _ _ _).trans (h k)
theorem OwnI.keptP {B : Nat} {w w' : World} {v : Value} {zs : List Int} {r : Option Nat} (h : OwnI B w v zs) (hg : w.grownBy w' r) (hr : ∀ k, r = some k → v.ownBlock ≠ some k) : OwnI B w' v zs :=
  World.ownsRow.kept h.out hg (by
    cases hv : v.ownBlock with
    | none => exact .inl rfl
    | some b => right; intro e; exact hr b e.symm hv)
/-- A call that draws from block p has made two variables, an empty one in block R and a matrix in block M. -/
structure BentW (w0 : World) (p : Nat) (a : Option Addr) (len cap K R M : Nat) (w : World) (P S C : Int) (v : Value) (zs : List Int) : Prop where
  pr : PtM w R 0 0 0 (.slice none 0 0)
  fr : Fz w R
  pm : PtM w M P S C v
  fm : Fz w M
  own : OwnI (R + 1) w v zs
  top : ∀ g, v.ownBlock = some g → g ≠ M
  sc : Sc p a len cap K w
  gb : w0.grownBy w (some p)
  pR : p < R
  hR : w0.heap.size = R
  RM : R < M
section
variable {w0 w w' : World} {p : Nat} {a : Option Addr} {len cap K R M : Nat} {P S C : Int} {v : Value} {zs : List Int}
theorem BentW.low (h : BentW w0 p a len cap K R M w P S C v zs) {g : Nat} (hg : v.ownBlock = some g) : R + 1 ≤ g ∧ g < w.heap.size := h.own.out.lt g hg
theorem BentW.draw (h : BentW w0 p a len cap K R M w P S C v zs) {K' : Nat} (hg : w.grownBy w' (some p)) (hs : Sc p a len cap K' w') : BentW w0 p a len cap K' R M w' P S C v zs := by
  have h1 := h.pR; have h2 := h.RM
  exact ⟨h.pr.gb hg (by omega), h.fr.gb h.pr.1 hg (by omega), h.pm.gb hg (by omega), h.fm.gb h.pm.1 hg (by omega), h.own.keptP hg (fun k hk e => by have := (h.low e).1; injection hk with hk; omega), h.top, hs, sgb_trans h.gb hg, h.pR, h.hR, h.RM⟩
theorem BentW.on (h : BentW w0 p a len cap K R M w P S C v zs) (hb : Below w.heap.size w w') : BentW w0 p a len cap K R M w' P S C v zs :=
  ⟨h.pr.on hb, h.fr.on h.pr.1 hb, h.pm.on hb, h.fm.on h.pm.1 hb, h.own.on hb, h.top, h.sc.below hb, sgb_trans h.gb (gb_of_below hb), h.pR, h.hR, h.RM⟩
theorem BentW.setM0 (h : BentW w0 p a len cap K R M w P S C v zs) (x : Int) : BentW w0 p a len cap K R M (w.setCell ⟨M, 0, none⟩ (.int .i64 x)) x S C v zs := by
  have h1 := h.pR; have h2 := h.RM; have h3 := h.hR
  have f := setC_cells w M 0 (.int .i64 x)
  obtain ⟨l, c0, c1, c2, c3⟩ := h.pm
  refine ⟨h.pr.fr f (by omega), h.fr.set _, ⟨by simpa using l, World.cell?_setCell_same' _ _ _ (by rw [c0]; rfl), ?_, ?_, ?_⟩, h.fm.set _, h.own.keptP (gb_set (grown_refl _ _) _) (fun k hk e => by injection hk with hk; exact h.top k e hk.symm), h.top, h.sc.setn (by omega) _, gb_setn h.gb (by omega) _, h.pR, h.hR, h.RM⟩
  · exact (World.cell?_setCell_other _ _ _ _ (by intro k; injection k with _ k _; omega)).trans c1
  · exact (World.cell?_setCell_other _ _ _ _ (by intro k; injection k with _ k _; omega)).trans c2
  · exact (World.cell?_setCell_other _ _ _ _ (by intro k; injection k with _ k _; omega)).trans c3
theorem BentW.set0 {g n c : Nat} (h : BentW w0 p a len cap K R M w P S C (.slice (some ⟨g, 0, none⟩) n c) zs) (x : Int) : BentW w0 p a len cap K R M (w.setCell ⟨g, 0, none⟩ (.int .i64 x)) P S C (.slice (some ⟨g, 0, none⟩) n c) (zs.set 0 x) := by
  have h1 := h.pR; have h2 := h.RM; have h3 := h.hR
  have hg := h.low (g := g) rfl
  have hgM := h.top g rfl
  have f := setC_cells w g 0 (.int .i64 x)
  have hn : n = zs.length := by obtain ⟨a', c', e⟩ := h.own.slice; injection e
  subst hn
  have hst := (World.ownsRow.stored (u := .int .i64 x) h.own.out 0).1
  have ho : OwnI (R + 1) (w.setCell ⟨g, 0, none⟩ (.int .i64 x)) (.slice (some ⟨g, 0, none⟩) zs.length c) (zs.set 0 x) := by
    unfold OwnI
    rw [List.length_set]
    have e : iv (zs.set 0 x) = (iv zs).set 0 (.int .i64 x) := by unfold iv; rw [List.map_set]
    rw [e]
    exact hst
  exact ⟨h.pr.fr f (by omega), h.fr.set _, h.pm.fr f (by omega), h.fm.set _, ho, h.top, h.sc.setn (by omega) _, gb_setn h.gb (by omega) _, h.pR, h.hR, h.RM⟩
theorem BentW.cell0 {g n c : Nat} (h : BentW w0 p a len cap K R M w P S C (.slice (some ⟨g, 0, none⟩) n c) zs) (hn : 0 < n) : (∃ z, w.cell? ⟨g, 0, none⟩ = some (.int .i64 z)) ∧ w.frozen? ⟨g, 0, none⟩ = false := by
  have hl : n = zs.length := by obtain ⟨a', c', e⟩ := h.own.slice; injection e
  subst hl
  have h1 := World.ownsRow.cellAt h.own.out 0 (by omega)
  refine ⟨⟨zs[0], h1.trans ?_⟩, World.ownsRow.frozenAt h.own.out 0⟩
  unfold iv
  rw [List.getElem?_map, List.getElem?_eq_getElem hn]; rfl
theorem rowIs_made' (w : World) (n k : Nat) (t : TypeId) (hn : n = w.heap.size) : (w.alloc (.cells (madeCells #[.int .i64 0] k) t)).rowIs n t k (fun _ => .int .i64 0) := by
  subst hn; exact World.rowIs_made w (.int .i64 0) k t
theorem BentW.pr4 (h : BentW w0 p a len cap K R M w P S C v zs) (P' S' C' : Int) (v' : Value) : PtM ((((w.setCell ⟨M, 0, none⟩ (.int .i64 P')).setCell ⟨M, 1, none⟩ (.int .i64 S')).setCell ⟨M, 2, none⟩ (.int .i64 C')).setCell ⟨M, 3, none⟩ v') R 0 0 0 (.slice none 0 0) := by
  have h2 := h.RM
  have hg := gb_set (gb_set (gb_set (gb_set (grown_refl w (some M)) (o := 0) (.int .i64 P')) (o := 1) (.int .i64 S')) (o := 2) (.int .i64 C')) (o := 3) v'
  exact h.pr.gb hg (by omega)
theorem BentW.fill4 (h : BentW w0 p a len cap K R M w P S C v zs) {P' S' C' : Int} {v' : Value} {zs' : List Int} (ho : OwnI (M + 1) w v' zs') : BentW w0 p a len cap K R M ((((w.setCell ⟨M, 0, none⟩ (.int .i64 P')).setCell ⟨M, 1, none⟩ (.int .i64 S')).setCell ⟨M, 2, none⟩ (.int .i64 C')).setCell ⟨M, 3, none⟩ v') P' S' C' v' zs' := by
  have h1 := h.pR; have h2 := h.RM; have h3 := h.hR
  have f : Fr M (M + 1) w ((((w.setCell ⟨M, 0, none⟩ (.int .i64 P')).setCell ⟨M, 1, none⟩ (.int .i64 S')).setCell ⟨M, 2, none⟩ (.int .i64 C')).setCell ⟨M, 3, none⟩ v') := by
    have hg := gb_set (gb_set (gb_set (gb_set (grown_refl w (some M)) (o := 0) (.int .i64 P')) (o := 1) (.int .i64 S')) (o := 2) (.int .i64 C')) (o := 3) v'
    exact ⟨hg.os, hg.tape, hg.output, hg.size, fun k hk hd => hg.block k hk (fun e => by injection e with e; omega)⟩
  have ho2 : OwnI (M + 1) ((((w.setCell ⟨M, 0, none⟩ (.int .i64 P')).setCell ⟨M, 1, none⟩ (.int .i64 S')).setCell ⟨M, 2, none⟩ (.int .i64 C')).setCell ⟨M, 3, none⟩ v') v' zs' := (((ho.setOut (by omega) _).setOut (by omega) _).setOut (by omega) _).setOut (by omega) _
  exact ⟨h.pr.fr f (by omega), (((h.fr.set _).set _).set _).set _, h.pm.set4 P' S' C' v', (((h.fm.set _).set _).set _).set _, ho2.mono (by omega), fun g hg => by have := (ho2.out.lt g hg).1; omega, (((h.sc.setn (by omega) _).setn (by omega) _).setn (by omega) _).setn (by omega) _, gb_setn (gb_setn (gb_setn (gb_setn h.gb (by omega) _) (by omega) _) (by omega) _) (by omega) _, h.pR, h.hR, h.RM⟩
theorem BentW.push0 (h : BentW w0 p a len cap K R M w P S C v zs) {o : Obj} (hg : (w.alloc o).grownBy w' v.ownBlock) : PtM w' R 0 0 0 (.slice none 0 0) ∧ Fz w' R ∧ PtM w' M P S C v ∧ Fz w' M := by
  have ha := h.on (al1 (Below.refl w.heap.size w) o)
  have hM := ha.pm.1
  have hkM : ∀ k, v.ownBlock = some k → k ≠ M := h.top
  have hkR : ∀ k, v.ownBlock = some k → k ≠ R := fun k hk => by have := (h.low hk).1; omega
  refine ⟨?_, ha.fr.gbv ha.pr.1 hg hkR, ?_, ha.fm.gbv hM hg hkM⟩
  · cases hv : v.ownBlock with
    | none => rw [hv] at hg; exact ha.pr.on ⟨hg.os, hg.tape, hg.output, hg.size, fun i hi => hg.block i hi (by simp)⟩
    | some k => rw [hv] at hg; exact ha.pr.gb hg (fun e => hkR k hv e.symm)
  · cases hv : v.ownBlock with
    | none => rw [hv] at hg; exact ha.pm.on ⟨hg.os, hg.tape, hg.output, hg.size, fun i hi => hg.block i hi (by simp)⟩
    | some k => rw [hv] at hg; exact ha.pm.gb hg (fun e => hkM k hv e.symm)
theorem BentW.push (h : BentW w0 p a len cap K R M w P S C v zs) {o : Obj} {v' : Value} {z : Int} (hg : (w.alloc o).grownBy w' v.ownBlock) (hown : w'.ownsRow (R + 1) 2 1 v' (zs.length + 1) (iv zs ++ [.int .i64 z])) (hp : ∀ g, v'.ownBlock = some g → v.ownBlock = some g ∨ (w.alloc o).heap.size ≤ g) :
    BentW w0 p a len cap K R M (w'.setCell ⟨M, 3, none⟩ v') P S C v' (zs ++ [z]) := by
  have h1 := h.pR; have h2 := h.RM; have h3 := h.hR
  have ha := h.on (al1 (Below.refl w.heap.size w) o)
  have hM := ha.pm.1
  have hkM : ∀ k, v.ownBlock = some k → k ≠ M := h.top
  have hkR : ∀ k, v.ownBlock = some k → k ≠ R := fun k hk => by have := (h.low hk).1; omega
  have hkp : ∀ k, v.ownBlock = some k → R + 1 ≤ k := fun k hk => (h.low hk).1
  have hvM : ∀ g, v'.ownBlock = some g → g ≠ M := fun g hg' => by
    rcases hp g hg' with e | e
    · exact h.top g e
    · omega
  obtain ⟨pr', fr', pm', fm'⟩ := h.push0 hg
  have sc' : Sc p a len cap K w' := ha.sc.low ⟨hg.os, hg.tape, hg.output, hg.size, fun i hi => hg.block i (by have := ha.sc.2.1; omega) (fun e => by have := hkp i e.symm; omega)⟩
  have gb' : w0.grownBy w' (some p) := ⟨hg.os.trans ha.gb.os, hg.tape.trans ha.gb.tape, hg.output.trans ha.gb.output, Nat.le_trans ha.gb.size hg.size, fun k hk hne => (hg.block k (Nat.lt_of_lt_of_le hk ha.gb.size) (fun e => by have := hkp k e.symm; omega)).trans (ha.gb.block k hk hne)⟩
  have ho : OwnI (R + 1) w' v' (zs ++ [z]) := by
    unfold OwnI
    rw [iv_app, List.length_append]
    exact hown
  have f := setC_cells w' M 3 v'
  obtain ⟨l, c0, c1, c2, c3⟩ := pm'
  refine ⟨pr'.fr f (by omega), fr'.set _, ⟨by simpa using l, ?_, ?_, ?_, World.cell?_setCell_same' _ _ _ (by rw [c3]; rfl)⟩, fm'.set _, ho.keptP (gb_set (grown_refl _ _) _) (fun k hk e => by injection hk with hk; exact hvM k e hk.symm), hvM, sc'.setn (by omega) _, gb_setn gb' (by omega) _, h.pR, h.hR, h.RM⟩
  · exact (World.cell?_setCell_other _ _ _ _ (by intro k; injection k with _ k _; omega)).trans c0
  · exact (World.cell?_setCell_other _ _ _ _ (by intro k; injection k with _ k _; omega)).trans c1
  · exact (World.cell?_setCell_other _ _ _ _ (by intro k; injection k with _ k _; omega)).trans c2
end
/-- A drawn matrix of whatever numbers. -/
def RetMtx (p : Nat) (a : Option Addr) (len cap K : Nat) (w : World) (e : Ending) (w' : World) : Prop :=
  ∃ (P S C : Int) (v : Value) (zs : List Int), e = .returned (.agg #[.int .i64 P, .int .i64 S, .int .i64 C, v]) ∧ OwnI w.heap.size w' v zs ∧ zs.length ≤ 1100 ∧ w.grownBy w' (some p) ∧ Sc p a len cap K w'
set_option maxRecDepth 100000 in
set_option maxHeartbeats 3200000 in
theorem l03Draw_any {p len cap K : Nat} {a : Option Addr} {w : World} (hK : K ≤ 600000000) (h : Sc p a len cap K w) :
    Calls Try.prog 80 #[.pointer (some ⟨p, 0, none⟩)] w fun e w' => ∃ (q : Nat) (_ : NeZero q) (m n : Nat), IsPr (q : Int) ∧ m ≤ 4 ∧ n ≤ 4 ∧ RetFiS q p a len cap (K + 5010) m n w e w' := by
  have hpw := h.2.1
  have HS := Lib.hid (h.alloc (.cells #[.int .i64 0, .int .i64 0, .int .i64 0, .slice none 0 0] 26))
  have Pr0 := Lib.hid (PtM.new w 0 0 0 (.slice none 0 0) 26)
  have Fr0 : Hid (Fz (w.alloc (.cells #[.int .i64 0, .int .i64 0, .int .i64 0, .slice none 0 0] 26)) w.heap.size) := Fz.new w _ _
  have G0 : Hid (w.grownBy (w.alloc (.cells #[.int .i64 0, .int .i64 0, .int .i64 0, .slice none 0 0] 26)) (some p)) := sgb_alloc _ _ _
  clear h
  go_enter Try.func80, Try.ntmps80
  go_wp2_with fail
  refine (drawPrime3_any (by omega) HS.out).mono ?_
  rintro e w1 ⟨r, ⟨q, rfl, hq⟩, rfl, hs, hg⟩
  have HPR := Lib.hid hq
  have hz : NeZero q := ⟨by have := hq.1; omega⟩
  have Pr := Lib.hid (Pr0.out.gb hg (by omega))
  have Fr : Hid (Fz w1 w.heap.size) := Fr0.out.gb (by simp) hg (by omega)
  have G := Lib.hid (sgb_trans G0.out hg)
  have HS := Lib.hid hs
  clear hs hg hq
  go_wp2_with fail
  refine (pick_any 5 (by omega) (by omega) HS.out).mono ?_
  rintro e w2 ⟨r, hr, rfl, hs, hg⟩
  obtain ⟨m, rfl⟩ : ∃ m : Nat, r = (m : Int) := ⟨r.toNat, by omega⟩
  have hm : m ≤ 4 := by omega
  have Fr : Hid (Fz w2 w.heap.size) := Fr.out.gb Pr.out.1 hg (by omega)
  have Pr := Lib.hid (Pr.out.gb hg (by omega))
  have G := Lib.hid (sgb_trans G.out hg)
  have HS := Lib.hid hs
  clear hs hg hr
  go_wp2_with fail
  refine (pick_any 5 (by omega) (by omega) HS.out).mono ?_
  rintro e w3 ⟨r, hr, rfl, hs, hg⟩
  obtain ⟨n, rfl⟩ : ∃ m : Nat, r = (m : Int) := ⟨r.toNat, by omega⟩
  have hn : n ≤ 4 := by omega
  have Fr : Hid (Fz w3 w.heap.size) := Fr.out.gb Pr.out.1 hg (by omega)
  have Pr := Lib.hid (Pr.out.gb hg (by omega))
  have G := Lib.hid (sgb_trans G.out hg)
  have HS := Lib.hid hs
  have hs3 := G.out.size
  have hl3 := Pr.out.1
  clear hs hg hr
  go_wp2_with fail
  refine (l03FillS_any HPR.out (by omega) (by omega) (by omega) HS.out).mono ?_
  rintro e w4 ⟨A, v4, rfl, ho, hg, hs⟩
  have HO := Lib.hid ho
  obtain ⟨va, vc, rfl⟩ := ho.slice
  have Fr : Hid (Fz w4 w.heap.size) := Fr.out.gb Pr.out.1 hg (by omega)
  have Pr := Lib.hid (Pr.out.gb hg (by omega))
  have G := Lib.hid (sgb_trans G.out hg)
  have HS := Lib.hid hs
  clear hs hg ho
  obtain ⟨lR, r0, r1, r2, r3⟩ := Pr.out
  obtain ⟨f0, f1, f2, f3⟩ := Fr.out.all
  have HQ := Lib.hid (Pr.out.set4 (q : Int) m n (.slice va (flat m n A).length vc))
  go_wp2_with fail
  obtain ⟨_, q0, q1, q2, q3⟩ := HQ.out
  refine bodyPost_ret (v := .agg #[.int .i64 q, .int .i64 m, .int .i64 n, .slice va (flat m n A).length vc]) (by simp [results, Try.results80, go_sem, q0, q1, q2, q3]) rfl ⟨q, hz, m, n, HPR.out, hm, hn, A, _, rfl, ?_, ?_, ?_⟩
  · refine OwnI.mono (B := w3.heap.size) ?_ hs3
    repeat (refine OwnI.setOut ?_ hl3 _)
    exact HO.out
  · repeat (refine gb_setn ?_ (Nat.le_refl _) _)
    exact G.out
  · repeat (refine Sc.setn ?_ hpw _)
    exact HS.out.up (by omega)

set_option maxRecDepth 100000 in
set_option maxHeartbeats 12800000 in
theorem l03Bent_any {p len cap K : Nat} {a : Option Addr} {w : World} (hK : K ≤ 500000000) (h : Sc p a len cap K w) :
    Calls Try.prog 41 #[.pointer (some ⟨p, 0, none⟩)] w fun e w' => RetMtx p a len cap (K + 5020) w e w' := by
  have hpw := h.2.1
  obtain ⟨i0, hi0, iz0, iz1, iz2⟩ := info_parts info2
  have HS := Lib.hid (h.alloc (.cells #[.int .i64 0, .int .i64 0, .int .i64 0, .slice none 0 0] 26))
  have Pr0 := Lib.hid (PtM.new w 0 0 0 (.slice none 0 0) 26)
  have Fr0 : Hid (Fz (w.alloc (.cells #[.int .i64 0, .int .i64 0, .int .i64 0, .slice none 0 0] 26)) w.heap.size) := Fz.new w _ _
  have G0 : Hid (w.grownBy (w.alloc (.cells #[.int .i64 0, .int .i64 0, .int .i64 0, .slice none 0 0] 26)) (some p)) := sgb_alloc _ _ _
  have hz0 : (w.alloc (.cells #[.int .i64 0, .int .i64 0, .int .i64 0, .slice none 0 0] 26)).heap.size = w.heap.size + 1 := by simp
  clear h
  go_enter Try.func41, Try.ntmps41
  go_wp2_with fail
  refine (l03Draw_any (by omega) HS.out).mono ?_
  rintro e w1 ⟨q, hz, m, n, hq, hm, hn, A, v, rfl, ho, hg, hs⟩
  have hmn : m * n ≤ 16 := Nat.mul_le_mul hm hn
  have hq2 := hq.2.1
  have hq1 := hq.1
  have Pr := Pr0.out.gb hg (by omega)
  have Fr : Fz w1 w.heap.size := Fr0.out.gb (by simp) hg (by omega)
  have G := sgb_trans G0.out hg
  have hl1 := Pr.1
  have bb := al1 (Below.refl w1.heap.size w1) (.cells #[.int .i64 (q : Int), .int .i64 (m : Int), .int .i64 (n : Int), v] 26)
  have HH : Hid (BentW w p a len cap (K + 5010) w.heap.size w1.heap.size (w1.alloc (.cells #[.int .i64 (q : Int), .int .i64 (m : Int), .int .i64 (n : Int), v] 26)) q m n v (flat m n A)) := by
    rw [hz0] at ho
    exact ⟨Pr.on bb, Fr.on hl1 bb, PtM.new _ _ _ _ _ _, Fz.new _ _ _, ho.on bb, fun g hg => by have := (ho.out.lt g hg).2; omega, hs.below bb, sgb_trans G (gb_of_below bb), hpw, rfl, hl1⟩
  have hzl : (flat m n A).length ≤ 16 := by rw [flat_len]; exact hmn
  obtain ⟨zs, hzs⟩ : ∃ zs, flat m n A = zs := ⟨_, rfl⟩
  rw [hzs] at HH hzl ho
  obtain ⟨va, vc, rfl⟩ := ho.slice
  clear hs hg ho Pr Fr G bb hzs HS Pr0 Fr0 G0 hz0 hq
  go_wp2_with fail
  generalize hW : World.alloc w1 (.cells #[.int .i64 (q : Int), .int .i64 (m : Int), .int .i64 (n : Int), .slice va zs.length vc] 26) = w2 at HH ⊢
  clear hW
  refine (pick_any 20 (by omega) (by omega) HH.out.sc).mono ?_
  rintro e w3 ⟨r, hr, rfl, hs, hg⟩
  have HH := Lib.hid (HH.out.draw hg hs)
  clear hs hg
  have nMR : ¬ w1.heap.size = w.heap.size := by omega
  have nRM : ¬ w.heap.size = w1.heap.size := by omega
  by_cases h0 : r = 0
  · subst h0
    go_wp2_with fail
    refine (among_lit [0, 1, 4, 252, 257] _ _ 5 rfl rfl (by simp) (by simp) (by omega) HH.out.sc).mono ?_
    rintro e w4 ⟨x, hx, rfl, hs, hg⟩
    have HH := Lib.hid (HH.out.draw hg hs)
    have H4 := Lib.hid (HH.out.setM0 x)
    clear hs hg
    obtain ⟨lM, m0, m1, m2, m3⟩ := HH.out.pm
    obtain ⟨g0, g1, g2, g3⟩ := HH.out.fm.all
    obtain ⟨lR, r0, r1, r2, r3⟩ := HH.out.pr
    obtain ⟨f0, f1, f2, f3⟩ := HH.out.fr.all
    have HQ := Lib.hid (H4.out.pr.set4 x m n (.slice va zs.length vc))
    go_wp2_with fail
    obtain ⟨_, q0, q1, q2, q3⟩ := HQ.out
    refine bodyPost_ret (v := .agg #[.int .i64 x, .int .i64 m, .int .i64 n, .slice va zs.length vc]) (by simp [results, Try.results41, go_sem, q0, q1, q2, q3]) rfl ⟨_, _, _, _, zs, rfl, ?_, (by omega), ?_, ?_⟩
    · refine OwnI.mono (B := w.heap.size + 1) ?_ (by omega)
      repeat (refine OwnI.setOut ?_ (by omega) _)
      exact H4.out.own
    · iterate 4 (refine gb_setn ?_ (by omega) _)
      exact H4.out.gb
    · iterate 4 (refine Sc.setn ?_ (by omega) _)
      exact H4.out.sc.up (by omega)
  · have e0 : (r == 0) = false := by simpa using h0
    by_cases h1 : r = 1
    · subst h1
      obtain ⟨lM, m0, m1, m2, m3⟩ := HH.out.pm
      obtain ⟨g0, g1, g2, g3⟩ := HH.out.fm.all
      obtain ⟨lR, r0, r1, r2, r3⟩ := HH.out.pr
      obtain ⟨f0, f1, f2, f3⟩ := HH.out.fr.all
      go_wp2_with (at_builtin; refine wpList_append_place _ rfl _ _ 24 rfl (w.heap.size + 1) 2 i0 (.int .i64 0) 8 Try.underlying24 hi0 iz0 iz1 iz2 rfl _ zs.length (iv zs) rfl (HH.out.own.out.alloc _) ⟨w3.heap.size, 0, none⟩ _ (.int .i64 0) rfl (row_int _ _ _) (fun y hy => by simp at hy; rw [hy]; rfl) (by unfold maxLen; omega) (by omega) (by rw [World.size_alloc]; have := HH.out.pr.1; omega) ?_; intro v4 w4 hr4 hg4 hv4; have H4 := Lib.hid (HH.out.push hg4 hr4 hv4); have HP0 := HH.out.push0 hg4; obtain ⟨⟨_, _, _, _, _⟩, fR, ⟨_, _, _, _, _⟩, fM⟩ := HP0; have := fR 0; have := fR 1; have := fR 2; have := fR 3; have := fM 3; obtain ⟨v4a, v4c, rfl⟩ := row_slice hr4)
      have HQ := Lib.hid (H4.out.pr.set4 q m n (.slice v4a (zs.length + 1) v4c))
      obtain ⟨_, q0, q1, q2, q3⟩ := HQ.out
      refine bodyPost_ret (v := .agg #[.int .i64 q, .int .i64 m, .int .i64 n, .slice v4a (zs.length + 1) v4c]) (by simp [results, Try.results41, go_sem, q0, q1, q2, q3]) rfl ⟨_, _, _, _, (zs ++ [0]), rfl, ?_, (by simp; omega), ?_, ?_⟩
      · refine OwnI.mono (B := w.heap.size + 1) ?_ (by omega)
        repeat (refine OwnI.setOut ?_ (by omega) _)
        exact H4.out.own
      · iterate 4 (refine gb_setn ?_ (by omega) _)
        exact H4.out.gb
      · iterate 4 (refine Sc.setn ?_ (by omega) _)
        exact H4.out.sc.up (by omega)
    · have e1 : (r == 1) = false := by simpa using h1
      by_cases h2 : r = 2
      · subst h2
        by_cases hl0 : zs.length = 0
        · have HQ := Lib.hid (HH.out.pr.set4 q m n (.slice va zs.length vc))
          have H4 := HH
          rw [hl0] at HQ ⊢
          have HL0 := Lib.hid hl0
          rw [hl0] at HH
          clear hl0
          obtain ⟨lM, m0, m1, m2, m3⟩ := HH.out.pm
          obtain ⟨g0, g1, g2, g3⟩ := HH.out.fm.all
          obtain ⟨lR, r0, r1, r2, r3⟩ := HH.out.pr
          obtain ⟨f0, f1, f2, f3⟩ := HH.out.fr.all
          go_wp2_with fail
          have H4 := Lib.hid (HH.out)
          obtain ⟨_, q0, q1, q2, q3⟩ := HQ.out
          refine bodyPost_ret (v := .agg #[.int .i64 q, .int .i64 m, .int .i64 n, .slice va 0 vc]) (by simp [results, Try.results41, go_sem, q0, q1, q2, q3]) rfl ⟨_, _, _, _, zs, rfl, ?_, (by omega), ?_, ?_⟩
          · refine OwnI.mono (B := w.heap.size + 1) ?_ (by omega)
            repeat (refine OwnI.setOut ?_ (by omega) _)
            exact H4.out.own
          · iterate 4 (refine gb_setn ?_ (by omega) _)
            exact H4.out.gb
          · iterate 4 (refine Sc.setn ?_ (by omega) _)
            exact H4.out.sc.up (by omega)
        · obtain ⟨g, cap, e, hg0, hg1, hcl, hfz⟩ : ∃ g cap, (Value.slice va zs.length vc) = .slice (some ⟨g, 0, none⟩) zs.length cap ∧ w.heap.size + 1 ≤ g ∧ g < w3.heap.size ∧ (∀ j (h : j < zs.length), w3.cell? ⟨g, j, none⟩ = some (.int .i64 zs[j])) ∧ ∀ j, w3.frozen? ⟨g, j, none⟩ = false := by
            rcases HH.out.own.form with ⟨h, _⟩ | h
            · rw [h] at hl0; exact absurd rfl hl0
            · exact h
          simp only [Value.slice.injEq, true_and] at e
          obtain ⟨rfl, rfl⟩ := e
          obtain ⟨l0, hl0'⟩ : ∃ l, zs.length = l := ⟨_, rfl⟩
          have HZL := Lib.hid hl0'
          have hgM := HH.out.top g rfl
          rw [hl0'] at hl0 HH ⊢
          have ll : (0 : Int) < (l0 : Int) := by omega
          have wq : IntKind.i64.wrap ((q : Int) - 1) = (q : Int) - 1 := IntWalk.i64_in _ (by omega)
          have ngM : ¬ g = w1.heap.size := hgM
          have nMg : ¬ w1.heap.size = g := fun e => hgM e.symm
          have ngR : ¬ g = w.heap.size := by omega
          have nRg : ¬ w.heap.size = g := by omega
          clear hcl hfz hl0'
          obtain ⟨lM, m0, m1, m2, m3⟩ := HH.out.pm
          obtain ⟨g0, g1, g2, g3⟩ := HH.out.fm.all
          obtain ⟨lR, r0, r1, r2, r3⟩ := HH.out.pr
          obtain ⟨f0, f1, f2, f3⟩ := HH.out.fr.all
          go_wp2_with fail
          go_region_held3 (fun w' => w'.cell? ⟨w1.heap.size, 0, none⟩ = some (.int .i64 (q : Int)) ∧ w'.cell? ⟨w1.heap.size, 3, none⟩ = some (.slice (some ⟨g, 0, none⟩) l0 vc)) (go_keep)
            (first
              | (go_at_call 65; go_loud (refine (among_lit (w := w3.drew) [-1, (q : Int) - 1, q] _ _ 3 rfl rfl (by simp) (by simp) (by omega) HH.out.sc.drew).mono ?_; rintro e w4 ⟨x, hx, rfl, hs, hg⟩; have hg' : w3.grownBy w4 (some p) := ⟨hg.os, hg.tape, hg.output, hg.size, hg.block⟩; have H5 := Lib.hid (HH.out.draw hg' hs); obtain ⟨⟨z0, c9⟩, f9⟩ := H5.out.cell0 (by omega); obtain ⟨_, _, _, _, _⟩ := H5.out.pm; obtain ⟨_, _, _, _, _⟩ := H5.out.pr; obtain ⟨_, _, _, _⟩ := H5.out.fr.all)))
          have H4 := Lib.hid (H5.out.set0 x)
          have HQ := Lib.hid (H4.out.pr.set4 q m n (.slice (some ⟨g, 0, none⟩) l0 vc))
          go_wp2_with fail
          obtain ⟨_, q0, q1, q2, q3⟩ := HQ.out
          refine bodyPost_ret (v := .agg #[.int .i64 q, .int .i64 m, .int .i64 n, .slice (some ⟨g, 0, none⟩) l0 vc]) (by simp [results, Try.results41, go_sem, q0, q1, q2, q3]) rfl ⟨_, _, _, _, (zs.set 0 x), rfl, ?_, (by rw [List.length_set]; omega), ?_, ?_⟩
          · refine OwnI.mono (B := w.heap.size + 1) ?_ (by omega)
            repeat (refine OwnI.setOut ?_ (by omega) _)
            exact H4.out.own
          · iterate 4 (refine gb_setn ?_ (by omega) _)
            exact H4.out.gb
          · iterate 4 (refine Sc.setn ?_ (by omega) _)
            exact H4.out.sc.up (by omega)
      · have e2 : (r == 2) = false := by simpa using h2
        have hmade : ∀ k : Nat, k ≤ 33 → OwnI (w1.heap.size + 1) (w3.alloc (.cells (madeCells #[.int .i64 0] k) 2)) (.slice (some ⟨w3.heap.size, 0, none⟩) k k) (List.replicate k 0) := fun k hk => OwnI.zeros (World.rowIs_made w3 (.int .i64 0) k 2) (by have := HH.out.pm.1; omega) (by omega)
        by_cases h3 : r = 3
        · subst h3
          clear hmade
          go_wp2_with fail
          refine (among_lit [31, 32, 33] _ _ 3 rfl rfl (by simp) (by simp) (by omega) HH.out.sc).mono ?_
          rintro e w4 ⟨x, hx, rfl, hs, hg⟩
          obtain ⟨k, rfl, hk⟩ : ∃ k : Nat, x = (k : Int) ∧ k ≤ 33 := by
            simp at hx
            rcases hx with rfl | rfl | rfl
            · exact ⟨31, rfl, by omega⟩
            · exact ⟨32, rfl, by omega⟩
            · exact ⟨33, rfl, by omega⟩
          have HH := Lib.hid (HH.out.draw hg hs)
          have HQ := Lib.hid (((HH.out.pr4 2 k 1 (.slice (some ⟨w4.heap.size, 0, none⟩) k k)).set4 2 k 1 (.slice (some ⟨w4.heap.size, 0, none⟩) k k)).on (al1 (Below.refl _ _) (.cells (madeCells #[.int .i64 0] k) 2)))
          have hmk := run_make_row' (P := Try.prog) 24 2 (.int .i64 0) 8 Try.underlying24 info_i rfl .i64 .i64 k (by omega) (by omega)
          clear hs hg
          obtain ⟨lM, m0, m1, m2, m3⟩ := HH.out.pm
          obtain ⟨g0, g1, g2, g3⟩ := HH.out.fm.all
          obtain ⟨lR, r0, r1, r2, r3⟩ := HH.out.pr
          obtain ⟨f0, f1, f2, f3⟩ := HH.out.fr.all
          go_wp2_with fail
          obtain ⟨_, q0, q1, q2, q3⟩ := HQ.out
          refine bodyPost_ret (v := .agg #[.int .i64 2, .int .i64 k, .int .i64 1, .slice (some ⟨w4.heap.size, 0, none⟩) k k]) (by simp [results, Try.results41, go_sem, q0, q1, q2, q3]) rfl ⟨_, _, _, _, List.replicate k 0, rfl, ?_, (by rw [List.length_replicate]; omega), ?_, ?_⟩
          · exact OwnI.zeros (rowIs_made' _ _ _ _ (by simp only [World.size_setCell])) (by omega) (by omega)
          · refine sgb_trans ?_ (sgb_alloc _ _ _)
            iterate 8 (refine gb_setn ?_ (by omega) _)
            exact HH.out.gb
          · refine Sc.alloc ?_ _
            iterate 8 (refine Sc.setn ?_ (by omega) _)
            exact HH.out.sc.up (by omega)
        · have e3 : (r == 3) = false := by simpa using h3
          by_cases h4 : r = 4
          · subst h4
            clear hmade
            go_wp2_with fail
            refine (among_lit [32, 33] _ _ 2 rfl rfl (by simp) (by simp) (by omega) HH.out.sc).mono ?_
            rintro e w4 ⟨x, hx, rfl, hs, hg⟩
            obtain ⟨k, rfl, hk⟩ : ∃ k : Nat, x = (k : Int) ∧ k ≤ 33 := by
              simp at hx
              rcases hx with rfl | rfl
              · exact ⟨32, rfl, by omega⟩
              · exact ⟨33, rfl, by omega⟩
            have HH := Lib.hid (HH.out.draw hg hs)
            have HQ := Lib.hid (((HH.out.pr4 2 1 k (.slice (some ⟨w4.heap.size, 0, none⟩) k k)).set4 2 1 k (.slice (some ⟨w4.heap.size, 0, none⟩) k k)).on (al1 (Below.refl _ _) (.cells (madeCells #[.int .i64 0] k) 2)))
            have hmk := run_make_row' (P := Try.prog) 24 2 (.int .i64 0) 8 Try.underlying24 info_i rfl .i64 .i64 k (by omega) (by omega)
            clear hs hg
            obtain ⟨lM, m0, m1, m2, m3⟩ := HH.out.pm
            obtain ⟨g0, g1, g2, g3⟩ := HH.out.fm.all
            obtain ⟨lR, r0, r1, r2, r3⟩ := HH.out.pr
            obtain ⟨f0, f1, f2, f3⟩ := HH.out.fr.all
            go_wp2_with fail
            obtain ⟨_, q0, q1, q2, q3⟩ := HQ.out
            refine bodyPost_ret (v := .agg #[.int .i64 2, .int .i64 1, .int .i64 k, .slice (some ⟨w4.heap.size, 0, none⟩) k k]) (by simp [results, Try.results41, go_sem, q0, q1, q2, q3]) rfl ⟨_, _, _, _, List.replicate k 0, rfl, ?_, (by rw [List.length_replicate]; omega), ?_, ?_⟩
            · exact OwnI.zeros (rowIs_made' _ _ _ _ (by simp only [World.size_setCell])) (by omega) (by omega)
            · refine sgb_trans ?_ (sgb_alloc _ _ _)
              iterate 8 (refine gb_setn ?_ (by omega) _)
              exact HH.out.gb
            · refine Sc.alloc ?_ _
              iterate 8 (refine Sc.setn ?_ (by omega) _)
              exact HH.out.sc.up (by omega)
          · have e4 : (r == 4) = false := by simpa using h4
            have H4 := HH
            have HQ := Lib.hid (HH.out.pr.set4 q m n (.slice va zs.length vc))
            clear hmade
            obtain ⟨lM, m0, m1, m2, m3⟩ := HH.out.pm
            obtain ⟨g0, g1, g2, g3⟩ := HH.out.fm.all
            obtain ⟨lR, r0, r1, r2, r3⟩ := HH.out.pr
            obtain ⟨f0, f1, f2, f3⟩ := HH.out.fr.all
            go_wp2_with fail
            obtain ⟨_, q0, q1, q2, q3⟩ := HQ.out
            refine bodyPost_ret (v := .agg #[.int .i64 q, .int .i64 m, .int .i64 n, .slice va zs.length vc]) (by simp [results, Try.results41, go_sem, q0, q1, q2, q3]) rfl ⟨_, _, _, _, zs, rfl, ?_, (by omega), ?_, ?_⟩
            · refine OwnI.mono (B := w.heap.size + 1) ?_ (by omega)
              repeat (refine OwnI.setOut ?_ (by omega) _)
              exact H4.out.own
            · iterate 4 (refine gb_setn ?_ (by omega) _)
              exact H4.out.gb
            · iterate 4 (refine Sc.setn ?_ (by omega) _)
              exact H4.out.sc.up (by omega)
end Go.Proofs.Ytpimnngomodnhaa
