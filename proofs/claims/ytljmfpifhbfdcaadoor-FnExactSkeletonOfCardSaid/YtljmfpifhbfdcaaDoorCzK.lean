/-
  SkeletonOf of the model and of the program.
-/
import Derived.Test.YtljmfpifhbfdcaaDoorCzF
import Derived.Test.YtljmfpifhbfdcaaDoorCyM
import Derived.Deep.RegionLaw
import Derived.Deep.AppendLies
namespace Go.Proofs.YtljmfpifhbfdcaaDoor
open Go.RowKit
set_option linter.unusedVariables false
set_option linter.unusedSimpArgs false

/-- The simplices up to a dimension, of the first k. -/
def sklK (zz : List (List Int)) (d : Int) (k : Nat) : List (List Int) := (zz.take k).filter fun t => decide ((t.length : Int) ≤ d + 1)
theorem sklK_yes {zz : List (List Int)} {d : Int} {k : Nat} (hk : k < zz.length) (h : (zz[k].length : Int) ≤ d + 1) : sklK zz d (k + 1) = sklK zz d k ++ [zz[k]] := by
  unfold sklK; rw [List.take_succ_eq_append_getElem hk, List.filter_append]; simp [h]
theorem sklK_no {zz : List (List Int)} {d : Int} {k : Nat} (hk : k < zz.length) (h : ¬ (zz[k].length : Int) ≤ d + 1) : sklK zz d (k + 1) = sklK zz d k := by
  unfold sklK; rw [List.take_succ_eq_append_getElem hk, List.filter_append]; simp [h]
theorem sklK_len (zz : List (List Int)) (d : Int) (k : Nat) : (sklK zz d k).length ≤ k := by
  unfold sklK; exact Nat.le_trans (List.length_filter_le _ _) (by rw [List.length_take]; omega)
def SklIs (zz : List (List Int)) (d : Int) (yy : List (List Int)) (c : Int) : Prop :=
  (¬ OkC zz ∧ yy = [] ∧ c = 1) ∨ (OkC zz ∧ ¬ (0 ≤ d ∧ d ≤ 3) ∧ yy = [] ∧ c = 2) ∨ (OkC zz ∧ (0 ≤ d ∧ d ≤ 3) ∧ yy = sklK zz d zz.length ∧ c = 0)
theorem skl_has (zz : List (List Int)) (d : Int) : ∃ yy c, SklIs zz d yy c := by
  by_cases h : OkC zz
  · by_cases h1 : 0 ≤ d ∧ d ≤ 3
    · exact ⟨_, _, .inr (.inr ⟨h, h1, rfl, rfl⟩)⟩
    · exact ⟨_, _, .inr (.inl ⟨h, h1, rfl, rfl⟩)⟩
  · exact ⟨_, _, .inl ⟨h, rfl, rfl⟩⟩
theorem SklIs.fit {zz : List (List Int)} {d : Int} {yy : List (List Int)} {c : Int} (h : SklIs zz d yy c) : FitR yy := by
  rcases h with ⟨_, rfl, _⟩ | ⟨_, _, rfl, _⟩ | ⟨ho, _, rfl, _⟩
  · exact ⟨by simp, by simp [tot]⟩
  · exact ⟨by simp, by simp [tot]⟩
  · have hl := sklK_len zz d zz.length
    have h48 := ho.2
    have h4 := tot_four (zz := sklK zz d zz.length) fun z hz => by
      unfold sklK at hz
      exact (ho.1.sim z (List.mem_of_mem_take (List.mem_filter.1 hz).1)).le
    exact ⟨by omega, by omega⟩
/-- A complex that grows row by row in a variable of its own. -/
def SkS (B Lk : Nat) (w : World) (zz : List (List Int)) : Prop :=
  ∃ v L, PtC w Lk v ∧ w.frozen? ⟨Lk, 0, none⟩ = false ∧ OwnR B w.heap.size w v L zz ∧ v.ownBlock ≠ some Lk ∧ ∀ u ∈ L, u.ownBlock ≠ some Lk
theorem cloneK_any {u : Value} {zs : List Int} {w : World} (h : IntsC w u zs) (hl : zs.length ≤ 2097152) : Calls Tryd.prog 78 #[u] w fun e w' => RetL zs w e w' := by
  have hs := h.src hl
  obtain ⟨_, a, cap, rfl, h1, _, ⟨rfl, rfl⟩ | ⟨g, off, rfl⟩⟩ := h
  · obtain rfl : zs = [] := List.length_eq_zero_iff.1 (by omega)
    exact cloneI_nil w
  · refine (cloneI_some (xs := iv zs) w hs (by rw [iv_len]) iv_one).mono ?_
    rintro e w' ⟨v, rfl, ho, -, hb⟩
    have h2 : OwnI w.heap.size w' v zs := by unfold OwnI; exact ho
    exact ⟨v, rfl, h2, hb⟩
theorem sk_cell {Lk : Nat} {wr a w7 : World} {v : Value} (hg : a.grownBy w7 v.ownBlock) (p : PtC wr Lk v) (f : wr.frozen? ⟨Lk, 0, none⟩ = false) (n1 : v.ownBlock ≠ some Lk) (hb : Below wr.heap.size wr a) : w7.cell? ⟨Lk, 0, none⟩ = some v ∧ w7.frozen? ⟨Lk, 0, none⟩ = false := by
  have pa := p.on hb
  have fa := (hb.frozen (p := ⟨Lk, 0, none⟩) p.1).trans f
  have hk : w7.heap[Lk]? = a.heap[Lk]? := hg.block Lk pa.1 (fun e => n1 e.symm)
  exact ⟨by rw [World.cell?_of_block hk]; exact pa.2, by rw [World.frozen?_of_block hk]; exact fa⟩
theorem OwnR.rowZ {B E z : Nat} {w w' : World} {v : Value} {L : List Value} {zz : List (List Int)} (h : OwnR B E w v L zz) (hz : zz.length = z) (hb : Below w.heap.size w w') : w'.ownsRow B 38 1 v z L := by
  have h1 := (h.on hb).row
  rw [hz] at h1; exact h1
theorem OwnI.growing {B : Nat} {w w' : World} {v : Value} {zs : List Int} {r : Option Nat} (h : OwnI B w v zs) (hg : w.grownBy w' r) (hne : ∀ k, r = some k → v.ownBlock ≠ some k) : OwnI B w' v zs := by
  refine World.ownsRow.kept h.out hg ?_
  cases hv : v.ownBlock with
  | none => exact .inl rfl
  | some k => exact .inr fun e => hne k e.symm hv
theorem OwnR.pushM {B E : Nat} {w1 w2 : World} {v v2 u : Value} {zz : List (List Int)} {zs : List Int} {L : List Value} (h : OwnR B E w1 v L zz) (hu : OwnI E w1 u zs) (hB : B ≤ E)
    (hr : w2.ownsRow B 38 1 v2 (zz.length + 1) (L ++ [u])) (hg : w1.grownBy w2 v.ownBlock) (hv : ∀ g, v2.ownBlock = some g → v.ownBlock = some g ∨ (E ≤ g ∧ u.ownBlock ≠ some g)) : OwnR B w2.heap.size w2 v2 (L ++ [u]) (zz ++ [zs]) := by
  have hug : ∀ g, u.ownBlock = some g → E ≤ g ∧ g < w1.heap.size := fun g hg => hu.out.lt g hg
  have spl : ∀ (i : Nat) (x : Value), (L ++ [u])[i]? = some x → L[i]? = some x ∨ (i = L.length ∧ x = u) := fun i x hx => by
    rcases Nat.lt_trichotomy i L.length with hi | hi | hi
    · rw [List.getElem?_append_left hi] at hx; exact .inl hx
    · subst hi; rw [List.getElem?_append_right (Nat.le_refl _)] at hx; simp at hx; exact .inr ⟨rfl, hx.symm⟩
    · rw [List.getElem?_append_right (by omega)] at hx
      obtain ⟨k, hk⟩ : ∃ k, i - L.length = k + 1 := ⟨i - L.length - 1, by omega⟩
      rw [hk] at hx; simp at hx
  refine ⟨by simp [h.len], by simpa using hr, fun i x ys h1 h2 => ?_, fun i x g h1 h2 h3 => ?_, fun i j x y g h1 h2 h3 h4 => ?_, Nat.le_refl _, fun g hg => (hr.lt g hg).2, fun i x g h1 h2 => ?_⟩
  · rcases spl i x h1 with h1' | ⟨rfl, rfl⟩
    · have hi : i < zz.length := by rw [← h.len]; exact (List.getElem?_eq_some_iff.1 h1').1
      rw [List.getElem?_append_left hi] at h2
      exact (h.own i x ys h1' h2).growing hg fun k hk hx => h.off i x k h1' hx hk
    · rw [h.len, List.getElem?_append_right (Nat.le_refl _)] at h2
      simp at h2
      subst h2
      exact (hu.mono hB).growing hg fun k hk hx => by have := (hug k hx).1; have := h.top k hk; omega
  · rcases spl i x h1 with h1' | ⟨rfl, rfl⟩
    · rcases hv g h3 with e | e
      · exact h.off i x g h1' h2 e
      · have := h.tops i x g h1' h2; omega
    · rcases hv g h3 with e | e
      · have := hug g h2; have := h.top g e; omega
      · exact e.2 h2
  · rcases spl i x h1 with h1' | ⟨rfl, rfl⟩
    · rcases spl j y h2 with h2' | ⟨rfl, rfl⟩
      · exact h.sep i j x y g h1' h2' h3 h4
      · have := h.tops i x g h1' h3; have := hug g h4; omega
    · rcases spl j y h2 with h2' | ⟨rfl, rfl⟩
      · have := h.tops j y g h2' h4; have := hug g h3; omega
      · rfl
  · have hsz := hg.size
    rcases spl i x h1 with h1' | ⟨rfl, rfl⟩
    · have := h.tops i x g h1' h2; have := h.le; omega
    · have := hug g h2; omega
theorem SkS.push {B Lk g cap n : Nat} {wr W w7 : World} {v u : Value} {L : List Value} {zz : List (List Int)} {zs : List Int} (hn : zz.length = n) (p : PtC wr Lk v) (f : wr.frozen? ⟨Lk, 0, none⟩ = false) (o : OwnR B wr.heap.size wr v L zz) (n1 : v.ownBlock ≠ some Lk) (n2 : ∀ u ∈ L, u.ownBlock ≠ some Lk)
    (hB : B ≤ wr.heap.size) (hW : Below wr.heap.size wr W) (hu : OwnI wr.heap.size W u zs) (hown : w7.ownsRow B 38 1 (.slice (some ⟨g, 0, none⟩) (n + 1) cap) (n + 1) (L ++ [u])) (hgrow : W.grownBy w7 v.ownBlock) (hat : v.ownBlock = some g ∨ g = W.heap.size) :
    SkS B Lk (w7.setCell ⟨Lk, 0, none⟩ (.slice (some ⟨g, 0, none⟩) (n + 1) cap)) (zz ++ [zs]) := by
  subst hn
  have hs := hW.size
  have hl := p.1
  have hug : ∀ k, u.ownBlock = some k → wr.heap.size ≤ k ∧ k < W.heap.size := fun k hk => hu.out.lt k hk
  have o7 := OwnR.pushM (o.on hW) hu hB hown hgrow (fun k hk => by
    have hk' : g = k := by simpa [Value.ownBlock] using hk
    subst hk'
    rcases hat with e | e
    · exact .inl e
    · exact .inr ⟨by omega, fun e2 => by have := hug _ e2; omega⟩)
  have hgl : (Value.slice (some ⟨g, 0, none⟩) (zz.length + 1) cap).ownBlock ≠ some Lk := fun e => by
    have e' : g = Lk := by simpa [Value.ownBlock] using e
    subst e'
    rcases hat with e | e
    · exact n1 e
    · omega
  have hL : ∀ x ∈ L ++ [u], x.ownBlock ≠ some Lk := fun x hx => by
    rw [List.mem_append, List.mem_singleton] at hx
    rcases hx with hx | rfl
    · exact n2 x hx
    · exact fun e => by have := hug _ e; omega
  have pW := p.on hW
  have hb : w7.heap[Lk]? = W.heap[Lk]? := hgrow.block Lk pW.1 (fun e => n1 e.symm)
  have p7 : PtC w7 Lk v := ⟨Nat.lt_of_lt_of_le pW.1 hgrow.size, by rw [World.cell?_of_block hb]; exact pW.2⟩
  have f7 : w7.frozen? ⟨Lk, 0, none⟩ = false := by rw [World.frozen?_of_block hb]; exact (hW.frozen (p := ⟨Lk, 0, none⟩) hl).trans f
  refine ⟨_, _, PtC.set p7 _, (World.frozen?_setCell _ _ _ _).trans f7, ?_, hgl, hL⟩
  have := OwnR.setNot2 o7 (b := Lk) (o := 0) hgl (fun i x hi => hL x (List.mem_of_getElem? hi)) (.slice (some ⟨g, 0, none⟩) (zz.length + 1) cap)
  simpa using this
theorem sk_below {B K Lk : Nat} {a wr W w7 : World} {v x : Value} {n : Nat} {xs : List Value} (hB : Below K a wr) (hW : Below wr.heap.size wr W) (hgrow : W.grownBy w7 v.ownBlock) (hK : K ≤ wr.heap.size) (hKL : K ≤ Lk) (ho : wr.ownsRow B 38 1 v n xs) (hKB : K ≤ B) : Below K a (w7.setCell ⟨Lk, 0, none⟩ x) :=
  ((hB.trans (hW.mono hK)).grown hgrow (Nat.le_trans hK hW.size) (fun q hq => Nat.le_trans hKB (ho.lt q hq).1)).setCell (p := ⟨Lk, 0, none⟩) hKL _
theorem row_oneJ (w : World) (u : Value) (t : TypeId) (n : Nat) (hn : n = w.heap.size) : ∀ (j : Nat) (x : Value), [u][j]? = some x → (w.alloc (.cells #[u] t)).cell? ((⟨n, 0, none⟩ : Addr).add j) = some x := by
  subst hn; exact row_val w u t
set_option maxRecDepth 100000 in
set_option maxHeartbeats 12800000 in
theorem implSkl_is {u : Value} {zz : List (List Int)} {d : Int} {yy : List (List Int)} {c : Int} {w : World} (hu : RowsQ w u zz) (h : SklIs zz d yy c) (hTz : Tz w) :
    Calls Tryd.prog 42 #[.agg #[u], .int .i64 d] w fun e w' => RetClo yy c w e w' := by
  obtain ⟨i0, hi0, iz0, iz1, iz2⟩ := info_parts info_r
  have HU := Lib.hid hu
  obtain ⟨a, cp, rfl, hl, k1⟩ := hu
  have K1 := Lib.hid k1
  have hW1 : Below w.heap.size w ((w.alloc (.cells #[.slice a zz.length cp] 27)).alloc (.cells #[.slice none 0 0] 27)) := al1 ((Below.refl _ w).alloc (Nat.le_refl _) _) _
  have hP1 : PtC ((w.alloc (.cells #[.slice a zz.length cp] 27)).alloc (.cells #[.slice none 0 0] 27)) w.heap.size (.slice a zz.length cp) := PtC.new1 w _ _ _
  have hR1 := ResC.new (w.alloc (.cells #[.slice a zz.length cp] 27))
  rw [World.size_alloc] at hR1
  have hU1 := HU.out.on hW1
  have hT1 := hTz.on hW1
  obtain ⟨LR, hLR⟩ : ∃ LR, w.heap.size + 1 = LR := ⟨_, rfl⟩
  rw [hLR] at hR1
  have hlr : w.heap.size < LR := by omega
  have HLR := Lib.hid hLR
  clear k1 hLR hTz
  rcases h with ⟨ho, rfl, rfl⟩ | ⟨ho, hd, rfl, rfl⟩ | ⟨ho, hd, rfl, rfl⟩
  · go_enter Tryd.func42, Tryd.ntmps42
    have p1 := hP1.2
    go_wp2_with fail
    rw [HLR.out]
    generalize (w.alloc (.cells #[.slice a zz.length cp] 27)).alloc (.cells #[.slice none 0 0] 27) = W1 at hW1 hP1 hR1 hU1 hT1 p1 ⊢
    have AL := Lib.hid hW1
    have P1 := Lib.hid hP1
    have R1 := Lib.hid hR1
    have U1 := Lib.hid hU1
    have T1 := Lib.hid hT1
    clear hT1
    clear hW1 hP1 hR1 hU1
    refine (dimCode_is (d := d) U1.out.rows (.inl ⟨ho, rfl⟩) T1.out).mono ?_
    rintro e w2 ⟨rfl, hb2⟩
    obtain ⟨⟨_, r2⟩, z2⟩ := R1.out.on hb2
    have R2 := Lib.hid (R1.out.on hb2)
    have P2 := Lib.hid (P1.out.on hb2)
    have U2 := Lib.hid (U1.out.on hb2)
    have HB2 := Lib.hid (AL.out.trans (hb2.mono AL.out.size))
    have p2 := P2.out.2
    clear hb2
    go_wp2_with fail
    refine bodyPost_ret (v := .tuple #[.agg #[.slice none 0 0], .int .i64 1]) (by simp [results, Tryd.results42, go_sem, r2]) rfl ⟨_, rfl, OwnRI.nul _ _, HB2.out.setCell (p := ⟨LR, 0, none⟩) (Nat.le_of_lt hlr) _⟩
  · go_enter Tryd.func42, Tryd.ntmps42
    have p1 := hP1.2
    go_wp2_with fail
    rw [HLR.out]
    generalize (w.alloc (.cells #[.slice a zz.length cp] 27)).alloc (.cells #[.slice none 0 0] 27) = W1 at hW1 hP1 hR1 hU1 hT1 p1 ⊢
    have AL := Lib.hid hW1
    have P1 := Lib.hid hP1
    have R1 := Lib.hid hR1
    have U1 := Lib.hid hU1
    have T1 := Lib.hid hT1
    clear hT1
    clear hW1 hP1 hR1 hU1
    refine (dimCode_is (d := d) U1.out.rows (.inr (.inl ⟨ho, hd, rfl⟩)) T1.out).mono ?_
    rintro e w2 ⟨rfl, hb2⟩
    obtain ⟨⟨_, r2⟩, z2⟩ := R1.out.on hb2
    have R2 := Lib.hid (R1.out.on hb2)
    have P2 := Lib.hid (P1.out.on hb2)
    have U2 := Lib.hid (U1.out.on hb2)
    have HB2 := Lib.hid (AL.out.trans (hb2.mono AL.out.size))
    have p2 := P2.out.2
    clear hb2
    go_wp2_with fail
    refine bodyPost_ret (v := .tuple #[.agg #[.slice none 0 0], .int .i64 2]) (by simp [results, Tryd.results42, go_sem, r2]) rfl ⟨_, rfl, OwnRI.nul _ _, HB2.out.setCell (p := ⟨LR, 0, none⟩) (Nat.le_of_lt hlr) _⟩
  · have HO := Lib.hid ho
    have h48 := ho.2
    go_enter Tryd.func42, Tryd.ntmps42
    have p1 := hP1.2
    go_wp2_with fail
    rw [HLR.out]
    generalize (w.alloc (.cells #[.slice a zz.length cp] 27)).alloc (.cells #[.slice none 0 0] 27) = W1 at hW1 hP1 hR1 hU1 hT1 p1 ⊢
    have AL := Lib.hid hW1
    have P1 := Lib.hid hP1
    have R1 := Lib.hid hR1
    have U1 := Lib.hid hU1
    have T1 := Lib.hid hT1
    clear hT1
    clear hW1 hP1 hR1 hU1
    refine (dimCode_is (d := d) U1.out.rows (.inr (.inr ⟨ho, hd, rfl⟩)) T1.out).mono ?_
    rintro e w2 ⟨rfl, hb2⟩
    obtain ⟨⟨_, r2⟩, z2⟩ := R1.out.on hb2
    have R2 := Lib.hid (R1.out.on hb2)
    have P2 := Lib.hid (P1.out.on hb2)
    have U2 := Lib.hid (U1.out.on hb2)
    have HB2 := Lib.hid (AL.out.trans (hb2.mono AL.out.size))
    have p2 := P2.out.2
    clear hb2
    have hb3 : Below w2.heap.size w2 (w2.alloc (.cells #[.slice none 0 0] 27)) := (Below.refl _ w2).alloc (Nat.le_refl _) _
    have p3 := (P2.out.on hb3).2
    have hS3 : SkS (w2.heap.size + 1) w2.heap.size (w2.alloc (.cells #[.slice none 0 0] 27)) [] := by
      have r := ResC.new w2
      refine ⟨_, [], r.1, r.2, ⟨rfl, World.ownsRow_nil _ _ _ _, fun i u zs h => by simp at h, fun i u g h => by simp at h, fun i j u x g h => by simp at h, Nat.le_refl _, fun g hg => by simp [Value.ownBlock] at hg, fun i u g h => by simp at h⟩, by simp [Value.ownBlock], fun u hu => by simp at hu⟩
    have hlr2 : LR < w2.heap.size := R2.out.1.1
    obtain ⟨Lk, hLk⟩ : ∃ Lk, w2.heap.size = Lk := ⟨_, rfl⟩
    rw [hLk] at hS3
    have HLK := Lib.hid hLk
    clear hLk r2 z2 ho p2
    go_wp2_with fail
    rw [HLK.out]
    generalize w2.alloc (.cells #[.slice none 0 0] 27) = W3 at hb3 p3 hS3 ⊢
    have HB3 := Lib.hid hb3
    have HS3 := Lib.hid hS3
    clear hb3 p3 hS3
    go_loopw [20] (fun si wr => ∃ (k : Nat), k ≤ zz.length ∧ si = .int .i64 (k : Int) ∧ Hid (SkS (Lk + 1) Lk wr (sklK zz d k)) ∧ Hid (Below w2.heap.size w2 wr)) (fun i _ => zz.length - (intOf i).toNat)
    case atStart => exact ⟨0, Nat.zero_le _, rfl, by show SkS _ _ _ _; exact HS3.out, HB3⟩
    case round =>
      clear HS3 HB3
      obtain ⟨k, hk, rfl, HY, HB⟩ := hrel
      have i0' : 0 ≤ (k : Int) := by omega
      have hsz := HB.out.size
      have HBW := Lib.hid (HB2.out.trans (HB.out.mono HB2.out.size))
      by_cases hlt : k < zz.length
      · have i1 : (k : Int) < (zz.length : Int) := by omega
        obtain ⟨b, o, y, rfl, hb, c1', i1'⟩ := K1.out k hlt
        have c1 := (HBW.out.cell (p := ⟨b, o + k, none⟩) hb).trans c1'
        have I1 := Lib.hid (i1'.on HBW.out)
        obtain ⟨ta, tc, rfl⟩ := I1.out.1.slice
        have hst := HO.out.sim hlt
        have hl4 := hst.le
        have hl1 := hst.pos
        clear c1' i1' hst
        by_cases hdim : (zz[k].length : Int) ≤ d + 1
        · have l3 : (zz[k].length : Int) - 1 ≤ d := by omega
          have HN := Lib.hid (sklK_yes hlt hdim)
          obtain ⟨t, htt⟩ : ∃ t, zz[k] = t := ⟨_, rfl⟩
          rw [htt] at c1 I1 hl4 hl1 l3 HN
          clear htt hdim
          obtain ⟨sv, L, sp, sf, so, sn1, sn2⟩ := HY.out
          have hkl := sklK_len zz d k
          obtain ⟨z, hz⟩ : ∃ z, (sklK zz d k).length = z := ⟨_, rfl⟩
          have HZ := Lib.hid hz
          rw [hz] at hkl
          obtain ⟨va, vc, rfl⟩ := so.slice
          rw [hz] at sp so sn1
          have SP := Lib.hid sp
          have SF := Lib.hid sf
          have SO := Lib.hid so
          have SN1 := Lib.hid sn1
          have SN2 := Lib.hid sn2
          have c2 := sp.2
          have hlk := sp.1
          clear hz sp so sn1 sn2
          go_wp2_with (go_at_call 68; refine (dimOf_any _ _ _ _ (by omega)).mono ?_; rintro e w' ⟨rfl, rfl⟩)
          go_region_law
            (first
              | (go_simp; go_at_call 78; refine (cloneK_any (I1.out.on (by repeat (first | with_reducible exact Below.refl _ _ | with_reducible refine drew_below ?_ | with_reducible refine al1 ?_ _))) (by omega)).mono ?_; rintro e w6 ⟨v6, rfl, ho6, hb6'⟩; have hb6 : Below wr.heap.size wr w6 := (by first | exact hb6' | exact undrew hb6'); obtain ⟨xa, xc, rfl⟩ := ho6.slice; have k6 := (SP.out.on hb6).2; have k6a := (SP.out.on (al1 hb6 (.cells #[.slice xa t.length xc] 38))).2; have HX6 : Hid (OwnI wr.heap.size w6 (.slice xa t.length xc) t) := ho6; dsimp only)
              | (refine step_append_lies _ (by rfl) _ _ _ (by rfl) (Lk + 1) 38 i0 (.slice none 0 0) 1 24 Tryd.underlying22 hi0 iz0 iz1 iz2 (by rfl) (by omega) (.slice va z vc) z L (by rfl) (OwnR.rowZ SO.out HZ.out (by repeat (first | with_reducible exact hb6 | with_reducible refine drew_below ?_ | with_reducible refine al1 ?_ _))) ⟨w6.heap.size, 0, none⟩ 1 1 [.slice xa t.length xc] (by rfl) (by rfl) (by first | with_reducible exact row_oneJ _ _ _ _ (by simp) | exact row_oneJ _ _ _ _ (by simp)) (by simp [Value.oneCell']) (by omega) (by unfold maxLen; omega) (by omega) (by have := hb6.size; simp; omega) (w6.heap.size + 1) (by simp) ?_; intro gg cap w7 hown7 hgrow hat hlt7; have HGB := Lib.hid (sk_cell hgrow SP.out SF.out SN1.out (by repeat (first | with_reducible exact hb6 | with_reducible refine drew_below ?_ | with_reducible refine al1 ?_ _))); obtain ⟨c7, f7⟩ := HGB.out))
          all_goals
            have HS7 := Lib.hid (SkS.push HZ.out SP.out SF.out SO.out SN1.out SN2.out (by omega) (by repeat (first | with_reducible exact hb6 | with_reducible refine drew_below ?_ | with_reducible refine al1 ?_ _)) (HX6.out.on (by repeat (first | with_reducible exact Below.refl _ _ | with_reducible refine drew_below ?_ | with_reducible refine al1 ?_ _))) hown7 hgrow (hat.imp_right fun e => by rw [e]; simp))
            have HB7 := Lib.hid (sk_below (Lk := Lk) (x := .slice (some ⟨gg, 0, none⟩) (z + 1) cap) HB.out (by repeat (first | with_reducible exact hb6 | with_reducible refine drew_below ?_ | with_reducible refine al1 ?_ _)) hgrow hsz (by have := HLK.out; omega) SO.out.row (by have := HLK.out; omega))
            clear hown7 hgrow hat c7 f7 HGB k6 k6a
            go_wp2_with fail
            go_roundw
            case rel =>
              refine ⟨k + 1, by omega, by go_num, ?_, ?_⟩
              · show SkS _ _ _ _
                rw [HN.out]
                first | with_reducible exact HS7.out | exact HS7.out
              · first | with_reducible exact HB7 | (show Below _ _ _; exact drew_below HB7.out)
            case measure => simp [intOf]; omega
        · have l3 : ¬ (zz[k].length : Int) - 1 ≤ d := by omega
          have HN := Lib.hid (sklK_no hlt hdim)
          generalize zz[k].length = n at c1 l3 hl4
          clear hdim I1 hl1
          go_wp2_with (go_at_call 68; refine (dimOf_any _ _ _ _ (by omega)).mono ?_; rintro e w' ⟨rfl, rfl⟩)
          go_roundw
          case rel => exact ⟨k + 1, by omega, by go_num, by rw [HN.out]; exact HY, by first | exact HB | (show Below _ _ _; exact drew_below HB.out)⟩
          case measure => simp [intOf]; omega
      · obtain rfl : k = zz.length := by omega
        obtain ⟨sv, L, sp, sf, so, sn1, sn2⟩ := HY.out
        obtain ⟨va, vc, rfl⟩ := so.slice
        have SO := Lib.hid so
        have c2 := sp.2
        obtain ⟨⟨_, r2⟩, z2⟩ := R2.out.on HB.out
        clear sp so sn1 sn2 sf
        go_wp2_with fail
        refine bodyPost_ret (v := .tuple #[.agg #[.slice va (sklK zz d zz.length).length vc], .int .i64 0]) (by simp [results, Tryd.results42, go_sem, r2]) rfl ⟨_, rfl, OwnRI.mono (OwnRI.setOut (B := Lk + 1) ⟨L, SO.out⟩ (by have := HLK.out; omega) _) (by have := HLK.out; have := HB2.out.size; omega), HBW.out.setCell (p := ⟨LR, 0, none⟩) (Nat.le_of_lt hlr) _⟩
end Go.Proofs.YtljmfpifhbfdcaaDoor
