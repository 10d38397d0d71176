/-
  The library's choice of a pivot, with a comparison that may make memory.
-/
import Derived.Test.YtibdcejglkhcfaaGreatDoorSrtD
import Derived.Sort.LotD4
namespace Go.Proofs.YtibdcejglkhcfaaGreatDoor
open Go.RowKit Go.Sort Go.Shelf Go.Lib
set_option linter.unusedVariables false
section
variable {α : Type} [Inhabited α] {enc : α → Value} {lt : α → α → Bool} {g : Nat} {lb : Array Value} {sf : Nat} {sb : Array Value} {blk off size : Nat} {w0 : World}
/-- Whatever lies outside two blocks is as before. -/
structure KC (blk c : Nat) (w w' : World) : Prop where
  le : w.heap.size ≤ w'.heap.size
  cell : ∀ b o, b ≠ blk → b ≠ c → b < w.heap.size → w'.cell? ⟨b, o, none⟩ = w.cell? ⟨b, o, none⟩
  frz : ∀ b o, b ≠ blk → b ≠ c → b < w.heap.size → w'.frozen? ⟨b, o, none⟩ = w.frozen? ⟨b, o, none⟩
theorem KC.refl (blk c : Nat) (w : World) : KC blk c w w := ⟨Nat.le_refl _, fun _ _ _ _ _ => rfl, fun _ _ _ _ _ => rfl⟩
theorem KC.trans {blk c : Nat} {x y z : World} (h : KC blk c x y) (g : KC blk c y z) : KC blk c x z :=
  ⟨Nat.le_trans h.le g.le, fun i o hi hc hb => (g.cell i o hi hc (Nat.lt_of_lt_of_le hb h.le)).trans (h.cell i o hi hc hb), fun i o hi hc hb => (g.frz i o hi hc (Nat.lt_of_lt_of_le hb h.le)).trans (h.frz i o hi hc hb)⟩
theorem KB.kc {blk : Nat} {x y : World} (h : KB blk x y) (c : Nat) : KC blk c x y := ⟨h.le, fun i o hi _ hb => h.cell i o hi hb, fun i o hi _ hb => h.frz i o hi hb⟩
theorem KC.kb {blk c : Nat} {x y : World} (h : KC blk c x y) (hc : x.heap.size ≤ c) : KB blk x y := ⟨h.le, fun i o hi hb => h.cell i o hi (by omega) hb, fun i o hi hb => h.frz i o hi (by omega) hb⟩
theorem KC.set {blk c : Nat} {x y : World} (h : KC blk c x y) (o : Nat) (v : Value) : KC blk c x (y.setCell ⟨c, o, none⟩ v) :=
  ⟨by simpa using h.le, fun i o' hi hc hb => (World.cell?_setCell_other _ _ _ _ (by intro e; injection e with e1 _; first | exact hc e1 | exact hc e1.symm)).trans (h.cell i o' hi hc hb),
   fun i o' hi hc hb => by rw [World.frozen?_setCell]; exact h.frz i o' hi hc hb⟩
theorem Bx2.onC {B blk c : Nat} {x y : Value} {w w' : World} (h : Bx2 B x y w) (hne : B ≠ blk) (hc : B ≠ c) (k : KC blk c w w') : Bx2 B x y w' :=
  ⟨Nat.lt_of_lt_of_le h.lt k.le, (k.cell B 0 hne hc h.lt).trans h.c0, (k.cell B 1 hne hc h.lt).trans h.c1⟩
/-- A counter in a block of its own. -/
structure Cnt (c : Nat) (s : Nat) (w : World) : Prop where
  lt : c < w.heap.size
  val : w.cell? ⟨c, 0, none⟩ = some (.int .i64 (s : Int))
  frz : w.frozen? ⟨c, 0, none⟩ = false
theorem Cnt.on {c s blk : Nat} {w w' : World} (h : Cnt c s w) (hne : c ≠ blk) (k : KB blk w w') : Cnt c s w' :=
  ⟨Nat.lt_of_lt_of_le h.lt k.le, (k.cell c 0 hne h.lt).trans h.val, (k.frz c 0 hne h.lt).trans h.frz⟩
theorem Cnt.new (w : World) (t : TypeId) : Cnt w.heap.size 0 (w.alloc (.cells #[.int .i64 0] t)) := by
  refine ⟨by simp, ?_, ?_⟩
  · rw [World.cell?_alloc_at _ _ _ _ rfl]; rfl
  · exact World.frozen?_alloc_new w _ _ _
/-- How a function ends that counts. -/
def RetK (v : Value) (enc : α → Value) (w0 : World) (blk off : Nat) (d : Array α) (c s : Nat) (w : World) (e : Ending) (w' : World) : Prop := e = .returned v ∧ SW enc w0 blk off d w' ∧ KC blk c w w' ∧ Cnt c s w'
set_option maxRecDepth 1000000 in
set_option maxHeartbeats 8000000 in
theorem order2_any (X : Cx enc lt g lb sf sb blk off size w0) {d : Array α} {w : World} (S : SW enc w0 blk off d w) (hs : d.size = size) (a b : Nat) (ha : a < size) (hb : b < size) {c s x y q : Nat} (hc : Cnt c s w) (hcw : w0.heap.size ≤ c) (hcs : s ≤ 100) (hR : Sort.order2 lt d a b s = (x, y, q)) :
    Calls Tryz.prog 207 #[.agg #[.func (.func g) #[] lb, .func (.func sf) #[] sb], .int .i64 (a : Int), .int .i64 (b : Int), .pointer (some ⟨c, 0, none⟩)] w fun e w' => RetK (.tuple #[.int .i64 (x : Int), .int .i64 (y : Int)]) enc w0 blk off d c q w e w' := by
  have hcb : c ≠ blk := by have := X.hb; omega
  have HR := Lib.hid hR
  clear hR
  have ne : w.heap.size ≠ blk := by have := X.blt S; omega
  have eg := X.eg
  have sz := X.sz
  have HX := Lib.hid X
  have S1 : SW enc w0 blk off d (w.alloc (.cells #[.func (.func g) #[] lb, .func (.func sf) #[] sb] 181)) := S.alloc _
  have B1 := Bx2.new w (.func (.func g) #[] lb) (.func (.func sf) #[] sb) 181
  have K1 : KB blk w (w.alloc (.cells #[.func (.func g) #[] lb, .func (.func sf) #[] sb] 181)) := (KB.refl _ _).alloc _
  have HS := Lib.hid S1
  have HB := Lib.hid B1
  have HK := Lib.hid K1
  have HD := Lib.hid hs
  clear X S S1 B1 K1 hs
  have C1 : Cnt c s (w.alloc (.cells #[.func (.func g) #[] lb, .func (.func sf) #[] sb] 181)) := hc.on (by omega) ((KB.refl blk w).alloc _)
  have hcl := hc.lt
  have HC := Lib.hid C1
  clear hc C1
  go_enter Tryz.func207, Tryz.ntmps207
  obtain ⟨_, c0, c1⟩ := HB.out
  obtain ⟨T, hT⟩ : ∃ T, lt d[b]! d[a]! = T := ⟨_, rfl⟩
  have HT := Lib.hid hT
  cases T with
  | true =>
    have hr : (b, a, s + 1) = (x, y, q) := by rw [← HR.out]; unfold Sort.order2; rw [HT.out, if_pos rfl]
    simp only [Prod.mk.injEq] at hr
    obtain ⟨rfl, rfl, rfl⟩ := hr
    have hl2 := HX.out.ls HS.out HD.out (i := b) (j := a) (x := (b : Int)) (y := (a : Int)) rfl rfl hb ha hT
    clear hT
    go_wp2_with fail
    refine hl2.mono ?_
    rintro e w2 ⟨rfl, S2, K2⟩
    have C2 := HC.out.on hcb K2
    have HS2 := Lib.hid S2
    have HK2 := Lib.hid K2
    have HC2 := Lib.hid C2
    obtain ⟨l2, v2, f2⟩ := C2
    clear S2 K2 c0 c1 hl2
    go_wp2_with fail
    go_ret2
    refine ⟨rfl, HS2.out.setCell_new c 0 _ hcw, ((HK.out.trans HK2.out).kc c).set 0 _, ?_, ?_, ?_⟩
    · simpa using HC2.out.lt
    · exact World.cell?_setCell_same' _ _ _ (by rw [HC2.out.val]; rfl)
    · rw [World.frozen?_setCell]; exact HC2.out.frz
  | false =>
    have hr : (a, b, s) = (x, y, q) := by rw [← HR.out]; unfold Sort.order2; rw [HT.out]; rfl
    simp only [Prod.mk.injEq] at hr
    obtain ⟨rfl, rfl, rfl⟩ := hr
    have hl2 := HX.out.ls HS.out HD.out (i := b) (j := a) (x := (b : Int)) (y := (a : Int)) rfl rfl hb ha hT
    clear hT
    go_wp2_with fail
    refine hl2.mono ?_
    rintro e w2 ⟨rfl, S2, K2⟩
    have HS2 := Lib.hid S2
    have HK2 := Lib.hid K2
    clear S2 K2 c0 c1 hl2
    go_wp2_with fail
    go_ret2
    exact ⟨rfl, HS2.out, (HK.out.trans HK2.out).kc c, HC.out.on hcb HK2.out⟩
theorem order2_bd {lt : α → α → Bool} {d : Array α} {a b s x y q : Nat} (h : Sort.order2 lt d a b s = (x, y, q)) : (x = a ∧ y = b ∨ x = b ∧ y = a) ∧ q ≤ s + 1 := by
  unfold Sort.order2 at h
  split at h <;> (simp only [Prod.mk.injEq] at h; omega)
set_option maxRecDepth 1000000 in
set_option maxHeartbeats 8000000 in
theorem median_any (X : Cx enc lt g lb sf sb blk off size w0) {d : Array α} {w : World} (S : SW enc w0 blk off d w) (hs : d.size = size) (i j k : Nat) (hi : i < size) (hj : j < size) (hk : k < size) {c s m q : Nat} (hc : Cnt c s w) (hcw : w0.heap.size ≤ c) (hcs : s ≤ 90) (hR : Sort.median lt d i j k s = (m, q)) :
    Calls Tryz.prog 203 #[.agg #[.func (.func g) #[] lb, .func (.func sf) #[] sb], .int .i64 (i : Int), .int .i64 (j : Int), .int .i64 (k : Int), .pointer (some ⟨c, 0, none⟩)] w fun e w' => RetK (.int .i64 (m : Int)) enc w0 blk off d c q w e w' := by
  have hcb : c ≠ blk := by have := X.hb; omega
  obtain ⟨x1, y1, s1, h1⟩ : ∃ x y q, Sort.order2 lt d i j s = (x, y, q) := ⟨_, _, _, rfl⟩
  obtain ⟨x2, y2, s2, h2⟩ : ∃ x y q, Sort.order2 lt d y1 k s1 = (x, y, q) := ⟨_, _, _, rfl⟩
  obtain ⟨x3, y3, s3, h3⟩ : ∃ x y q, Sort.order2 lt d x1 x2 s2 = (x, y, q) := ⟨_, _, _, rfl⟩
  have b1 := order2_bd h1
  have b2 := order2_bd h2
  have b3 := order2_bd h3
  have hr : (y3, s3) = (m, q) := by rw [← hR]; unfold Sort.median; simp only [h1, h2, h3]
  simp only [Prod.mk.injEq] at hr
  obtain ⟨rfl, rfl⟩ := hr
  have l1 : x1 < size ∧ y1 < size := by omega
  have l2 : x2 < size ∧ y2 < size := by omega
  have t1 : s1 ≤ 91 ∧ s2 ≤ 92 := by omega
  have H1 := Lib.hid h1
  have H2 := Lib.hid h2
  have H3 := Lib.hid h3
  have nec : w.heap.size ≠ c := by have := hc.lt; omega
  clear hR h1 h2 h3 b1 b2 b3
  have ne : w.heap.size ≠ blk := by have := X.blt S; omega
  have eg := X.eg
  have sz := X.sz
  have HX := Lib.hid X
  have S1 : SW enc w0 blk off d (w.alloc (.cells #[.func (.func g) #[] lb, .func (.func sf) #[] sb] 181)) := S.alloc _
  have B1 := Bx2.new w (.func (.func g) #[] lb) (.func (.func sf) #[] sb) 181
  have K1 : KB blk w (w.alloc (.cells #[.func (.func g) #[] lb, .func (.func sf) #[] sb] 181)) := (KB.refl _ _).alloc _
  have HS := Lib.hid S1
  have HB := Lib.hid B1
  have HK := Lib.hid K1
  have HD := Lib.hid hs
  clear X S S1 B1 K1 hs
  have C1 : Cnt c s (w.alloc (.cells #[.func (.func g) #[] lb, .func (.func sf) #[] sb] 181)) := hc.on (by omega) ((KB.refl blk w).alloc _)
  have hcl := hc.lt
  have HC := Lib.hid C1
  clear hc C1
  go_enter Tryz.func203, Tryz.ntmps203
  have HK0 : Hid (KC blk c (w.alloc (.cells #[.func (.func g) #[] lb, .func (.func sf) #[] sb] 181)) (w.alloc (.cells #[.func (.func g) #[] lb, .func (.func sf) #[] sb] 181))) := KC.refl _ _ _
  obtain ⟨_, c0, c1⟩ := HB.out.onC ne nec HK0.out
  go_wp2_with fail
  refine (order2_any HX.out HS.out HD.out i j (by omega) (by omega) HC.out hcw (by omega) H1.out).mono ?_
  rintro e w2 ⟨rfl, S2, K2, C2⟩
  have HS2 := Lib.hid S2
  have HK2 := Lib.hid (HK0.out.trans K2)
  have HC2 := Lib.hid C2
  clear S2 K2 C2 c0 c1

  obtain ⟨_, c0, c1⟩ := HB.out.onC ne nec HK2.out
  go_wp2_with fail
  refine (order2_any HX.out HS2.out HD.out y1 k (by omega) (by omega) HC2.out hcw (by omega) H2.out).mono ?_
  rintro e w3 ⟨rfl, S2, K2, C2⟩
  have HS3 := Lib.hid S2
  have HK3 := Lib.hid (HK2.out.trans K2)
  have HC3 := Lib.hid C2
  clear S2 K2 C2 c0 c1

  obtain ⟨_, c0, c1⟩ := HB.out.onC ne nec HK3.out
  go_wp2_with fail
  refine (order2_any HX.out HS3.out HD.out x1 x2 (by omega) (by omega) HC3.out hcw (by omega) H3.out).mono ?_
  rintro e w4 ⟨rfl, S2, K2, C2⟩
  have HS4 := Lib.hid S2
  have HK4 := Lib.hid (HK3.out.trans K2)
  have HC4 := Lib.hid C2
  clear S2 K2 C2 c0 c1

  go_wp2_with fail
  go_ret
  exact ⟨rfl, HS4.out, (HK.out.kc c).trans HK4.out, HC4.out⟩
theorem median_bd {lt : α → α → Bool} {d : Array α} {i j k s m q : Nat} (h : Sort.median lt d i j k s = (m, q)) : (m = i ∨ m = j ∨ m = k) ∧ q ≤ s + 3 := by
  obtain ⟨x1, y1, s1, h1⟩ : ∃ x y q, Sort.order2 lt d i j s = (x, y, q) := ⟨_, _, _, rfl⟩
  obtain ⟨x2, y2, s2, h2⟩ : ∃ x y q, Sort.order2 lt d y1 k s1 = (x, y, q) := ⟨_, _, _, rfl⟩
  obtain ⟨x3, y3, s3, h3⟩ : ∃ x y q, Sort.order2 lt d x1 x2 s2 = (x, y, q) := ⟨_, _, _, rfl⟩
  have b1 := order2_bd h1
  have b2 := order2_bd h2
  have b3 := order2_bd h3
  have hr : (y3, s3) = (m, q) := by rw [← h]; unfold Sort.median; simp only [h1, h2, h3]
  simp only [Prod.mk.injEq] at hr
  omega
set_option maxRecDepth 1000000 in
set_option maxHeartbeats 8000000 in
theorem adj_any (X : Cx enc lt g lb sf sb blk off size w0) {d : Array α} {w : World} (S : SW enc w0 blk off d w) (hs : d.size = size) (i : Nat) (hi : 1 ≤ i) (hj : i + 1 < size) {c s m q : Nat} (hc : Cnt c s w) (hcw : w0.heap.size ≤ c) (hcs : s ≤ 90) (hR : Sort.medianAdjacent lt d i s = (m, q)) :
    Calls Tryz.prog 202 #[.agg #[.func (.func g) #[] lb, .func (.func sf) #[] sb], .int .i64 (i : Int), .pointer (some ⟨c, 0, none⟩)] w fun e w' => RetK (.int .i64 (m : Int)) enc w0 blk off d c q w e w' := by
  have hcb : c ≠ blk := by have := X.hb; omega
  have H1 : Hid (Sort.median lt d (i - 1) i (i + 1) s = (m, q)) := hR
  clear hR
  have ne : w.heap.size ≠ blk := by have := X.blt S; omega
  have eg := X.eg
  have sz := X.sz
  have HX := Lib.hid X
  have S1 : SW enc w0 blk off d (w.alloc (.cells #[.func (.func g) #[] lb, .func (.func sf) #[] sb] 181)) := S.alloc _
  have B1 := Bx2.new w (.func (.func g) #[] lb) (.func (.func sf) #[] sb) 181
  have K1 : KB blk w (w.alloc (.cells #[.func (.func g) #[] lb, .func (.func sf) #[] sb] 181)) := (KB.refl _ _).alloc _
  have HS := Lib.hid S1
  have HB := Lib.hid B1
  have HK := Lib.hid K1
  have HD := Lib.hid hs
  clear X S S1 B1 K1 hs
  have C1 : Cnt c s (w.alloc (.cells #[.func (.func g) #[] lb, .func (.func sf) #[] sb] 181)) := hc.on (by omega) ((KB.refl blk w).alloc _)
  have hcl := hc.lt
  have HC := Lib.hid C1
  clear hc C1
  go_enter Tryz.func202, Tryz.ntmps202
  obtain ⟨_, c0, c1⟩ := HB.out
  have hm := median_any HX.out HS.out HD.out (i - 1) i (i + 1) (by omega) (by omega) (by omega) HC.out hcw hcs H1.out
  rw [show ((i - 1 : Nat) : Int) = (i : Int) - 1 by omega, show ((i + 1 : Nat) : Int) = (i : Int) + 1 by omega] at hm
  go_wp2_with fail
  refine hm.mono ?_
  rintro e w2 ⟨rfl, S2, K2, C2⟩
  have HS2 := Lib.hid S2
  have HK2 := Lib.hid K2
  have HC2 := Lib.hid C2
  clear S2 K2 C2 c0 c1 hm
  go_wp2_with fail
  go_ret
  exact ⟨rfl, HS2.out, (HK.out.kc c).trans HK2.out, HC2.out⟩
end
end Go.Proofs.YtibdcejglkhcfaaGreatDoor
