/-
  The model's decimal text: for every int64 it is the library's numeral; below the heap's end nothing turns.
-/
import Derived.Test.YtjgajnhefhgpkaaDoorProg
import Derived.Test.YtjgajnhefhgpkaaDoorDecMath
import Derived.WalkKit
import Derived.ProofKit
import Derived.Lib.Hide
import Derived.Laws.IdiomStrings
import Derived.Laws.OwnMore
namespace Go.Proofs.YtjgajnhefhgpkaaDoor
open Go.RowKit
set_option linter.unusedVariables false

/-- Bytes as cells. -/
def bv (l : List UInt8) : List Value := l.map fun b => .int .u8 (b.toNat : Int)
theorem bv_len (l : List UInt8) : (bv l).length = l.length := by simp [bv]
theorem bv_snoc (l : List UInt8) (b : UInt8) : bv (l ++ [b]) = bv l ++ [.int .u8 (b.toNat : Int)] := by simp [bv]
theorem bv_at (l : List UInt8) (j : Nat) (h : j < l.length) : (bv l)[j]? = some (.int .u8 (l[j].toNat : Int)) := by
  simp [bv, List.getElem?_eq_getElem h]
theorem info5 : (Tryd.prog.info? 5).map (fun i => (i.zero, i.size, i.bytes)) = some (some (.int .u8 0), 1, 1) := by kernel_rfl
theorem ret_val {a b : Value} (h : a = b) : Ending.returned a = .returned b := by rw [h]

/-- A slice of bytes in a row of the call's own, from block B on. -/
def Own8 (B : Nat) (w : World) (v : Value) (l : List UInt8) : Prop := w.ownsRow B 5 1 v l.length (bv l)
theorem Own8.out {B : Nat} {w : World} {v : Value} {l : List UInt8} (h : Own8 B w v l) : w.ownsRow B 5 1 v l.length (bv l) := h
theorem Own8.push {B : Nat} {w : World} {v : Value} {l : List UInt8} {b : UInt8} {x : Value} (hx : x = .int .u8 (b.toNat : Int)) (h : w.ownsRow B 5 1 v (l.length + 1) (bv l ++ [x])) : Own8 B w v (l ++ [b]) := by
  unfold Own8; rw [List.length_append, bv_snoc, ← hx]; exact h
theorem Own8.made (w : World) (B : Nat) (hB : B ≤ w.heap.size) : Own8 B (w.alloc (.cells #[] 5)) (.slice (some ⟨w.heap.size, 0, none⟩) 0 0) [] :=
  World.ownsRow_made w #[] 0 hB (by unfold maxLen; omega) rfl
/-- A byte pushed: the frame. -/
theorem below_push {B0 B : Nat} {w0 w w1 : World} {v : Value} {l : List UInt8} {o : Obj} (hb : Below B0 w0 w) (hle : B0 ≤ B) (hB : B ≤ w.heap.size) (h : Own8 B w v l) (hg : (w.alloc o).grownBy w1 v.ownBlock) : Below B0 w0 w1 :=
  (hb.alloc (by omega) o).grown hg (by simp; omega) (fun k hk => by have := (h.out.lt k hk).1; omega)
theorem size_push {w w1 : World} {v : Value} {o : Obj} (hg : (w.alloc o).grownBy w1 v.ownBlock) : w.heap.size ≤ w1.heap.size := by
  have := hg.size; simp at this; omega

theorem one_cell (w : World) (x : Value) (t : TypeId) : ∀ j u, [x][j]? = some u → (w.alloc (.cells #[x] t)).cell? ((⟨w.heap.size, 0, none⟩ : Addr).add j) = some u := by
  intro j u hj
  cases j with
  | zero => simp at hj; subst hj; simp [Addr.add]
  | succ j => simp at hj
theorem add_at (g i : Nat) : (⟨g, 0, none⟩ : Addr).add i = ⟨g, i, none⟩ := by
  unfold Addr.add; split <;> simp_all
/-- A slice that is not nil leads to its block; its cells are the bytes. -/
theorem Own8.form {B : Nat} {w : World} {v : Value} {l : List UInt8} (h : Own8 B w v l) (hv : v ≠ .slice none 0 0) :
    ∃ g cap, v = .slice (some ⟨g, 0, none⟩) l.length cap ∧ B ≤ g ∧ g < w.heap.size ∧ ∀ j (hj : j < l.length), w.cell? ⟨g, j, none⟩ = some (.int .u8 (l[j].toNat : Int)) := by
  have h' := h
  obtain ⟨hx, ⟨rfl, _⟩ | ⟨g, cap, cur, rfl, hg, hcur, _⟩⟩ := h
  · exact absurd rfl hv
  · have hl := h'.out.lt g rfl
    refine ⟨g, cap, rfl, hl.1, hl.2, fun j hj => ?_⟩
    rw [h'.out.cellAt j (by omega), bv_at l j hj]
theorem drop_snoc (l : List UInt8) (j : Nat) (h : j < l.length) : (l.drop (j + 1)).reverse ++ [l[j]] = (l.drop j).reverse := by
  rw [List.drop_eq_getElem_cons h, List.reverse_cons]

set_option maxHeartbeats 800000 in
set_option maxRecDepth 100000 in
theorem l01Dec_any (n : Int) (w : World) (h0 : -9223372036854775808 ≤ n) (h1 : n ≤ 9223372036854775807) (hn : n ≠ 0) :
    Calls Tryd.prog 47 #[.int .i64 n] w fun e w' => e = .returned (.string ⟨(Lib.itoa n).toArray⟩) ∧ Below w.heap.size w w' := by
  rw [← revN_itoa n hn]
  have H20 := Lib.hid (revD_len20 n h0 h1)
  obtain ⟨i0, hi, hz0, hz1, hz2⟩ := info_parts info5
  have hn0 : (n == 0) = false := by simpa using hn
  go_enter Tryd.func47, Tryd.ntmps47
  go_wp2
  go_loopw [3, 4] (fun v mv wr => ∃ (m : Int) (ds : List UInt8), -9223372036854775808 ≤ m ∧ m ≤ 9223372036854775807 ∧ Hid (ds ++ revD m.natAbs = revD n.natAbs) ∧ mv = .int .i64 m ∧ Own8 w.heap.size wr v ds ∧ Below w.heap.size w wr ∧ w.heap.size < wr.heap.size ∧ v ≠ .slice none 0 0) (fun _ mv _ => (intOf mv).natAbs)
  case atStart => exact ⟨n, [], h0, h1, rfl, rfl, Own8.made w _ (Nat.le_refl _), (Below.refl _ _).alloc (Nat.le_refl _) _, by simp, by simp⟩
  case round =>
    obtain ⟨m, ds, m0, m1, hd, rfl, hown, hb, hsz, hv⟩ := hrel
    by_cases hm : m = 0
    · have hdd : ds = revD n.natAbs := by have := hd.out; rw [hm] at this; simpa [revD_zero] using this
      have hdl : ds.length ≤ 20 := by rw [hdd]; exact H20.out
      subst hm
      by_cases hneg : n < 0
      · have hrv : revN n = ds ++ [45] := by unfold revN; rw [if_pos hneg, hdd]
        have HRV := Lib.hid hrv
        clear hdd hd hrv
        go_wp2_with (at_builtin; refine wpList_append_own _ rfl _ _ 22 rfl w.heap.size 5 i0 (.int .u8 0) 1 1 Tryd.underlying22 hi hz0 hz1 hz2 rfl (by decide) _ _ _ rfl (hown.out.alloc _) ⟨wr.heap.size, 0, none⟩ 1 1 [.int .u8 45] rfl rfl ?ah1 ?ah2 ?ah3 ?ah4 ?ah5 ?_)
        case ah1 => exact one_cell _ _ _
        case ah2 => first | rfl | (intro u hu; simp at hu; subst hu; rfl)
        case ah3 => unfold maxLen; omega
        case ah4 => omega
        case ah5 => first | omega | (simp; omega)
        intro v1 w1 hown1 hgrow hv1
        have hO' := Own8.push (b := 45) rfl hown1
        have hB1 := below_push hb (Nat.le_refl _) (Nat.le_of_lt hsz) hown hgrow
        have hS1 : w.heap.size < w1.heap.size := by have := size_push hgrow; omega
        have hV1 : v1 ≠ .slice none 0 0 := by intro e; exact absurd e hv1
        obtain ⟨l, hl⟩ : ∃ l, ds ++ [45] = l := ⟨_, rfl⟩
        have hll : l.length ≤ 21 := by rw [← hl]; simp; omega
        have HL : Hid (revN n = l) := by rw [← hl]; exact HRV
        have hO : Own8 w.heap.size w1 v1 l := by rw [← hl]; exact hO'
        clear hown1 hgrow hv1 hO' hl hown hb hsz hv hdl
        obtain ⟨g, cap, hve, hgB, hgs, hcell⟩ := hO.form hV1
        have hL1 : l.length ≤ 9223372036854775807 := by omega
        have HC := Lib.hid hcell
        have HO := Lib.hid hO
        clear hcell hO
        rw [hve]
        clear hve hV1
        go_wp2
        go_loopw [6, 7] (fun u iv wr => ∃ (j : Nat) (ob : List UInt8), j ≤ l.length ∧ iv = .int .i64 ((j : Int) - 1) ∧ Hid (ob = (l.drop j).reverse) ∧ Own8 w1.heap.size wr u ob ∧ Below w1.heap.size w1 wr ∧ w1.heap.size < wr.heap.size ∧ u ≠ .slice none 0 0) (fun _ iv _ => (intOf iv + 1).toNat)
        case atStart => exact ⟨l.length, [], Nat.le_refl _, rfl, (by rw [List.drop_length]; rfl : ([] : List UInt8) = (l.drop l.length).reverse), Own8.made w1 _ (Nat.le_refl _), (Below.refl _ _).alloc (Nat.le_refl _) _, by simp, by simp⟩
        case round =>
          obtain ⟨j, ob, hj, rfl, hob, hown, hb, hsz, hv⟩ := hrel
          cases j with
          | zero =>
            have e := hob.out
            rw [List.drop_zero] at e
            subst e
            clear hob
            obtain ⟨g2, cap2, hu2, _, _, hcell2⟩ := hown.form hv
            have hconv := run_convert_bytes_back (P := Tryd.prog) wr 22 9 5 ⟨g2, 0, none⟩ cap2 l.reverse Tryd.underlying22 Tryd.underlying5 Tryd.underlying9 (fun i hi => by rw [add_at]; exact hcell2 i hi)
            have HB2 : Hid (Below w.heap.size w wr) := hB1.trans (hb.mono (Nat.le_of_lt hS1))
            rw [List.length_reverse] at hu2 hconv
            rw [hu2]
            clear hown hb hv hcell2 hu2
            go_wp2
            go_ret
            exact ⟨by show Ending.returned (Value.string ⟨l.reverse.toArray⟩) = _; rw [HL.out], HB2.out⟩
          | succ j =>
            have hjn : j < l.length := by omega
            obtain ⟨b, hbe⟩ : ∃ b : UInt8, l[j] = b := ⟨_, rfl⟩
            have hcj : wr.cell? ⟨g, j, none⟩ = some (.int .u8 (b.toNat : Int)) := by rw [hb.cell (p := ⟨g, j, none⟩) hgs, ← hbe]; exact HC.out j hjn
            have HDR : Hid (ob ++ [b] = (l.drop j).reverse) := by rw [hob.out, ← hbe]; exact drop_snoc l j hjn
            clear hbe
            obtain ⟨x, hx⟩ : ∃ x : Int, (b.toNat : Int) = x := ⟨_, rfl⟩
            rw [hx] at hcj
            have hx0 : 0 ≤ x := by omega
            have hx1 : x ≤ 255 := by have := b.toNat_lt; omega
            have HX := Lib.hid hx
            clear hx
            have hlen2 : ob.length + 1 ≤ 22 := by rw [hob.out]; simp; omega
            have hjl : (j : Int) < l.length := by omega
            go_wp2_with (at_builtin; refine wpList_append_own _ rfl _ _ 22 rfl w1.heap.size 5 i0 (.int .u8 0) 1 1 Tryd.underlying22 hi hz0 hz1 hz2 rfl (by decide) _ _ _ rfl (hown.out.alloc _) ⟨wr.heap.size, 0, none⟩ 1 1 [.int .u8 x] rfl rfl ?bh1 ?bh2 ?bh3 ?bh4 ?bh5 ?_)
            case bh1 => exact one_cell _ _ _
            case bh2 => first | rfl | (intro u hu; simp at hu; subst hu; rfl)
            case bh3 => unfold maxLen; omega
            case bh4 => omega
            case bh5 => first | omega | (simp; omega)
            intro v2 w2 hown2 hgrow hv2
            have hO2 := Own8.push (b := b) (x := .int .u8 x) (by rw [HX.out]) hown2
            have hB2 := below_push hb (Nat.le_refl _) (Nat.le_of_lt hsz) hown hgrow
            have hS2 : w1.heap.size < w2.heap.size := by have := size_push hgrow; omega
            have hV2 : v2 ≠ .slice none 0 0 := by intro e; exact absurd e hv2
            clear hown2 hgrow hv2 hcj hob
            go_wp2
            go_roundw
            case rel => exact ⟨j, _, by omega, rfl, HDR, hO2, hB2, hS2, hV2⟩
            case measure => simp [intOf]
      · have hrv : revN n = ds := by unfold revN; rw [if_neg hneg, hdd]
        have HL := Lib.hid hrv
        clear hdd hd hrv
        obtain ⟨w1, rfl⟩ : ∃ w1 : World, w1 = wr := ⟨_, rfl⟩
        obtain ⟨l, rfl⟩ : ∃ l : List UInt8, l = ds := ⟨_, rfl⟩
        have hll : l.length ≤ 21 := by omega
        have hO := hown
        have hB1 := hb
        have hS1 := hsz
        have hV1 := hv
        clear hown hb hsz hv hdl
        obtain ⟨g, cap, hve, hgB, hgs, hcell⟩ := hO.form hV1
        have hL1 : l.length ≤ 9223372036854775807 := by omega
        have HC := Lib.hid hcell
        have HO := Lib.hid hO
        clear hcell hO
        rw [hve]
        clear hve hV1
        go_wp2
        go_loopw [6, 7] (fun u iv wr => ∃ (j : Nat) (ob : List UInt8), j ≤ l.length ∧ iv = .int .i64 ((j : Int) - 1) ∧ Hid (ob = (l.drop j).reverse) ∧ Own8 w1.heap.size wr u ob ∧ Below w1.heap.size w1 wr ∧ w1.heap.size < wr.heap.size ∧ u ≠ .slice none 0 0) (fun _ iv _ => (intOf iv + 1).toNat)
        case atStart => exact ⟨l.length, [], Nat.le_refl _, rfl, (by rw [List.drop_length]; rfl : ([] : List UInt8) = (l.drop l.length).reverse), Own8.made w1 _ (Nat.le_refl _), (Below.refl _ _).alloc (Nat.le_refl _) _, by simp, by simp⟩
        case round =>
          obtain ⟨j, ob, hj, rfl, hob, hown, hb, hsz, hv⟩ := hrel
          cases j with
          | zero =>
            have e := hob.out
            rw [List.drop_zero] at e
            subst e
            clear hob
            obtain ⟨g2, cap2, hu2, _, _, hcell2⟩ := hown.form hv
            have hconv := run_convert_bytes_back (P := Tryd.prog) wr 22 9 5 ⟨g2, 0, none⟩ cap2 l.reverse Tryd.underlying22 Tryd.underlying5 Tryd.underlying9 (fun i hi => by rw [add_at]; exact hcell2 i hi)
            have HB2 : Hid (Below w.heap.size w wr) := hB1.trans (hb.mono (Nat.le_of_lt hS1))
            rw [List.length_reverse] at hu2 hconv
            rw [hu2]
            clear hown hb hv hcell2 hu2
            go_wp2
            go_ret
            exact ⟨by show Ending.returned (Value.string ⟨l.reverse.toArray⟩) = _; rw [HL.out], HB2.out⟩
          | succ j =>
            have hjn : j < l.length := by omega
            obtain ⟨b, hbe⟩ : ∃ b : UInt8, l[j] = b := ⟨_, rfl⟩
            have hcj : wr.cell? ⟨g, j, none⟩ = some (.int .u8 (b.toNat : Int)) := by rw [hb.cell (p := ⟨g, j, none⟩) hgs, ← hbe]; exact HC.out j hjn
            have HDR : Hid (ob ++ [b] = (l.drop j).reverse) := by rw [hob.out, ← hbe]; exact drop_snoc l j hjn
            clear hbe
            obtain ⟨x, hx⟩ : ∃ x : Int, (b.toNat : Int) = x := ⟨_, rfl⟩
            rw [hx] at hcj
            have hx0 : 0 ≤ x := by omega
            have hx1 : x ≤ 255 := by have := b.toNat_lt; omega
            have HX := Lib.hid hx
            clear hx
            have hlen2 : ob.length + 1 ≤ 22 := by rw [hob.out]; simp; omega
            have hjl : (j : Int) < l.length := by omega
            go_wp2_with (at_builtin; refine wpList_append_own _ rfl _ _ 22 rfl w1.heap.size 5 i0 (.int .u8 0) 1 1 Tryd.underlying22 hi hz0 hz1 hz2 rfl (by decide) _ _ _ rfl (hown.out.alloc _) ⟨wr.heap.size, 0, none⟩ 1 1 [.int .u8 x] rfl rfl ?ch1 ?ch2 ?ch3 ?ch4 ?ch5 ?_)
            case ch1 => exact one_cell _ _ _
            case ch2 => first | rfl | (intro u hu; simp at hu; subst hu; rfl)
            case ch3 => unfold maxLen; omega
            case ch4 => omega
            case ch5 => first | omega | (simp; omega)
            intro v2 w2 hown2 hgrow hv2
            have hO2 := Own8.push (b := b) (x := .int .u8 x) (by rw [HX.out]) hown2
            have hB2 := below_push hb (Nat.le_refl _) (Nat.le_of_lt hsz) hown hgrow
            have hS2 : w1.heap.size < w2.heap.size := by have := size_push hgrow; omega
            have hV2 : v2 ≠ .slice none 0 0 := by intro e; exact absurd e hv2
            clear hown2 hgrow hv2 hcj hob
            go_wp2
            go_roundw
            case rel => exact ⟨j, _, by omega, rfl, HDR, hO2, hB2, hS2, hV2⟩
            case measure => simp [intOf]
    · have hmn : (m != 0) = true := by simpa using hm
      obtain ⟨r, hr⟩ : ∃ r, m.tmod 10 = r := ⟨_, rfl⟩
      obtain ⟨q, hq⟩ : ∃ q, m.tdiv 10 = q := ⟨_, rfl⟩
      have hrn : r.natAbs = m.natAbs % 10 := by rw [← hr, Int.natAbs_tmod]; rfl
      have hqn : q.natAbs = m.natAbs / 10 := by rw [← hq, Int.natAbs_tdiv]; rfl
      have r0 : -9 ≤ r := by omega
      have r1 : r ≤ 9 := by omega
      have q0 : -922337203685477580 ≤ q := by omega
      have q1 : q ≤ 922337203685477580 := by omega
      have hlen : ds.length + 1 ≤ 20 := by
        have e := congrArg List.length hd.out
        have e2 := H20.out
        rw [revD_pos (show m.natAbs ≠ 0 by omega)] at e
        simp only [List.length_append, List.length_cons] at e
        omega
      have HQ := Lib.hid hqn
      have HR := Lib.hid hrn
      have hbyte : ((UInt8.ofNat (48 + m.natAbs % 10)).toNat : Int) = 48 + (r.natAbs : Int) := by rw [hrn]; exact ofNat_dig _ (by omega)
      have HB := Lib.hid hbyte
      have HD : Hid ((ds ++ [UInt8.ofNat (48 + m.natAbs % 10)]) ++ revD q.natAbs = revD n.natAbs) := by
        rw [← hd.out, revD_pos (show m.natAbs ≠ 0 by omega), List.append_assoc, hqn]; rfl
      have HN := Lib.hid hm
      clear hd hqn hrn hbyte hm
      by_cases hneg : r < 0
      · have HE : Hid (48 + -r = ((UInt8.ofNat (48 + m.natAbs % 10)).toNat : Int)) := by show 48 + -r = _; rw [HB.out, Int.ofNat_natAbs_of_nonpos (by omega)]
        go_wp2_with (at_builtin; refine wpList_append_own _ rfl _ _ 22 rfl w.heap.size 5 i0 (.int .u8 0) 1 1 Tryd.underlying22 hi hz0 hz1 hz2 rfl (by decide) _ _ _ rfl (hown.out.alloc _) ⟨wr.heap.size, 0, none⟩ 1 1 [.int .u8 (48 + -r)] rfl rfl ?dh1 ?dh2 ?dh3 ?dh4 ?dh5 ?_)
        case dh1 => exact one_cell _ _ _
        case dh2 => first | rfl | (intro u hu; simp at hu; subst hu; rfl)
        case dh3 => unfold maxLen; omega
        case dh4 => omega
        case dh5 => first | omega | (simp; omega)
        intro v1 w1 hown1 hgrow hv1
        have hO := Own8.push (by rw [HE.out]) hown1
        have hB1 := below_push hb (Nat.le_refl _) (Nat.le_of_lt hsz) hown hgrow
        have hS1 : w.heap.size < w1.heap.size := by have := size_push hgrow; omega
        have hV1 : v1 ≠ .slice none 0 0 := by intro e; exact absurd e hv1
        have hM : q.natAbs < m.natAbs := by have := HQ.out; have := HN.out; omega
        have HM := Lib.hid hM
        clear hown1 hgrow hv1 hM HB HN HQ HR
        go_wp2
        go_roundw
        case rel => exact ⟨q, _, by omega, by omega, HD, rfl, hO, hB1, hS1, hV1⟩
        case measure => simp only [intOf]; exact HM.out
      · have HE : Hid (48 + r = ((UInt8.ofNat (48 + m.natAbs % 10)).toNat : Int)) := by show 48 + r = _; rw [HB.out, Int.natAbs_of_nonneg (by omega)]
        go_wp2_with (at_builtin; refine wpList_append_own _ rfl _ _ 22 rfl w.heap.size 5 i0 (.int .u8 0) 1 1 Tryd.underlying22 hi hz0 hz1 hz2 rfl (by decide) _ _ _ rfl (hown.out.alloc _) ⟨wr.heap.size, 0, none⟩ 1 1 [.int .u8 (48 + r)] rfl rfl ?eh1 ?eh2 ?eh3 ?eh4 ?eh5 ?_)
        try (case eh1 => exact one_cell _ _ _)
        case eh2 => first | rfl | (intro u hu; simp at hu; subst hu; rfl)
        case eh3 => unfold maxLen; omega
        case eh4 => omega
        case eh5 => first | omega | (simp; omega)
        intro v1 w1 hown1 hgrow hv1
        have hO := Own8.push (by rw [HE.out]) hown1
        have hB1 := below_push hb (Nat.le_refl _) (Nat.le_of_lt hsz) hown hgrow
        have hS1 : w.heap.size < w1.heap.size := by have := size_push hgrow; omega
        have hV1 : v1 ≠ .slice none 0 0 := by intro e; exact absurd e hv1
        have hM : q.natAbs < m.natAbs := by have := HQ.out; have := HN.out; omega
        have HM := Lib.hid hM
        clear hown1 hgrow hv1 hM HB HN HQ HR
        go_wp2
        go_roundw
        case rel => exact ⟨q, _, by omega, by omega, HD, rfl, hO, hB1, hS1, hV1⟩
        case measure => simp only [intOf]; exact HM.out

theorem specDec_any (n : Int) (w : World) (h0 : -9223372036854775808 ≤ n) (h1 : n ≤ 9223372036854775807) :
    Calls Tryd.prog 47 #[.int .i64 n] w fun e w' => e = .returned (.string ⟨(Lib.itoa n).toArray⟩) ∧ Below w.heap.size w w' := by
  by_cases hn : n = 0
  · subst hn
    rw [itoa_zero]
    go_enter Tryd.func47, Tryd.ntmps47
    go_wp2
    go_ret
    exact ⟨rfl, Below.refl _ _⟩
  · exact l01Dec_any n w h0 h1 hn
end Go.Proofs.YtjgajnhefhgpkaaDoor
