/-
  Sets of vertices by the program: setOf, vertices, faces.
-/
import Derived.Test.YthkbpklgibfbhaaCxT
import Derived.Test.YthkbpklgibfbhaaCxP
import Derived.Test.YthkbpklgibfbhaaCxB
import Derived.Test.YthkbpklgibfbhaaSsC
namespace Go.Proofs.Ythkbpklgibfbhaa
open Go.RowKit Go.Sort Go.Shelf
set_option linter.unusedVariables false
set_option linter.unusedSimpArgs false

theorem or_u16 {m k : Nat} (hm : m < 1024) (hk : k ≤ 9) : bits BinOp.or IntKind.u16 (m : Int) (IntKind.u16.wrap (2 ^ k)) = ((m ||| 1 <<< k : Nat) : Int) := by
  have h : ∀ (a : Fin 1024) (b : Fin 10), bits BinOp.or IntKind.u16 (a.val : Int) (IntKind.u16.wrap (2 ^ b.val)) = ((a.val ||| 1 <<< b.val : Nat) : Int) := by decide +kernel
  exact h ⟨m, hm⟩ ⟨k, by omega⟩
theorem setOf_none {a : Option Addr} {c : Nat} (w : World) :
    Calls Try.prog 21 #[.slice a 0 c] w fun e w' => e = .returned (.int .u16 0) ∧ w = w' := by
  go_enter Try.func21, Try.ntmps21
  go_wp2
  refine wp_loop_rounds 1 ?_
  rw [rounds_succ]
  go_wp2
  go_ret
  exact ⟨rfl, rfl⟩
theorem setOf_some {b o c : Nat} {l : List Int} {w : World} (hl : l.length ≤ 1048576) (hb : ∀ v ∈ l, 0 ≤ v ∧ v ≤ 9)
    (k1 : ∀ j (h : j < l.length), w.cell? ⟨b, o + j, none⟩ = some (.int .i64 l[j])) :
    Calls Try.prog 21 #[.slice (some ⟨b, o, none⟩) l.length c] w fun e w' => e = .returned (.int .u16 (maskOf l : Int)) ∧ w = w' := by
  have K1 := Lib.hid k1
  have HB := Lib.hid hb
  clear k1 hb
  go_enter Try.func21, Try.ntmps21
  go_wp2
  go_loop [3, 8] (fun s i => ∃ k : Nat, k ≤ l.length ∧ i = .int .i64 (k : Int) ∧ s = .int .u16 (maskOf (l.take k) : Int)) (fun _ i => l.length - (intOf i).toNat)
  case atStart => exact ⟨0, Nat.zero_le _, rfl, rfl⟩
  case round =>
    obtain ⟨k, hk, rfl, rfl⟩ := hrel
    have i0 : 0 ≤ (k : Int) := by omega
    by_cases hlt : k < l.length
    · have g1 := K1.out k hlt
      have i1 : (k : Int) < l.length := by omega
      have hv := HB.out _ (List.getElem_mem hlt)
      have ht : maskOf (l.take (k + 1)) = maskOf (l.take k) ||| (1 <<< (l[k]).toNat) := by rw [List.take_succ_eq_append_getElem hlt, maskOf_snoc]
      have hm := maskOf_lt (l.take k) fun v hv => HB.out v (List.mem_of_mem_take hv)
      obtain ⟨x, hx⟩ : ∃ x, l[k] = x := ⟨_, rfl⟩
      obtain ⟨m, hm'⟩ : ∃ m, maskOf (l.take k) = m := ⟨_, rfl⟩
      rw [hx] at g1 hv ht
      rw [hm'] at ht hm
      rw [hm']
      have HT := Lib.hid ht
      clear hx hm' ht
      obtain ⟨v0, v1⟩ := hv
      go_wp2
      go_round
      case rel => exact ⟨k + 1, by omega, by go_num, by rw [HT.out, or_u16 hm (by omega)]⟩
      case measure => simp [intOf]; omega
    · have i1 : ¬ (k : Int) < l.length := by omega
      have ek : l.take k = l := List.take_of_length_le (by omega)
      rw [ek]
      clear ek
      go_wp2
      go_ret
      exact ⟨rfl, rfl⟩
theorem pushU {B : Nat} {w : World} {v : Value} {zs : List Int} {z : Int} (h : w.ownsRow B 2 1 v (zs.length + 1) (iv zs ++ [.int .i64 z])) : OwnI B w v (zs ++ [z]) := by
  unfold OwnI iv at *; rw [List.length_append, List.map_append]; exact h
theorem below_pushU {B0 B : Nat} {w0 w w1 : World} {v : Value} {zs : List Int} {o : Obj} (hb : Below B0 w0 w) (hle : B0 ≤ B) (hB : B ≤ w.heap.size) (h : OwnI B w v zs) (hg : (w.alloc o).grownBy w1 v.ownBlock) : Below B0 w0 w1 :=
  (hb.alloc (by omega) o).grown hg (by simp; omega) (fun k hk => by have := (h.out.lt k hk).1; omega)
theorem row_one (w : World) (u : Value) (t : TypeId) : ∀ (j : Nat) (x : Value), [u][j]? = some x → (w.alloc (.cells #[u] t)).cell? ((⟨w.heap.size, 0, none⟩ : Addr).add j) = some x := row_val w u t
/-- How a call ends that hands back a list of its own. -/
def RetN (zs : List Int) (w : World) (e : Ending) (w' : World) : Prop := ∃ v, e = .returned v ∧ OwnI w.heap.size w' v zs ∧ Below w.heap.size w w'
/-- The vertices below a number. -/
def vk (m k : Nat) : List Int := ((List.range k).filter fun v => m.testBit v).map fun (v : Nat) => (v : Int)
theorem vk_yes {m k : Nat} (h : m.testBit k = true) : vk m (k + 1) = vk m k ++ [(k : Int)] := by simp [vk, List.range_succ, List.filter_append, h]
theorem vk_no {m k : Nat} (h : m.testBit k = false) : vk m (k + 1) = vk m k := by simp [vk, List.range_succ, List.filter_append, h]
theorem vk_len (m k : Nat) : (vk m k).length ≤ k := by
  unfold vk
  rw [List.length_map]
  exact Nat.le_trans (List.length_filter_le _ _) (by simp)
theorem and_bit {m k : Nat} (hm : m < 1024) (hk : k ≤ 9) : (bits BinOp.and IntKind.u16 (m : Int) (maskOf [(k : Int)] : Int) != 0) = m.testBit k := by
  have h : ∀ (a : Fin 1024) (b : Fin 10), (bits BinOp.and IntKind.u16 (a.val : Int) (maskOf [(b.val : Int)] : Int) != 0) = a.val.testBit b.val := by decide +kernel
  exact h ⟨m, hm⟩ ⟨k, by omega⟩
set_option maxRecDepth 100000 in
set_option maxHeartbeats 1600000 in
theorem vertices_any {m : Nat} (hm : m < 1024) (w : World) :
    Calls Try.prog 38 #[.int .u16 (m : Int)] w fun e w' => RetN (vertsOf m) w e w' := by
  obtain ⟨i0, hi, iz0, iz1, iz2⟩ := info_parts info2
  go_enter Try.func38, Try.ntmps38
  go_wp2_with fail
  go_loopw [3, 5] (fun sv si wr => ∃ k : Nat, k ≤ 10 ∧ si = .int .i64 (k : Int) ∧ Hid (OwnI w.heap.size wr sv (vk m k)) ∧ Hid (Below w.heap.size w wr)) (fun _ si _ => 10 - (intOf si).toNat)
  case atStart => exact ⟨0, by omega, rfl, World.ownsRow_nil _ _ _ _, Below.refl _ _⟩
  case round =>
    obtain ⟨k, hk, rfl, HO, HB⟩ := hrel
    have hs := HB.out.size
    have i0' : 0 ≤ (k : Int) := by omega
    by_cases hlt : k < 10
    · have i1 : (k : Int) < 10 := by omega
      have hbit := and_bit hm (show k ≤ 9 by omega)
      obtain ⟨c, hc⟩ : ∃ c, bits BinOp.and IntKind.u16 (m : Int) (maskOf [(k : Int)] : Int) = c := ⟨_, rfl⟩
      rw [hc] at hbit
      have hvl := vk_len m k
      have hset : Calls Try.prog 21 #[.slice (some ⟨wr.heap.size, 0, none⟩) 1 1] (wr.alloc (.cells #[.int .i64 (k : Int)] 2)) fun e w' => e = .returned (.int .u16 (maskOf [(k : Int)] : Int)) ∧ (wr.alloc (.cells #[.int .i64 (k : Int)] 2)) = w' :=
        setOf_some (l := [(k : Int)]) (by simp) (fun v hv => by simp at hv; omega) (fun j hj => by
          have hj0 : j = 0 := by simp at hj; exact hj
          subst hj0
          rw [World.cell?_alloc_at _ _ _ _ rfl]; rfl)
      cases hT : m.testBit k with
      | true =>
        rw [hT] at hbit
        have HV := Lib.hid (vk_yes hT)
        clear hT
        go_wp2_with fail
        refine hset.mono ?_
        rintro e w2 ⟨rfl, rfl⟩
        have hown := HO.out
        have hown1 := World.ownsRow.alloc hown.out (.cells #[.int .i64 (k : Int)] 2)
        have hown2 := World.ownsRow.alloc hown1 (.cells #[.int .i64 (k : Int)] 2)
        clear hset
        go_wp2_with (at_builtin; refine wpList_append_own _ rfl _ _ 26 rfl w.heap.size 2 i0 (.int .i64 0) 1 8 Try.underlying26 hi iz0 iz1 iz2 rfl (by decide) _ _ _ rfl hown2 ⟨wr.heap.size + 1, 0, none⟩ 1 1 [.int .i64 (k : Int)] rfl rfl ?ah1 ?ah2 ?ah3 ?ah4 ?ah5 ?_)
        try (case ah1 => exact (by have := row_one (wr.alloc (.cells #[.int .i64 (k : Int)] 2)) (.int .i64 (k : Int)) 2; rw [World.size_alloc] at this; exact this))
        case ah2 => first | rfl | (intro u hu; simp at hu; subst hu; rfl)
        case ah3 => unfold maxLen; omega
        case ah4 => omega
        case ah5 => first | omega | (simp; omega)
        intro v2 w10 hown3 hgrow _
        have HO2 : Hid (OwnI w.heap.size w10 v2 (vk m (k + 1))) := by
          show OwnI _ _ _ _
          rw [HV.out]; exact pushU hown3
        have HB2 := Lib.hid (below_pushU (al1 HB.out (.cells #[.int .i64 (k : Int)] 2)) (Nat.le_refl _) (by rw [World.size_alloc]; omega) hown1 hgrow)
        clear hown3 hgrow hown hown1 hown2 hc hbit
        go_wp2_with fail
        go_roundw
        case rel => exact ⟨k + 1, by omega, by go_num, HO2, HB2⟩
        case measure => simp [intOf]; omega
      | false =>
        rw [hT] at hbit
        have HV := Lib.hid (vk_no hT)
        clear hT
        go_wp2_with fail
        refine hset.mono ?_
        rintro e w2 ⟨rfl, rfl⟩
        clear hset
        go_wp2_with fail
        have h0 := World.ownsRow.alloc HO.out.out (.cells #[.int .i64 (k : Int)] 2)
        rw [← HV.out] at h0
        have HO2 := Lib.hid (show OwnI _ _ _ _ from h0)
        have HB2 := Lib.hid (al1 HB.out (.cells #[.int .i64 (k : Int)] 2))
        go_roundw
        case rel => exact ⟨k + 1, by omega, by go_num, HO2, HB2⟩
        case measure => simp [intOf]; omega
    · obtain rfl : k = 10 := by omega
      go_wp2_with fail
      go_ret
      exact ⟨_, rfl, HO.out, HB.out⟩
end Go.Proofs.Ythkbpklgibfbhaa
