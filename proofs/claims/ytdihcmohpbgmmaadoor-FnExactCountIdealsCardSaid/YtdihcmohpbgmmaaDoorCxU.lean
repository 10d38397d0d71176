/-
  Sets of vertices by the program: setOf, vertices, faces.
-/
import Derived.Test.YtdihcmohpbgmmaaDoorPJ
import Derived.Deep.QuietTactic
import Derived.BigQuiet
import Derived.StillTactics
import Derived.Test.YtdihcmohpbgmmaaDoorCxB
import Derived.Test.YtdihcmohpbgmmaaDoorSsC
import Derived.Lib.BitFns
namespace Go.Proofs.YtdihcmohpbgmmaaDoor
open Go.RowKit
set_option linter.unusedVariables false
set_option linter.unusedSimpArgs false

theorem setOf_none {a : Option Addr} {c : Nat} (w : World) :
    Calls Tryd.prog 70 #[.slice a 0 c] w fun e w' => e = .returned (.int .u16 0) ∧ w = w' := by
  go_enter Tryd.func70, Tryd.ntmps70
  go_wp2
  refine wp_loop_rounds 1 ?_
  rw [rounds_succ]
  go_wp2
  go_ret
  exact ⟨rfl, rfl⟩
theorem setOf_gen {b o c : Nat} {l : List Int} {w : World} (hl : l.length ≤ 1048576) (hb : ∀ v ∈ l, 0 ≤ v ∧ v ≤ 15)
    (k1 : ∀ j (h : j < l.length), w.cell? ⟨b, o + j, none⟩ = some (.int .i64 l[j])) :
    Calls Tryd.prog 70 #[.slice (some ⟨b, o, none⟩) l.length c] w fun e w' => e = .returned (.int .u16 (maskOf l : Int)) ∧ w = w' := by
  have K1 := Lib.hid k1
  have HB := Lib.hid hb
  clear k1 hb
  go_enter Tryd.func70, Tryd.ntmps70
  go_wp2
  go_loop [3, 8] (fun s i => ∃ k : Nat, k ≤ l.length ∧ i = .int .i64 (k : Int) ∧ s = .int .u16 (maskOf (l.take k) : Int)) (fun _ i => l.length - (intOf i).toNat)
  case atStart => exact ⟨0, Nat.zero_le _, rfl, rfl⟩
  case round =>
    obtain ⟨k, hk, rfl, rfl⟩ := hrel
    have i0 : 0 ≤ (k : Int) := by omega
    by_cases hlt : k < l.length
    · have g1 := K1.out k hlt
      have i1 : (k : Int) < l.length := by omega
      have hv := HB.out _ (List.getElem_mem hlt)
      have ht : maskOf (l.take (k + 1)) = maskOf (l.take k) ||| (1 <<< (l[k]).toNat) := by rw [List.take_succ_eq_append_getElem hlt, maskOf_snoc]
      have hm := maskOf_lt16 (l.take k) fun v hv => HB.out v (List.mem_of_mem_take hv)
      obtain ⟨x, hx⟩ : ∃ x, l[k] = x := ⟨_, rfl⟩
      obtain ⟨m, hm'⟩ : ∃ m, maskOf (l.take k) = m := ⟨_, rfl⟩
      rw [hx] at g1 hv ht
      rw [hm'] at ht hm
      rw [hm']
      have HT := Lib.hid ht
      clear hx hm' ht
      obtain ⟨v0, v1⟩ := hv
      go_wp2
      go_round
      case rel => exact ⟨k + 1, by omega, by go_num, by rw [HT.out, or_u16 hm (by omega)]⟩
      case measure => simp [intOf]; omega
    · have i1 : ¬ (k : Int) < l.length := by omega
      have ek : l.take k = l := List.take_of_length_le (by omega)
      rw [ek]
      clear ek
      go_wp2
      go_ret
      exact ⟨rfl, rfl⟩
theorem setOf_some {b o c : Nat} {l : List Int} {w : World} (hl : l.length ≤ 1048576) (hb : ∀ v ∈ l, 0 ≤ v ∧ v ≤ 9)
    (k1 : ∀ j (h : j < l.length), w.cell? ⟨b, o + j, none⟩ = some (.int .i64 l[j])) :
    Calls Tryd.prog 70 #[.slice (some ⟨b, o, none⟩) l.length c] w fun e w' => e = .returned (.int .u16 (maskOf l : Int)) ∧ w = w' :=
  setOf_gen hl (fun v hv => ⟨(hb v hv).1, by have := (hb v hv).2; omega⟩) k1
theorem pushU {B : Nat} {w : World} {v : Value} {zs : List Int} {z : Int} (h : w.ownsRow B 2 1 v (zs.length + 1) (iv zs ++ [.int .i64 z])) : OwnI B w v (zs ++ [z]) := by
  unfold OwnI iv at *; rw [List.length_append, List.map_append]; exact h
theorem below_pushU {B0 B : Nat} {w0 w w1 : World} {v : Value} {zs : List Int} {o : Obj} (hb : Below B0 w0 w) (hle : B0 ≤ B) (hB : B ≤ w.heap.size) (h : OwnI B w v zs) (hg : (w.alloc o).grownBy w1 v.ownBlock) : Below B0 w0 w1 :=
  (hb.alloc (by omega) o).grown hg (by simp; omega) (fun k hk => by have := (h.out.lt k hk).1; omega)
theorem row_one (w : World) (u : Value) (t : TypeId) : ∀ (j : Nat) (x : Value), [u][j]? = some x → (w.alloc (.cells #[u] t)).cell? ((⟨w.heap.size, 0, none⟩ : Addr).add j) = some x := row_val w u t
/-- How a call ends that hands back a list of its own. -/
def RetN (zs : List Int) (w : World) (e : Ending) (w' : World) : Prop := ∃ v, e = .returned v ∧ OwnI w.heap.size w' v zs ∧ Below w.heap.size w w'
/-- The vertices below a number. -/
def vk (m k : Nat) : List Int := ((List.range k).filter fun v => m.testBit v).map fun (v : Nat) => (v : Int)
theorem vk_yes {m k : Nat} (h : m.testBit k = true) : vk m (k + 1) = vk m k ++ [(k : Int)] := by simp [vk, List.range_succ, List.filter_append, h]
theorem vk_no {m k : Nat} (h : m.testBit k = false) : vk m (k + 1) = vk m k := by simp [vk, List.range_succ, List.filter_append, h]
theorem vk_len (m k : Nat) : (vk m k).length ≤ k := by
  unfold vk
  rw [List.length_map]
  exact Nat.le_trans (List.length_filter_le _ _) (by simp)
theorem pop8_bd {i : Int} (h0 : 0 ≤ i) (h1 : i ≤ 255) : 0 ≤ Lib.pop8 i ∧ Lib.pop8 i ≤ 8 := by
  have e := Lib.pop8_eq ⟨i.toNat, by omega⟩
  have l := Lib.onesCount_le8 ⟨i.toNat, by omega⟩
  simp only [Int.toNat_of_nonneg h0] at e
  simp only at l
  omega
set_option maxRecDepth 100000 in
set_option maxHeartbeats 1000000 in
theorem ones16_any {m : Nat} (hm : m < 65536) (w : World) :
    Calls Tryd.prog 91 #[.int .u16 (m : Int)] w fun e w' => ∃ c n : Nat, e = .returned (.int .i64 (c : Int)) ∧ c ≤ 16 ∧ w' = w.drewN n := by
  go_enter Tryd.func91, Tryd.ntmps91
  go_wp2_with fail
  simp only [List.append_eq, List.cons_append, List.nil_append, Lib.fold_pop8tab]
  have h0 : 0 ≤ (m : Int) / 256 := by omega
  have h1 : (m : Int) / 256 ≤ 255 := by omega
  have ea : bits BinOp.and IntKind.u16 (m : Int) 255 = (m : Int) % 256 := by
    rw [show (255 : Int) = ((255 : Nat) : Int) by rfl, and_u16 hm (by omega), show (255 : Nat) = 2 ^ 8 - 1 by rfl, Nat.and_two_pow_sub_one_eq_mod]
    omega
  go_quiet (fail)
  have p1 := pop8_bd h0 h1
  have p2 := pop8_bd (i := (m : Int) % 256) (by omega) (by omega)
  generalize Lib.pop8 ((m : Int) / 256) = q1 at p1
  generalize Lib.pop8 ((m : Int) % 256) = q2 at p2
  obtain ⟨q, hq⟩ : ∃ q : Nat, (q1 + q2) % 256 = (q : Int) := ⟨((q1 + q2) % 256).toNat, by omega⟩
  have hq2 : q ≤ 16 := by omega
  simp only [hq]
  clear hq p1 p2
  go_wp2_with fail
  go_ret
  exact ⟨q, _, rfl, hq2, rfl⟩
set_option maxRecDepth 100000 in
set_option maxHeartbeats 1000000 in
theorem tz16_core {x k idx : Nat} {w : World} (hx0 : ((x : Int) == 0) = false)
    (key : bits BinOp.and IntKind.u16 (x : Int) (IntKind.u16.wrap (-(x : Int))) % 4294967296 * 125613361 % 4294967296 / 134217728 = (idx : Int))
    (hi : idx < 32) (hk : k < 32) (hcell : w.cell? ⟨0, idx, none⟩ = some (.int .u8 (k : Int))) :
    Calls Tryd.prog 92 #[.int .u16 (x : Int)] w fun e w' => e = .returned (.int .i64 (k : Int)) ∧ w' = w := by
  go_enter Tryd.func92, Tryd.ntmps92
  go_wp2_with (simp only [key])
  go_ret
  exact ⟨rfl, rfl⟩
theorem tz16_key {m : Nat} (hm : m < 4096) (h0 : m ≠ 0) (ha : m &&& (65536 - m) < 65536) : bits BinOp.and IntKind.u16 (m : Int) (IntKind.u16.wrap (-(m : Int))) % 4294967296 * 125613361 % 4294967296 / 134217728 = ((tzIdx m : Nat) : Int) := by
  have e1 : IntKind.u16.wrap (-(m : Int)) = ((65536 - m : Nat) : Int) := by
    simp only [IntKind.wrap, IntKind.bits, IntKind.signed, Bool.false_and]
    simp
    omega
  rw [e1, and_u16 (by omega) (by omega)]
  unfold tzIdx
  omega
theorem tz16_any {m : Nat} (hm : m < 4096) (h0 : m ≠ 0) {w : World} (hT : Tz w) :
    Calls Tryd.prog 92 #[.int .u16 (m : Int)] w fun e w' => e = .returned (.int .i64 (lowOf m : Int)) ∧ w' = w := by
  obtain ⟨_, hi, hv, hl, _, ha⟩ := low_facts hm h0
  have hc := hT.cell hi
  rw [hv] at hc
  exact tz16_core (by simp; omega) (tz16_key hm h0 ha) hi (by omega) hc
set_option maxRecDepth 100000 in
set_option maxHeartbeats 1600000 in
theorem members16_any {m : Nat} (hm : m < 4096) {w : World} (hTz : Tz w) :
    Calls Tryd.prog 75 #[.int .u16 (m : Int)] w fun e w' => RetN (membL m) w e w' := by
  obtain ⟨i0, hi, iz0, iz1, iz2⟩ := info_parts info2
  have TZ := Lib.hid hTz
  clear hTz
  go_enter Tryd.func75, Tryd.ntmps75
  go_wp2_with fail
  refine (ones16_any (by omega) _).mono ?_
  rintro e W ⟨c, n, rfl, hc, hW⟩
  have HBW : Hid (Below w.heap.size w W) := by show Below _ _ _; rw [hW]; exact below_drewX (Below.refl _ w) n
  have hWs : W.heap.size = w.heap.size := by rw [hW]; rfl
  have TZW := Lib.hid (TZ.out.on HBW.out)
  have HWS := Lib.hid hWs
  clear hW hWs
  go_wp2_with (at_make; refine wpList_make_own _ rfl _ _ 40 rfl W.heap.size 2 i0 (.int .i64 0) 1 Tryd.underlying40 hi iz0 iz1 _ _ _ c rfl rfl rfl ?ah1 ?ah2 ?ah3 ?_)
  case ah1 => rw [iz2]; omega
  case ah2 => unfold maxLen; omega
  case ah3 => first | omega | simp
  intro w1 hown hgrow
  have HO1 : Hid (OwnI W.heap.size w1 (.slice (some ⟨W.heap.size, 0, none⟩) 0 c) []) := hown
  have HB1 : Hid (Below W.heap.size W w1) := (Below.refl _ W).grown hgrow (Nat.le_refl _) (fun k hk => by cases hk)
  clear hown hgrow
  go_wp2_with fail
  go_loopw [3, 4] (fun sv sf wr => ∃ (r : Nat) (zs : List Int), sf = .int .u16 (r : Int) ∧ r < 4096 ∧ Hid (zs ++ membL r = membL m) ∧ Hid (OwnI W.heap.size wr sv zs) ∧ Hid (Below W.heap.size W wr)) (fun _ sf _ => (intOf sf).toNat)
  case atStart => exact ⟨m, [], rfl, hm, rfl, HO1, HB1⟩
  case round =>
    clear HO1 HB1
    obtain ⟨r, zs, rfl, hr, HR, HO, HB⟩ := hrel
    have hs := HB.out.size
    have hzl : zs.length ≤ 16 := by have h1 := membL_len m; rw [← HR.out, List.length_append] at h1; omega
    rcases Nat.eq_zero_or_pos r with h0 | h0
    · subst h0
      have ht : Hid (zs = membL m) := by
        show _ = _
        have := HR.out
        rw [membL_zero, List.append_nil] at this
        exact this
      have e0 : (((0 : Nat) : Int) != 0) = false := by simp
      go_wp2_with fail
      go_ret
      exact ⟨_, rfl, by rw [← ht.out, ← HWS.out]; exact HO.out, HBW.out.trans (by rw [← HWS.out]; exact HB.out)⟩
    · have hr0 : r ≠ 0 := by omega
      obtain ⟨hbits, _, _, hlow, hlt, _⟩ := low_facts hr hr0
      have hr2 := HR.out
      rw [hbits] at hr2
      have htz := tz16_any hr hr0 (TZW.out.on HB.out)
      have e0 : ((r : Int) != 0) = true := by simp; omega
      have e1 : IntKind.u16.wrap ((r : Int) - 1) = ((r - 1 : Nat) : Int) := by
        rw [show (r : Int) - 1 = ((r - 1 : Nat) : Int) by omega]
        exact wrap_u16 (by omega)
      have e2 : bits BinOp.and IntKind.u16 (r : Int) ((r - 1 : Nat) : Int) = ((r &&& (r - 1) : Nat) : Int) := and_u16 (by omega) (by omega)
      have e3 : bits BinOp.and IntKind.u16 (r : Int) ((r : Int) - 1) = ((r &&& (r - 1) : Nat) : Int) := by rw [← e2]; congr 1; omega
      obtain ⟨q, hq⟩ : ∃ q, lowOf r = q := ⟨_, rfl⟩
      rw [hq] at hlow hr2 htz
      obtain ⟨g, hgg⟩ : ∃ g, r &&& (r - 1) = g := ⟨_, rfl⟩
      rw [hgg] at hlt e2 e3 hr2
      have HR2 : Hid ((zs ++ [(q : Int)]) ++ membL g = membL m) := by show _ = _; rw [List.append_assoc]; exact hr2
      have f1 : (1 : Int) ≤ (r : Int) := by omega
      clear hr2 HR hbits hgg hq
      have hown := HO.out
      go_wp2_with fail
      refine htz.mono ?_
      rintro e w2 ⟨rfl, rfl⟩
      go_wp2_with (at_builtin; refine wpList_append_own _ rfl _ _ 40 rfl W.heap.size 2 i0 (.int .i64 0) 1 8 Tryd.underlying40 hi iz0 iz1 iz2 rfl (by decide) _ _ _ rfl (hown.out.alloc _) ⟨w2.heap.size, 0, none⟩ 1 1 [.int .i64 (q : Int)] rfl rfl ?ah1 ?ah2 ?ah3 ?ah4 ?ah5 ?_)
      try (case ah1 => exact row_one _ _ _)
      case ah2 => first | rfl | (intro u hu; simp at hu; subst hu; rfl)
      case ah3 => unfold maxLen; omega
      case ah4 => omega
      case ah5 => first | omega | (simp; omega)
      intro v2 w10 hown3 hgrow _
      have HO2 := Lib.hid (pushU hown3)
      have HB2 := Lib.hid (below_pushU HB.out (Nat.le_refl _) hs hown hgrow)
      clear hown3 hgrow hown HO htz
      go_wp2_with fail
      go_roundw
      case rel => exact ⟨g, zs ++ [(q : Int)], rfl, by omega, HR2, HO2, HB2⟩
      case measure => simp [intOf]; omega
theorem members_any {m : Nat} (hm : m < 1024) {w : World} (hTz : Tz w) :
    Calls Tryd.prog 75 #[.int .u16 (m : Int)] w fun e w' => RetN (vertsOf m) w e w' := by
  have := members16_any (m := m) (by omega) hTz
  rwa [membL_verts hm] at this
end Go.Proofs.YtdihcmohpbgmmaaDoor
