/-
  The library's table behind TrailingZeros16, as its text lays it, and sets of numbers, plainly: their members in order.
-/
import Derived.Test.YtljmfpifhbfdcaaDoorCxT
import Derived.Lib.AppendIntMem
import Derived.Lib.LaidTab
namespace Go.Proofs.YtljmfpifhbfdcaaDoor
open Go.RowKit
set_option linter.unusedVariables false
set_option linter.unusedSimpArgs false

def tzTab : List Int := [0, 1, 28, 2, 29, 14, 24, 3, 30, 22, 20, 15, 25, 17, 4, 8, 31, 27, 13, 23, 21, 19, 16, 7, 26, 12, 18, 6, 11, 5, 10, 9]
/-- The table reads as its text lays it, whatever a call made since. -/
def Tz (w : World) : Prop := ∃ B, B ≤ w.heap.size ∧ Lib.TabBelow Tryd.prog B w "math/bits.deBruijn32tab" .u8 tzTab
theorem Tz.on {w w1 : World} (h : Tz w) (hb : Below w.heap.size w w1) : Tz w1 := by
  obtain ⟨B, hB, hT⟩ := h
  exact ⟨B, Nat.le_trans hB hb.size, Lib.TabBelow.on hT (hb.mono hB)⟩
theorem Tz.drew {w : World} (h : Tz w) (n : Nat) : Tz (w.drewN n) := h.on (below_drewX (Below.refl _ w) n)
theorem Tz.al {w : World} (h : Tz w) (o : Obj) : Tz (w.alloc o) := h.on ((Below.refl _ w).alloc (Nat.le_refl _) o)
theorem gTz : Tryd.prog.globalNamed "math/bits.deBruijn32tab" = some 0 := by kernel_rfl
theorem Tz.cell {w : World} (h : Tz w) {i : Nat} (hi : i < 32) : w.cell? ⟨0, i, none⟩ = some (.int .u8 (tzTab.getD i 0)) := by
  obtain ⟨B, hB, hT⟩ := h
  exact Lib.TabIs.cell (Lib.TabBelow.here hT) gTz i hi

/-- The members of a set, in order. -/
def membL (m : Nat) : List Int := ((List.range 16).filter fun v => m.testBit v).map fun (v : Nat) => (v : Int)
theorem mem_membL {m : Nat} {v : Int} : v ∈ membL m ↔ 0 ≤ v ∧ v ≤ 15 ∧ m.testBit v.toNat = true := by
  unfold membL
  simp only [List.mem_map, List.mem_filter, List.mem_range]
  constructor
  · rintro ⟨t, ⟨h1, h2⟩, rfl⟩
    exact ⟨by omega, by omega, by simpa using h2⟩
  · rintro ⟨h1, h2, h3⟩
    exact ⟨v.toNat, ⟨by omega, h3⟩, by omega⟩
theorem membL_rise (m : Nat) : (membL m).Pairwise (· < ·) := by
  unfold membL
  rw [List.pairwise_map]
  refine List.Pairwise.imp (fun h => by omega) (List.Pairwise.filter _ List.pairwise_lt_range)
theorem membL_len (m : Nat) : (membL m).length ≤ 16 := by
  unfold membL
  rw [List.length_map]
  exact Nat.le_trans (List.length_filter_le _ _) (by simp)
theorem membL_verts {m : Nat} (h : m < 1024) : membL m = vertsOf m := by
  refine rise_ext (membL_rise m) (verts_rise m) fun v => ?_
  rw [mem_membL, mem_verts]
  constructor
  · rintro ⟨h1, h2, h3⟩
    refine ⟨h1, ?_, h3⟩
    rcases Nat.lt_or_ge 9 v.toNat with a | a
    · have e : m.testBit v.toNat = false := Nat.testBit_lt_two_pow (Nat.lt_of_lt_of_le h (by
        have : (2 : Nat) ^ 10 ≤ 2 ^ v.toNat := Nat.pow_le_pow_right (by omega) (by omega)
        omega))
      rw [e] at h3; cases h3
    · omega
  · rintro ⟨h1, h2, h3⟩; exact ⟨h1, by omega, h3⟩
/-- The number's least member. -/
def lowOf (m : Nat) : Nat := ((List.range 16).find? fun v => m.testBit v).getD 16
def tzIdx (m : Nat) : Nat := (m &&& (65536 - m)) * 125613361 % 4294967296 / 134217728
def chkLow (m : Nat) : Bool := m == 0 || (decide (membL m = (lowOf m : Int) :: membL (m &&& (m - 1))) && decide (tzIdx m < 32) && decide (tzTab.getD (tzIdx m) 0 = (lowOf m : Int)) && decide (lowOf m < 16) && decide (m &&& (m - 1) < m) && decide (m &&& (65536 - m) < 65536))
theorem chk_low0 : ∀ m : Fin 1024, chkLow m.val = true := by decide +kernel
theorem chk_low1 : ∀ m : Fin 1024, chkLow (m.val + 1024) = true := by decide +kernel
theorem chk_low2 : ∀ m : Fin 1024, chkLow (m.val + 2048) = true := by decide +kernel
theorem chk_low3 : ∀ m : Fin 1024, chkLow (m.val + 3072) = true := by decide +kernel
theorem chk_low {m : Nat} (h : m < 4096) : chkLow m = true := by
  rcases Nat.lt_or_ge m 1024 with h1 | h1
  · exact chk_low0 ⟨m, h1⟩
  · rcases Nat.lt_or_ge m 2048 with h2 | h2
    · have := chk_low1 ⟨m - 1024, by omega⟩
      rwa [show m - 1024 + 1024 = m by omega] at this
    · rcases Nat.lt_or_ge m 3072 with h3 | h3
      · have := chk_low2 ⟨m - 2048, by omega⟩
        rwa [show m - 2048 + 2048 = m by omega] at this
      · have := chk_low3 ⟨m - 3072, by omega⟩
        rwa [show m - 3072 + 3072 = m by omega] at this
theorem low_facts {m : Nat} (hm : m < 4096) (h0 : m ≠ 0) : membL m = (lowOf m : Int) :: membL (m &&& (m - 1)) ∧ tzIdx m < 32 ∧ tzTab.getD (tzIdx m) 0 = (lowOf m : Int) ∧ lowOf m < 16 ∧ m &&& (m - 1) < m ∧ m &&& (65536 - m) < 65536 := by
  have := chk_low hm
  simp only [chkLow, Bool.or_eq_true, Bool.and_eq_true, decide_eq_true_eq, beq_iff_eq, h0, false_or] at this
  exact ⟨this.1.1.1.1.1, this.1.1.1.1.2, this.1.1.1.2, this.1.1.2, this.1.2, this.2⟩
theorem membL_zero : membL 0 = [] := by decide
theorem maskOf_lt16 (l : List Int) (h : ∀ v ∈ l, 0 ≤ v ∧ v ≤ 15) : maskOf l < 65536 := by
  have key : ∀ (l : List Int) (m : Nat), m < 65536 → (∀ v ∈ l, 0 ≤ v ∧ v ≤ 15) → l.foldl (fun m v => m ||| (1 <<< v.toNat)) m < 65536 := by
    intro l
    induction l with
    | nil => intro m hm _; exact hm
    | cons v l ih =>
      intro m hm hv
      rw [List.foldl_cons]
      refine ih _ ?_ fun x hx => hv x (by simp [hx])
      have hv0 := hv v (by simp)
      have : 1 <<< v.toNat < 2 ^ 16 := by rw [Nat.one_shiftLeft]; exact Nat.pow_lt_pow_right (by omega) (by omega)
      exact Nat.or_lt_two_pow (n := 16) hm this
  exact key l 0 (by omega) h
theorem nat_u16 {x : Nat} (hx : x < 65536) : (BitVec.ofInt 16 (x : Int)).toNat = x := by
  rw [BitVec.toNat_ofInt]; omega
theorem wrap_u16 {x : Nat} (hx : x < 65536) : IntKind.u16.wrap (x : Int) = (x : Int) := by
  simp only [IntKind.wrap, IntKind.bits, IntKind.signed, Bool.false_and]
  simp
  omega
theorem and_u16 {a b : Nat} (ha : a < 65536) (hb : b < 65536) : bits BinOp.and IntKind.u16 (a : Int) (b : Int) = ((a &&& b : Nat) : Int) := by
  have hl : a &&& b < 65536 := Nat.lt_of_le_of_lt Nat.and_le_left ha
  show IntKind.u16.wrap (((BitVec.ofInt 16 (a : Int)) &&& (BitVec.ofInt 16 (b : Int))).toNat : Int) = _
  rw [BitVec.toNat_and, nat_u16 ha, nat_u16 hb, wrap_u16 hl]
theorem or_u16n {a b : Nat} (ha : a < 65536) (hb : b < 65536) : bits BinOp.or IntKind.u16 (a : Int) (b : Int) = ((a ||| b : Nat) : Int) := by
  have hl : a ||| b < 65536 := Nat.or_lt_two_pow (n := 16) ha hb
  show IntKind.u16.wrap (((BitVec.ofInt 16 (a : Int)) ||| (BitVec.ofInt 16 (b : Int))).toNat : Int) = _
  rw [BitVec.toNat_or, nat_u16 ha, nat_u16 hb, wrap_u16 hl]
theorem andnot_u16 {a b : Nat} (ha : a < 65536) (hb : b < 65536) : bits BinOp.andNot IntKind.u16 (a : Int) (b : Int) = ((a &&& (65535 - b) : Nat) : Int) := by
  have hl : a &&& (65535 - b) < 65536 := Nat.lt_of_le_of_lt Nat.and_le_left ha
  show IntKind.u16.wrap (((BitVec.ofInt 16 (a : Int)) &&& ~~~(BitVec.ofInt 16 (b : Int))).toNat : Int) = _
  rw [BitVec.toNat_and, BitVec.toNat_not, nat_u16 ha, nat_u16 hb]
  exact wrap_u16 hl
theorem testBit_comp {b t : Nat} (hb : b < 65536) (ht : t < 16) : (65535 - b).testBit t = !b.testBit t := by
  have h := Nat.testBit_two_pow_sub_succ (n := 16) (x := b) hb t
  rw [show 2 ^ 16 - (b + 1) = 65535 - b by omega] at h
  rw [h]; simp [ht]
theorem andn_bit {a b t : Nat} (ha : a < 65536) (hb : b < 65536) : (a &&& (65535 - b)).testBit t = (a.testBit t && !b.testBit t) := by
  rw [Nat.testBit_and]
  by_cases ht : t < 16
  · rw [testBit_comp hb ht]
  · have h1 : a.testBit t = false := Nat.testBit_lt_two_pow (Nat.lt_of_lt_of_le ha (by
      have : (2 : Nat) ^ 16 ≤ 2 ^ t := Nat.pow_le_pow_right (by omega) (by omega)
      omega))
    rw [h1]; rfl
theorem or_u16 {m k : Nat} (hm : m < 65536) (hk : k ≤ 15) : bits BinOp.or IntKind.u16 (m : Int) (IntKind.u16.wrap (2 ^ k)) = ((m ||| 1 <<< k : Nat) : Int) := by
  have h2 : 2 ^ k < 65536 := Nat.lt_of_le_of_lt (Nat.pow_le_pow_right (by omega) hk) (by omega)
  have e : IntKind.u16.wrap (2 ^ k) = ((2 ^ k : Nat) : Int) := by
    have := wrap_u16 h2
    rw [show ((2 : Int) ^ k) = ((2 ^ k : Nat) : Int) by simp]; exact this
  rw [e, or_u16n hm h2, Nat.one_shiftLeft]
end Go.Proofs.YtljmfpifhbfdcaaDoor
