/-
  The law of Crc16: for every string and start the program's answer is the model's; no condition.
-/
import Derived.Test.YtjgajnhefhgpkaaIn
import Derived.Laws.BitsAllLaws
import Derived.ProofKit
namespace Go.Proofs.Ytjgajnhefhgpkaa
open Go.RowKit
set_option linter.unusedVariables false

/-- One doubling of the check value. -/
def stepC (v : Int) : Int := if 65535 < v * 2 then bits .xor .i64 (bits .and .i64 (v * 2) 65535) 4129 else v * 2
def stepN : Nat → Int → Int
  | 0, v => v
  | n + 1, v => stepC (stepN n v)
/-- A byte taken into the check value. -/
def xorC (v : Int) (b : UInt8) : Int := bits .xor .i64 v ((b.toNat : Int) * 256)
def byteC (v : Int) (b : UInt8) : Int := stepN 8 (xorC v b)
def crcL (l : List UInt8) (v : Int) : Int := l.foldl byteC v

theorem i64_and_nat (a b : Nat) (ha : a < 65536 * 65536) (hb : b < 65536 * 65536) : bits .and .i64 (a : Int) (b : Int) = ((a &&& b : Nat) : Int) := by
  have hx : a &&& b < 2 ^ 32 := Nat.and_lt_two_pow _ (by omega)
  show IntKind.i64.wrap ((BitVec.ofInt 64 (a : Int) &&& BitVec.ofInt 64 (b : Int)).toNat : Int) = _
  rw [BitVec.toNat_and, ofInt_u64 a (by omega), ofInt_u64 b (by omega)]
  exact IntWalk.i64_in _ (by omega)
theorem i64_xor_nat (a b : Nat) (ha : a < 65536 * 65536) (hb : b < 65536 * 65536) : bits .xor .i64 (a : Int) (b : Int) = ((a ^^^ b : Nat) : Int) := by
  have hx : a ^^^ b < 2 ^ 32 := Nat.xor_lt_two_pow (by omega) (by omega)
  show IntKind.i64.wrap ((BitVec.ofInt 64 (a : Int) ^^^ BitVec.ofInt 64 (b : Int)).toNat : Int) = _
  rw [BitVec.toNat_xor, ofInt_u64 a (by omega), ofInt_u64 b (by omega)]
  exact IntWalk.i64_in _ (by omega)
theorem xor_bd (a b : Int) (h0 : 0 ≤ a) (h1 : a ≤ 65535) (h2 : 0 ≤ b) (h3 : b ≤ 65535) : 0 ≤ bits .xor .i64 a b ∧ bits .xor .i64 a b ≤ 65535 := by
  obtain ⟨x, rfl⟩ := Int.eq_ofNat_of_zero_le h0
  obtain ⟨y, rfl⟩ := Int.eq_ofNat_of_zero_le h2
  rw [i64_xor_nat x y (by omega) (by omega)]
  have hx : x ^^^ y < 2 ^ 16 := Nat.xor_lt_two_pow (by omega) (by omega)
  omega
theorem and_bd (a : Int) (h0 : 0 ≤ a) (h1 : a ≤ 131070) : 0 ≤ bits .and .i64 a 65535 ∧ bits .and .i64 a 65535 ≤ 65535 := by
  obtain ⟨x, rfl⟩ := Int.eq_ofNat_of_zero_le h0
  have e := i64_and_nat x 65535 (by omega) (by omega)
  have e2 : ((65535 : Nat) : Int) = 65535 := rfl
  rw [e2] at e
  rw [e]
  have hx : x &&& 65535 ≤ 65535 := Nat.and_le_right
  omega
theorem stepC_bd (v : Int) (h0 : 0 ≤ v) (h1 : v ≤ 65535) : 0 ≤ stepC v ∧ stepC v ≤ 65535 := by
  unfold stepC
  split
  · obtain ⟨a, b⟩ := and_bd (v * 2) (by omega) (by omega)
    exact xor_bd _ _ a b (by omega) (by omega)
  · omega
theorem take_next (s : ByteArray) (k : Nat) (h : k < s.size) : s.data.toList.take (k + 1) = s.data.toList.take k ++ [s[k]] := by
  rw [List.take_succ_eq_append_getElem (by simpa using h)]; rfl
theorem crc_next (s : ByteArray) (k : Nat) (h : k < s.size) (v0 v x r : Int) (hv : v = crcL (s.data.toList.take k) v0) (hx : bits .xor .i64 v ((s[k].toNat : Int) * 256) = x) (hr : r = stepN 8 x) : r = crcL (s.data.toList.take (k + 1)) v0 := by
  rw [take_next s k h]
  unfold crcL
  rw [List.foldl_append]
  show r = byteC (crcL (s.data.toList.take k) v0) s[k]
  rw [← hv, hr, ← hx]
  rfl
theorem crc_end (s : ByteArray) (k : Nat) (h : s.size ≤ k) (v0 v r : Int) (hv : v = crcL (s.data.toList.take k) v0) (hr : crcL s.data.toList v0 = r) : v = r := by
  rw [hv, ← hr, List.take_of_length_le (by simpa using h)]
theorem retC {k : IntKind} {a b : Int} (h : a = b) : Ending.returned (.int k a) = .returned (.int k b) := by rw [h]

set_option maxHeartbeats 400000 in
set_option maxRecDepth 100000 in
theorem l01Crc_any (s : ByteArray) (v0 : Int) (w : World) (hs : s.size ≤ maxLen) (h0 : 0 ≤ v0) (h1 : v0 ≤ 65535) :
    Calls Try.prog 27 #[.string s, .int .i64 v0] w fun e w' => e = .returned (.int .i64 (crcL s.data.toList v0)) ∧ w = w' := by
  unfold maxLen at hs
  obtain ⟨r, hr⟩ : ∃ r, crcL s.data.toList v0 = r := ⟨_, rfl⟩
  rw [hr]
  have HR := Lib.hid hr; clear hr
  go_enter Try.func27, Try.ntmps27
  go_wp2
  go_loop [1, 5] (fun vv i => ∃ (k : Nat) (v : Int), k ≤ s.size ∧ 0 ≤ v ∧ v ≤ 65535 ∧ Hid (v = crcL (s.data.toList.take k) v0) ∧ vv = .int .i64 v ∧ i = .int .i64 k) (fun _ i => s.size - (intOf i).toNat)
  case atStart => exact ⟨0, v0, Nat.zero_le _, h0, h1, rfl, rfl, rfl⟩
  case round =>
    obtain ⟨k, v, hk, g0, g1, hv, rfl, rfl⟩ := hrel
    by_cases hlt : k < s.size
    · have hb0 : (0 : Int) ≤ (s[k].toNat : Int) := by omega
      have hb1 : (s[k].toNat : Int) ≤ 255 := by have := s[k].toNat_lt; omega
      obtain ⟨x, hx⟩ : ∃ x, bits .xor .i64 v ((s[k].toNat : Int) * 256) = x := ⟨_, rfl⟩
      have hx01 := xor_bd v ((s[k].toNat : Int) * 256) g0 g1 (by omega) (by omega)
      rw [hx] at hx01
      obtain ⟨hx0, hx1⟩ := hx01
      have HX := Lib.hid hx
      go_wp2
      go_loop [1, 6] (fun vv j => ∃ (m : Nat) (u : Int), m ≤ 8 ∧ 0 ≤ u ∧ u ≤ 65535 ∧ Hid (u = stepN m x) ∧ vv = .int .i64 u ∧ j = .int .i64 m) (fun _ j => 8 - (intOf j).toNat)
      case atStart => exact ⟨0, x, Nat.zero_le _, hx0, hx1, rfl, rfl, rfl⟩
      case round =>
        obtain ⟨m, u, hm, f0, f1, hu, rfl, rfl⟩ := hrel
        clear hx
        by_cases hmt : m < 8
        · obtain ⟨z, hz⟩ : ∃ z, stepC u = z := ⟨_, rfl⟩
          have hz01 := stepC_bd u f0 f1
          rw [hz] at hz01
          obtain ⟨hz0, hz1⟩ := hz01
          have HZ := Lib.hid hz
          unfold stepC at hz
          have HU : Hid (z = stepN (m + 1) x) := by show z = stepC (stepN m x); rw [← hu.out, HZ.out]
          by_cases hbig : 65535 < u * 2
          · rw [if_pos hbig] at hz
            go_wp2
            go_round
            case rel => exact ⟨m + 1, z, by omega, hz0, hz1, HU, rfl, by go_num⟩
            case measure => simp [intOf]; omega
          · rw [if_neg hbig] at hz
            go_wp2
            go_round
            case rel => exact ⟨m + 1, z, by omega, hz0, hz1, HU, rfl, by go_num⟩
            case measure => simp [intOf]; omega
        · obtain rfl : m = 8 := by omega
          have HN : Hid (u = crcL (s.data.toList.take (k + 1)) v0) := crc_next s k hlt v0 v x u hv.out HX.out hu.out
          clear hu hv
          go_wp2
          go_round
          case rel => exact ⟨k + 1, u, by omega, f0, f1, HN, rfl, by go_num⟩
          case measure => simp [intOf]; omega
    · go_wp2
      go_ret
      exact ⟨retC (crc_end s k (by omega) v0 v r hv.out HR.out), rfl⟩

set_option maxHeartbeats 400000 in
set_option maxRecDepth 100000 in
theorem implCrc_any (s : ByteArray) (v0 : Int) (w : World) (hs : s.size ≤ maxLen) (h0 : 0 ≤ v0) (h1 : v0 ≤ 65535) :
    Calls Try.prog 14 #[.string s, .int .i64 v0] w fun e w' => e = .returned (.int .i64 (crcL s.data.toList v0)) ∧ w = w' := by
  unfold maxLen at hs
  obtain ⟨r, hr⟩ : ∃ r, crcL s.data.toList v0 = r := ⟨_, rfl⟩
  rw [hr]
  have HR := Lib.hid hr; clear hr
  go_enter Try.func14, Try.ntmps14
  go_wp2_with (go_at_call 22; refine (within64_yes _ _ _ _ h0 h1).mono ?_; rintro e w' ⟨rfl, rfl⟩)
  go_loop [5, 13] (fun vv i => ∃ (k : Nat) (v : Int), k ≤ s.size ∧ 0 ≤ v ∧ v ≤ 65535 ∧ Hid (v = crcL (s.data.toList.take k) v0) ∧ vv = .int .i64 v ∧ i = .int .i64 k) (fun _ i => s.size - (intOf i).toNat)
  case atStart => exact ⟨0, v0, Nat.zero_le _, h0, h1, rfl, rfl, rfl⟩
  case round =>
    obtain ⟨k, v, hk, g0, g1, hv, rfl, rfl⟩ := hrel
    by_cases hlt : k < s.size
    · have hb0 : (0 : Int) ≤ (s[k].toNat : Int) := by omega
      have hb1 : (s[k].toNat : Int) ≤ 255 := by have := s[k].toNat_lt; omega
      obtain ⟨x, hx⟩ : ∃ x, bits .xor .i64 v ((s[k].toNat : Int) * 256) = x := ⟨_, rfl⟩
      have hx01 := xor_bd v ((s[k].toNat : Int) * 256) g0 g1 (by omega) (by omega)
      rw [hx] at hx01
      obtain ⟨hx0, hx1⟩ := hx01
      have HX := Lib.hid hx
      go_wp2
      go_loop [5, 23] (fun vv j => ∃ (m : Nat) (u : Int), m ≤ 8 ∧ 0 ≤ u ∧ u ≤ 65535 ∧ Hid (u = stepN m x) ∧ vv = .int .i64 u ∧ j = .int .i64 m) (fun _ j => 8 - (intOf j).toNat)
      case atStart => exact ⟨0, x, Nat.zero_le _, hx0, hx1, rfl, rfl, rfl⟩
      case round =>
        obtain ⟨m, u, hm, f0, f1, hu, rfl, rfl⟩ := hrel
        clear hx
        by_cases hmt : m < 8
        · obtain ⟨z, hz⟩ : ∃ z, stepC u = z := ⟨_, rfl⟩
          have hz01 := stepC_bd u f0 f1
          rw [hz] at hz01
          obtain ⟨hz0, hz1⟩ := hz01
          have HZ := Lib.hid hz
          unfold stepC at hz
          have HU : Hid (z = stepN (m + 1) x) := by show z = stepC (stepN m x); rw [← hu.out, HZ.out]
          by_cases hbig : 65535 < u * 2
          · rw [if_pos hbig] at hz
            go_wp2
            go_round
            case rel => exact ⟨m + 1, z, by omega, hz0, hz1, HU, rfl, by go_num⟩
            case measure => simp [intOf]; omega
          · rw [if_neg hbig] at hz
            go_wp2
            go_round
            case rel => exact ⟨m + 1, z, by omega, hz0, hz1, HU, rfl, by go_num⟩
            case measure => simp [intOf]; omega
        · obtain rfl : m = 8 := by omega
          have HN : Hid (u = crcL (s.data.toList.take (k + 1)) v0) := crc_next s k hlt v0 v x u hv.out HX.out hu.out
          clear hu hv
          go_wp2
          go_round
          case rel => exact ⟨k + 1, u, by omega, f0, f1, HN, rfl, by go_num⟩
          case measure => simp [intOf]; omega
    · go_wp2
      go_ret
      exact ⟨retC (crc_end s k (by omega) v0 v r hv.out HR.out), rfl⟩

/-- The law's number. -/
def crcI (s : ByteArray) (v : Int) : Int := if v < 0 ∨ 65535 < v then 0 else crcL s.data.toList v
theorem specCrc_any (s : ByteArray) (v : Int) (w : World) (hs : s.size ≤ maxLen) :
    Calls Try.prog 13 #[.string s, .int .i64 v] w fun e w' => e = .returned (.int .i64 (crcI s v)) ∧ w = w' := by
  by_cases h : v < 0 ∨ 65535 < v
  · rw [show crcI s v = 0 by unfold crcI; rw [if_pos h]]
    have H := Lib.hid h; clear h
    go_enter Try.func13, Try.ntmps13
    go_wp2_with (go_at_call 21; refine (l00In_no _ _ _ _ H.out).mono ?_; rintro e w' ⟨rfl, rfl⟩)
    go_ret
    exact ⟨rfl, rfl⟩
  · rw [show crcI s v = crcL s.data.toList v by unfold crcI; rw [if_neg h]]
    have h0 : 0 ≤ v := by omega
    have h1 : v ≤ 65535 := by omega
    clear h
    have HS := Lib.hid hs; clear hs
    go_enter Try.func13, Try.ntmps13
    go_wp2_with (first | (go_at_call 21; refine (l00In_yes _ _ _ _ h0 h1).mono ?_; rintro e w' ⟨rfl, rfl⟩) | (go_at_call 27; refine (l01Crc_any _ _ _ HS.out h0 h1).mono ?_; rintro e w' ⟨rfl, rfl⟩))
    go_ret
    exact ⟨rfl, rfl⟩
theorem implCrc16_any (s : ByteArray) (v : Int) (w : World) (hs : s.size ≤ maxLen) :
    Calls Try.prog 14 #[.string s, .int .i64 v] w fun e w' => e = .returned (.int .i64 (crcI s v)) ∧ w = w' := by
  by_cases h : v < 0 ∨ 65535 < v
  · rw [show crcI s v = 0 by unfold crcI; rw [if_pos h]]
    have H := Lib.hid h; clear h
    go_enter Try.func14, Try.ntmps14
    go_wp2_with (go_at_call 22; refine (within64_no _ _ _ _ H.out).mono ?_; rintro e w' ⟨rfl, rfl⟩)
    go_ret
    exact ⟨rfl, rfl⟩
  · rw [show crcI s v = crcL s.data.toList v by unfold crcI; rw [if_neg h]]
    exact implCrc_any s v w hs (by omega) (by omega)
theorem crc_walk (s : ByteArray) (v : Int) (w : World) (hs : s.size ≤ maxLen) :
    Calls Try.prog 5 #[.string s, .int .i64 v] w fun e w' => e = .returned (.bool true) ∧ w = w' := by
  have HS := Lib.hid hs
  unfold maxLen at hs
  by_cases hbig : 1048576 < s.size
  · go_enter Try.func5, Try.ntmps5
    go_wp2
    go_ret
    exact ⟨rfl, rfl⟩
  · go_enter Try.func5, Try.ntmps5
    go_wp2_with (first | (go_at_call 13; refine (specCrc_any _ _ _ HS.out).mono ?_; rintro e w' ⟨rfl, rfl⟩) | (go_at_call 14; refine (implCrc16_any _ _ _ HS.out).mono ?_; rintro e w' ⟨rfl, rfl⟩))
    go_ret
    exact ⟨rfl, rfl⟩
end Go.Proofs.Ytjgajnhefhgpkaa
