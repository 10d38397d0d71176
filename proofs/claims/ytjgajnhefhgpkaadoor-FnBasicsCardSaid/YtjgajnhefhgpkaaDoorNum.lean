/-
  The model's reading of a decimal text.
-/
import Derived.Test.YtjgajnhefhgpkaaDoorDig
import Derived.Test.YtjgajnhefhgpkaaDoorNumMath
import Derived.ProofKit
namespace Go.Proofs.YtjgajnhefhgpkaaDoor
open Go.RowKit
set_option linter.unusedVariables false

/-- How the reading of a text ends. -/
def NumRes (s : ByteArray) (e : Ending) : Prop :=
  (IsNum s.data.toList ∧ e = .returned (.tuple #[.int .i64 (numOf s.data.toList), .bool true])) ∨ (¬ IsNum s.data.toList ∧ e = .returned (.tuple #[.int .i64 0, .bool false]))
theorem num_no {s : ByteArray} {e : Ending} (h : ¬ IsNum s.data.toList) (he : e = .returned (.tuple #[.int .i64 0, .bool false])) : NumRes s e := .inr ⟨h, he⟩
theorem len_bytes (s : ByteArray) : s.data.toList.length = s.size := by rw [Array.length_toList]; rfl
theorem head_bytes (s : ByteArray) (h : 0 < s.size) : s.data.toList.head? = some s[0] := by
  obtain ⟨⟨l⟩⟩ := s
  cases l with
  | nil => exact absurd h (by decide)
  | cons a r => rfl
theorem head_drop (s : ByteArray) (k : Nat) (h : k < s.size) : (s.data.toList.drop k).head? = some s[k] := by
  rw [List.head?_drop, List.getElem?_eq_getElem (by rw [len_bytes]; exact h)]; rfl
theorem sgn_one (s : ByteArray) (h : 0 < s.size) (h45 : (s[0].toNat : Int) = 45) : sgn s.data.toList = 1 := by
  unfold sgn
  rw [head_bytes s h, if_pos]
  have : s[0] = 45 := UInt8.toNat_inj.mp (by have e : (45 : UInt8).toNat = 45 := rfl; omega)
  rw [this]
theorem sgn_none (s : ByteArray) (h : s.size = 0) : sgn s.data.toList = 0 := by
  unfold sgn
  have : s.data.toList = [] := List.eq_nil_of_length_eq_zero (by rw [len_bytes]; exact h)
  rw [this]; rfl
theorem sgn_zero (s : ByteArray) (h : 0 < s.size) (h45 : ¬ (s[0].toNat : Int) = 45) : sgn s.data.toList = 0 := by
  unfold sgn
  rw [head_bytes s h, if_neg]
  intro x
  simp only [Option.some.injEq] at x
  rw [x] at h45
  exact h45 rfl
/-- What the loop has seen: from byte a to byte i digits alone, and they spell v. -/
def Seen (s : ByteArray) (a i v : Nat) : Prop := ((s.data.toList.take i).drop a).all isDg = true ∧ v = valD ((s.data.toList.take i).drop a) ∧ v < 10 ^ (i - a)
theorem seen_start (s : ByteArray) (a : Nat) : Seen s a a 0 := by
  unfold Seen
  have : (s.data.toList.take a).drop a = [] := List.drop_eq_nil_of_le (by simp; omega)
  rw [this]; exact ⟨rfl, rfl, by simp⟩
theorem take_drop_next (s : ByteArray) (a i : Nat) (h : i < s.size) (ha : a ≤ i) : (s.data.toList.take (i + 1)).drop a = (s.data.toList.take i).drop a ++ [s[i]] := by
  rw [List.take_succ_eq_append_getElem (by rw [len_bytes]; exact h), List.drop_append_of_le_length (by simp; omega)]; rfl
theorem seen_next {s : ByteArray} {a i v : Nat} (h : Seen s a i v) (hi : i < s.size) (ha : a ≤ i) (hd : 48 ≤ (s[i].toNat : Int) ∧ (s[i].toNat : Int) ≤ 57) : Seen s a (i + 1) (10 * v + (s[i].toNat - 48)) := by
  obtain ⟨h1, h2, h3⟩ := h
  have hd' : 48 ≤ s[i].toNat ∧ s[i].toNat ≤ 57 := by omega
  unfold Seen
  rw [take_drop_next s a i hi ha, valD_snoc, List.all_append, h1, ← h2]
  refine ⟨by simp [isDg, hd'], rfl, ?_⟩
  rw [show i + 1 - a = (i - a) + 1 by omega, Nat.pow_succ]; omega
theorem seen_small {s : ByteArray} {a i v : Nat} (h : Seen s a i v) (hi : i - a ≤ 17) : v ≤ 99999999999999999 := by
  have d := Nat.pow_le_pow_right (show 0 < 10 by decide) hi
  have e : (10 : Nat) ^ 17 = 100000000000000000 := by decide
  have := h.2.2
  omega
theorem seen_all {s : ByteArray} {a v : Nat} (h : Seen s a s.size v) : (s.data.toList.drop a).all isDg = true ∧ v = valD (s.data.toList.drop a) := by
  have e : s.data.toList.take s.size = s.data.toList := List.take_of_length_le (by rw [len_bytes]; exact Nat.le_refl _)
  unfold Seen at h
  rw [e] at h
  exact ⟨h.1, h.2.1⟩
theorem not_digit {s : ByteArray} {a i : Nat} (hi : i < s.size) (ha : a ≤ i) (hs : sgn s.data.toList = a) (hd : dgB (s[i].toNat : Int) = false) : ¬ IsNum s.data.toList := by
  rintro ⟨_, _, _, h4⟩
  rw [hs, List.all_eq_true] at h4
  have hl : i < s.data.toList.length := by rw [len_bytes]; exact hi
  have hm : s[i] ∈ s.data.toList.drop a := by
    have : s.data.toList[i] ∈ s.data.toList.drop a := by
      rw [List.mem_drop_iff_getElem]
      exact ⟨i - a, by omega, by simp [show a + (i - a) = i by omega]⟩
    exact this
  have := h4 _ hm
  have hh := dgB_no hd
  have h5 : 48 ≤ s[i].toNat ∧ s[i].toNat ≤ 57 := by simpa [isDg] using this
  omega
theorem retT {a b : Value} {c : Value} (h : a = b) : Ending.returned (.tuple #[a, c]) = .returned (.tuple #[b, c]) := by rw [h]

set_option maxHeartbeats 400000 in
set_option maxRecDepth 100000 in
theorem numberPlus (s : ByteArray) (w : World) (hs : s.size ≤ maxLen) (hz : 0 < s.size) (h45 : ¬ (s[0].toNat : Int) = 45) :
    Calls Tryd.prog 48 #[.string s] w fun e w' => NumRes s e ∧ w = w' := by
  unfold maxLen at hs
  have HS := Lib.hid (sgn_zero s hz h45)
  have f45 : ((s[0].toNat : Int) == 45) = false := by simpa using h45
  have HZ : (0 : Int) < s.size := by omega
  clear h45
  have e1 : ((s.size : Int) == 0) = false := by rw [beq_eq_false_iff_ne]; omega
  have c1' : 0 < s.size := hz
  by_cases c2 : 18 < s.size - 0
  · have HN : Hid (¬ IsNum s.data.toList) := by
      rintro ⟨_, h2, _, _⟩
      rw [HS.out, len_bytes] at h2
      omega
    have e2 : 18 < (s.size : Int) := by omega
    clear c2
    go_enter Tryd.func48, Tryd.ntmps48
    go_wp2
    go_ret2
    exact ⟨num_no HN.out rfl, rfl⟩
  have e2 : ¬ 18 < (s.size : Int) := by omega
  have b2 : s.size ≤ 18 := by omega
  clear c2
  by_cases c3 : (s[0].toNat : Int) = 48 ∧ 1 < s.size
  · have HN : Hid (¬ IsNum s.data.toList) := by
      rintro ⟨_, _, h3, _⟩
      rw [HS.out, len_bytes, head_drop s 0 c1'] at h3
      refine h3 ⟨?_, c3.2⟩
      have : s[0] = 48 := UInt8.toNat_inj.mp (by have e : (48 : UInt8).toNat = 48 := rfl; have := c3.1; omega)
      rw [this]
    have e3 : ((s[0].toNat : Int) == 48) = true := by simpa using c3.1
    have e4 : (1 : Int) < s.size := by have := c3.2; omega
    clear c3
    go_enter Tryd.func48, Tryd.ntmps48
    go_wp2
    go_ret2
    exact ⟨num_no HN.out rfl, rfl⟩
  have HL : Hid (¬ ((s.data.toList.drop 0).head? = some 48 ∧ 1 < s.data.toList.length)) := by
    rintro ⟨x, y⟩
    rw [head_drop s 0 c1'] at x
    rw [len_bytes] at y
    simp only [Option.some.injEq] at x
    exact c3 ⟨by rw [x]; rfl, y⟩
  by_cases c4 : (s[0].toNat : Int) = 48
  · have e3 : ((s[0].toNat : Int) == 48) = true := by simpa using c4
    have e4 : ¬ (1 : Int) < s.size := by intro x; exact c3 ⟨c4, by omega⟩
    clear c3 c4
    go_enter Tryd.func48, Tryd.ntmps48
    go_wp2
    go_loop [5, 6] (fun n i => ∃ (k v : Nat), 0 ≤ k ∧ k ≤ s.size ∧ Hid (Seen s 0 k v) ∧ n = .int .i64 (v : Int) ∧ i = .int .i64 (k : Int)) (fun _ i => s.size - (intOf i).toNat)
    case atStart => exact ⟨0, 0, Nat.le_refl _, by omega, seen_start s 0, rfl, rfl⟩
    case round =>
      obtain ⟨k, v, hk0, hk, hv, rfl, rfl⟩ := hrel
      by_cases hlt : k < s.size
      · have hv17 := seen_small hv.out (by omega)
        obtain ⟨x, hx⟩ : ∃ x : Int, (s[k].toNat : Int) = x := ⟨_, rfl⟩
        cases hd : dgB x
        · have HN : Hid (¬ IsNum s.data.toList) := not_digit hlt hk0 HS.out (by rw [hx]; exact hd)
          clear hv17
          go_wp2_with (go_at_call 66; refine (digit_any _ _).mono ?_; rintro e w' ⟨rfl, rfl⟩)
          go_ret2
          exact ⟨num_no HN.out rfl, rfl⟩
        · obtain ⟨x0, x1⟩ := dgB_yes hd
          have HV := Lib.hid (seen_next hv.out hlt hk0 (by rw [hx]; exact ⟨x0, x1⟩))
          have HE : Hid (10 * (v : Int) + (x - 48) = ((10 * v + (s[k].toNat - 48) : Nat) : Int)) := by show _ = _; omega
          go_wp2_with (go_at_call 66; refine (digit_any _ _).mono ?_; rintro e w' ⟨rfl, rfl⟩)
          go_round
          case rel => exact ⟨k + 1, _, by omega, by omega, HV, by rw [HE.out], by go_num⟩
          case measure => simp [intOf]; omega
      · obtain rfl : k = s.size := by omega
        obtain ⟨q1, q2⟩ := seen_all hv.out
        have HI : Hid (IsNum s.data.toList) := ⟨by rw [HS.out, len_bytes]; exact c1', by rw [HS.out, len_bytes]; omega, by rw [HS.out]; exact HL.out, by rw [HS.out]; exact q1⟩
        have hv18 : v ≤ 999999999999999999 := by
          have d := Nat.pow_le_pow_right (show 0 < 10 by decide) (show s.size - 0 ≤ 18 by omega)
          rw [pow18] at d
          have := hv.out.2.2
          omega
        have HQ := Lib.hid q2
        clear hv q1 q2
        go_wp2
        go_ret2
        exact ⟨.inl ⟨HI.out, retT (by rw [numOf, if_neg (by rw [HS.out]; decide)]; simp only [List.drop_zero] at HQ; rw [HQ.out]; rfl)⟩, rfl⟩
  · have e3 : ((s[0].toNat : Int) == 48) = false := by simpa using c4
    clear c3 c4
    go_enter Tryd.func48, Tryd.ntmps48
    go_wp2
    go_loop [5, 6] (fun n i => ∃ (k v : Nat), 0 ≤ k ∧ k ≤ s.size ∧ Hid (Seen s 0 k v) ∧ n = .int .i64 (v : Int) ∧ i = .int .i64 (k : Int)) (fun _ i => s.size - (intOf i).toNat)
    case atStart => exact ⟨0, 0, Nat.le_refl _, by omega, seen_start s 0, rfl, rfl⟩
    case round =>
      obtain ⟨k, v, hk0, hk, hv, rfl, rfl⟩ := hrel
      by_cases hlt : k < s.size
      · have hv17 := seen_small hv.out (by omega)
        obtain ⟨x, hx⟩ : ∃ x : Int, (s[k].toNat : Int) = x := ⟨_, rfl⟩
        cases hd : dgB x
        · have HN : Hid (¬ IsNum s.data.toList) := not_digit hlt hk0 HS.out (by rw [hx]; exact hd)
          clear hv17
          go_wp2_with (go_at_call 66; refine (digit_any _ _).mono ?_; rintro e w' ⟨rfl, rfl⟩)
          go_ret2
          exact ⟨num_no HN.out rfl, rfl⟩
        · obtain ⟨x0, x1⟩ := dgB_yes hd
          have HV := Lib.hid (seen_next hv.out hlt hk0 (by rw [hx]; exact ⟨x0, x1⟩))
          have HE : Hid (10 * (v : Int) + (x - 48) = ((10 * v + (s[k].toNat - 48) : Nat) : Int)) := by show _ = _; omega
          go_wp2_with (go_at_call 66; refine (digit_any _ _).mono ?_; rintro e w' ⟨rfl, rfl⟩)
          go_round
          case rel => exact ⟨k + 1, _, by omega, by omega, HV, by rw [HE.out], by go_num⟩
          case measure => simp [intOf]; omega
      · obtain rfl : k = s.size := by omega
        obtain ⟨q1, q2⟩ := seen_all hv.out
        have HI : Hid (IsNum s.data.toList) := ⟨by rw [HS.out, len_bytes]; exact c1', by rw [HS.out, len_bytes]; omega, by rw [HS.out]; exact HL.out, by rw [HS.out]; exact q1⟩
        have hv18 : v ≤ 999999999999999999 := by
          have d := Nat.pow_le_pow_right (show 0 < 10 by decide) (show s.size - 0 ≤ 18 by omega)
          rw [pow18] at d
          have := hv.out.2.2
          omega
        have HQ := Lib.hid q2
        clear hv q1 q2
        go_wp2
        go_ret2
        exact ⟨.inl ⟨HI.out, retT (by rw [numOf, if_neg (by rw [HS.out]; decide)]; simp only [List.drop_zero] at HQ; rw [HQ.out]; rfl)⟩, rfl⟩

set_option maxHeartbeats 400000 in
set_option maxRecDepth 100000 in
theorem numberMinus (s : ByteArray) (w : World) (hs : s.size ≤ maxLen) (hz : 0 < s.size) (h45 : (s[0].toNat : Int) = 45) :
    Calls Tryd.prog 48 #[.string s] w fun e w' => NumRes s e ∧ w = w' := by
  unfold maxLen at hs
  have HS := Lib.hid (sgn_one s hz h45)
  have f45 : ((s[0].toNat : Int) == 45) = true := by simpa using h45
  have HZ : (0 : Int) < s.size := by omega
  clear h45
  by_cases c1 : s.size = 1
  · have HN : Hid (¬ IsNum s.data.toList) := by
      rintro ⟨h1, _, _, _⟩
      rw [HS.out, len_bytes] at h1
      omega
    have e1 : ((s.size : Int) == 1) = true := by rw [beq_iff_eq]; omega
    clear c1
    go_enter Tryd.func48, Tryd.ntmps48
    go_wp2
    go_ret2
    exact ⟨num_no HN.out rfl, rfl⟩
  have e1 : ((s.size : Int) == 1) = false := by rw [beq_eq_false_iff_ne]; omega
  have c1' : 1 < s.size := by omega
  by_cases c2 : 18 < s.size - 1
  · have HN : Hid (¬ IsNum s.data.toList) := by
      rintro ⟨_, h2, _, _⟩
      rw [HS.out, len_bytes] at h2
      omega
    have e2 : 18 < (s.size : Int) - 1 := by omega
    clear c2
    go_enter Tryd.func48, Tryd.ntmps48
    go_wp2
    go_ret2
    exact ⟨num_no HN.out rfl, rfl⟩
  have e2 : ¬ 18 < (s.size : Int) - 1 := by omega
  have b2 : s.size ≤ 19 := by omega
  clear c2
  by_cases c3 : (s[1].toNat : Int) = 48 ∧ 1 < s.size
  · have HN : Hid (¬ IsNum s.data.toList) := by
      rintro ⟨_, _, h3, _⟩
      rw [HS.out, len_bytes, head_drop s 1 c1'] at h3
      refine h3 ⟨?_, c3.2⟩
      have : s[1] = 48 := UInt8.toNat_inj.mp (by have e : (48 : UInt8).toNat = 48 := rfl; have := c3.1; omega)
      rw [this]
    have e3 : ((s[1].toNat : Int) == 48) = true := by simpa using c3.1
    have e4 : (1 : Int) < s.size := by have := c3.2; omega
    clear c3
    go_enter Tryd.func48, Tryd.ntmps48
    go_wp2
    go_ret2
    exact ⟨num_no HN.out rfl, rfl⟩
  have HL : Hid (¬ ((s.data.toList.drop 1).head? = some 48 ∧ 1 < s.data.toList.length)) := by
    rintro ⟨x, y⟩
    rw [head_drop s 1 c1'] at x
    rw [len_bytes] at y
    simp only [Option.some.injEq] at x
    exact c3 ⟨by rw [x]; rfl, y⟩
  by_cases c4 : (s[1].toNat : Int) = 48
  · exact absurd ⟨c4, c1'⟩ c3
  · have e3 : ((s[1].toNat : Int) == 48) = false := by simpa using c4
    clear c3 c4
    go_enter Tryd.func48, Tryd.ntmps48
    go_wp2
    go_loop [5, 6] (fun n i => ∃ (k v : Nat), 1 ≤ k ∧ k ≤ s.size ∧ Hid (Seen s 1 k v) ∧ n = .int .i64 (v : Int) ∧ i = .int .i64 (k : Int)) (fun _ i => s.size - (intOf i).toNat)
    case atStart => exact ⟨1, 0, Nat.le_refl _, by omega, seen_start s 1, rfl, rfl⟩
    case round =>
      obtain ⟨k, v, hk0, hk, hv, rfl, rfl⟩ := hrel
      by_cases hlt : k < s.size
      · have hv17 := seen_small hv.out (by omega)
        obtain ⟨x, hx⟩ : ∃ x : Int, (s[k].toNat : Int) = x := ⟨_, rfl⟩
        cases hd : dgB x
        · have HN : Hid (¬ IsNum s.data.toList) := not_digit hlt hk0 HS.out (by rw [hx]; exact hd)
          clear hv17
          go_wp2_with (go_at_call 66; refine (digit_any _ _).mono ?_; rintro e w' ⟨rfl, rfl⟩)
          go_ret2
          exact ⟨num_no HN.out rfl, rfl⟩
        · obtain ⟨x0, x1⟩ := dgB_yes hd
          have HV := Lib.hid (seen_next hv.out hlt hk0 (by rw [hx]; exact ⟨x0, x1⟩))
          have HE : Hid (10 * (v : Int) + (x - 48) = ((10 * v + (s[k].toNat - 48) : Nat) : Int)) := by show _ = _; omega
          go_wp2_with (go_at_call 66; refine (digit_any _ _).mono ?_; rintro e w' ⟨rfl, rfl⟩)
          go_round
          case rel => exact ⟨k + 1, _, by omega, by omega, HV, by rw [HE.out], by go_num⟩
          case measure => simp [intOf]; omega
      · obtain rfl : k = s.size := by omega
        obtain ⟨q1, q2⟩ := seen_all hv.out
        have HI : Hid (IsNum s.data.toList) := ⟨by rw [HS.out, len_bytes]; exact c1', by rw [HS.out, len_bytes]; omega, by rw [HS.out]; exact HL.out, by rw [HS.out]; exact q1⟩
        have hv18 : v ≤ 999999999999999999 := by
          have d := Nat.pow_le_pow_right (show 0 < 10 by decide) (show s.size - 1 ≤ 18 by omega)
          rw [pow18] at d
          have := hv.out.2.2
          omega
        have HQ := Lib.hid q2
        clear hv q1 q2
        go_wp2
        go_ret2
        exact ⟨.inl ⟨HI.out, retT (by rw [numOf, if_pos HS.out]; rw [HQ.out]; rfl)⟩, rfl⟩

theorem number_any (s : ByteArray) (w : World) (hs : s.size ≤ maxLen) :
    Calls Tryd.prog 48 #[.string s] w fun e w' => NumRes s e ∧ w = w' := by
  by_cases hz : 0 < s.size
  · by_cases h45 : (s[0].toNat : Int) = 45
    · exact numberMinus s w hs hz h45
    · exact numberPlus s w hs hz h45
  · have h0 : s.size = 0 := by omega
    have HN : Hid (¬ IsNum s.data.toList) := by
      rintro ⟨h1, _, _, _⟩
      rw [len_bytes] at h1
      omega
    clear hz hs
    go_enter Tryd.func48, Tryd.ntmps48
    go_wp2
    go_ret2
    exact ⟨num_no HN.out rfl, rfl⟩
end Go.Proofs.YtjgajnhefhgpkaaDoor
