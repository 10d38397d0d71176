/-
  The law of IsName: for every string the program's answer is the model's; no condition.
-/
import Derived.Test.YtjgajnhefhgpkaaName
import Derived.ProofKit
namespace Go.Proofs.Ytjgajnhefhgpkaa
open Go.RowKit
set_option linter.unusedVariables false

/-- A letter or a digit. -/
def okB (n : Int) : Bool := letB n || digB n
/-- What makes a string a name. -/
def IsNm (s : ByteArray) : Prop := ∃ h : 0 < s.size, s.size ≤ 10 ∧ letB (s[0].toNat : Int) = true ∧ ∀ (i : Nat) (hi : i < s.size), okB (s[i].toNat : Int) = true

theorem withinInt_yes (n lo hi : Int) (w : World) (h0 : lo ≤ n) (h1 : n ≤ hi) :
    Calls Try.prog 24 #[.int .i64 n, .int .i64 lo, .int .i64 hi] w fun e w' => e = .returned (.bool true) ∧ w = w' := by
  have e0 : decide (lo ≤ n) = true := by simpa using h0
  have e1 : decide (n ≤ hi) = true := by simpa using h1
  go_enter Try.func24, Try.ntmps24
  go_wp2
  go_ret
  exact ⟨rfl, rfl⟩
theorem withinInt_no (n lo hi : Int) (w : World) (h : n < lo ∨ hi < n) :
    Calls Try.prog 24 #[.int .i64 n, .int .i64 lo, .int .i64 hi] w fun e w' => e = .returned (.bool false) ∧ w = w' := by
  by_cases h0 : lo ≤ n
  · have h1 : ¬ n ≤ hi := by omega
    have e0 : decide (lo ≤ n) = true := by simpa using h0
    have e1 : decide (n ≤ hi) = false := by simpa using h1
    clear h
    go_enter Try.func24, Try.ntmps24
    go_wp2
    go_ret
    exact ⟨rfl, rfl⟩
  · have e0 : decide (lo ≤ n) = false := by simpa using h0
    clear h
    go_enter Try.func24, Try.ntmps24
    go_wp2
    go_ret
    exact ⟨rfl, rfl⟩
theorem bytes_some (s : ByteArray) (h : 0 < s.size) : s.toList.isEmpty = false ∧ ¬ s.toList = [] := by
  rw [ByteArray.toList_eq]
  obtain ⟨⟨l⟩⟩ := s
  cases l with
  | nil => exact absurd h (by decide)
  | cons a l => exact ⟨rfl, fun x => by cases x⟩
theorem bytes_none (s : ByteArray) (h : s.size = 0) : s.toList.isEmpty = true ∧ s.toList = [] := by
  rw [ByteArray.toList_eq]
  obtain ⟨⟨l⟩⟩ := s
  cases l with
  | nil => exact ⟨rfl, rfl⟩
  | cons a l => exact absurd h (by simp [ByteArray.size])
theorem okB_cases {n : Int} (h : okB n = true) : letB n = true ∨ letB n = false ∧ digB n = true := by
  unfold okB at h
  cases hl : letB n
  · right; rw [hl] at h; exact ⟨rfl, by simpa using h⟩
  · left; rfl

theorem specName_yes (s : ByteArray) (w : World) (hn : IsNm s) :
    Calls Try.prog 23 #[.string s] w fun e w' => e = .returned (.bool true) ∧ w = w' := by
  obtain ⟨h0, h1, h2, h3⟩ := hn
  have H3 := Lib.hid h3; clear h3
  obtain ⟨he, hf⟩ := bytes_some s h0
  have h1' : (s.size : Int) ≤ 10 := by omega
  go_enter Try.func23, Try.ntmps23
  go_wp2_with (first | (go_at_call 35; refine (specLet_any _ _).mono ?_; rintro e w' ⟨rfl, rfl⟩))
  go_loop [3] (fun i => ∃ k : Nat, k ≤ s.size ∧ i = .int .i64 k) (fun i => s.size - (intOf i).toNat)
  case atStart => exact ⟨0, Nat.zero_le _, rfl⟩
  case round =>
    obtain ⟨k, hk, rfl⟩ := hrel
    by_cases hlt : k < s.size
    · rcases okB_cases (H3.out k hlt) with hl | ⟨hl, hd⟩
      · go_wp2_with (first | (go_at_call 35; refine (specLet_any _ _).mono ?_; rintro e w' ⟨rfl, rfl⟩) | (go_at_call 36; refine (specDig_any _ _).mono ?_; rintro e w' ⟨rfl, rfl⟩))
        go_round
        case rel => exact ⟨k + 1, by omega, by go_num⟩
        case measure => simp [intOf]; omega
      · go_wp2_with (first | (go_at_call 35; refine (specLet_any _ _).mono ?_; rintro e w' ⟨rfl, rfl⟩) | (go_at_call 36; refine (specDig_any _ _).mono ?_; rintro e w' ⟨rfl, rfl⟩))
        go_round
        case rel => exact ⟨k + 1, by omega, by go_num⟩
        case measure => simp [intOf]; omega
    · go_wp2
      go_ret
      exact ⟨rfl, rfl⟩

theorem specName_no (s : ByteArray) (w : World) (hs : s.size ≤ maxLen) (hn : ¬ IsNm s) :
    Calls Try.prog 23 #[.string s] w fun e w' => e = .returned (.bool false) ∧ w = w' := by
  unfold maxLen at hs
  by_cases h0 : 0 < s.size
  · obtain ⟨he, hf⟩ := bytes_some s h0
    by_cases h1 : s.size ≤ 10
    · have h1' : (s.size : Int) ≤ 10 := by omega
      cases h2 : letB (s[0].toNat : Int)
      · clear hn
        go_enter Try.func23, Try.ntmps23
        go_wp2_with (first | (go_at_call 35; refine (specLet_any _ _).mono ?_; rintro e w' ⟨rfl, rfl⟩))
        go_ret
        exact ⟨rfl, rfl⟩
      · have HN : Hid (¬ ∀ (i : Nat) (hi : i < s.size), okB (s[i].toNat : Int) = true) := fun x => hn ⟨h0, h1, h2, x⟩
        clear hn
        go_enter Try.func23, Try.ntmps23
        go_wp2_with (first | (go_at_call 35; refine (specLet_any _ _).mono ?_; rintro e w' ⟨rfl, rfl⟩))
        go_loop [3] (fun i => ∃ k : Nat, k ≤ s.size ∧ i = .int .i64 k ∧ Hid (∀ (i : Nat) (hi : i < s.size), i < k → okB (s[i].toNat : Int) = true)) (fun i => s.size - (intOf i).toNat)
        case atStart => exact ⟨0, Nat.zero_le _, rfl, fun i _ h => absurd h (by omega)⟩
        case round =>
          obtain ⟨k, hk, rfl, HA⟩ := hrel
          by_cases hlt : k < s.size
          · have next : okB (s[k].toNat : Int) = true → ∀ (i : Nat) (hi : i < s.size), i < k + 1 → okB (s[i].toNat : Int) = true := by
              intro hok i hi hik
              by_cases e : i = k
              · subst e; exact hok
              · exact HA.out i hi (by omega)
            have NX := Lib.hid next
            clear next
            cases hl : letB (s[k].toNat : Int)
            · cases hd : digB (s[k].toNat : Int)
              · go_wp2_with (first | (go_at_call 35; refine (specLet_any _ _).mono ?_; rintro e w' ⟨rfl, rfl⟩) | (go_at_call 36; refine (specDig_any _ _).mono ?_; rintro e w' ⟨rfl, rfl⟩))
                go_ret
                exact ⟨rfl, rfl⟩
              · have HB := Lib.hid (NX.out (by unfold okB; rw [hl, hd]; rfl))
                go_wp2_with (first | (go_at_call 35; refine (specLet_any _ _).mono ?_; rintro e w' ⟨rfl, rfl⟩) | (go_at_call 36; refine (specDig_any _ _).mono ?_; rintro e w' ⟨rfl, rfl⟩))
                go_round
                case rel => exact ⟨k + 1, by omega, by go_num, HB⟩
                case measure => simp [intOf]; omega
            · have HB := Lib.hid (NX.out (by unfold okB; rw [hl]; rfl))
              go_wp2_with (first | (go_at_call 35; refine (specLet_any _ _).mono ?_; rintro e w' ⟨rfl, rfl⟩) | (go_at_call 36; refine (specDig_any _ _).mono ?_; rintro e w' ⟨rfl, rfl⟩))
              go_round
              case rel => exact ⟨k + 1, by omega, by go_num, HB⟩
              case measure => simp [intOf]; omega
          · exact absurd (fun i hi => HA.out i hi (by omega)) HN.out
    · have h1' : ¬ (s.size : Int) ≤ 10 := by omega
      have h1'' : 10 < (s.size : Int) := by omega
      clear hn
      go_enter Try.func23, Try.ntmps23
      go_wp2
      go_ret
      exact ⟨rfl, rfl⟩
  · obtain ⟨he, hf⟩ := bytes_none s (by omega)
    clear hn
    go_enter Try.func23, Try.ntmps23
    go_wp2
    go_ret
    exact ⟨rfl, rfl⟩

theorem implName_yes (s : ByteArray) (w : World) (hn : IsNm s) :
    Calls Try.prog 12 #[.string s] w fun e w' => e = .returned (.bool true) ∧ w = w' := by
  obtain ⟨h0, h1, h2, h3⟩ := hn
  have H3 := Lib.hid h3; clear h3
  obtain ⟨he, hf⟩ := bytes_some s h0
  have h1' : (s.size : Int) ≤ 10 := by omega
  go_enter Try.func12, Try.ntmps12
  go_wp2_with (first | (go_at_call 24; refine (withinInt_yes _ _ _ _ (by omega) (by omega)).mono ?_; rintro e w' ⟨rfl, rfl⟩) | (go_at_call 25; refine (implLet_any _ _).mono ?_; rintro e w' ⟨rfl, rfl⟩))
  go_loop [16] (fun i => ∃ k : Nat, k ≤ s.size ∧ i = .int .i64 k) (fun i => s.size - (intOf i).toNat)
  case atStart => exact ⟨0, Nat.zero_le _, rfl⟩
  case round =>
    obtain ⟨k, hk, rfl⟩ := hrel
    by_cases hlt : k < s.size
    · rcases okB_cases (H3.out k hlt) with hl | ⟨hl, hd⟩
      · go_wp2_with (first | (go_at_call 25; refine (implLet_any _ _).mono ?_; rintro e w' ⟨rfl, rfl⟩) | (go_at_call 26; refine (implDig_any _ _).mono ?_; rintro e w' ⟨rfl, rfl⟩))
        go_round
        case rel => exact ⟨k + 1, by omega, by go_num⟩
        case measure => simp [intOf]; omega
      · go_wp2_with (first | (go_at_call 25; refine (implLet_any _ _).mono ?_; rintro e w' ⟨rfl, rfl⟩) | (go_at_call 26; refine (implDig_any _ _).mono ?_; rintro e w' ⟨rfl, rfl⟩))
        go_round
        case rel => exact ⟨k + 1, by omega, by go_num⟩
        case measure => simp [intOf]; omega
    · go_wp2
      go_ret
      exact ⟨rfl, rfl⟩

theorem implName_no (s : ByteArray) (w : World) (hs : s.size ≤ maxLen) (hn : ¬ IsNm s) :
    Calls Try.prog 12 #[.string s] w fun e w' => e = .returned (.bool false) ∧ w = w' := by
  unfold maxLen at hs
  by_cases h0 : 0 < s.size
  · obtain ⟨he, hf⟩ := bytes_some s h0
    by_cases h1 : s.size ≤ 10
    · have h1' : (s.size : Int) ≤ 10 := by omega
      cases h2 : letB (s[0].toNat : Int)
      · clear hn
        go_enter Try.func12, Try.ntmps12
        go_wp2_with (first | (go_at_call 24; refine (withinInt_yes _ _ _ _ (by omega) (by omega)).mono ?_; rintro e w' ⟨rfl, rfl⟩) | (go_at_call 25; refine (implLet_any _ _).mono ?_; rintro e w' ⟨rfl, rfl⟩))
        go_ret
        exact ⟨rfl, rfl⟩
      · have HN : Hid (¬ ∀ (i : Nat) (hi : i < s.size), okB (s[i].toNat : Int) = true) := fun x => hn ⟨h0, h1, h2, x⟩
        clear hn
        go_enter Try.func12, Try.ntmps12
        go_wp2_with (first | (go_at_call 24; refine (withinInt_yes _ _ _ _ (by omega) (by omega)).mono ?_; rintro e w' ⟨rfl, rfl⟩) | (go_at_call 25; refine (implLet_any _ _).mono ?_; rintro e w' ⟨rfl, rfl⟩))
        go_loop [16] (fun i => ∃ k : Nat, k ≤ s.size ∧ i = .int .i64 k ∧ Hid (∀ (i : Nat) (hi : i < s.size), i < k → okB (s[i].toNat : Int) = true)) (fun i => s.size - (intOf i).toNat)
        case atStart => exact ⟨0, Nat.zero_le _, rfl, fun i _ h => absurd h (by omega)⟩
        case round =>
          obtain ⟨k, hk, rfl, HA⟩ := hrel
          by_cases hlt : k < s.size
          · have next : okB (s[k].toNat : Int) = true → ∀ (i : Nat) (hi : i < s.size), i < k + 1 → okB (s[i].toNat : Int) = true := by
              intro hok i hi hik
              by_cases e : i = k
              · subst e; exact hok
              · exact HA.out i hi (by omega)
            have NX := Lib.hid next
            clear next
            cases hl : letB (s[k].toNat : Int)
            · cases hd : digB (s[k].toNat : Int)
              · go_wp2_with (first | (go_at_call 25; refine (implLet_any _ _).mono ?_; rintro e w' ⟨rfl, rfl⟩) | (go_at_call 26; refine (implDig_any _ _).mono ?_; rintro e w' ⟨rfl, rfl⟩))
                go_ret
                exact ⟨rfl, rfl⟩
              · have HB := Lib.hid (NX.out (by unfold okB; rw [hl, hd]; rfl))
                go_wp2_with (first | (go_at_call 25; refine (implLet_any _ _).mono ?_; rintro e w' ⟨rfl, rfl⟩) | (go_at_call 26; refine (implDig_any _ _).mono ?_; rintro e w' ⟨rfl, rfl⟩))
                go_round
                case rel => exact ⟨k + 1, by omega, by go_num, HB⟩
                case measure => simp [intOf]; omega
            · have HB := Lib.hid (NX.out (by unfold okB; rw [hl]; rfl))
              go_wp2_with (first | (go_at_call 25; refine (implLet_any _ _).mono ?_; rintro e w' ⟨rfl, rfl⟩) | (go_at_call 26; refine (implDig_any _ _).mono ?_; rintro e w' ⟨rfl, rfl⟩))
              go_round
              case rel => exact ⟨k + 1, by omega, by go_num, HB⟩
              case measure => simp [intOf]; omega
          · exact absurd (fun i hi => HA.out i hi (by omega)) HN.out
    · clear hn
      go_enter Try.func12, Try.ntmps12
      go_wp2_with (go_at_call 24; refine (withinInt_no _ _ _ _ (by omega)).mono ?_; rintro e w' ⟨rfl, rfl⟩)
      go_ret
      exact ⟨rfl, rfl⟩
  · clear hn
    go_enter Try.func12, Try.ntmps12
    go_wp2_with (go_at_call 24; refine (withinInt_no _ _ _ _ (by omega)).mono ?_; rintro e w' ⟨rfl, rfl⟩)
    go_ret
    exact ⟨rfl, rfl⟩

theorem specIsName_yes (s : ByteArray) (w : World) (hn : IsNm s) :
    Calls Try.prog 11 #[.string s] w fun e w' => e = .returned (.bool true) ∧ w = w' := by
  go_enter Try.func11, Try.ntmps11
  go_wp2_with (go_at_call 23; refine (specName_yes _ _ hn).mono ?_; rintro e w' ⟨rfl, rfl⟩)
  go_ret
  exact ⟨rfl, rfl⟩
theorem specIsName_no (s : ByteArray) (w : World) (hs : s.size ≤ maxLen) (hn : ¬ IsNm s) :
    Calls Try.prog 11 #[.string s] w fun e w' => e = .returned (.bool false) ∧ w = w' := by
  have HN := Lib.hid hn; clear hn
  have HS := Lib.hid hs; clear hs
  go_enter Try.func11, Try.ntmps11
  go_wp2_with (go_at_call 23; refine (specName_no _ _ HS.out HN.out).mono ?_; rintro e w' ⟨rfl, rfl⟩)
  go_ret
  exact ⟨rfl, rfl⟩

theorem isName_walk (s : ByteArray) (w : World) (hs : s.size ≤ maxLen) :
    Calls Try.prog 4 #[.string s] w fun e w' => e = .returned (.bool true) ∧ w = w' := by
  have HS := Lib.hid hs
  unfold maxLen at hs
  by_cases hbig : 1048576 < s.size
  · go_enter Try.func4, Try.ntmps4
    go_wp2
    go_ret
    exact ⟨rfl, rfl⟩
  · by_cases hn : IsNm s
    · have HN := Lib.hid hn; clear hn
      go_enter Try.func4, Try.ntmps4
      go_wp2_with (first | (go_at_call 11; refine (specIsName_yes _ _ HN.out).mono ?_; rintro e w' ⟨rfl, rfl⟩) | (go_at_call 12; refine (implName_yes _ _ HN.out).mono ?_; rintro e w' ⟨rfl, rfl⟩))
      go_ret
      exact ⟨rfl, rfl⟩
    · have HN := Lib.hid hn; clear hn
      go_enter Try.func4, Try.ntmps4
      go_wp2_with (first | (go_at_call 11; refine (specIsName_no _ _ HS.out HN.out).mono ?_; rintro e w' ⟨rfl, rfl⟩) | (go_at_call 12; refine (implName_no _ _ HS.out HN.out).mono ?_; rintro e w' ⟨rfl, rfl⟩))
      go_ret
      exact ⟨rfl, rfl⟩
end Go.Proofs.Ytjgajnhefhgpkaa
