/-
  Texts of lists of numbers: the model's and the program's.
-/
import Derived.Test.YtjgajnhefhgpkaaDoorInts
import Derived.Test.YtjgajnhefhgpkaaDoorDecimal
import Derived.Test.YtjgajnhefhgpkaaDoorShJoin
import Derived.Lib.ItoaLen
import Derived.Laws.Concat
import Derived.WalkSmall
namespace Go.Proofs.YtjgajnhefhgpkaaDoor
open Go.RowKit
set_option linter.unusedVariables false

/-- The numbers' texts, a comma between. -/
def joinT (zs : List Int) : List UInt8 := Lib.join (zs.map Lib.itoa) [44]
theorem joinT_one (z : Int) : joinT [z] = Lib.itoa z := Lib.join_one _ _
theorem joinT_snoc (zs : List Int) (z : Int) (h : zs ≠ []) : joinT (zs ++ [z]) = joinT zs ++ [44] ++ Lib.itoa z := by
  cases zs with
  | nil => exact absurd rfl h
  | cons x r =>
    unfold joinT
    rw [List.cons_append, List.map_cons, List.map_cons, Lib.join_cons, Lib.join_cons, List.map_append]
    simp [Lib.joinTail]
theorem take_snoc_int (zs : List Int) (k : Nat) (h : k < zs.length) : zs.take (k + 1) = zs.take k ++ [zs[k]] := List.take_succ_eq_append_getElem h
theorem joinT_first (zs : List Int) (h : 0 < zs.length) : joinT (zs.take (0 + 1)) = Lib.itoa zs[0] := by
  rw [take_snoc_int zs 0 h, List.take_zero, List.nil_append, joinT_one]
theorem joinT_next (zs : List Int) (k : Nat) (h : k < zs.length) (hk : 0 < k) : joinT (zs.take (k + 1)) = joinT (zs.take k) ++ [44] ++ Lib.itoa zs[k] := by
  rw [take_snoc_int zs k h, joinT_snoc]
  intro x
  have := congrArg List.length x
  rw [List.length_take, List.length_nil] at this
  omega
/-- A list that has a text. -/
def Fits (zs : List Int) : Prop := (∀ z ∈ zs, -1000000000000 ≤ z ∧ z ≤ 1000000000000) ∧ zs.length ≤ 64
theorem str_eta (t : ByteArray) (l : List UInt8) (h : t.data.toList = l) : (⟨l.toArray⟩ : ByteArray) = t := by
  subst h; obtain ⟨⟨x⟩⟩ := t; rfl
theorem size_list (t : ByteArray) : t.size = t.data.toList.length := by rw [Array.length_toList]; rfl
theorem append_list (s t : ByteArray) : (s ++ t).data.toList = s.data.toList ++ t.data.toList := by simp [ByteArray.data_append]

theorem l00In_yes (n lo hi : Int) (w : World) (h0 : lo ≤ n) (h1 : n ≤ hi) :
    Calls Tryd.prog 53 #[.int .i64 n, .int .i64 lo, .int .i64 hi] w fun e w' => e = .returned (.bool true) ∧ w = w' := by
  have e0 : decide (n ≥ lo) = true := by simpa using h0
  have e1 : decide (n ≤ hi) = true := by simpa using h1
  go_enter Tryd.func53, Tryd.ntmps53
  go_wp2
  go_ret
  exact ⟨rfl, rfl⟩
theorem l00In_no (n lo hi : Int) (w : World) (h : n < lo ∨ hi < n) :
    Calls Tryd.prog 53 #[.int .i64 n, .int .i64 lo, .int .i64 hi] w fun e w' => e = .returned (.bool false) ∧ w = w' := by
  by_cases h0 : lo ≤ n
  · have h1 : ¬ n ≤ hi := by omega
    have e0 : decide (n ≥ lo) = true := by simpa using h0
    have e1 : decide (n ≤ hi) = false := by simpa using h1
    clear h
    go_enter Tryd.func53, Tryd.ntmps53
    go_wp2
    go_ret
    exact ⟨rfl, rfl⟩
  · have e0 : decide (n ≥ lo) = false := by simpa using h0
    clear h
    go_enter Tryd.func53, Tryd.ntmps53
    go_wp2
    go_ret
    exact ⟨rfl, rfl⟩

/-! ### Has the list a text? -/
def FitRes (zs : List Int) (e : Ending) : Prop := (Fits zs ∧ e = .returned (.bool true)) ∨ (¬ Fits zs ∧ e = .returned (.bool false))
set_option maxHeartbeats 400000 in
theorem fits_some (b off cap : Nat) (zs : List Int) (w : World) (hl : zs.length ≤ 1048576) (h1 : ∀ j (h : j < zs.length), w.cell? ⟨b, off + j, none⟩ = some (.int .i64 zs[j])) :
    Calls Tryd.prog 51 #[.slice (some ⟨b, off, none⟩) zs.length cap] w fun e w' => FitRes zs e ∧ w = w' := by
  have H1 := Lib.hid h1
  clear h1
  go_enter Tryd.func51, Tryd.ntmps51
  go_wp2
  go_loop [3] (fun i => ∃ k : Nat, k ≤ zs.length ∧ i = .int .i64 (k : Int) ∧ Hid (∀ j (h : j < zs.length), j < k → -1000000000000 ≤ zs[j] ∧ zs[j] ≤ 1000000000000)) (fun i => zs.length - (intOf i).toNat)
  case atStart => exact ⟨0, Nat.zero_le _, rfl, fun j h h' => absurd h' (by omega)⟩
  case round =>
    obtain ⟨k, hk, rfl, hall⟩ := hrel
    by_cases hlt : k < zs.length
    · have c1 := H1.out k hlt
      obtain ⟨z, hz⟩ : ∃ z, zs[k] = z := ⟨_, rfl⟩
      rw [hz] at c1
      have HZ := Lib.hid hz
      clear hz
      by_cases hin : -1000000000000 ≤ z ∧ z ≤ 1000000000000
      · obtain ⟨z0, z1⟩ := hin
        have HA : Hid (∀ j (h : j < zs.length), j < k + 1 → -1000000000000 ≤ zs[j] ∧ zs[j] ≤ 1000000000000) := by
          intro j h h'
          by_cases e : j = k
          · subst e; rw [HZ.out]; exact ⟨z0, z1⟩
          · exact hall.out j h (by omega)
        go_wp2_with (go_at_call 53; refine (l00In_yes _ _ _ _ z0 z1).mono ?_; rintro e w' ⟨rfl, rfl⟩)
        go_round
        case rel => exact ⟨k + 1, by omega, by go_num, HA⟩
        case measure => simp [intOf]; omega
      · have HN : Hid (¬ Fits zs) := fun h => hin (by rw [← HZ.out]; exact h.1 _ (List.getElem_mem hlt))
        have HI : Hid (z < -1000000000000 ∨ 1000000000000 < z) := by show _ ∨ _; omega
        clear hin
        go_wp2_with (go_at_call 53; refine (l00In_no _ _ _ _ HI.out).mono ?_; rintro e w' ⟨rfl, rfl⟩)
        go_ret
        exact ⟨.inr ⟨HN.out, rfl⟩, rfl⟩
    · obtain rfl : k = zs.length := by omega
      have HA : Hid (∀ z ∈ zs, -1000000000000 ≤ z ∧ z ≤ 1000000000000) := by
        intro z hz
        obtain ⟨j, hj, rfl⟩ := List.mem_iff_getElem.mp hz
        exact hall.out j hj hj
      clear hall
      by_cases h64 : zs.length ≤ 64
      · have e64 : (zs.length : Int) ≤ 64 := by omega
        have HF : Hid (Fits zs) := ⟨HA.out, h64⟩
        go_wp2
        go_ret
        exact ⟨.inl ⟨HF.out, rfl⟩, rfl⟩
      · have e64 : ¬ (zs.length : Int) ≤ 64 := by omega
        have HF : Hid (¬ Fits zs) := fun h => h64 h.2
        go_wp2
        go_ret
        exact ⟨.inr ⟨HF.out, rfl⟩, rfl⟩
theorem fits_none (a : Option Addr) (cap : Nat) (w : World) :
    Calls Tryd.prog 51 #[.slice a 0 cap] w fun e w' => FitRes [] e ∧ w = w' := by
  go_enter Tryd.func51, Tryd.ntmps51
  go_wp2
  refine wp_loop_rounds 1 ?_
  rw [rounds_succ]
  go_wp2
  go_ret
  exact ⟨.inl ⟨⟨fun z h => (by cases h), by simp⟩, rfl⟩, rfl⟩
theorem fits_any {v : Value} {zs : List Int} {w : World} (h : IntsAt w v zs) :
    Calls Tryd.prog 51 #[v] w fun e w' => FitRes zs e ∧ w = w' := by
  obtain ⟨a, c, rfl, hl, h⟩ := h
  rcases h with rfl | ⟨b, off, rfl, hb, h⟩
  · exact fits_none a c w
  · exact fits_some b off c zs w hl h

/-! ### The model's text -/
theorem specDec_is (t : ByteArray) (n : Int) (w : World) (h0 : -1000000000000 ≤ n) (h1 : n ≤ 1000000000000) (ht : t.data.toList = Lib.itoa n) :
    Calls Tryd.prog 47 #[.int .i64 n] w fun e w' => e = .returned (.string t) ∧ Below w.heap.size w w' := by
  refine (specDec_any n w (by omega) (by omega)).mono fun e w' ⟨he, hb⟩ => ⟨?_, hb⟩
  rw [he, str_eta t _ ht]
/-- How a call ends that hands back a text. -/
def RetS (w : World) (l : List UInt8) (e : Ending) (w' : World) : Prop := ∃ s : ByteArray, e = .returned (.string s) ∧ s.data.toList = l ∧ Below w.heap.size w w'
set_option maxHeartbeats 400000 in
set_option maxRecDepth 100000 in
theorem l01List_some (b off cap : Nat) (zs : List Int) (w : World) (hf : Fits zs) (hne : 0 < zs.length) (hb : b < w.heap.size) (h1 : ∀ j (h : j < zs.length), w.cell? ⟨b, off + j, none⟩ = some (.int .i64 zs[j])) :
    Calls Tryd.prog 52 #[.slice (some ⟨b, off, none⟩) zs.length cap] w fun e w' => RetS w (joinT zs) e w' := by
  have H1 := Lib.hid h1
  have HF := Lib.hid hf
  have hl : zs.length ≤ 64 := hf.2
  have hn0 : ((zs.length : Int) == 0) = false := by rw [beq_eq_false_iff_ne]; omega
  clear h1 hf
  go_enter Tryd.func52, Tryd.ntmps52
  go_wp2
  go_loopw [3, 4] (fun o i wr => ∃ (k : Nat) (s : ByteArray), k ≤ zs.length ∧ i = .int .i64 (k : Int) ∧ o = .string s ∧ Hid (s.data.toList = joinT (zs.take k)) ∧ s.size ≤ 25 * k ∧ Below w.heap.size w wr) (fun _ i _ => zs.length - (intOf i).toNat)
  case atStart => exact ⟨0, ⟨#[]⟩, Nat.zero_le _, rfl, rfl, rfl, Nat.zero_le _, Below.refl _ _⟩
  case round =>
    obtain ⟨k, s, hk, rfl, rfl, hs, hsz, hbw⟩ := hrel
    by_cases hlt : k < zs.length
    · have c1 : wr.cell? ⟨b, off + k, none⟩ = some (.int .i64 zs[k]) := (hbw.cell (p := ⟨b, off + k, none⟩) hb).trans (H1.out k hlt)
      obtain ⟨z0, z1⟩ := HF.out.1 zs[k] (List.getElem_mem hlt)
      obtain ⟨t, ht⟩ : ∃ t : ByteArray, t.data.toList = Lib.itoa zs[k] := ⟨⟨(Lib.itoa zs[k]).toArray⟩, rfl⟩
      have htl : t.size ≤ 21 := by rw [size_list, ht]; exact Lib.itoa_length_le _ (by omega) (by omega)
      by_cases hk0 : k = 0
      · have hkp : ¬ 0 < (k : Int) := by omega
        have HJ : Hid ((s ++ t).data.toList = joinT (zs.take (k + 1))) := by
          show _ = _
          have e := hs.out
          subst hk0
          rw [append_list, e, ht, joinT_first zs hlt]; rfl
        have HS : Hid ((s ++ t).size ≤ 25 * (k + 1)) := by show _ ≤ _; rw [ByteArray.size_append]; omega
        obtain ⟨z, hz⟩ : ∃ z, zs[k] = z := ⟨_, rfl⟩
        rw [hz] at c1 z0 z1 ht
        have HT := Lib.hid ht
        have HB := Lib.hid hbw
        clear hz ht hs hbw hk0
        go_wp2_with (go_at_call 47; refine (specDec_is t z _ z0 z1 HT.out).mono ?_; rintro e w2 ⟨rfl, hb2⟩; have HB2 := Lib.hid hb2; clear hb2)
        go_roundw
        case rel => exact ⟨k + 1, _, by omega, by go_num, rfl, HJ, HS.out, HB.out.trans (HB2.out.mono HB.out.size)⟩
        case measure => simp [intOf]; omega
      · have hkp : 0 < (k : Int) := by omega
        have HJ : Hid ((s ++ ⟨#[44]⟩ ++ t).data.toList = joinT (zs.take (k + 1))) := by
          show _ = _
          rw [append_list, append_list, hs.out, ht, joinT_next zs k hlt (by omega)]
        have HS : Hid ((s ++ ⟨#[44]⟩ ++ t).size ≤ 25 * (k + 1)) := by
          show _ ≤ _
          rw [ByteArray.size_append, ByteArray.size_append]
          have : (⟨#[44]⟩ : ByteArray).size = 1 := rfl
          omega
        have hs1 : (s ++ (⟨#[44]⟩ : ByteArray)).size ≤ 1700 := by
          rw [ByteArray.size_append]
          have : (⟨#[44]⟩ : ByteArray).size = 1 := rfl
          omega
        have hs0 : (⟨#[44]⟩ : ByteArray).size = 1 := rfl
        obtain ⟨z, hz⟩ : ∃ z, zs[k] = z := ⟨_, rfl⟩
        rw [hz] at c1 z0 z1 ht
        have HT := Lib.hid ht
        have HB := Lib.hid hbw
        clear hz ht hs hbw
        go_wp2_with (go_at_call 47; refine (specDec_is t z _ z0 z1 HT.out).mono ?_; rintro e w2 ⟨rfl, hb2⟩; have HB2 := Lib.hid hb2; clear hb2)
        go_roundw
        case rel => exact ⟨k + 1, _, by omega, by go_num, rfl, HJ, HS.out, HB.out.trans (HB2.out.mono HB.out.size)⟩
        case measure => simp [intOf]; omega
    · obtain rfl : k = zs.length := by omega
      have HJ : Hid (s.data.toList = joinT zs) := by have e := hs.out; rw [List.take_length] at e; exact e
      have HB := Lib.hid hbw
      clear hs hbw
      go_wp2
      go_ret
      exact ⟨_, rfl, HJ.out, HB.out⟩

/-- The text of a list: none, a '-', or the numbers' texts. -/
def IsTxt (zs : List Int) (l : List UInt8) : Prop := (¬ Fits zs ∧ l = []) ∨ (Fits zs ∧ zs = [] ∧ l = [45]) ∨ (Fits zs ∧ zs ≠ [] ∧ l = joinT zs)
theorem IsTxt.one {zs : List Int} {l m : List UInt8} (h : IsTxt zs l) (g : IsTxt zs m) : l = m := by
  rcases h with ⟨a, rfl⟩ | ⟨a, b, rfl⟩ | ⟨a, b, rfl⟩ <;> rcases g with ⟨c, rfl⟩ | ⟨c, d, rfl⟩ | ⟨c, d, rfl⟩ <;> first | rfl | contradiction
/-- How a call ends that hands back the text of a list. -/
def TxtRes (w : World) (zs : List Int) (e : Ending) (w' : World) : Prop := ∃ s : ByteArray, e = .returned (.string s) ∧ IsTxt zs s.data.toList ∧ Below w.heap.size w w'
theorem fits_nil : Fits [] := ⟨fun z h => (by cases h), by simp⟩
theorem specText_any {v : Value} {zs : List Int} {w : World} (h : IntsAt w v zs) :
    Calls Tryd.prog 28 #[v] w fun e w' => TxtRes w zs e w' := by
  have H := Lib.hid h
  have h' := h
  obtain ⟨a, c, rfl, hl, h'⟩ := h'
  clear h
  by_cases hz : zs = []
  · subst hz
    go_enter Tryd.func28, Tryd.ntmps28
    go_wp2_with fail
    refine (fits_any H.out).mono ?_
    rintro e w1 ⟨hr, rfl⟩
    rcases hr with ⟨hf, rfl⟩ | ⟨hf, rfl⟩
    · clear hf h'
      go_wp2
      go_ret
      exact ⟨_, rfl, .inr (.inl ⟨fits_nil, rfl, rfl⟩), Below.refl _ _⟩
    · exact absurd fits_nil hf
  · rcases h' with rfl | ⟨b, off, rfl, hb, h1⟩
    · exact absurd rfl hz
    have hp : 0 < zs.length := List.length_pos_iff.mpr hz
    have H1 := Lib.hid h1
    have HZ := Lib.hid hz
    clear h1 hz
    go_enter Tryd.func28, Tryd.ntmps28
    go_wp2_with fail
    refine (fits_any H.out).mono ?_
    rintro e w1 ⟨hr, rfl⟩
    rcases hr with ⟨hf, rfl⟩ | ⟨hf, rfl⟩
    · have HF := Lib.hid hf
      clear hf
      go_wp2_with fail
      refine (l01List_some b off c zs _ HF.out hp hb H1.out).mono ?_
      rintro e w2 ⟨s, rfl, hs, hb2⟩
      have HS := Lib.hid hs
      have HB := Lib.hid hb2
      clear hs hb2
      go_wp2_with fail
      go_ret
      exact ⟨_, rfl, .inr (.inr ⟨HF.out, HZ.out, HS.out⟩), HB.out⟩
    · have HF := Lib.hid hf
      clear hf
      go_wp2_with fail
      go_ret
      exact ⟨_, rfl, .inl ⟨HF.out, rfl⟩, Below.refl _ _⟩

/-! ### The program's text -/
def sv (zs : List Int) : List Value := zs.map fun z => Value.string ⟨(Lib.itoa z).toArray⟩
theorem info9 : (Tryd.prog.info? 9).map (fun i => (i.zero, i.size, i.bytes)) = some (some (.string ⟨#[]⟩), 1, 16) := by kernel_rfl
theorem strs_step {zs : List Int} {xs : List Value} {k : Nat} {t : ByteArray} (h : xs.take k = sv (zs.take k)) (hx : xs.length = zs.length) (hk : k < zs.length) (ht : t.data.toList = Lib.itoa zs[k]) : (xs.set k (.string t)).take (k + 1) = sv (zs.take (k + 1)) := by
  rw [List.take_succ_eq_append_getElem (by simp; omega), List.take_set_of_le (Nat.le_refl k), h, List.getElem_set_self, List.take_succ_eq_append_getElem hk]
  unfold sv
  rw [List.map_append, ← str_eta t _ ht]
  rfl
theorem joinT_len (zs : List Int) (hf : Fits zs) : ∀ k, k ≤ zs.length → (joinT (zs.take k)).length ≤ 25 * k := by
  intro k
  induction k with
  | zero => intro _; exact Nat.le_refl _
  | succ k ih =>
    intro hk
    have h0 := ih (by omega)
    obtain ⟨z0, z1⟩ := hf.1 zs[k] (List.getElem_mem (by omega))
    have h1 := Lib.itoa_length_le zs[k] (by omega) (by omega)
    by_cases hk0 : k = 0
    · subst hk0
      rw [joinT_first zs (by omega)]; omega
    · rw [joinT_next zs k (by omega) (by omega)]
      simp only [List.length_append, List.length_cons, List.length_nil]
      omega
theorem implDec_is (t : ByteArray) (n : Int) (w : World) (h0 : -1000000000000 ≤ n) (h1 : n ≤ 1000000000000) (ht : t.data.toList = Lib.itoa n) {B : Nat} (hT : Tab10 B w) :
    Calls Tryd.prog 19 #[.int .i64 n] w fun e w' => e = .returned (.string t) ∧ Below w.heap.size w w' := by
  refine (implDec_any n w (by omega) (by omega) hT).mono fun e w' ⟨he, hb⟩ => ⟨?_, hb⟩
  rw [he, str_eta t _ ht]
theorem within64t_yes (n lo hi : Int) (w : World) (h0 : lo ≤ n) (h1 : n ≤ hi) :
    Calls Tryd.prog 37 #[.int .i64 n, .int .i64 lo, .int .i64 hi] w fun e w' => e = .returned (.bool true) ∧ w = w' := by
  have e0 : decide (lo ≤ n) = true := by simpa using h0
  have e1 : decide (n ≤ hi) = true := by simpa using h1
  go_enter Tryd.func37, Tryd.ntmps37
  go_wp2
  go_ret
  exact ⟨rfl, rfl⟩
theorem within64t_no (n lo hi : Int) (w : World) (h : n < lo ∨ hi < n) :
    Calls Tryd.prog 37 #[.int .i64 n, .int .i64 lo, .int .i64 hi] w fun e w' => e = .returned (.bool false) ∧ w = w' := by
  by_cases h0 : lo ≤ n
  · have h1 : ¬ n ≤ hi := by omega
    have e0 : decide (lo ≤ n) = true := by simpa using h0
    have e1 : decide (n ≤ hi) = false := by simpa using h1
    clear h
    go_enter Tryd.func37, Tryd.ntmps37
    go_wp2
    go_ret
    exact ⟨rfl, rfl⟩
  · have e0 : decide (lo ≤ n) = false := by simpa using h0
    clear h
    go_enter Tryd.func37, Tryd.ntmps37
    go_wp2
    go_ret
    exact ⟨rfl, rfl⟩
theorem implText_none (a : Option Addr) (cap : Nat) (w : World) :
    Calls Tryd.prog 17 #[.slice a 0 cap] w fun e w' => TxtRes w [] e w' := by
  go_enter Tryd.func17, Tryd.ntmps17
  go_wp2
  go_ret
  exact ⟨_, rfl, .inr (.inl ⟨fits_nil, rfl, rfl⟩), Below.refl _ _⟩
theorem implText_long (b off cap : Nat) (zs : List Int) (w : World) (hl : 64 < zs.length) (hl2 : zs.length ≤ 1048576) :
    Calls Tryd.prog 17 #[.slice (some ⟨b, off, none⟩) zs.length cap] w fun e w' => TxtRes w zs e w' := by
  have HN : Hid (¬ Fits zs) := fun h => absurd h.2 (by omega)
  have hn0 : ((zs.length : Int) == 0) = false := by rw [beq_eq_false_iff_ne]; omega
  go_enter Tryd.func17, Tryd.ntmps17
  go_wp2
  go_ret
  exact ⟨_, rfl, .inl ⟨HN.out, rfl⟩, Below.refl _ _⟩
set_option maxHeartbeats 800000 in
set_option maxRecDepth 100000 in
theorem implText_some (b off cap : Nat) (zs : List Int) (w : World) (hl : zs.length ≤ 64) (hp : 0 < zs.length) (hb : b < w.heap.size) (h1 : ∀ j (h : j < zs.length), w.cell? ⟨b, off + j, none⟩ = some (.int .i64 zs[j])) {B : Nat} (hT : Tab10 B w) (hBw : w.heap.size = B) :
    Calls Tryd.prog 17 #[.slice (some ⟨b, off, none⟩) zs.length cap] w fun e w' => TxtRes w zs e w' := by
  subst hBw
  obtain ⟨i0, hi, hz0, hz1, hz2⟩ := info_parts info9
  have H1 := Lib.hid h1
  have HT := Lib.hid hT
  have hn0 : ((zs.length : Int) == 0) = false := by rw [beq_eq_false_iff_ne]; omega
  clear h1 hT
  go_enter Tryd.func17, Tryd.ntmps17
  go_wp2_with (at_make; refine wpList_make_full _ rfl _ _ 40 rfl w.heap.size 9 i0 (.string ⟨#[]⟩) 1 Tryd.underlying40 hi hz0 hz1 _ _ _ _ zs.length rfl rfl rfl rfl ?ah1 ?ah2 ?ah3 ?_)
  case ah1 => rw [hz2]; omega
  case ah2 => unfold maxLen; omega
  case ah3 => exact Nat.le_refl _
  intro w1 hown hgrow
  have hb1 := (Below.refl w.heap.size w).grown hgrow (Nat.le_refl _) (fun k hk => by cases hk)
  have hr : ∃ xs : List Value, xs.length = zs.length ∧ w1.ownsRow w.heap.size 9 1 (.slice (some ⟨w.heap.size, 0, none⟩) zs.length zs.length) zs.length xs := ⟨_, by have := hown.1; simpa using this, hown⟩
  clear hown hgrow
  obtain ⟨xs0, hx0, hown0⟩ := hr
  go_wp2
  go_loopw [17] (fun i wr => ∃ (k : Nat) (xs : List Value), k ≤ zs.length ∧ i = .int .i64 (k : Int) ∧ Hid (xs.take k = sv (zs.take k)) ∧ xs.length = zs.length ∧ wr.ownsRow w.heap.size 9 1 (.slice (some ⟨w.heap.size, 0, none⟩) zs.length zs.length) zs.length xs ∧ Below w.heap.size w wr ∧ Hid (∀ j (h : j < zs.length), j < k → -1000000000000 ≤ zs[j] ∧ zs[j] ≤ 1000000000000)) (fun i _ => zs.length - (intOf i).toNat)
  case atStart => exact ⟨0, xs0, Nat.zero_le _, rfl, rfl, hx0, hown0, hb1, fun j h h' => absurd h' (by omega)⟩
  case round =>
    obtain ⟨k, xs, hk, rfl, ht, hx, hown, hbw, hall⟩ := hrel
    by_cases hlt : k < zs.length
    · have c1 : wr.cell? ⟨b, off + k, none⟩ = some (.int .i64 zs[k]) := (hbw.cell (p := ⟨b, off + k, none⟩) hb).trans (H1.out k hlt)
      obtain ⟨t, hti⟩ : ∃ t : ByteArray, t.data.toList = Lib.itoa zs[k] := ⟨⟨(Lib.itoa zs[k]).toArray⟩, rfl⟩
      have HT2 := Lib.hid (strs_step ht.out hx hlt hti)
      obtain ⟨z, hz⟩ : ∃ z, zs[k] = z := ⟨_, rfl⟩
      rw [hz] at c1 hti
      have HZ := Lib.hid hz
      have HI := Lib.hid hti
      have HB := Lib.hid hbw
      clear hz hti ht
      by_cases hin : -1000000000000 ≤ z ∧ z ≤ 1000000000000
      · obtain ⟨z0, z1⟩ := hin
        have HA : Hid (∀ j (h : j < zs.length), j < k + 1 → -1000000000000 ≤ zs[j] ∧ zs[j] ≤ 1000000000000) := by
          intro j h h'
          by_cases e : j = k
          · subst e; rw [HZ.out]; exact ⟨z0, z1⟩
          · exact hall.out j h (by omega)
        have HO := Lib.hid hown
        clear hall hown hbw
        go_wp2_with (go_at_call 37; refine (within64t_yes _ _ _ _ z0 z1).mono ?_; rintro e w' ⟨rfl, rfl⟩)
        refine (implDec_is t z _ z0 z1 HI.out (HT.out.on HB.out)).mono ?_
        rintro e w2 ⟨rfl, hb2⟩
        have hown2 : w2.ownsRow w.heap.size 9 1 (.slice (some ⟨w.heap.size, 0, none⟩) zs.length zs.length) zs.length xs := HO.out.kept (row := Option.none) ⟨hb2.os, hb2.tape, hb2.output, hb2.size, fun j hj _ => hb2.block j hj⟩ (.inr (by simp [Value.ownBlock]))
        have HB2 : Hid (Below w.heap.size w w2) := HB.out.trans (hb2.mono HB.out.size)
        obtain ⟨y, hy⟩ : ∃ y, xs[k]? = some y := ⟨xs[k], List.getElem?_eq_getElem (by omega)⟩
        have c2 : w2.cell? ⟨w.heap.size, k, none⟩ = some y := by rw [hown2.cellAt k (by omega)]; exact hy
        have c3 : w2.frozen? ⟨w.heap.size, k, none⟩ = false := hown2.frozenAt k
        have HO2 := Lib.hid (hown2.stored k (.string t)).1
        have HB3 : Hid (Below w.heap.size w (w2.setCell ⟨w.heap.size, k, none⟩ (.string t))) := HB2.out.setCell (p := ⟨w.heap.size, k, none⟩) (Nat.le_refl _) _
        have HX : Hid ((xs.set k (.string t)).length = zs.length) := by show _ = _; rw [List.length_set]; exact hx
        clear hy hown2 hb2 hx c1
        go_wp2
        go_roundw
        case rel => exact ⟨k + 1, _, by omega, by go_num, HT2, HX.out, HO2.out, HB3.out, HA⟩
        case measure => simp [intOf]; omega
      · have HN : Hid (¬ Fits zs) := fun h => hin (by rw [← HZ.out]; exact h.1 _ (List.getElem_mem hlt))
        have HR : Hid (z < -1000000000000 ∨ 1000000000000 < z) := by show _ ∨ _; omega
        clear hin hall hown hbw
        go_wp2_with (go_at_call 37; refine (within64t_no _ _ _ _ HR.out).mono ?_; rintro e w' ⟨rfl, rfl⟩)
        go_ret
        exact ⟨_, rfl, .inl ⟨HN.out, rfl⟩, HB.out⟩
    · obtain rfl : k = zs.length := by omega
      have hF : Fits zs := by
        refine ⟨fun z hz => ?_, hl⟩
        obtain ⟨j, hj, rfl⟩ := List.mem_iff_getElem.mp hz
        exact hall.out j hj hj
      have exs : xs = sv zs := by
        have e := ht.out
        rwa [List.take_length, List.take_of_length_le (by omega)] at e
      subst exs
      have hjl := joinT_len zs hF zs.length (Nat.le_refl _)
      rw [List.take_length] at hjl
      have ebs : (zs.map fun z => (⟨(Lib.itoa z).toArray⟩ : ByteArray)).map (·.data.toList) = zs.map Lib.itoa := by rw [List.map_map]; rfl
      have elen : (zs.map fun z => (⟨(Lib.itoa z).toArray⟩ : ByteArray)).length = zs.length := by simp
      have hcells : ∀ (j : Nat) x, (zs.map fun z => (⟨(Lib.itoa z).toArray⟩ : ByteArray))[j]? = some x → wr.cell? ⟨w.heap.size, 0 + j, none⟩ = some (.string x) := by
        intro j x hj
        have hjl : j < zs.length := by have := (List.getElem?_eq_some_iff.mp hj).1; simpa using this
        rw [Nat.zero_add, hown.cellAt j (by omega)]
        rw [List.getElem?_map, Option.map_eq_some_iff] at hj
        obtain ⟨z, hz, rfl⟩ := hj
        unfold sv
        rw [List.getElem?_map, hz]
        rfl
      have hbk : w.heap.size < wr.heap.size := (hown.lt _ rfl).2
      have HJ := Lib.hid (Tryd.strings_Join w.heap.size 0 zs.length _ ⟨#[44]⟩ wr hcells hbk (by rw [elen]; omega) (by rw [elen]; exact Nat.le_refl _) (by rw [ebs]; show (joinT zs).length ≤ _; omega))
      have HB := Lib.hid hbw
      have HF := Lib.hid hF
      have HE := Lib.hid ebs
      have HL := Lib.hid elen
      clear ht hx hown hbw hall hF ebs elen hcells hbk hjl
      go_wp2_with fail
      have hj := HJ.out
      rw [HL.out] at hj
      refine hj.mono ?_
      rintro e w2 ⟨rfl, hb2⟩
      rw [HE.out]
      have HB2 := Lib.hid hb2
      clear hb2 hj
      go_wp2_with fail
      go_ret
      have hne : zs ≠ [] := by intro x; rw [x] at hp; exact absurd hp (by simp)
      exact ⟨_, rfl, .inr (.inr ⟨HF.out, hne, rfl⟩), HB.out.trans (HB2.out.mono HB.out.size)⟩
theorem Tab10.up {B B' : Nat} {w : World} (h : Tab10 B w) (hB : B ≤ B') : Tab10 B' w := fun w' hb => h w' (hb.mono hB)
theorem implText_any {v : Value} {zs : List Int} {w : World} (h : IntsAt w v zs) {B : Nat} (hT : Tab10 B w) (hB : B ≤ w.heap.size) :
    Calls Tryd.prog 17 #[v] w fun e w' => TxtRes w zs e w' := by
  obtain ⟨a, c, rfl, hl, h⟩ := h
  by_cases hz : zs = []
  · subst hz; exact implText_none a c w
  · rcases h with rfl | ⟨b, off, rfl, hb, h⟩
    · exact absurd rfl hz
    by_cases h64 : zs.length ≤ 64
    · exact implText_some b off c zs w h64 (List.length_pos_iff.mpr hz) hb h (hT.up hB) rfl
    · exact implText_long b off c zs w (by omega) hl
theorem txt_eq {zs : List Int} {s t : ByteArray} (h : IsTxt zs s.data.toList) (g : IsTxt zs t.data.toList) : (t.toList == s.toList) = true := by
  rw [ByteArray.toList_eq, ByteArray.toList_eq, beq_iff_eq]; exact g.one h
set_option maxHeartbeats 400000 in
theorem listText_walk (v : Value) (zs : List Int) (w : World) (h : IntsAt w v zs) (hT : Tab10 w.heap.size w) :
    Calls Tryd.prog 7 #[v] w fun e w' => e = .returned (.bool true) ∧ Below w.heap.size w w' := by
  have H := Lib.hid h
  have HT := Lib.hid hT
  obtain ⟨a, c, rfl, hl, _⟩ := h
  clear hT
  go_enter Tryd.func7, Tryd.ntmps7
  go_wp2_with fail
  refine (toI_any H.out).mono ?_
  rintro e w1 ⟨v1, rfl, ho1, hb1⟩
  have O1 := Lib.hid ho1
  have B1 := Lib.hid hb1
  clear ho1 hb1
  go_wp2_with fail
  refine (specText_any (O1.out.at hl)).mono ?_
  rintro e w2 ⟨s1, rfl, ht1, hb2⟩
  have T1 := Lib.hid ht1
  have B2 : Hid (Below w.heap.size w w2) := B1.out.trans (hb2.mono B1.out.size)
  clear ht1 hb2
  go_wp2_with fail
  refine (toI_any (H.out.on B2.out)).mono ?_
  rintro e w3 ⟨v3, rfl, ho3, hb3⟩
  have O3 := Lib.hid ho3
  have B3 : Hid (Below w.heap.size w w3) := B2.out.trans (hb3.mono B2.out.size)
  clear ho3 hb3
  go_wp2_with fail
  refine (implText_any (O3.out.at hl) (HT.out.on B3.out) B3.out.size).mono ?_
  rintro e w4 ⟨s2, rfl, ht2, hb4⟩
  have hq := txt_eq T1.out ht2
  have O4 : Hid (OwnI w2.heap.size w4 v3 zs) := O3.out.on hb4
  have B4 : Hid (Below w.heap.size w w4) := B3.out.trans (hb4.mono B3.out.size)
  clear ht2 hb4
  go_wp2_with fail
  refine (toI_any (H.out.on B4.out)).mono ?_
  rintro e w5 ⟨v5, rfl, ho5, hb5⟩
  have O5 := Lib.hid ho5
  have O45 : Hid (OwnI w2.heap.size w5 v3 zs) := O4.out.on hb5
  have B5 : Hid (Below w.heap.size w w5) := B4.out.trans (hb5.mono B4.out.size)
  clear ho5 hb5
  go_wp2_with fail
  refine (eqI_any (O45.out.at hl) (O5.out.at hl)).mono ?_
  rintro e w6 ⟨rfl, n, rfl⟩
  go_wp2_with fail
  go_ret
  exact ⟨rfl, below_drewN B5.out n⟩
theorem listText_long (a : Option Addr) (len cap : Nat) (w : World) (hm : len ≤ maxLen) (h : 1048576 < len) :
    Calls Tryd.prog 7 #[.slice a len cap] w fun e w' => e = .returned (.bool true) ∧ Below w.heap.size w w' := by
  unfold maxLen at hm
  go_enter Tryd.func7, Tryd.ntmps7
  go_wp2
  go_ret
  exact ⟨rfl, Below.refl _ _⟩
end Go.Proofs.YtjgajnhefhgpkaaDoor
