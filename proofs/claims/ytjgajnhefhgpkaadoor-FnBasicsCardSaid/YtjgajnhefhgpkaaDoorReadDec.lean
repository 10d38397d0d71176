/-
  The law of ReadDecimal.
-/
import Derived.Test.YtjgajnhefhgpkaaDoorNum
import Derived.Test.YtjgajnhefhgpkaaDoorDecimal
import Derived.Test.YtjgajnhefhgpkaaDoorShParse
namespace Go.Proofs.YtjgajnhefhgpkaaDoor
open Go.RowKit
set_option linter.unusedVariables false

theorem within64_yes (n lo hi : Int) (w : World) (h0 : lo ≤ n) (h1 : n ≤ hi) :
    Calls Tryd.prog 37 #[.int .i64 n, .int .i64 lo, .int .i64 hi] w fun e w' => e = .returned (.bool true) ∧ w = w' := by
  have e0 : decide (lo ≤ n) = true := by simpa using h0
  have e1 : decide (n ≤ hi) = true := by simpa using h1
  go_enter Tryd.func37, Tryd.ntmps37
  go_wp2
  go_ret
  exact ⟨rfl, rfl⟩
theorem within64_no (n lo hi : Int) (w : World) (h : n < lo ∨ hi < n) :
    Calls Tryd.prog 37 #[.int .i64 n, .int .i64 lo, .int .i64 hi] w fun e w' => e = .returned (.bool false) ∧ w = w' := by
  by_cases h0 : lo ≤ n
  · have h1 : ¬ n ≤ hi := by omega
    have e0 : decide (lo ≤ n) = true := by simpa using h0
    have e1 : decide (n ≤ hi) = false := by simpa using h1
    clear h
    go_enter Tryd.func37, Tryd.ntmps37
    go_wp2
    go_ret
    exact ⟨rfl, rfl⟩
  · have e0 : decide (lo ≤ n) = false := by simpa using h0
    clear h
    go_enter Tryd.func37, Tryd.ntmps37
    go_wp2
    go_ret
    exact ⟨rfl, rfl⟩

/-- What the library's texts read in whatever world that differs from w from block B on alone: the powers of ten, and two errors. -/
def Env (B : Nat) (w : World) : Prop := ∃ tp p tq q, ∀ w', Below B w w' →
  Lib.TabIs Tryd.prog w' "internal/strconv.uint64pow10" .u64 Lib.pow10Tab ∧ w'.var? Tryd.prog "strconv.ErrSyntax" = some #[.iface tp p] ∧ w'.var? Tryd.prog "strconv.ErrRange" = some #[.iface tq q]
theorem Env.on {B : Nat} {w w1 : World} (h : Env B w) (hb : Below B w w1) : Env B w1 := by
  obtain ⟨tp, p, tq, q, hh⟩ := h
  exact ⟨tp, p, tq, q, fun w' h' => hh w' (hb.trans h')⟩
theorem Env.tab {B : Nat} {w : World} (h : Env B w) : Tab10 B w := by
  obtain ⟨tp, p, tq, q, hh⟩ := h
  exact fun w' h' => (hh w' h').1

/-- The library's reading: a number and no error, or a number and an error. -/
theorem parse_any (s : ByteArray) (w : World) (hs : s.size ≤ 140737488355328) {B : Nat} (hE : Env B w) :
    Calls Tryd.prog 45 #[.string s, .int .i64 10, .int .i64 64] w fun e w' => Below w.heap.size w w' ∧
      ((∃ v, Lib.parseIntB 64 s.data.toList = .ok v ∧ e = .returned (.tuple #[.int .i64 v, .nilIface])) ∨
       ((∀ v, Lib.parseIntB 64 s.data.toList ≠ .ok v) ∧ ∃ v t p, e = .returned (.tuple #[.int .i64 v, .iface t (.pointer (some p))]))) := by
  obtain ⟨tp, p, tq, q, hh⟩ := hE
  obtain ⟨_, h1, h2⟩ := hh w (Below.refl _ _)
  rcases hp : Lib.parseIntB 64 s.data.toList with v | _ | _
  · refine (Any.strconv_ParseInt_10_at64_ok Tryd.laysC174 s (by omega) v hp w).mono fun e w' h => ?_
    obtain ⟨he, hw⟩ := h
    refine ⟨?_, .inl ⟨v, rfl, he⟩⟩
    rcases hw with rfl | ⟨t, rfl⟩
    · exact Below.refl _ _
    · exact Lib.bytesWorld_below _ _ _
  · refine (Any.strconv_ParseInt_10_at64_syntax_var Tryd.laysC174 s (by omega) hp tp p w h1).mono fun e w' h => ?_
    obtain ⟨N, he, _, _, hb⟩ := h
    exact ⟨hb, .inr ⟨(fun v hv => by cases hv), _, _, _, he⟩⟩
  · refine (Any.strconv_ParseInt_10_at64_range_var Tryd.laysC174 s (by omega) hp tq q w h2).mono fun e w' h => ?_
    obtain ⟨N, he, _, _, hb⟩ := h
    exact ⟨hb, .inr ⟨(fun v hv => by cases hv), _, _, _, he⟩⟩

theorem implRead_err (s : ByteArray) (w : World) (hs : s.size ≤ 140737488355328) (hB : Env w.heap.size w) :
    Calls Tryd.prog 18 #[.string s] w fun e w' => NumRes s e ∧ Below w.heap.size w w' := by
  have HE := Lib.hid hB; clear hB
  go_enter Tryd.func18, Tryd.ntmps18
  go_wp2_with fail
  refine (parse_any s _ hs HE.out).mono ?_
  rintro e w1 ⟨hb, hr⟩
  have HB := Lib.hid hb
  clear hb
  rcases hr with ⟨v, hp, rfl⟩ | ⟨hp, v, t, p, rfl⟩
  · by_cases hr : v < -999999999999999999 ∨ 999999999999999999 < v
    · have HN : Hid (¬ IsNum s.data.toList) := fun h => by
        have e := (isNum_parse h).symm.trans hp
        obtain ⟨_, b0, b1⟩ := isNum_itoa h
        have : numOf s.data.toList = v := by injection e
        omega
      have HR := Lib.hid hr
      clear hp hr
      go_wp2_with (go_at_call 37; refine (within64_no _ _ _ _ HR.out).mono ?_; rintro e w' ⟨rfl, rfl⟩)
      go_ret2
      exact ⟨num_no HN.out rfl, HB.out⟩
    · have r0 : -999999999999999999 ≤ v := by omega
      have r1 : v ≤ 999999999999999999 := by omega
      clear hr
      by_cases hd : s.data.toList = Lib.itoa v
      · have HI : Hid (IsNum s.data.toList) := by rw [hd]; exact itoa_isNum v r0 r1
        have HV : Hid (numOf s.data.toList = v) := by
          have e := (isNum_parse HI.out).symm.trans hp
          injection e
        have hq : (Lib.itoa v == s.toList) = true := by
          rw [ByteArray.toList_eq, beq_iff_eq]; exact hd.symm
        clear hp hd
        go_wp2_with (first | (go_at_call 37; refine (within64_yes _ _ _ _ r0 r1).mono ?_; rintro e w' ⟨rfl, rfl⟩) | (go_at_call 19; refine (implDec_any v _ (by omega) (by omega) (HE.out.on HB.out).tab).mono ?_; rintro e w2 ⟨rfl, hb2⟩; have HB2 := Lib.hid hb2; clear hb2))
        go_ret2
        exact ⟨.inl ⟨HI.out, by rw [HV.out]; rfl⟩, HB.out.trans (HB2.out.mono HB.out.size)⟩
      · have HN : Hid (¬ IsNum s.data.toList) := fun h => by
          have e := (isNum_parse h).symm.trans hp
          have : numOf s.data.toList = v := by injection e
          exact hd (by rw [← this]; exact (isNum_itoa h).1)
        have HD := Lib.hid hd
        clear hp hd
        have hq : (Lib.itoa v == s.toList) = false := by
          rw [ByteArray.toList_eq, beq_eq_false_iff_ne]; exact fun x => HD.out x.symm
        go_wp2_with (first | (go_at_call 37; refine (within64_yes _ _ _ _ r0 r1).mono ?_; rintro e w' ⟨rfl, rfl⟩) | (go_at_call 19; refine (implDec_any v _ (by omega) (by omega) (HE.out.on HB.out).tab).mono ?_; rintro e w2 ⟨rfl, hb2⟩; have HB2 := Lib.hid hb2; clear hb2))
        go_ret2
        exact ⟨num_no HN.out rfl, HB.out.trans (HB2.out.mono HB.out.size)⟩
  · have HN : Hid (¬ IsNum s.data.toList) := fun h => hp _ (isNum_parse h)
    clear hp
    go_wp2
    go_ret2
    exact ⟨num_no HN.out rfl, HB.out⟩

theorem specReadDec_any (s : ByteArray) (w : World) (hs : s.size ≤ maxLen) :
    Calls Tryd.prog 22 #[.string s] w fun e w' => NumRes s e ∧ w = w' := by
  have HS := Lib.hid hs; clear hs
  go_enter Tryd.func22, Tryd.ntmps22
  go_wp2_with fail
  refine (number_any s _ HS.out).mono ?_
  rintro e w1 ⟨hr, rfl⟩
  rcases hr with ⟨hn, rfl⟩ | ⟨hn, rfl⟩
  · have HN := Lib.hid hn; clear hn
    go_wp2
    go_ret2
    exact ⟨.inl ⟨HN.out, rfl⟩, rfl⟩
  · have HN := Lib.hid hn; clear hn
    go_wp2
    go_ret2
    exact ⟨.inr ⟨HN.out, rfl⟩, rfl⟩

theorem readDecimal_walk (s : ByteArray) (w : World) (hs : s.size ≤ maxLen) (hE : Env w.heap.size w) :
    Calls Tryd.prog 5 #[.string s] w fun e w' => e = .returned (.bool true) ∧ Below w.heap.size w w' := by
  have HS := Lib.hid hs
  have HE := Lib.hid hE
  unfold maxLen at hs
  clear hE
  by_cases hbig : 1048576 < s.size
  · go_enter Tryd.func5, Tryd.ntmps5
    go_wp2
    go_ret
    exact ⟨rfl, Below.refl _ _⟩
  · go_enter Tryd.func5, Tryd.ntmps5
    go_wp2_with fail
    refine (specReadDec_any s _ HS.out).mono ?_
    rintro e w1 ⟨hr, rfl⟩
    rcases hr with ⟨hn, rfl⟩ | ⟨hn, rfl⟩
    · have HN := Lib.hid hn; clear hn
      go_wp2_with fail
      refine (implRead_err s _ (by omega) HE.out).mono ?_
      rintro e w1 ⟨hr, hb⟩
      have HB := Lib.hid hb; clear hb
      rcases hr with ⟨hn, rfl⟩ | ⟨hn, rfl⟩
      · clear hn
        go_wp2
        go_ret
        exact ⟨rfl, HB.out⟩
      · exact absurd HN.out hn
    · have HN := Lib.hid hn; clear hn
      go_wp2_with fail
      refine (implRead_err s _ (by omega) HE.out).mono ?_
      rintro e w1 ⟨hr, hb⟩
      have HB := Lib.hid hb; clear hb
      rcases hr with ⟨hn, rfl⟩ | ⟨hn, rfl⟩
      · exact absurd hn HN.out
      · clear hn
        go_wp2
        go_ret
        exact ⟨rfl, HB.out⟩
end Go.Proofs.YtjgajnhefhgpkaaDoor
