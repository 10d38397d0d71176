/-
  The laws of vectors modulo a prime: whatever the arguments, the program's answer is the model's, the arguments are as before, and the answer lies in new memory.
-/
import Derived.Test.YtlikfgmhhjpggaaVecC
import Derived.Test.YtlikfgmhhjpggaaOwnX
import Derived.Test.YtlikfgmhhjpggaaOwnX
namespace Go.Proofs.Ytlikfgmhhjpggaa
open Go.RowKit
set_option linter.unusedVariables false

theorem OwnI.kept {B : Nat} {w w' : World} {v : Value} {zs : List Int} {r : Option Nat} (h : OwnI B w v zs) (hg : w.grownBy w' r) (hr : v.ownBlock = none ∨ v.ownBlock ≠ r) : OwnI B w' v zs := World.ownsRow.kept h.out hg hr
/-- The older of two rows lies apart from the newer. -/
theorem apart_old {B C : Nat} {w w' : World} {u v : Value} {zs ys : List Int} (h : OwnI B w u zs) (g : OwnI C w' v ys) (hC : w.heap.size ≤ C) : u.ownBlock = none ∨ u.ownBlock ≠ v.ownBlock := by
  cases hu : u.ownBlock with
  | none => exact .inl rfl
  | some k =>
    right
    intro hv
    have h1 := (h.out.lt k hu).2
    have h2 := (g.out.lt k hv.symm).1
    omega
theorem apart_new {B C : Nat} {w w' : World} {u v : Value} {zs ys : List Int} (h : OwnI B w u zs) (g : OwnI C w' v ys) (hC : w.heap.size ≤ C) : v.ownBlock = none ∨ v.ownBlock ≠ u.ownBlock := by
  rcases apart_old h g hC with e | e
  · cases hv : v.ownBlock with
    | none => exact .inl rfl
    | some k => right; rw [e]; exact fun x => by cases x
  · exact .inr (Ne.symm e)
/-- A slice that came in, by what its reading says. -/
theorem intsAt_in {w : World} {a : Option Addr} {len cap : Nat} {zs : List Int} (hl : len ≤ 1048576)
    (h : (a = none ∧ len = 0 ∧ cap = 0 ∧ zs = []) ∨ ∃ x, a = some x ∧ len ≤ cap ∧ cap ≤ maxLen ∧ zs.length = cap ∧ (∀ i, i < zs.length → w.cell? (x.add i) = some (.int .i64 (zs.getD i 0))) ∧ ∀ n ∈ zs, (Lit.int .i64 n).wf = true) :
    IntsAt w (.slice a len cap) (zs.take len) := by
  rcases h with ⟨rfl, rfl, rfl, rfl⟩ | ⟨x, rfl, h1, _, h3, h4, _⟩
  · exact ⟨none, 0, rfl, by simp, .inl rfl⟩
  · have e : (zs.take len).length = len := by rw [List.length_take]; omega
    refine ⟨some x, cap, by rw [e], by rw [e]; exact hl, ?_⟩
    by_cases h0 : len = 0
    · subst h0; exact .inl (by simp)
    · right
      obtain ⟨b, off, spot⟩ := x
      have hc := h4 0 (by omega)
      have hspot : spot = none := by simpa [Addr.add] using World.cell?_spot hc
      subst hspot
      refine ⟨b, off, rfl, World.block_lt_of_cell? w _ (by simpa [Addr.add] using hc), fun j hj => ?_⟩
      have hj' : j < zs.length := by rw [e] at hj; omega
      have := h4 j hj'
      have ea : (⟨b, off, none⟩ : Addr).add j = ⟨b, off + j, none⟩ := by
        unfold Addr.add; split <;> simp_all
      rw [ea] at this
      rw [this, List.getElem_take]
      simp [List.getD, List.getElem?_eq_getElem hj']
theorem len_max {w : World} {a : Option Addr} {len cap : Nat} {zs : List Int}
    (h : (a = none ∧ len = 0 ∧ cap = 0 ∧ zs = []) ∨ ∃ x, a = some x ∧ len ≤ cap ∧ cap ≤ maxLen ∧ zs.length = cap ∧ (∀ i, i < zs.length → w.cell? (x.add i) = some (.int .i64 (zs.getD i 0))) ∧ ∀ n ∈ zs, (Lit.int .i64 n).wf = true) : len ≤ 9223372036854775807 := by
  rcases h with ⟨_, rfl, _⟩ | ⟨x, _, h1, h2, _⟩
  · exact Nat.zero_le _
  · unfold maxLen at h2; omega

set_option maxRecDepth 100000 in
set_option maxHeartbeats 1600000 in
theorem validVector_at {v : Value} {zs : List Int} (p : Int) (w : World) (hv : IntsAt w v zs) :
    Calls Try.prog 14 #[v, .int .i64 p] w fun e w' => e = .returned (.bool true) ∧ Below w.heap.size w w' := by
  have HV := Lib.hid hv
  obtain ⟨a, cap, rfl, hl, _⟩ := hv
  have hl' : ¬ 1048576 < (zs.length : Int) := by omega
  obtain ⟨ok, hS, hI⟩ : ∃ ok : Bool, (∀ u w', IntsAt w' u zs → Calls Try.prog 45 #[u, .int .i64 p] w' fun e w'' => e = .returned (.bool ok) ∧ w' = w'') ∧ (∀ u w', IntsAt w' u zs → Calls Try.prog 47 #[u, .int .i64 p] w' fun e w'' => e = .returned (.bool ok) ∧ w' = w'') := by
    by_cases h : Vec p zs
    · exact ⟨true, fun u w' h2 => specVec_yes h2 h, fun u w' h2 => implVec_yes h2 h⟩
    · exact ⟨false, fun u w' h2 => specVec_no h2 h, fun u w' h2 => implVec_no h2 h⟩
  have HS := Lib.hid hS
  have HI := Lib.hid hI
  have eok : (ok != ok) = false := by simp
  clear hS hI
  go_enter Try.func14, Try.ntmps14
  go_wp2_with fail
  refine (toI_any HV.out).mono ?_
  rintro e w1 ⟨v1, rfl, ho1, hb1⟩
  have O1 := Lib.hid ho1
  have B1 := Lib.hid hb1
  clear ho1 hb1
  go_wp2_with fail
  refine (HS.out v1 _ (O1.out.at hl)).mono ?_
  rintro e w' ⟨rfl, rfl⟩
  go_wp2_with fail
  refine (toI_any (HV.out.on B1.out)).mono ?_
  rintro e w2 ⟨v2, rfl, ho2, hb2⟩
  have O2 := Lib.hid ho2
  have B2 := Lib.hid (B1.out.trans (hb2.mono B1.out.size))
  clear ho2 hb2
  go_wp2_with fail
  refine (HI.out v2 _ (O2.out.at hl)).mono ?_
  rintro e w' ⟨rfl, rfl⟩
  go_wp2_with fail
  refine (toI_any (HV.out.on B2.out)).mono ?_
  rintro e w3 ⟨v3, rfl, ho3, hb3⟩
  have O3 := Lib.hid ho3
  have O23 := Lib.hid (O2.out.on hb3)
  have B3 := Lib.hid (B2.out.trans (hb3.mono B2.out.size))
  clear ho3 hb3
  go_wp2_with fail
  refine (eqI_any (O23.out.at hl) (O3.out.at hl)).mono ?_
  rintro e w4 ⟨rfl, n4, rfl⟩
  go_wp2_with fail
  go_ret
  exact ⟨rfl, below_drewN2 B3.out n4⟩
theorem validVector_long (p : Int) (a : Option Addr) (len cap : Nat) (w : World) (h : 1048576 < len) (h2 : len ≤ 9223372036854775807) :
    Calls Try.prog 14 #[.slice a len cap, .int .i64 p] w fun e w' => e = .returned (.bool true) ∧ Below w.heap.size w w' := by
  have h' : 1048576 < (len : Int) := by omega
  go_enter Try.func14, Try.ntmps14
  go_wp2_with fail
  go_ret
  exact ⟨rfl, Below.refl _ _⟩
theorem validVector_of (a : Option Addr) (len cap : Nat) (zs : List Int) (p : Int) (w : World)
    (h : (a = none ∧ len = 0 ∧ cap = 0 ∧ zs = []) ∨ ∃ x, a = some x ∧ len ≤ cap ∧ cap ≤ maxLen ∧ zs.length = cap ∧ (∀ i, i < zs.length → w.cell? (x.add i) = some (.int .i64 (zs.getD i 0))) ∧ ∀ n ∈ zs, (Lit.int .i64 n).wf = true) :
    Calls Try.prog 14 #[.slice a len cap, .int .i64 p] w fun e w' => e = .returned (.bool true) ∧ Below w.heap.size w w' := by
  by_cases hl : len ≤ 1048576
  · exact validVector_at p w (intsAt_in hl h)
  · exact validVector_long p a len cap w (by omega) (len_max h)

/-! ### DotOf -/
set_option maxRecDepth 100000 in
set_option maxHeartbeats 1600000 in
theorem dotOf_at {u v : Value} {xs ys : List Int} (p : Int) (w : World) (hu : IntsAt w u xs) (hv : IntsAt w v ys) :
    Calls Try.prog 17 #[u, v, .int .i64 p] w fun e w' => e = .returned (.bool true) ∧ Below w.heap.size w w' := by
  have HU := Lib.hid hu
  have HV := Lib.hid hv
  obtain ⟨a1, cap1, rfl, hl1, _⟩ := hu
  obtain ⟨a2, cap2, rfl, hl2, _⟩ := hv
  have hl1' : ¬ 1048576 < (xs.length : Int) := by omega
  have hl2' : ¬ 1048576 < (ys.length : Int) := by omega
  obtain ⟨r, c, hr⟩ := dotRes_has p xs ys
  have HR := Lib.hid hr
  have er : (r != r) = false := by simp
  have ec : (c != c) = false := by simp
  clear hr
  go_enter Try.func17, Try.ntmps17
  go_wp2_with fail
  refine (toI_any HU.out).mono ?_
  rintro e w1 ⟨v1, rfl, ho1, hb1⟩
  have O1 := Lib.hid ho1
  have B1 := Lib.hid hb1
  clear ho1 hb1
  go_wp2_with fail
  refine (toI_any (HV.out.on B1.out)).mono ?_
  rintro e w2 ⟨v2, rfl, ho2, hb2⟩
  have O2 := Lib.hid ho2
  have O1 := Lib.hid (O1.out.on hb2)
  have B2 := Lib.hid (B1.out.trans (hb2.mono B1.out.size))
  clear ho2 hb2
  go_wp2_with fail
  refine (specDotV_any (O1.out.at hl1) (O2.out.at hl2) HR.out).mono ?_
  rintro e w3 ⟨rfl, hb3⟩
  have B3 := Lib.hid (B2.out.trans (hb3.mono B2.out.size))
  clear hb3
  go_wp2_with fail
  refine (toI_any (HU.out.on B3.out)).mono ?_
  rintro e w4 ⟨v4, rfl, ho4, hb4⟩
  have O4 := Lib.hid ho4
  have B4 := Lib.hid (B3.out.trans (hb4.mono B3.out.size))
  clear ho4 hb4
  go_wp2_with fail
  refine (toI_any (HV.out.on B4.out)).mono ?_
  rintro e w5 ⟨v5, rfl, ho5, hb5⟩
  have O5 := Lib.hid ho5
  have O4 := Lib.hid (O4.out.on hb5)
  have B5 := Lib.hid (B4.out.trans (hb5.mono B4.out.size))
  clear ho5 hb5
  go_wp2_with fail
  refine (implDotV_any (O4.out.at hl1) (O5.out.at hl2) HR.out).mono ?_
  rintro e w6 ⟨rfl, hb6⟩
  have O4 := Lib.hid (O4.out.on hb6)
  have O5 := Lib.hid (O5.out.on hb6)
  have B6 := Lib.hid (B5.out.trans (hb6.mono B5.out.size))
  clear hb6
  go_wp2_with fail
  refine (toI_any (HU.out.on B6.out)).mono ?_
  rintro e w7 ⟨v7, rfl, ho7, hb7⟩
  have O7 := Lib.hid ho7
  have O4 := Lib.hid (O4.out.on hb7)
  have O5 := Lib.hid (O5.out.on hb7)
  have B7 := Lib.hid (B6.out.trans (hb7.mono B6.out.size))
  clear ho7 hb7
  go_wp2_with fail
  refine (eqI_any (O4.out.at hl1) (O7.out.at hl1)).mono ?_
  rintro e w8 ⟨rfl, n8, rfl⟩
  have O5 := Lib.hid (O5.out.on (below_drewN2 (Below.refl _ _) n8))
  have B8 := Lib.hid (below_drewN2 B7.out n8)
  go_wp2_with fail
  refine (toI_any (HV.out.on B8.out)).mono ?_
  rintro e w9 ⟨v9, rfl, ho9, hb9⟩
  have O9 := Lib.hid ho9
  have O5 := Lib.hid (O5.out.on hb9)
  have B9 := Lib.hid (B8.out.trans (hb9.mono B8.out.size))
  clear ho9 hb9
  go_wp2_with fail
  refine (eqI_any (O5.out.at hl2) (O9.out.at hl2)).mono ?_
  rintro e w10 ⟨rfl, n10, rfl⟩
  go_wp2_with fail
  go_ret
  exact ⟨rfl, below_drewN2 B9.out n10⟩
theorem dotOf_long (p : Int) (a1 : Option Addr) (len1 cap1 : Nat) (a2 : Option Addr) (len2 cap2 : Nat) (w : World) (h1 : len1 ≤ 9223372036854775807) (h2 : len2 ≤ 9223372036854775807) (h : 1048576 < len1 ∨ 1048576 < len2) :
    Calls Try.prog 17 #[.slice a1 len1 cap1, .slice a2 len2 cap2, .int .i64 p] w fun e w' => e = .returned (.bool true) ∧ Below w.heap.size w w' := by
  by_cases hl : 1048576 < (len1 : Int)
  · clear h
    go_enter Try.func17, Try.ntmps17
    go_wp2_with fail
    go_ret
    exact ⟨rfl, Below.refl _ _⟩
  · have h' : 1048576 < (len2 : Int) := by omega
    clear h
    go_enter Try.func17, Try.ntmps17
    go_wp2_with fail
    go_ret
    exact ⟨rfl, Below.refl _ _⟩
theorem dotOf_of (a1 : Option Addr) (len1 cap1 : Nat) (z1 : List Int) (a2 : Option Addr) (len2 cap2 : Nat) (z2 : List Int) (p : Int) (w : World)
    (h1 : (a1 = none ∧ len1 = 0 ∧ cap1 = 0 ∧ z1 = []) ∨ ∃ x, a1 = some x ∧ len1 ≤ cap1 ∧ cap1 ≤ maxLen ∧ z1.length = cap1 ∧ (∀ i, i < z1.length → w.cell? (x.add i) = some (.int .i64 (z1.getD i 0))) ∧ ∀ n ∈ z1, (Lit.int .i64 n).wf = true)
    (h2 : (a2 = none ∧ len2 = 0 ∧ cap2 = 0 ∧ z2 = []) ∨ ∃ x, a2 = some x ∧ len2 ≤ cap2 ∧ cap2 ≤ maxLen ∧ z2.length = cap2 ∧ (∀ i, i < z2.length → w.cell? (x.add i) = some (.int .i64 (z2.getD i 0))) ∧ ∀ n ∈ z2, (Lit.int .i64 n).wf = true) :
    Calls Try.prog 17 #[.slice a1 len1 cap1, .slice a2 len2 cap2, .int .i64 p] w fun e w' => e = .returned (.bool true) ∧ Below w.heap.size w w' := by
  by_cases hl : len1 ≤ 1048576 ∧ len2 ≤ 1048576
  · exact dotOf_at p w (intsAt_in hl.1 h1) (intsAt_in hl.2 h2)
  · exact dotOf_long p a1 len1 cap1 a2 len2 cap2 w (len_max h1) (len_max h2) (by omega)
/-! ### AddVectors, ScaleVector -/
theorem addRes_len {p : Int} {xs ys zs : List Int} {c : Int} (h : AddRes p xs ys zs c) : zs.length ≤ 64 := by
  obtain ⟨hp, ⟨_, rfl⟩ | ⟨rfl, rfl⟩⟩ := h
  · simp
  · obtain ⟨⟨_, _, h⟩, _, hl⟩ := hp.good
    rw [addL_len hl]; exact h
theorem sclRes_len {p m : Int} {xs zs : List Int} {c : Int} (h : SclRes p xs m zs c) : zs.length ≤ 64 := by
  rcases h with ⟨_, rfl, _⟩ | ⟨_, _, rfl, _⟩ | ⟨h, _, _, rfl, _⟩
  · simp
  · simp
  · rw [sclC_len]; exact h.2.2
set_option maxRecDepth 100000 in
set_option maxHeartbeats 3200000 in
theorem addVectors_at {u1 u2 : Value} {xs ys : List Int} (p : Int) (w : World) (hu1 : IntsAt w u1 xs) (hu2 : IntsAt w u2 ys) :
    Calls Try.prog 15 #[u1, u2, .int .i64 p] w fun e w' => e = .returned (.bool true) ∧ Below w.heap.size w w' := by
  have Hu1 := Lib.hid hu1
  have Hu2 := Lib.hid hu2
  obtain ⟨a1, cap1, rfl, hl1, _⟩ := hu1
  obtain ⟨a2, cap2, rfl, hl2, _⟩ := hu2
  have hl1' : ¬ 1048576 < (xs.length : Int) := by omega
  have hl2' : ¬ 1048576 < (ys.length : Int) := by omega
  obtain ⟨zs, c, hr⟩ := addRes_has p xs ys
  have hz := addRes_len hr
  have hz16 : zs.length ≤ 1048576 := by omega
  have HR : Hid (AddRes p xs ys zs c) := hr
  have ec : (c != c) = false := by simp
  clear hr
  obtain ⟨s0, hs0⟩ : ∃ s, w.heap.size = s := ⟨_, rfl⟩
  have B0 : Hid (Below s0 w w) := Below.refl _ _
  have S0 : Hid (s0 = w.heap.size) := hs0.symm
  have Ku1 : Hid (∀ w', Below s0 w w' → IntsAt w' (.slice a1 xs.length cap1) xs) := fun w' hb => Hu1.out.on (by rw [hs0]; exact hb)
  have Ku2 : Hid (∀ w', Below s0 w w' → IntsAt w' (.slice a2 ys.length cap2) ys) := fun w' hb => Hu2.out.on (by rw [hs0]; exact hb)
  rw [hs0]
  clear hs0 Hu1 Hu2
  go_enter Try.func15, Try.ntmps15
  go_wp2_with fail
  refine (toI_any (Ku1.out _ B0.out)).mono ?_
  rintro e w1 ⟨v1, rfl, ho1, hb1⟩
  rw [← S0.out] at ho1 hb1
  have B1 := Lib.hid (B0.out.trans (hb1.mono (by omega)))
  obtain ⟨s1, hs1⟩ : ∃ s, w1.heap.size = s := ⟨_, rfl⟩
  have le1 : s0 ≤ s1 := by have := hb1.size; rw [hs1, ← S0.out] at this; exact this
  have O1 : Hid (OwnX s0 s1 w1 v1 xs) := by rw [← hs1]; exact OwnX.new ho1
  have S1 : Hid (s1 = w1.heap.size) := hs1.symm
  clear ho1 hb1 hs1 S0 B0
  go_wp2_with fail
  refine (toI_any (Ku2.out _ B1.out)).mono ?_
  rintro e w2 ⟨v2, rfl, ho2, hb2⟩
  rw [← S1.out] at ho2 hb2
  have O1 := Lib.hid (O1.out.on (by rw [← S1.out]; exact hb2))
  have B2 := Lib.hid (B1.out.trans (hb2.mono (by omega)))
  obtain ⟨s2, hs2⟩ : ∃ s, w2.heap.size = s := ⟨_, rfl⟩
  have le2 : s1 ≤ s2 := by have := hb2.size; rw [hs2, ← S1.out] at this; exact this
  have O2 : Hid (OwnX s1 s2 w2 v2 ys) := by rw [← hs2]; exact OwnX.new ho2
  have S2 : Hid (s2 = w2.heap.size) := hs2.symm
  clear ho2 hb2 hs2 S1 B1
  go_wp2_with fail
  refine (specAddV_any (O1.out.at hl1) (O2.out.at hl2) HR.out).mono ?_
  rintro e w3 ⟨v3, rfl, ho3, hb3⟩
  rw [← S2.out] at ho3 hb3
  have O1 := Lib.hid (O1.out.on (by rw [← S2.out]; exact hb3))
  have O2 := Lib.hid (O2.out.on (by rw [← S2.out]; exact hb3))
  have B3 := Lib.hid (B2.out.trans (hb3.mono (by omega)))
  obtain ⟨s3, hs3⟩ : ∃ s, w3.heap.size = s := ⟨_, rfl⟩
  have le3 : s2 ≤ s3 := by have := hb3.size; rw [hs3, ← S2.out] at this; exact this
  have O3 : Hid (OwnX s2 s3 w3 v3 zs) := by rw [← hs3]; exact OwnX.new ho3
  have S3 : Hid (s3 = w3.heap.size) := hs3.symm
  clear ho3 hb3 hs3 S2 B2
  clear O1 O2
  go_wp2_with fail
  refine (toI_any (Ku1.out _ B3.out)).mono ?_
  rintro e w4 ⟨v4, rfl, ho4, hb4⟩
  rw [← S3.out] at ho4 hb4
  have O3 := Lib.hid (O3.out.on (by rw [← S3.out]; exact hb4))
  have B4 := Lib.hid (B3.out.trans (hb4.mono (by omega)))
  obtain ⟨s4, hs4⟩ : ∃ s, w4.heap.size = s := ⟨_, rfl⟩
  have le4 : s3 ≤ s4 := by have := hb4.size; rw [hs4, ← S3.out] at this; exact this
  have O4 : Hid (OwnX s3 s4 w4 v4 xs) := by rw [← hs4]; exact OwnX.new ho4
  have S4 : Hid (s4 = w4.heap.size) := hs4.symm
  clear ho4 hb4 hs4 S3 B3
  go_wp2_with fail
  refine (toI_any (Ku2.out _ B4.out)).mono ?_
  rintro e w5 ⟨v5, rfl, ho5, hb5⟩
  rw [← S4.out] at ho5 hb5
  have O3 := Lib.hid (O3.out.on (by rw [← S4.out]; exact hb5))
  have O4 := Lib.hid (O4.out.on (by rw [← S4.out]; exact hb5))
  have B5 := Lib.hid (B4.out.trans (hb5.mono (by omega)))
  obtain ⟨s5, hs5⟩ : ∃ s, w5.heap.size = s := ⟨_, rfl⟩
  have le5 : s4 ≤ s5 := by have := hb5.size; rw [hs5, ← S4.out] at this; exact this
  have O5 : Hid (OwnX s4 s5 w5 v5 ys) := by rw [← hs5]; exact OwnX.new ho5
  have S5 : Hid (s5 = w5.heap.size) := hs5.symm
  clear ho5 hb5 hs5 S4 B4
  go_wp2_with fail
  refine (implAddV_any (O4.out.at hl1) (O5.out.at hl2) HR.out).mono ?_
  rintro e w6 ⟨v6, rfl, ho6, hb6⟩
  rw [← S5.out] at ho6 hb6
  have O3 := Lib.hid (O3.out.on (by rw [← S5.out]; exact hb6))
  have O4 := Lib.hid (O4.out.on (by rw [← S5.out]; exact hb6))
  have O5 := Lib.hid (O5.out.on (by rw [← S5.out]; exact hb6))
  have B6 := Lib.hid (B5.out.trans (hb6.mono (by omega)))
  obtain ⟨s6, hs6⟩ : ∃ s, w6.heap.size = s := ⟨_, rfl⟩
  have le6 : s5 ≤ s6 := by have := hb6.size; rw [hs6, ← S5.out] at this; exact this
  have O6 : Hid (OwnX s5 s6 w6 v6 zs) := by rw [← hs6]; exact OwnX.new ho6
  have S6 : Hid (s6 = w6.heap.size) := hs6.symm
  clear ho6 hb6 hs6 S5 B5
  go_wp2_with fail
  refine (eqI_any (O6.out.at hz16) (O3.out.at hz16)).mono ?_
  rintro e w7 ⟨rfl, n7, rfl⟩
  have O3 := Lib.hid (O3.out.drewN n7)
  have O4 := Lib.hid (O4.out.drewN n7)
  have O5 := Lib.hid (O5.out.drewN n7)
  have O6 := Lib.hid (O6.out.drewN n7)
  have B7 := Lib.hid (below_drewX B6.out n7)
  have le7 := Nat.le_refl s6
  obtain ⟨s7, hs7⟩ : ∃ s, s6 = s := ⟨_, rfl⟩
  have S7 : Hid (s7 = (w6.drewN n7).heap.size) := by rw [← hs7]; exact S6.out
  have hs7 : s6 ≤ s7 := by omega
  clear S6 B6 le7
  go_wp2_with fail
  refine (toI_any (Ku1.out _ B7.out)).mono ?_
  rintro e w8 ⟨v8, rfl, ho8, hb8⟩
  rw [← S7.out] at ho8 hb8
  have O3 := Lib.hid (O3.out.on (by rw [← S7.out]; exact hb8))
  have O4 := Lib.hid (O4.out.on (by rw [← S7.out]; exact hb8))
  have O5 := Lib.hid (O5.out.on (by rw [← S7.out]; exact hb8))
  have O6 := Lib.hid (O6.out.on (by rw [← S7.out]; exact hb8))
  have B8 := Lib.hid (B7.out.trans (hb8.mono (by omega)))
  obtain ⟨s8, hs8⟩ : ∃ s, w8.heap.size = s := ⟨_, rfl⟩
  have le8 : s7 ≤ s8 := by have := hb8.size; rw [hs8, ← S7.out] at this; exact this
  have O8 : Hid (OwnX s7 s8 w8 v8 xs) := by rw [← hs8]; exact OwnX.new ho8
  have S8 : Hid (s8 = w8.heap.size) := hs8.symm
  clear ho8 hb8 hs8 S7 B7
  go_wp2_with fail
  refine (eqI_any (O4.out.at hl1) (O8.out.at hl1)).mono ?_
  rintro e w9 ⟨rfl, n9, rfl⟩
  have O3 := Lib.hid (O3.out.drewN n9)
  have O4 := Lib.hid (O4.out.drewN n9)
  have O5 := Lib.hid (O5.out.drewN n9)
  have O6 := Lib.hid (O6.out.drewN n9)
  have O8 := Lib.hid (O8.out.drewN n9)
  have B9 := Lib.hid (below_drewX B8.out n9)
  have le9 := Nat.le_refl s8
  obtain ⟨s9, hs9⟩ : ∃ s, s8 = s := ⟨_, rfl⟩
  have S9 : Hid (s9 = (w8.drewN n9).heap.size) := by rw [← hs9]; exact S8.out
  have hs9 : s8 ≤ s9 := by omega
  clear S8 B8 le9
  clear O8
  go_wp2_with fail
  refine (toI_any (Ku2.out _ B9.out)).mono ?_
  rintro e w10 ⟨v10, rfl, ho10, hb10⟩
  rw [← S9.out] at ho10 hb10
  have O3 := Lib.hid (O3.out.on (by rw [← S9.out]; exact hb10))
  have O4 := Lib.hid (O4.out.on (by rw [← S9.out]; exact hb10))
  have O5 := Lib.hid (O5.out.on (by rw [← S9.out]; exact hb10))
  have O6 := Lib.hid (O6.out.on (by rw [← S9.out]; exact hb10))
  have B10 := Lib.hid (B9.out.trans (hb10.mono (by omega)))
  obtain ⟨s10, hs10⟩ : ∃ s, w10.heap.size = s := ⟨_, rfl⟩
  have le10 : s9 ≤ s10 := by have := hb10.size; rw [hs10, ← S9.out] at this; exact this
  have O10 : Hid (OwnX s9 s10 w10 v10 ys) := by rw [← hs10]; exact OwnX.new ho10
  have S10 : Hid (s10 = w10.heap.size) := hs10.symm
  clear ho10 hb10 hs10 S9 B9
  go_wp2_with fail
  refine (eqI_any (O5.out.at hl2) (O10.out.at hl2)).mono ?_
  rintro e w11 ⟨rfl, n11, rfl⟩
  have O3 := Lib.hid (O3.out.drewN n11)
  have O4 := Lib.hid (O4.out.drewN n11)
  have O5 := Lib.hid (O5.out.drewN n11)
  have O6 := Lib.hid (O6.out.drewN n11)
  have O10 := Lib.hid (O10.out.drewN n11)
  have B11 := Lib.hid (below_drewX B10.out n11)
  have le11 := Nat.le_refl s10
  obtain ⟨s11, hs11⟩ : ∃ s, s10 = s := ⟨_, rfl⟩
  have S11 : Hid (s11 = (w10.drewN n11).heap.size) := by rw [← hs11]; exact S10.out
  have hs11 : s10 ≤ s11 := by omega
  clear S10 B10 le11
  clear O10
  go_wp2_with fail
  refine (markX_any 1 O4.out hl1 (by omega) (by omega)).mono ?_
  rintro e w12 ⟨rfl, ho12, hf12⟩
  have O3 := Lib.hid (O3.out.fr hf12 (by omega))
  have O5 := Lib.hid (O5.out.fr hf12 (by omega))
  have O6 := Lib.hid (O6.out.fr hf12 (by omega))
  have O4 := Lib.hid ho12
  have B12 := Lib.hid (B11.out.trans ((hf12.below (by rw [← S11.out]; omega)).mono (by omega)))
  obtain ⟨s12, hs12⟩ : ∃ s, w12.heap.size = s := ⟨_, rfl⟩
  have le12 : s11 ≤ s12 := by have := hf12.2.2.2.1; rw [hs12, ← S11.out] at this; exact this
  have S12 : Hid (s12 = w12.heap.size) := hs12.symm
  clear ho12 hf12 hs12 S11 B11
  go_wp2_with fail
  refine (markX_any (1 + (xs.length : Int)) O5.out hl2 (by omega) (by omega)).mono ?_
  rintro e w13 ⟨rfl, ho13, hf13⟩
  have O3 := Lib.hid (O3.out.fr hf13 (by omega))
  have O4 := Lib.hid (O4.out.fr hf13 (by omega))
  have O6 := Lib.hid (O6.out.fr hf13 (by omega))
  have O5 := Lib.hid ho13
  have B13 := Lib.hid (B12.out.trans ((hf13.below (by rw [← S12.out]; omega)).mono (by omega)))
  obtain ⟨s13, hs13⟩ : ∃ s, w13.heap.size = s := ⟨_, rfl⟩
  have le13 : s12 ≤ s13 := by have := hf13.2.2.2.1; rw [hs13, ← S12.out] at this; exact this
  have S13 : Hid (s13 = w13.heap.size) := hs13.symm
  clear ho13 hf13 hs13 S12 B12
  clear O4 O5
  go_wp2_with fail
  refine (eqI_any (O6.out.at hz16) (O3.out.at hz16)).mono ?_
  rintro e w14 ⟨rfl, n14, rfl⟩
  have O3 := Lib.hid (O3.out.drewN n14)
  have O6 := Lib.hid (O6.out.drewN n14)
  have B14 := Lib.hid (below_drewX B13.out n14)
  have le14 := Nat.le_refl s13
  obtain ⟨s14, hs14⟩ : ∃ s, s13 = s := ⟨_, rfl⟩
  have S14 : Hid (s14 = (w13.drewN n14).heap.size) := by rw [← hs14]; exact S13.out
  have hs14 : s13 ≤ s14 := by omega
  clear S13 B13 le14
  go_wp2_with fail
  refine (markX_any 1 O6.out hz16 (by omega) (by omega)).mono ?_
  rintro e w15 ⟨rfl, ho15, hf15⟩
  have O3 := Lib.hid (O3.out.fr hf15 (by omega))
  have O6 := Lib.hid ho15
  have B15 := Lib.hid (B14.out.trans ((hf15.below (by rw [← S14.out]; omega)).mono (by omega)))
  obtain ⟨s15, hs15⟩ : ∃ s, w15.heap.size = s := ⟨_, rfl⟩
  have le15 : s14 ≤ s15 := by have := hf15.2.2.2.1; rw [hs15, ← S14.out] at this; exact this
  have S15 : Hid (s15 = w15.heap.size) := hs15.symm
  clear ho15 hf15 hs15 S14 B14
  go_wp2_with fail
  refine (heldI_any (O6.out.at (by rw [marks_len]; omega)) (by omega) (by omega)).mono ?_
  rintro e w16 ⟨rfl, rfl⟩
  have S16 := S15
  have B16 := B15
  obtain ⟨s16, hs16⟩ : ∃ s, s15 = s := ⟨_, rfl⟩
  rw [hs16] at S16
  have hs16 : s15 ≤ s16 := by omega
  clear S15 B15
  have eq1 : ((1 : Int) + (zs.length : Int) != 1 + (zs.length : Int)) = false := by simp
  go_wp2_with fail
  refine (toI_any (Ku1.out _ B16.out)).mono ?_
  rintro e w17 ⟨v17, rfl, ho17, hb17⟩
  rw [← S16.out] at ho17 hb17
  have O3 := Lib.hid (O3.out.on (by rw [← S16.out]; exact hb17))
  have O6 := Lib.hid (O6.out.on (by rw [← S16.out]; exact hb17))
  have B17 := Lib.hid (B16.out.trans (hb17.mono (by omega)))
  obtain ⟨s17, hs17⟩ : ∃ s, w17.heap.size = s := ⟨_, rfl⟩
  have le17 : s16 ≤ s17 := by have := hb17.size; rw [hs17, ← S16.out] at this; exact this
  have O17 : Hid (OwnX s16 s17 w17 v17 xs) := by rw [← hs17]; exact OwnX.new ho17
  have S17 : Hid (s17 = w17.heap.size) := hs17.symm
  clear ho17 hb17 hs17 S16 B16
  go_wp2_with fail
  refine (toI_any (Ku2.out _ B17.out)).mono ?_
  rintro e w18 ⟨v18, rfl, ho18, hb18⟩
  rw [← S17.out] at ho18 hb18
  have O3 := Lib.hid (O3.out.on (by rw [← S17.out]; exact hb18))
  have O6 := Lib.hid (O6.out.on (by rw [← S17.out]; exact hb18))
  have O17 := Lib.hid (O17.out.on (by rw [← S17.out]; exact hb18))
  have B18 := Lib.hid (B17.out.trans (hb18.mono (by omega)))
  obtain ⟨s18, hs18⟩ : ∃ s, w18.heap.size = s := ⟨_, rfl⟩
  have le18 : s17 ≤ s18 := by have := hb18.size; rw [hs18, ← S17.out] at this; exact this
  have O18 : Hid (OwnX s17 s18 w18 v18 ys) := by rw [← hs18]; exact OwnX.new ho18
  have S18 : Hid (s18 = w18.heap.size) := hs18.symm
  clear ho18 hb18 hs18 S17 B17
  go_wp2_with fail
  refine (implAddV_any (O17.out.at hl1) (O18.out.at hl2) HR.out).mono ?_
  rintro e w19 ⟨v19, rfl, ho19, hb19⟩
  rw [← S18.out] at ho19 hb19
  have O3 := Lib.hid (O3.out.on (by rw [← S18.out]; exact hb19))
  have O6 := Lib.hid (O6.out.on (by rw [← S18.out]; exact hb19))
  have O17 := Lib.hid (O17.out.on (by rw [← S18.out]; exact hb19))
  have O18 := Lib.hid (O18.out.on (by rw [← S18.out]; exact hb19))
  have B19 := Lib.hid (B18.out.trans (hb19.mono (by omega)))
  obtain ⟨s19, hs19⟩ : ∃ s, w19.heap.size = s := ⟨_, rfl⟩
  have le19 : s18 ≤ s19 := by have := hb19.size; rw [hs19, ← S18.out] at this; exact this
  have O19 : Hid (OwnX s18 s19 w19 v19 zs) := by rw [← hs19]; exact OwnX.new ho19
  have S19 : Hid (s19 = w19.heap.size) := hs19.symm
  clear ho19 hb19 hs19 S18 B18
  clear O17 O18
  go_wp2_with fail
  refine (eqI_any (O19.out.at hz16) (O3.out.at hz16)).mono ?_
  rintro e w20 ⟨rfl, n20, rfl⟩
  have O3 := Lib.hid (O3.out.drewN n20)
  have O6 := Lib.hid (O6.out.drewN n20)
  have O19 := Lib.hid (O19.out.drewN n20)
  have B20 := Lib.hid (below_drewX B19.out n20)
  have le20 := Nat.le_refl s19
  obtain ⟨s20, hs20⟩ : ∃ s, s19 = s := ⟨_, rfl⟩
  have S20 : Hid (s20 = (w19.drewN n20).heap.size) := by rw [← hs20]; exact S19.out
  have hs20 : s19 ≤ s20 := by omega
  clear S19 B19 le20
  go_wp2_with fail
  refine (heldI_any (O6.out.at (by rw [marks_len]; omega)) (by omega) (by omega)).mono ?_
  rintro e w21 ⟨rfl, rfl⟩
  have S21 := S20
  have B21 := B20
  obtain ⟨s21, hs21⟩ : ∃ s, s20 = s := ⟨_, rfl⟩
  rw [hs21] at S21
  have hs21 : s20 ≤ s21 := by omega
  clear S20 B20
  go_wp2_with fail
  go_ret
  exact ⟨rfl, B21.out⟩
theorem addVectors_long (a1 : Option Addr) (len1 cap1 : Nat) (a2 : Option Addr) (len2 cap2 : Nat) (p : Int) (w : World) (h1 : len1 ≤ 9223372036854775807) (h2 : len2 ≤ 9223372036854775807) (h : 1048576 < len1 ∨ 1048576 < len2) :
    Calls Try.prog 15 #[.slice a1 len1 cap1, .slice a2 len2 cap2, .int .i64 p] w fun e w' => e = .returned (.bool true) ∧ Below w.heap.size w w' := by
  by_cases hx : 1048576 < (len1 : Int)
  · clear h
    go_enter Try.func15, Try.ntmps15
    go_wp2_with fail
    go_ret
    exact ⟨rfl, Below.refl _ _⟩
  · have hy : 1048576 < (len2 : Int) := by omega
    clear h
    go_enter Try.func15, Try.ntmps15
    go_wp2_with fail
    go_ret
    exact ⟨rfl, Below.refl _ _⟩
theorem addVectors_of (a1 : Option Addr) (len1 cap1 : Nat) (z1 : List Int) (a2 : Option Addr) (len2 cap2 : Nat) (z2 : List Int) (p : Int) (w : World)
    (h1 : (a1 = none ∧ len1 = 0 ∧ cap1 = 0 ∧ z1 = []) ∨ ∃ x, a1 = some x ∧ len1 ≤ cap1 ∧ cap1 ≤ maxLen ∧ z1.length = cap1 ∧ (∀ i, i < z1.length → w.cell? (x.add i) = some (.int .i64 (z1.getD i 0))) ∧ ∀ n ∈ z1, (Lit.int .i64 n).wf = true)
    (h2 : (a2 = none ∧ len2 = 0 ∧ cap2 = 0 ∧ z2 = []) ∨ ∃ x, a2 = some x ∧ len2 ≤ cap2 ∧ cap2 ≤ maxLen ∧ z2.length = cap2 ∧ (∀ i, i < z2.length → w.cell? (x.add i) = some (.int .i64 (z2.getD i 0))) ∧ ∀ n ∈ z2, (Lit.int .i64 n).wf = true) :
    Calls Try.prog 15 #[.slice a1 len1 cap1, .slice a2 len2 cap2, .int .i64 p] w fun e w' => e = .returned (.bool true) ∧ Below w.heap.size w w' := by
  by_cases hl : len1 ≤ 1048576 ∧ len2 ≤ 1048576
  · exact addVectors_at p w (intsAt_in hl.1 h1) (intsAt_in hl.2 h2)
  · exact addVectors_long a1 len1 cap1 a2 len2 cap2 p w (len_max h1) (len_max h2) (by omega)
set_option maxRecDepth 100000 in
set_option maxHeartbeats 3200000 in
theorem scaleVector_at {u1 : Value} {xs : List Int} (m p : Int) (w : World) (hu1 : IntsAt w u1 xs) :
    Calls Try.prog 16 #[u1, .int .i64 m, .int .i64 p] w fun e w' => e = .returned (.bool true) ∧ Below w.heap.size w w' := by
  have Hu1 := Lib.hid hu1
  obtain ⟨a1, cap1, rfl, hl1, _⟩ := hu1
  have hl1' : ¬ 1048576 < (xs.length : Int) := by omega
  obtain ⟨zs, c, hr⟩ := sclRes_has p xs m
  have hz := sclRes_len hr
  have hz16 : zs.length ≤ 1048576 := by omega
  have HR : Hid (SclRes p xs m zs c) := hr
  have ec : (c != c) = false := by simp
  clear hr
  obtain ⟨s0, hs0⟩ : ∃ s, w.heap.size = s := ⟨_, rfl⟩
  have B0 : Hid (Below s0 w w) := Below.refl _ _
  have S0 : Hid (s0 = w.heap.size) := hs0.symm
  have Ku1 : Hid (∀ w', Below s0 w w' → IntsAt w' (.slice a1 xs.length cap1) xs) := fun w' hb => Hu1.out.on (by rw [hs0]; exact hb)
  rw [hs0]
  clear hs0 Hu1
  go_enter Try.func16, Try.ntmps16
  go_wp2_with fail
  refine (toI_any (Ku1.out _ B0.out)).mono ?_
  rintro e w1 ⟨v1, rfl, ho1, hb1⟩
  rw [← S0.out] at ho1 hb1
  have B1 := Lib.hid (B0.out.trans (hb1.mono (by omega)))
  obtain ⟨s1, hs1⟩ : ∃ s, w1.heap.size = s := ⟨_, rfl⟩
  have le1 : s0 ≤ s1 := by have := hb1.size; rw [hs1, ← S0.out] at this; exact this
  have O1 : Hid (OwnX s0 s1 w1 v1 xs) := by rw [← hs1]; exact OwnX.new ho1
  have S1 : Hid (s1 = w1.heap.size) := hs1.symm
  clear ho1 hb1 hs1 S0 B0
  go_wp2_with fail
  refine (specSclV_any (O1.out.at hl1) HR.out).mono ?_
  rintro e w2 ⟨v2, rfl, ho2, hb2⟩
  rw [← S1.out] at ho2 hb2
  have O1 := Lib.hid (O1.out.on (by rw [← S1.out]; exact hb2))
  have B2 := Lib.hid (B1.out.trans (hb2.mono (by omega)))
  obtain ⟨s2, hs2⟩ : ∃ s, w2.heap.size = s := ⟨_, rfl⟩
  have le2 : s1 ≤ s2 := by have := hb2.size; rw [hs2, ← S1.out] at this; exact this
  have O2 : Hid (OwnX s1 s2 w2 v2 zs) := by rw [← hs2]; exact OwnX.new ho2
  have S2 : Hid (s2 = w2.heap.size) := hs2.symm
  clear ho2 hb2 hs2 S1 B1
  clear O1
  go_wp2_with fail
  refine (toI_any (Ku1.out _ B2.out)).mono ?_
  rintro e w3 ⟨v3, rfl, ho3, hb3⟩
  rw [← S2.out] at ho3 hb3
  have O2 := Lib.hid (O2.out.on (by rw [← S2.out]; exact hb3))
  have B3 := Lib.hid (B2.out.trans (hb3.mono (by omega)))
  obtain ⟨s3, hs3⟩ : ∃ s, w3.heap.size = s := ⟨_, rfl⟩
  have le3 : s2 ≤ s3 := by have := hb3.size; rw [hs3, ← S2.out] at this; exact this
  have O3 : Hid (OwnX s2 s3 w3 v3 xs) := by rw [← hs3]; exact OwnX.new ho3
  have S3 : Hid (s3 = w3.heap.size) := hs3.symm
  clear ho3 hb3 hs3 S2 B2
  go_wp2_with fail
  refine (implSclV_any (O3.out.at hl1) HR.out).mono ?_
  rintro e w4 ⟨v4, rfl, ho4, hb4⟩
  rw [← S3.out] at ho4 hb4
  have O2 := Lib.hid (O2.out.on (by rw [← S3.out]; exact hb4))
  have O3 := Lib.hid (O3.out.on (by rw [← S3.out]; exact hb4))
  have B4 := Lib.hid (B3.out.trans (hb4.mono (by omega)))
  obtain ⟨s4, hs4⟩ : ∃ s, w4.heap.size = s := ⟨_, rfl⟩
  have le4 : s3 ≤ s4 := by have := hb4.size; rw [hs4, ← S3.out] at this; exact this
  have O4 : Hid (OwnX s3 s4 w4 v4 zs) := by rw [← hs4]; exact OwnX.new ho4
  have S4 : Hid (s4 = w4.heap.size) := hs4.symm
  clear ho4 hb4 hs4 S3 B3
  go_wp2_with fail
  refine (eqI_any (O4.out.at hz16) (O2.out.at hz16)).mono ?_
  rintro e w5 ⟨rfl, n5, rfl⟩
  have O2 := Lib.hid (O2.out.drewN n5)
  have O3 := Lib.hid (O3.out.drewN n5)
  have O4 := Lib.hid (O4.out.drewN n5)
  have B5 := Lib.hid (below_drewX B4.out n5)
  have le5 := Nat.le_refl s4
  obtain ⟨s5, hs5⟩ : ∃ s, s4 = s := ⟨_, rfl⟩
  have S5 : Hid (s5 = (w4.drewN n5).heap.size) := by rw [← hs5]; exact S4.out
  have hs5 : s4 ≤ s5 := by omega
  clear S4 B4 le5
  go_wp2_with fail
  refine (toI_any (Ku1.out _ B5.out)).mono ?_
  rintro e w6 ⟨v6, rfl, ho6, hb6⟩
  rw [← S5.out] at ho6 hb6
  have O2 := Lib.hid (O2.out.on (by rw [← S5.out]; exact hb6))
  have O3 := Lib.hid (O3.out.on (by rw [← S5.out]; exact hb6))
  have O4 := Lib.hid (O4.out.on (by rw [← S5.out]; exact hb6))
  have B6 := Lib.hid (B5.out.trans (hb6.mono (by omega)))
  obtain ⟨s6, hs6⟩ : ∃ s, w6.heap.size = s := ⟨_, rfl⟩
  have le6 : s5 ≤ s6 := by have := hb6.size; rw [hs6, ← S5.out] at this; exact this
  have O6 : Hid (OwnX s5 s6 w6 v6 xs) := by rw [← hs6]; exact OwnX.new ho6
  have S6 : Hid (s6 = w6.heap.size) := hs6.symm
  clear ho6 hb6 hs6 S5 B5
  go_wp2_with fail
  refine (eqI_any (O3.out.at hl1) (O6.out.at hl1)).mono ?_
  rintro e w7 ⟨rfl, n7, rfl⟩
  have O2 := Lib.hid (O2.out.drewN n7)
  have O3 := Lib.hid (O3.out.drewN n7)
  have O4 := Lib.hid (O4.out.drewN n7)
  have O6 := Lib.hid (O6.out.drewN n7)
  have B7 := Lib.hid (below_drewX B6.out n7)
  have le7 := Nat.le_refl s6
  obtain ⟨s7, hs7⟩ : ∃ s, s6 = s := ⟨_, rfl⟩
  have S7 : Hid (s7 = (w6.drewN n7).heap.size) := by rw [← hs7]; exact S6.out
  have hs7 : s6 ≤ s7 := by omega
  clear S6 B6 le7
  clear O6
  go_wp2_with fail
  refine (markX_any 1 O3.out hl1 (by omega) (by omega)).mono ?_
  rintro e w8 ⟨rfl, ho8, hf8⟩
  have O2 := Lib.hid (O2.out.fr hf8 (by omega))
  have O4 := Lib.hid (O4.out.fr hf8 (by omega))
  have O3 := Lib.hid ho8
  have B8 := Lib.hid (B7.out.trans ((hf8.below (by rw [← S7.out]; omega)).mono (by omega)))
  obtain ⟨s8, hs8⟩ : ∃ s, w8.heap.size = s := ⟨_, rfl⟩
  have le8 : s7 ≤ s8 := by have := hf8.2.2.2.1; rw [hs8, ← S7.out] at this; exact this
  have S8 : Hid (s8 = w8.heap.size) := hs8.symm
  clear ho8 hf8 hs8 S7 B7
  clear O3
  go_wp2_with fail
  refine (eqI_any (O4.out.at hz16) (O2.out.at hz16)).mono ?_
  rintro e w9 ⟨rfl, n9, rfl⟩
  have O2 := Lib.hid (O2.out.drewN n9)
  have O4 := Lib.hid (O4.out.drewN n9)
  have B9 := Lib.hid (below_drewX B8.out n9)
  have le9 := Nat.le_refl s8
  obtain ⟨s9, hs9⟩ : ∃ s, s8 = s := ⟨_, rfl⟩
  have S9 : Hid (s9 = (w8.drewN n9).heap.size) := by rw [← hs9]; exact S8.out
  have hs9 : s8 ≤ s9 := by omega
  clear S8 B8 le9
  go_wp2_with fail
  refine (markX_any 1 O4.out hz16 (by omega) (by omega)).mono ?_
  rintro e w10 ⟨rfl, ho10, hf10⟩
  have O2 := Lib.hid (O2.out.fr hf10 (by omega))
  have O4 := Lib.hid ho10
  have B10 := Lib.hid (B9.out.trans ((hf10.below (by rw [← S9.out]; omega)).mono (by omega)))
  obtain ⟨s10, hs10⟩ : ∃ s, w10.heap.size = s := ⟨_, rfl⟩
  have le10 : s9 ≤ s10 := by have := hf10.2.2.2.1; rw [hs10, ← S9.out] at this; exact this
  have S10 : Hid (s10 = w10.heap.size) := hs10.symm
  clear ho10 hf10 hs10 S9 B9
  go_wp2_with fail
  refine (heldI_any (O4.out.at (by rw [marks_len]; omega)) (by omega) (by omega)).mono ?_
  rintro e w11 ⟨rfl, rfl⟩
  have S11 := S10
  have B11 := B10
  obtain ⟨s11, hs11⟩ : ∃ s, s10 = s := ⟨_, rfl⟩
  rw [hs11] at S11
  have hs11 : s10 ≤ s11 := by omega
  clear S10 B10
  have eq1 : ((1 : Int) + (zs.length : Int) != 1 + (zs.length : Int)) = false := by simp
  go_wp2_with fail
  refine (toI_any (Ku1.out _ B11.out)).mono ?_
  rintro e w12 ⟨v12, rfl, ho12, hb12⟩
  rw [← S11.out] at ho12 hb12
  have O2 := Lib.hid (O2.out.on (by rw [← S11.out]; exact hb12))
  have O4 := Lib.hid (O4.out.on (by rw [← S11.out]; exact hb12))
  have B12 := Lib.hid (B11.out.trans (hb12.mono (by omega)))
  obtain ⟨s12, hs12⟩ : ∃ s, w12.heap.size = s := ⟨_, rfl⟩
  have le12 : s11 ≤ s12 := by have := hb12.size; rw [hs12, ← S11.out] at this; exact this
  have O12 : Hid (OwnX s11 s12 w12 v12 xs) := by rw [← hs12]; exact OwnX.new ho12
  have S12 : Hid (s12 = w12.heap.size) := hs12.symm
  clear ho12 hb12 hs12 S11 B11
  go_wp2_with fail
  refine (implSclV_any (O12.out.at hl1) HR.out).mono ?_
  rintro e w13 ⟨v13, rfl, ho13, hb13⟩
  rw [← S12.out] at ho13 hb13
  have O2 := Lib.hid (O2.out.on (by rw [← S12.out]; exact hb13))
  have O4 := Lib.hid (O4.out.on (by rw [← S12.out]; exact hb13))
  have O12 := Lib.hid (O12.out.on (by rw [← S12.out]; exact hb13))
  have B13 := Lib.hid (B12.out.trans (hb13.mono (by omega)))
  obtain ⟨s13, hs13⟩ : ∃ s, w13.heap.size = s := ⟨_, rfl⟩
  have le13 : s12 ≤ s13 := by have := hb13.size; rw [hs13, ← S12.out] at this; exact this
  have O13 : Hid (OwnX s12 s13 w13 v13 zs) := by rw [← hs13]; exact OwnX.new ho13
  have S13 : Hid (s13 = w13.heap.size) := hs13.symm
  clear ho13 hb13 hs13 S12 B12
  clear O12
  go_wp2_with fail
  refine (eqI_any (O13.out.at hz16) (O2.out.at hz16)).mono ?_
  rintro e w14 ⟨rfl, n14, rfl⟩
  have O2 := Lib.hid (O2.out.drewN n14)
  have O4 := Lib.hid (O4.out.drewN n14)
  have O13 := Lib.hid (O13.out.drewN n14)
  have B14 := Lib.hid (below_drewX B13.out n14)
  have le14 := Nat.le_refl s13
  obtain ⟨s14, hs14⟩ : ∃ s, s13 = s := ⟨_, rfl⟩
  have S14 : Hid (s14 = (w13.drewN n14).heap.size) := by rw [← hs14]; exact S13.out
  have hs14 : s13 ≤ s14 := by omega
  clear S13 B13 le14
  go_wp2_with fail
  refine (heldI_any (O4.out.at (by rw [marks_len]; omega)) (by omega) (by omega)).mono ?_
  rintro e w15 ⟨rfl, rfl⟩
  have S15 := S14
  have B15 := B14
  obtain ⟨s15, hs15⟩ : ∃ s, s14 = s := ⟨_, rfl⟩
  rw [hs15] at S15
  have hs15 : s14 ≤ s15 := by omega
  clear S14 B14
  go_wp2_with fail
  go_ret
  exact ⟨rfl, B15.out⟩
theorem scaleVector_long (a1 : Option Addr) (len1 cap1 : Nat) (m p : Int) (w : World) (h1 : len1 ≤ 9223372036854775807) (h : 1048576 < len1) :
    Calls Try.prog 16 #[.slice a1 len1 cap1, .int .i64 m, .int .i64 p] w fun e w' => e = .returned (.bool true) ∧ Below w.heap.size w w' := by
  have hx : 1048576 < (len1 : Int) := by omega
  clear h
  go_enter Try.func16, Try.ntmps16
  go_wp2_with fail
  go_ret
  exact ⟨rfl, Below.refl _ _⟩
theorem scaleVector_of (a1 : Option Addr) (len1 cap1 : Nat) (z1 : List Int) (m p : Int) (w : World)
    (h1 : (a1 = none ∧ len1 = 0 ∧ cap1 = 0 ∧ z1 = []) ∨ ∃ x, a1 = some x ∧ len1 ≤ cap1 ∧ cap1 ≤ maxLen ∧ z1.length = cap1 ∧ (∀ i, i < z1.length → w.cell? (x.add i) = some (.int .i64 (z1.getD i 0))) ∧ ∀ n ∈ z1, (Lit.int .i64 n).wf = true) :
    Calls Try.prog 16 #[.slice a1 len1 cap1, .int .i64 m, .int .i64 p] w fun e w' => e = .returned (.bool true) ∧ Below w.heap.size w w' := by
  by_cases hl : len1 ≤ 1048576
  · exact scaleVector_at m p w (intsAt_in hl h1)
  · exact scaleVector_long a1 len1 cap1 m p w (len_max h1) (by omega)
end Go.Proofs.Ytlikfgmhhjpggaa
