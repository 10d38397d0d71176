/-
  Systems: the codes of the arguments, and Solve of the program.
-/
import Derived.Test.YtpimnngomodnhaaSpP
namespace Go.Proofs.Ytpimnngomodnhaa
open Go.RowKit
open Lin
set_option linter.unusedVariables false
set_option linter.unusedSectionVars false

/-- What a matrix and a right side answer. -/
def AskK (p r c : Int) (xs ys : List Int) (k : Int) : Prop := (¬ MOk p r c xs ∧ k = 1) ∨ (MOk p r c xs ∧ ¬ Vec1 p r ys ∧ k = 2) ∨ (MOk p r c xs ∧ Vec1 p r ys ∧ k = 0)
theorem askK_has (p r c : Int) (xs ys : List Int) : ∃ k, AskK p r c xs ys k := by
  by_cases h : MOk p r c xs
  · by_cases h2 : Vec1 p r ys
    · exact ⟨_, .inr (.inr ⟨h, h2, rfl⟩)⟩
    · exact ⟨_, .inr (.inl ⟨h, h2, rfl⟩)⟩
  · exact ⟨_, .inl ⟨h, rfl⟩⟩
theorem AskK.code {p r c k : Int} {xs ys : List Int} (h : AskK p r c xs ys k) : k = 0 ∨ k = 1 ∨ k = 2 := by
  rcases h with ⟨_, h⟩ | ⟨_, _, h⟩ | ⟨_, _, h⟩ <;> omega
theorem row1_at {w : World} {v : Value} {ys : List Int} (hv : IntsAt w v ys) : RowsAt (w.alloc (.cells #[v] 24)) (.slice (some ⟨w.heap.size, 0, none⟩) 1 1) [ys] :=
  ⟨_, 1, rfl, by simp, .inr ⟨w.heap.size, 0, rfl, by simp, fun i hi => ⟨v, by
    obtain rfl : i = 0 := by simpa using hi
    exact row_val w v _ 0 v rfl, by
    obtain rfl : i = 0 := by simpa using hi
    exact hv.on ((Below.refl _ _).alloc (Nat.le_refl _) _)⟩⟩⟩
theorem vs1 {p n : Int} {ys : List Int} : Vecs p n [ys] ↔ Vec1 p n ys := ⟨fun h => h ys (by simp), fun h zs hz => by rw [List.mem_singleton.1 hz]; exact h⟩
theorem Vec1.bL {q m : Nat} [NeZero q] {ys : List Int} (h : Vec1 q m ys) : ∃ b : Nat → Fin q, ys = bL m b := ⟨mat q [ys] 0, vec_row h [ys] 0 rfl⟩
set_option maxRecDepth 100000 in
set_option maxHeartbeats 3200000 in
theorem sysCode_a {p r c : Int} {xs ys : List Int} {u v : Value} {w : World} (hu : IntsAt w u xs) (hv : IntsAt w v ys) (hk : false = okB p r c xs) :
    Calls Try.prog 95 #[.agg #[.int .i64 p, .int .i64 r, .int .i64 c, u], v] w fun e w' => e = .returned (.int .i64 1) ∧ Below w.heap.size w w' := by
  have HU := Lib.hid hu
  have HK := Lib.hid hk
  obtain ⟨a1, c1, rfl, hl1, -⟩ := hu
  obtain ⟨a2, c2, rfl, hl2, -⟩ := hv
  clear hk
  go_enter Try.func95, Try.ntmps95
  go_wp2_with fail
  with_reducible refine Calls.mono (implVM_r (T := false) (HU.out.on (al1 (Below.refl _ _) _)) HK.out) ?_
  rintro e w1 ⟨rfl, hb⟩
  have HB := Lib.hid (up1 hb)
  clear hb
  go_wp2_with fail
  go_ret
  exact ⟨rfl, HB.out⟩
set_option maxRecDepth 100000 in
set_option maxHeartbeats 3200000 in
theorem sysCode_b {p r c k : Int} {xs ys : List Int} {u v : Value} {T : Bool} {w : World} (hu : IntsAt w u xs) (hv : IntsAt w v ys) (hm : MOk p r c xs) (hT : v1B p r ys = T) (hk : (T = true ∧ k = 0) ∨ (T = false ∧ k = 2)) :
    Calls Try.prog 95 #[.agg #[.int .i64 p, .int .i64 r, .int .i64 c, u], v] w fun e w' => e = .returned (.int .i64 k) ∧ Below w.heap.size w w' := by
  have HU := Lib.hid hu
  have HV := Lib.hid hv
  have HK : Hid (true = okB p r c xs) := (okB_yes hm).symm
  have HKK := Lib.hid hk
  obtain ⟨q, iq, m, n, A, hA⟩ := hm.form
  have HPR : Hid (IsPr p) := by show IsPr p; rw [hA.p]; exact hA.pr
  have hr0 : 0 ≤ r := by rw [hA.r]; omega
  have hr1 : r ≤ 32 := by rw [hA.r]; have := hA.m32; omega
  have HVB : Hid (vsB p r [ys] = T) := by
    show _ = _
    rw [← hT]
    by_cases h : Vec1 p r ys
    · rw [vsB_yes (vs1.2 h), v1B_yes h]
    · rw [vsB_no (fun h2 => h (vs1.1 h2)), v1B_no h]
  obtain ⟨a1, c1, rfl, hl1, -⟩ := hu
  obtain ⟨a2, c2, rfl, hl2, -⟩ := hv
  have Pa0 := PtM.new w p r c (.slice a1 xs.length c1) 26
  clear hk hm hA hT
  go_enter Try.func95, Try.ntmps95
  go_wp2_with fail
  with_reducible refine Calls.mono (implVM_r (T := true) (HU.out.on (al1 (Below.refl _ _) _)) HK.out) ?_
  rintro e w1 ⟨rfl, hb⟩
  have HB := Lib.hid (up1 hb)
  obtain ⟨lA, x0, x1, x2, x3⟩ := Pa0.on hb
  clear hb Pa0
  go_wp2_with fail
  have h1 := row1_at (w := w1.alloc (.cells #[.int .i64 p, .int .i64 r] 96)) (HV.out.on (HB.out.trans (al1 (Below.refl _ _) _ |>.mono HB.out.size)))
  rw [World.size_alloc] at h1
  refine (fits_is h1 HPR.out hr0 hr1 HVB.out).mono ?_
  rintro e w2 ⟨rfl, hb⟩
  have HB2 := Lib.hid (HB.out.trans ((up2 hb).mono HB.out.size))
  clear hb h1
  rcases HKK.out with ⟨rfl, rfl⟩ | ⟨rfl, rfl⟩
  · go_wp2_with fail
    go_ret
    exact ⟨rfl, HB2.out⟩
  · go_wp2_with fail
    go_ret
    exact ⟨rfl, HB2.out⟩
theorem sysCode_is {p r c k : Int} {xs ys : List Int} {u v : Value} {w : World} (hu : IntsAt w u xs) (hv : IntsAt w v ys) (h : AskK p r c xs ys k) :
    Calls Try.prog 95 #[.agg #[.int .i64 p, .int .i64 r, .int .i64 c, u], v] w fun e w' => e = .returned (.int .i64 k) ∧ Below w.heap.size w w' := by
  rcases h with ⟨h, rfl⟩ | ⟨h, h2, rfl⟩ | ⟨h, h2, rfl⟩
  · exact sysCode_a hu hv (okB_no h).symm
  · exact sysCode_b hu hv h (v1B_no h2) (.inr ⟨rfl, rfl⟩)
  · exact sysCode_b hu hv h (v1B_yes h2) (.inl ⟨rfl, rfl⟩)
/-! ### The model's code -/
/-! ### Solve of the program -/
/-- What Solve answers. -/
def SolRes (p r c : Int) (xs ys : List Int) (Z : List Int) (k : Int) : Prop :=
  (∃ c0, AskK p r c xs ys c0 ∧ c0 ≠ 0 ∧ Z = [] ∧ k = c0) ∨ (∃ (u : Nat) (_ : NeZero u) (m n : Nat) (A : Mt u) (b : Nat → Fin u), MIs p r c xs u m n A ∧ ys = bL m b ∧ SysRes m n (red m (Lin.sys n A b) n) Z k)
theorem solRes_has (p r c : Int) (xs ys : List Int) : ∃ Z k, SolRes p r c xs ys Z k := by
  by_cases h : MOk p r c xs
  · by_cases h2 : Vec1 p r ys
    · obtain ⟨u, i, m, n, A, hA⟩ := h.form
      rw [hA.p, hA.r] at h2
      obtain ⟨b, hb⟩ := h2.bL
      obtain ⟨Z, k, hs⟩ := sysRes_has m n (red m (Lin.sys n A b) n)
      exact ⟨Z, k, .inr ⟨u, i, m, n, A, b, hA, hb, hs⟩⟩
    · exact ⟨_, _, .inl ⟨2, .inr (.inl ⟨h, h2, rfl⟩), by decide, rfl, rfl⟩⟩
  · exact ⟨_, _, .inl ⟨1, .inl ⟨h, rfl⟩, by decide, rfl, rfl⟩⟩
theorem SysRes.len {q m n : Nat} [NeZero q] {s : St q} {Z : List Int} {k : Int} (h : SysRes m n s Z k) (hn : n ≤ 1024) : Z.length ≤ 1048576 := by
  rcases h with ⟨_, rfl, _⟩ | ⟨_, rfl, _⟩
  · rw [solL_len]; omega
  · simp
theorem SolRes.len {p r c k : Int} {xs ys Z : List Int} (h : SolRes p r c xs ys Z k) : Z.length ≤ 1048576 := by
  rcases h with ⟨c0, _, _, rfl, _⟩ | ⟨u, _, m, n, A, b, hA, _, hs⟩
  · simp
  · exact hs.len (by have := hA.n32; omega)
theorem ask_ok {q m n : Nat} [NeZero q] {A : Mt q} {b : Nat → Fin q} {xs : List Int} (hA : MIs q m n xs q m n A) : AskK q m n xs (bL m b) 0 := .inr (.inr ⟨hA.ok, ⟨by rw [bL_len], rowL_ok m _ 0⟩, rfl⟩)
set_option maxRecDepth 100000 in
set_option maxHeartbeats 3200000 in
theorem implSol_b {p r c k : Int} {xs ys : List Int} {u v : Value} {w : World} (hu : IntsC w u xs) (hv : IntsAt w v ys) (h : AskK p r c xs ys k) (hk : k ≠ 0) :
    Calls Try.prog 54 #[.agg #[.int .i64 p, .int .i64 r, .int .i64 c, u], v] w fun e w' => RetSC [] k w e w' := by
  have HU := Lib.hid hu.1
  have HV := Lib.hid hv
  have HK := Lib.hid h
  have ek : (k != 0) = true := by simpa using hk
  obtain ⟨a1, c1, rfl, hl1, -⟩ := hu.1
  obtain ⟨a2, c2, rfl, hl2, -⟩ := hv
  clear h hu hk
  go_enter Try.func54, Try.ntmps54
  go_wp2_with fail
  refine (sysCode_is (HU.out.on (al1 (Below.refl _ _) _)) (HV.out.on (al1 (Below.refl _ _) _)) HK.out).mono ?_
  rintro e w1 ⟨rfl, hb⟩
  have HB := Lib.hid (up1 hb)
  clear hb
  go_wp2_with fail
  go_ret2
  exact ⟨_, rfl, OwnI.nul _ _, HB.out⟩
set_option maxRecDepth 100000 in
set_option maxHeartbeats 3200000 in
theorem implSol_ok {q m n : Nat} [NeZero q] {A : Mt q} {b : Nat → Fin q} {Z : List Int} {k : Int} {u v : Value} {w : World} (hu : IntsC w u (flat m n A)) (hv : IntsAt w v (bL m b)) (hA : MIs q m n (flat m n A) q m n A) (hS : SysRes m n (red m (Lin.sys n A b) n) Z k) :
    Calls Try.prog 54 #[.agg #[.int .i64 (q : Int), .int .i64 (m : Int), .int .i64 (n : Int), u], v] w fun e w' => RetSC Z k w e w' := by
  have hm32 := hA.m32
  have hn32 := hA.n32
  have HPR := Lib.hid hA.pr
  have HK := Lib.hid (ask_ok (b := b) hA)
  have HSR := Lib.hid hS
  have HU := Lib.hid hu
  have HU1 := Lib.hid hu.1
  have HV := Lib.hid hv
  obtain ⟨a1, c1, rfl, hl1, -⟩ := hu.1
  obtain ⟨a2, c2, rfl, hl2, -⟩ := hv
  have Pa0 := PtM.new w q m n (.slice a1 (flat m n A).length c1) 26
  clear hu hA hS
  go_enter Try.func54, Try.ntmps54
  go_wp2_with fail
  refine (sysCode_is (HU1.out.on (al1 (Below.refl _ _) _)) (HV.out.on (al1 (Below.refl _ _) _)) HK.out).mono ?_
  rintro e w1 ⟨rfl, hb⟩
  have HB := Lib.hid (up1 hb)
  have Pa := Lib.hid (Pa0.on hb)
  clear hb Pa0
  obtain ⟨lA, x0, x1, x2, x3⟩ := Pa.out
  have neA := Pa.out.ne
  go_wp2_with fail
  go_region_held3 (fun w' => w'.cell? ⟨w.heap.size, 2, none⟩ = some (.int .i64 (n : Int)) ∧ w'.cell? ⟨w.heap.size, 0, none⟩ = some (.int .i64 (q : Int))) (go_keep)
    (first
      | (go_at_call 43; refine (implRowsC (A := A) Pa.out.drew (HU.out.on HB.out).drew hm32 (by omega)).mono ?_; rintro e wa ⟨Ha, rfl, hoa, hHa, hHa2, hba'⟩; have hba := undrew hba'; obtain ⟨_, _, _, _, _⟩ := Pa.out.on hba; have := (Pa.out.on hba).ne)
      | (go_at_call 96; refine (solveRows_any hoa ((HV.out.on HB.out).on hba) HPR.out (by omega) (by omega) HSR.out).mono ?_; rintro e wb ⟨vb, rfl, hob, hbb⟩; have hb2 : Below w1.heap.size w1 wb := hba.trans (hbb.mono hba.size); obtain ⟨vba, vbc, rfl⟩ := hob.slice; obtain ⟨_, _, _, _, _⟩ := Pa.out.on hb2; have := (Pa.out.on hb2).ne))
  have HO := Lib.hid hob
  have HB2 := Lib.hid (HB.out.trans (hb2.mono HB.out.size))
  have hs2 := hba.size
  have hs3 := HB.out.size
  clear hoa hob hba hbb hb2 hba'
  go_wp2_with fail
  go_ret2
  exact ⟨_, rfl, HO.out.mono (by omega), HB2.out⟩
theorem implSol_any {p r c k : Int} {u v : Value} {xs ys Z : List Int} {w : World} (hu : IntsC w u xs) (hv : IntsC w v ys) (h : SolRes p r c xs ys Z k) :
    Calls Try.prog 54 #[.agg #[.int .i64 p, .int .i64 r, .int .i64 c, u], v] w fun e w' => RetSC Z k w e w' := by
  rcases h with ⟨c0, h, hc, rfl, rfl⟩ | ⟨u', _, m, n, A, b, hA, rfl, hs⟩
  · exact implSol_b hu hv.1 h hc
  · obtain ⟨rfl, rfl, rfl, rfl, h5, h6, h7⟩ := hA
    exact implSol_ok hu hv.1 ⟨rfl, rfl, rfl, rfl, h5, h6, h7⟩ hs
end Go.Proofs.Ytpimnngomodnhaa
