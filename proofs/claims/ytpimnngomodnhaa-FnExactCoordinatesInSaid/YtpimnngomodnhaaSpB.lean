/-
  Shapes of vectors, and tests for vectors, of the program and of the model.
-/
import Derived.Test.YtpimnngomodnhaaSpA
import Derived.Test.YtpimnngomodnhaaSpL
import Derived.Test.YtpimnngomodnhaaVecA
namespace Go.Proofs.Ytpimnngomodnhaa
open Go.RowKit
set_option linter.unusedVariables false

theorem implVP_is {p : Int} {b : Bool} (w : World) (h : prB p = b) :
    Calls Try.prog 99 #[.int .i64 p] w fun e w' => e = .returned (.bool b) ∧ w = w' := by
  subst h
  by_cases h : IsPr p
  · rw [prB_yes h]; exact implPrime_yes p w h
  · rw [prB_no h]; exact implPrime_no p w h
theorem specLP_is {p : Int} {b : Bool} (w : World) (h : prB p = b) :
    Calls Try.prog 56 #[.int .i64 p] w fun e w' => e = .returned (.bool b) ∧ w = w' := by
  subst h
  by_cases h : IsPr p
  · rw [prB_yes h]; exact specPrime_yes p w h
  · rw [prB_no h]; exact specPrime_no p w h
/-- A vector, as a Bool. -/
noncomputable def v1B (p n : Int) (zs : List Int) : Bool := by classical exact decide (Vec1 p n zs)
theorem v1B_yes {p n : Int} {zs : List Int} (h : Vec1 p n zs) : v1B p n zs = true := by simp [v1B, h]
theorem v1B_no {p n : Int} {zs : List Int} (h : ¬ Vec1 p n zs) : v1B p n zs = false := by simp [v1B, h]
/-- Vectors, as a Bool. -/
noncomputable def vsB (p n : Int) (zz : List (List Int)) : Bool := by classical exact decide (Vecs p n zz)
theorem vsB_yes {p n : Int} {zz : List (List Int)} (h : Vecs p n zz) : vsB p n zz = true := by simp [vsB, h]
theorem vsB_no {p n : Int} {zz : List (List Int)} (h : ¬ Vecs p n zz) : vsB p n zz = false := by simp [vsB, h]
theorem vsB_of {p n : Int} {zz : List (List Int)} (h : vsB p n zz = true) : Vecs p n zz := by simpa [vsB] using h
theorem vsB_ne {p n : Int} {zz : List (List Int)} (h : vsB p n zz = false) : ¬ Vecs p n zz := by simpa [vsB] using h
/-- The first k rows are vectors. -/
def VecsK (p n : Int) (zz : List (List Int)) (k : Nat) : Prop := ∀ j (h : j < zz.length), j < k → Vec1 p n zz[j]
theorem VecsK.all {p n : Int} {zz : List (List Int)} (h : VecsK p n zz zz.length) : Vecs p n zz := fun zs hz => by
  obtain ⟨i, hi, rfl⟩ := List.getElem_of_mem hz
  exact h i hi hi
theorem VecsK.next {p n : Int} {zz : List (List Int)} {k : Nat} (h : VecsK p n zz k) (hk : k < zz.length) (hv : Vec1 p n zz[k]) : VecsK p n zz (k + 1) := fun j hj hjk => by
  by_cases e : j = k
  · subst e; exact hv
  · exact h j hj (by omega)
/-! ### The program's -/
set_option maxRecDepth 100000 in
theorem shapeOf_any {a : Option Addr} {l c : Nat} (p n : Int) (w : World) :
    Calls Try.prog 78 #[.agg #[.int .i64 p, .int .i64 n, .slice a l c]] w fun e w' => e = .returned (.agg #[.int .i64 p, .int .i64 n]) ∧ Below w.heap.size w w' := by
  go_enter Try.func78, Try.ntmps78
  go_wp2_with fail
  refine bodyPost_ret (v := .agg #[.int .i64 p, .int .i64 n]) (by simp [results, Try.results78, go_sem]) rfl ⟨rfl, ?_⟩
  repeat (refine Below.setC ?_ (by omega) _)
  exact al1 (al1 (Below.refl _ _) _) _
set_option maxRecDepth 100000 in
theorem shapeOk_is {p n : Int} {T : Bool} (w : World) (h : (prB p && inB n 0 32) = T) :
    Calls Try.prog 66 #[.agg #[.int .i64 p, .int .i64 n]] w fun e w' => e = .returned (.bool T) ∧ Below w.heap.size w w' := by
  subst h
  by_cases hp : prB p = true
  · have HP := Lib.hid hp
    rw [hp]
    clear hp
    obtain ⟨b, hb⟩ : ∃ b, inB n 0 32 = b := ⟨_, rfl⟩
    have HB := Lib.hid hb
    rw [hb]
    clear hb
    go_enter Try.func66, Try.ntmps66
    go_wp2_with fail
    refine (implVP_is _ HP.out).mono ?_
    rintro e w' ⟨rfl, rfl⟩
    go_wp2_with fail
    refine (side_is _ HB.out).mono ?_
    rintro e w' ⟨rfl, rfl⟩
    go_wp2_with fail
    go_ret
    exact ⟨rfl, al1 (Below.refl _ _) _⟩
  · have hp : prB p = false := by simpa using hp
    have HP := Lib.hid hp
    rw [hp, Bool.false_and]
    clear hp
    go_enter Try.func66, Try.ntmps66
    go_wp2_with fail
    refine (implVP_is _ HP.out).mono ?_
    rintro e w' ⟨rfl, rfl⟩
    go_wp2_with fail
    go_ret
    exact ⟨rfl, al1 (Below.refl _ _) _⟩
set_option maxRecDepth 100000 in
set_option maxHeartbeats 1600000 in
theorem fits_some {p n : Int} {b o c : Nat} {zz : List (List Int)} {T : Bool} {w : World} (hl : zz.length ≤ 1048576) (hb : b < w.heap.size) (h1 : ∀ i (h : i < zz.length), ∃ u, w.cell? ⟨b, o + i, none⟩ = some u ∧ IntsAt w u zz[i]) (hp : IsPr p) (hn0 : 0 ≤ n) (hn : n ≤ 32) (hT : vsB p n zz = T) :
    Calls Try.prog 67 #[.agg #[.int .i64 p, .int .i64 n], .slice (some ⟨b, o, none⟩) zz.length c] w fun e w' => e = .returned (.bool T) ∧ Below w.heap.size w w' := by
  have H1 := Lib.hid h1
  have HP := Lib.hid hp
  have HT := Lib.hid hT
  have bb := (Below.refl w.heap.size w).alloc (Nat.le_refl _) (.cells #[.int .i64 p, .int .i64 n] 96)
  have s0 : (w.alloc (.cells #[.int .i64 p, .int .i64 n] 96)).cell? ⟨w.heap.size, 0, none⟩ = some (.int .i64 p) := cell_new0 _ _ _ _
  have s1 : (w.alloc (.cells #[.int .i64 p, .int .i64 n] 96)).cell? ⟨w.heap.size, 1, none⟩ = some (.int .i64 n) := cell_new1 _ _ _ _
  clear h1 hp hT
  go_enter Try.func67, Try.ntmps67
  go_wp2_with fail
  generalize hW : World.alloc w (.cells #[.int .i64 p, .int .i64 n] 96) = W1 at bb s0 s1 ⊢
  obtain ⟨L, hL⟩ : ∃ L, w.heap.size = L := ⟨_, rfl⟩
  have HL := Lib.hid hL
  rw [hL] at s0 s1 ⊢
  have HB := Lib.hid bb
  clear hW bb hL
  go_loopw [9] (fun i wr => ∃ k : Nat, k ≤ zz.length ∧ i = .int .i64 (k : Int) ∧ Hid (VecsK p n zz k) ∧ W1 = wr) (fun i _ => zz.length - (intOf i).toNat)
  case atStart => exact ⟨0, Nat.zero_le _, rfl, fun j _ hj => absurd hj (Nat.not_lt_zero j), rfl⟩
  case round =>
    obtain ⟨k, hk, rfl, HK, rfl⟩ := hrel
    by_cases hlt : k < zz.length
    · obtain ⟨u, hu, hi⟩ := H1.out k hlt
      have d1 := (HB.out.cell (p := ⟨b, o + k, none⟩) hb).trans hu
      have HI := Lib.hid (hi.on HB.out)
      obtain ⟨ua, uc, rfl⟩ := hi.slice
      have HN : Hid (Vec1 p n zz[k] → VecsK p n zz (k + 1)) := fun h => HK.out.next hlt h
      have HM : Hid (¬ Vec1 p n zz[k] → T = false) := fun h => by rw [← HT.out]; exact vsB_no fun hv => h (hv _ (List.getElem_mem hlt))
      obtain ⟨zk, hzk⟩ : ∃ z, zz[k] = z := ⟨_, rfl⟩
      rw [hzk] at d1 HI HN HM
      have k0 : (0 : Int) ≤ (k : Int) := by omega
      have k3 : (k : Int) < (zz.length : Int) := by omega
      clear hu hi hzk
      by_cases hln : (zk.length : Int) = n
      · have e1 : ((zk.length : Int) != n) = false := by simpa using hln
        by_cases hok : NumOk p zk
        · have hv : Vec p zk := ⟨HP.out, hok, by omega⟩
          have HV := Lib.hid hv
          have HX := Lib.hid (HN.out ⟨hln, hok⟩)
          clear hv hln hok
          go_wp2_with fail
          refine (implVec_yes HI.out HV.out).mono ?_
          rintro e w' ⟨rfl, rfl⟩
          go_wp2
          go_roundw
          case rel => exact ⟨k + 1, by omega, by go_num, HX.out, by first | rfl | trivial⟩
          case measure => simp [intOf]; omega
        · have hv : ¬ Vec p zk := fun h => hok h.2.1
          have ht := HM.out (fun h => hok h.2)
          subst ht
          have HV : Hid (Vec p zk → False) := hv
          clear hv hln hok
          go_wp2_with fail
          refine (implVec_no HI.out HV.out).mono ?_
          rintro e w' ⟨rfl, rfl⟩
          go_wp2
          go_ret
          exact ⟨rfl, HB.out⟩
      · have e1 : ((zk.length : Int) != n) = true := by simpa using hln
        have ht := HM.out (fun h => hln h.1)
        subst ht
        clear hln
        go_wp2
        go_ret
        exact ⟨rfl, HB.out⟩
    · obtain rfl : k = zz.length := by omega
      have ht : T = true := by rw [← HT.out]; exact vsB_yes HK.out.all
      subst ht
      go_wp2
      go_ret
      exact ⟨rfl, HB.out⟩
set_option maxRecDepth 100000 in
theorem fits_nil {p n : Int} {a : Option Addr} {c : Nat} {w : World} :
    Calls Try.prog 67 #[.agg #[.int .i64 p, .int .i64 n], .slice a 0 c] w fun e w' => e = .returned (.bool true) ∧ Below w.heap.size w w' := by
  go_enter Try.func67, Try.ntmps67
  go_wp2
  refine wp_loop_rounds 1 ?_
  rw [rounds_succ]
  go_wp2
  go_ret
  exact ⟨rfl, al1 (Below.refl _ _) _⟩
theorem fits_is {p n : Int} {u : Value} {zz : List (List Int)} {T : Bool} {w : World} (hu : RowsAt w u zz) (hp : IsPr p) (hn0 : 0 ≤ n) (hn : n ≤ 32) (hT : vsB p n zz = T) :
    Calls Try.prog 67 #[.agg #[.int .i64 p, .int .i64 n], u] w fun e w' => e = .returned (.bool T) ∧ Below w.heap.size w w' := by
  by_cases h0 : zz = []
  · subst h0
    obtain ⟨a, c, rfl⟩ := hu.slice
    rw [vsB_yes (fun zs hz => by simp at hz)] at hT
    subst hT
    exact fits_nil
  · have hl : zz.length ≤ 1048576 := by obtain ⟨_, _, _, hl, _⟩ := hu; exact hl
    obtain ⟨b, o, c, rfl, hb, hc⟩ := hu.cells (List.length_pos_iff.2 h0)
    exact fits_some hl hb hc hp hn0 hn hT
/-! ### The model's -/
set_option maxRecDepth 100000 in
theorem vector_is {p n : Int} {u : Value} {zs : List Int} {T : Bool} {w : World} (hu : IntsAt w u zs) (hp : IsPr p) (hn : n ≤ 32) (hT : v1B p n zs = T) :
    Calls Try.prog 69 #[.int .i64 p, .int .i64 n, u] w fun e w' => e = .returned (.bool T) ∧ w = w' := by
  have HU := Lib.hid hu
  have hl : zs.length ≤ 1048576 := by obtain ⟨_, _, _, hl, _⟩ := hu; exact hl
  obtain ⟨a, c, rfl⟩ := hu.slice
  have p0 := hp.1
  have p1 := hp.2.1
  by_cases hok : NumOk p zs ∧ zs.length ≤ 64
  · have HO : Hid (NumOk p zs ∧ zs.length ≤ 64) := hok
    by_cases hln : (zs.length : Int) = n
    · have e1 : ((zs.length : Int) == n) = true := by simpa using hln
      rw [v1B_yes ⟨hln, hok.1⟩] at hT
      subst hT
      clear hln hok hp
      go_enter Try.func69, Try.ntmps69
      go_wp2_with fail
      refine (specNums_any (ok := true) p0 p1 HU.out (.inl ⟨HO.out.1, HO.out.2, rfl⟩)).mono ?_
      rintro e w' ⟨rfl, rfl⟩
      go_wp2_with fail
      go_ret
      exact ⟨rfl, rfl⟩
    · have e1 : ((zs.length : Int) == n) = false := by simpa using hln
      rw [v1B_no (fun h => hln h.1)] at hT
      subst hT
      clear hln hok hp
      go_enter Try.func69, Try.ntmps69
      go_wp2_with fail
      refine (specNums_any (ok := true) p0 p1 HU.out (.inl ⟨HO.out.1, HO.out.2, rfl⟩)).mono ?_
      rintro e w' ⟨rfl, rfl⟩
      go_wp2_with fail
      go_ret
      exact ⟨rfl, rfl⟩
  · have HO : Hid (NumOk p zs ∧ zs.length ≤ 64 → False) := hok
    rw [v1B_no (fun h => hok ⟨h.2, by have := h.1; omega⟩)] at hT
    subst hT
    clear hok hp
    go_enter Try.func69, Try.ntmps69
    go_wp2_with fail
    refine (specNums_any (ok := false) p0 p1 HU.out (.inr ⟨HO.out, rfl⟩)).mono ?_
    rintro e w' ⟨rfl, rfl⟩
    go_wp2_with fail
    go_ret
    exact ⟨rfl, rfl⟩
set_option maxRecDepth 100000 in
set_option maxHeartbeats 1600000 in
theorem vectors_some {p n : Int} {b o c : Nat} {zz : List (List Int)} {T : Bool} {w : World} (hl : zz.length ≤ 1048576) (h1 : ∀ i (h : i < zz.length), ∃ u, w.cell? ⟨b, o + i, none⟩ = some u ∧ IntsAt w u zz[i]) (hp : IsPr p) (hn : n ≤ 32) (hT : vsB p n zz = T) :
    Calls Try.prog 88 #[.int .i64 p, .int .i64 n, .slice (some ⟨b, o, none⟩) zz.length c] w fun e w' => e = .returned (.bool T) ∧ w = w' := by
  have H1 := Lib.hid h1
  have HP := Lib.hid hp
  have HT := Lib.hid hT
  clear h1 hp hT
  go_enter Try.func88, Try.ntmps88
  go_wp2_with fail
  go_loopw [7] (fun i wr => ∃ k : Nat, k ≤ zz.length ∧ i = .int .i64 (k : Int) ∧ Hid (VecsK p n zz k) ∧ w = wr) (fun i _ => zz.length - (intOf i).toNat)
  case atStart => exact ⟨0, Nat.zero_le _, rfl, fun j _ hj => absurd hj (Nat.not_lt_zero j), rfl⟩
  case round =>
    obtain ⟨k, hk, rfl, HK, rfl⟩ := hrel
    by_cases hlt : k < zz.length
    · obtain ⟨u, d1, hi⟩ := H1.out k hlt
      have HI := Lib.hid hi
      obtain ⟨ua, uc, rfl⟩ := hi.slice
      have HN : Hid (Vec1 p n zz[k] → VecsK p n zz (k + 1)) := fun h => HK.out.next hlt h
      have HM : Hid (¬ Vec1 p n zz[k] → T = false) := fun h => by rw [← HT.out]; exact vsB_no fun hv => h (hv _ (List.getElem_mem hlt))
      obtain ⟨zk, hzk⟩ : ∃ z, zz[k] = z := ⟨_, rfl⟩
      rw [hzk] at d1 HI HN HM
      have k0 : (0 : Int) ≤ (k : Int) := by omega
      have k3 : (k : Int) < (zz.length : Int) := by omega
      clear hi hzk
      by_cases hv : Vec1 p n zk
      · have HV := Lib.hid (v1B_yes hv)
        have HX := Lib.hid (HN.out hv)
        clear hv
        go_wp2_with fail
        refine (vector_is HI.out HP.out hn HV.out).mono ?_
        rintro e w' ⟨rfl, rfl⟩
        go_wp2
        go_roundw
        case rel => exact ⟨k + 1, by omega, by go_num, HX.out, by first | rfl | trivial⟩
        case measure => simp [intOf]; omega
      · have ht := HM.out hv
        subst ht
        have HV := Lib.hid (v1B_no hv)
        clear hv
        go_wp2_with fail
        refine (vector_is HI.out HP.out hn HV.out).mono ?_
        rintro e w' ⟨rfl, rfl⟩
        go_wp2
        go_ret
        exact ⟨rfl, rfl⟩
    · obtain rfl : k = zz.length := by omega
      have ht : T = true := by rw [← HT.out]; exact vsB_yes HK.out.all
      subst ht
      go_wp2
      go_ret
      exact ⟨rfl, rfl⟩
set_option maxRecDepth 100000 in
theorem vectors_nil {p n : Int} {a : Option Addr} {c : Nat} {w : World} :
    Calls Try.prog 88 #[.int .i64 p, .int .i64 n, .slice a 0 c] w fun e w' => e = .returned (.bool true) ∧ w = w' := by
  go_enter Try.func88, Try.ntmps88
  go_wp2
  refine wp_loop_rounds 1 ?_
  rw [rounds_succ]
  go_wp2
  go_ret
  exact ⟨rfl, rfl⟩
theorem vectors_is {p n : Int} {u : Value} {zz : List (List Int)} {T : Bool} {w : World} (hu : RowsAt w u zz) (hp : IsPr p) (hn : n ≤ 32) (hT : vsB p n zz = T) :
    Calls Try.prog 88 #[.int .i64 p, .int .i64 n, u] w fun e w' => e = .returned (.bool T) ∧ w = w' := by
  by_cases h0 : zz = []
  · subst h0
    obtain ⟨a, c, rfl⟩ := hu.slice
    rw [vsB_yes (fun zs hz => by simp at hz)] at hT
    subst hT
    exact vectors_nil
  · have hl : zz.length ≤ 1048576 := by obtain ⟨_, _, _, hl, _⟩ := hu; exact hl
    obtain ⟨b, o, c, rfl, hb, hc⟩ := hu.cells (List.length_pos_iff.2 h0)
    exact vectors_some hl hc hp hn hT
end Go.Proofs.Ytpimnngomodnhaa
