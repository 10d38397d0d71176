/-
  Contracts of AddVectors, ScaleVector and DotOf, of the model and of the program: whatever the arguments, both give the same list or number and code, the list in new memory.
-/
import Derived.Test.YtlikfgmhhjpggaaVecB
import Derived.RegionTactic
namespace Go.Proofs.Ytlikfgmhhjpggaa
open Go.RowKit
set_option linter.unusedVariables false

def addL (p : Int) (xs ys : List Int) : List Int := List.zipWith (fun x y => (x + y) % p) xs ys
theorem addC_one (p : Int) (xs ys : List Int) : addC p 1 xs ys = addL p xs ys := by unfold addC addL; simp only [Int.one_mul]
theorem addL_len {p : Int} {xs ys : List Int} (h : xs.length = ys.length) : (addL p xs ys).length = xs.length := by unfold addL; rw [List.length_zipWith]; omega
theorem addL_at {p : Int} {xs ys : List Int} (h : xs.length = ys.length) (k : Nat) (hk : k < xs.length) (h3 : k < (addL p xs ys).length) : (addL p xs ys)[k] = (xs[k] + ys[k]'(by omega)) % p := by
  simp only [addL, List.getElem_zipWith]
theorem sclC_at {p c : Int} {xs : List Int} (k : Nat) (hk : k < xs.length) (h3 : k < (sclC p c xs).length) : (sclC p c xs)[k] = xs[k] * c % p := by
  simp only [sclC, List.getElem_map]; rw [Int.mul_comm]
/-- A list and a code. -/
def RetVC (zs : List Int) (c : Int) (w : World) (e : Ending) (w' : World) : Prop := ∃ v, e = .returned (.tuple #[v, .int .i64 c]) ∧ OwnI w.heap.size w' v zs ∧ Below w.heap.size w w'

/-! ### AddVectors -/
def AddRes (p : Int) (xs ys zs : List Int) (c : Int) : Prop := PairCode p xs ys c ∧ ((c ≠ 0 ∧ zs = []) ∨ (c = 0 ∧ zs = addL p xs ys))
theorem addRes_has (p : Int) (xs ys : List Int) : ∃ zs c, AddRes p xs ys zs c := by
  obtain ⟨c, hc⟩ := pairCode_has p xs ys
  by_cases h : c = 0
  · exact ⟨_, c, hc, .inr ⟨h, rfl⟩⟩
  · exact ⟨_, c, hc, .inl ⟨h, rfl⟩⟩
theorem PairCode.good {p : Int} {xs ys : List Int} (h : PairCode p xs ys 0) : Vec p xs ∧ Vec p ys ∧ xs.length = ys.length := by
  rcases h with ⟨_, h⟩ | ⟨_, _, _, h⟩ | ⟨a, b, c, _⟩
  · exact absurd h (by decide)
  · exact absurd h (by decide)
  · exact ⟨a, b, c⟩
theorem specAddV_any {p : Int} {u v : Value} {xs ys zs : List Int} {c : Int} {w : World} (hu : IntsAt w u xs) (hv : IntsAt w v ys) (h : AddRes p xs ys zs c) :
    Calls Try.prog 49 #[u, v, .int .i64 p] w fun e w' => RetVC zs c w e w' := by
  have HU := Lib.hid hu
  have HV := Lib.hid hv
  obtain ⟨hp, ⟨hc, rfl⟩ | ⟨rfl, rfl⟩⟩ := h
  · have HP := Lib.hid hp
    have e1 : (c != 0) = true := by simpa using hc
    clear hp hc hu hv
    go_enter Try.func49, Try.ntmps49
    go_wp2_with fail
    refine (specPair_any HU.out HV.out HP.out).mono ?_
    rintro e w' ⟨rfl, rfl⟩
    go_wp2_with fail
    go_ret2
    exact ⟨_, rfl, nilI _ _, Below.refl _ _⟩
  · have HP := Lib.hid hp
    have HG := Lib.hid hp.good
    have p0 := hp.good.1.1.1
    have p1 := hp.good.1.1.2.1
    clear hp hu hv
    go_enter Try.func49, Try.ntmps49
    go_wp2_with fail
    refine (specPair_any HU.out HV.out HP.out).mono ?_
    rintro e w' ⟨rfl, rfl⟩
    go_wp2_with fail
    refine (specAdd_any (c := 1) p0 p1 (by omega) (by omega) HU.out HV.out HG.out.2.2 HG.out.1.2.2 HG.out.1.2.1 HG.out.2.1.2.1).mono ?_
    rintro e w1 ⟨r, rfl, ho, hb⟩
    rw [addC_one] at ho
    have HO := Lib.hid ho
    have HB := Lib.hid hb
    clear ho hb
    go_wp2_with fail
    go_ret2
    exact ⟨_, rfl, HO.out, HB.out⟩
theorem implAddV_bad {p : Int} {u v : Value} {xs ys : List Int} {c : Int} {w : World} (hu : IntsAt w u xs) (hv : IntsAt w v ys) (hp : PairCode p xs ys c) (hc : c ≠ 0) :
    Calls Try.prog 32 #[u, v, .int .i64 p] w fun e w' => RetVC [] c w e w' := by
  have HU := Lib.hid hu
  have HV := Lib.hid hv
  have HP := Lib.hid hp
  have e1 : (c != 0) = true := by simpa using hc
  clear hp hc hu hv
  go_enter Try.func32, Try.ntmps32
  go_wp2_with fail
  refine (implPair_any HU.out HV.out HP.out).mono ?_
  rintro e w' ⟨rfl, rfl⟩
  go_wp2_with fail
  go_ret2
  exact ⟨_, rfl, nilI _ _, Below.refl _ _⟩
set_option maxRecDepth 100000 in
theorem implAddV_nil {p : Int} {a1 a2 : Option Addr} {c1 c2 : Nat} {w : World} (hp : PairCode p [] [] 0) :
    Calls Try.prog 32 #[.slice a1 0 c1, .slice a2 0 c2, .int .i64 p] w fun e w' => RetVC [] 0 w e w' := by
  have HU : Hid (IntsAt w (.slice a1 0 c1) []) := ⟨a1, c1, rfl, by simp, .inl rfl⟩
  have HV : Hid (IntsAt w (.slice a2 0 c2) []) := ⟨a2, c2, rfl, by simp, .inl rfl⟩
  have HP := Lib.hid hp
  have hmk : ∀ w : World, (Instr.makeSlice 33 (.int .i64 0) (.int .i64 0)).run Try.prog w = .ok (.slice (some ⟨w.heap.size, 0, none⟩) 0 0) (w.alloc (.cells #[] 2)) := fun _ => by kernel_rfl
  clear hp
  go_enter Try.func32, Try.ntmps32
  go_wp2_with fail
  refine (implPair_any HU.out HV.out HP.out).mono ?_
  rintro e w' ⟨rfl, rfl⟩
  go_wp2_with fail
  refine wp_loop_rounds 1 ?_
  rw [rounds_succ]
  go_wp2
  go_ret2
  exact ⟨_, rfl, madeI _ _ (Nat.le_refl _), (Below.refl _ _).alloc (Nat.le_refl _) _⟩
set_option maxRecDepth 100000 in
set_option maxHeartbeats 1600000 in
theorem implAddV_some {p : Int} (b1 o1 c1 b2 o2 c2 : Nat) (xs ys : List Int) (w : World) (hb1 : b1 < w.heap.size) (hb2 : b2 < w.heap.size)
    (h1 : ∀ j (h : j < xs.length), w.cell? ⟨b1, o1 + j, none⟩ = some (.int .i64 xs[j])) (h2 : ∀ j (h : j < ys.length), w.cell? ⟨b2, o2 + j, none⟩ = some (.int .i64 ys[j])) (hp : PairCode p xs ys 0) :
    Calls Try.prog 32 #[.slice (some ⟨b1, o1, none⟩) xs.length c1, .slice (some ⟨b2, o2, none⟩) ys.length c2, .int .i64 p] w fun e w' => RetVC (addL p xs ys) 0 w e w' := by
  obtain ⟨i0, hi, hz0, hz1, hz2⟩ := info_parts info2
  obtain ⟨⟨hpr, hx, h64⟩, ⟨_, hy, _⟩, hl⟩ := hp.good
  have p0 := hpr.1
  have p1 := hpr.2.1
  have kz : ¬ p = 0 := by omega
  have HU : Hid (IntsAt w (.slice (some ⟨b1, o1, none⟩) xs.length c1) xs) := ⟨_, c1, rfl, by omega, .inr ⟨b1, o1, rfl, hb1, h1⟩⟩
  have HV : Hid (IntsAt w (.slice (some ⟨b2, o2, none⟩) ys.length c2) ys) := ⟨_, c2, rfl, by omega, .inr ⟨b2, o2, rfl, hb2, h2⟩⟩
  have HP := Lib.hid hp
  have H1 := Lib.hid h1
  have H2 := Lib.hid h2
  have HX := Lib.hid hx
  have HY := Lib.hid hy
  have HL := Lib.hid hl
  obtain ⟨zs, hzs⟩ : ∃ zs, addL p xs ys = zs := ⟨_, rfl⟩
  have HZ := Lib.hid hzs
  have HZL : Hid (zs.length = xs.length) := by rw [← hzs]; exact addL_len hl
  rw [hzs]
  clear h1 h2 hx hy hl hp hpr hzs
  go_enter Try.func32, Try.ntmps32
  go_wp2_with fail
  refine (implPair_any HU.out HV.out HP.out).mono ?_
  rintro e w' ⟨rfl, rfl⟩
  go_wp2_with (at_make; refine wpList_make_full _ rfl _ _ 33 rfl w.heap.size 2 i0 (.int .i64 0) 1 Try.underlying33 hi hz0 hz1 _ _ _ _ xs.length rfl rfl rfl rfl ?ah1 ?ah2 ?ah3 ?_)
  case ah1 => rw [hz2]; omega
  case ah2 => unfold maxLen; omega
  case ah3 => exact Nat.le_refl _
  intro w1 hown hgrow
  have hb0 := (Below.refl w.heap.size w).grown hgrow (Nat.le_refl _) (fun k hk => by cases hk)
  have hr : ∃ us : List Value, us.length = zs.length ∧ w1.ownsRow w.heap.size 2 1 (.slice (some ⟨w.heap.size, 0, none⟩) xs.length xs.length) xs.length us := ⟨_, by have := hown.1; have := HZL.out; simp at *; omega, hown⟩
  clear hown hgrow
  obtain ⟨us0, hu0, hown0⟩ := hr
  go_wp2
  go_loopw [23] (fun i wr => ∃ (k : Nat) (us : List Value), k ≤ xs.length ∧ i = .int .i64 (k : Int) ∧ Hid (us.take k = iv (zs.take k)) ∧ us.length = zs.length ∧ wr.ownsRow w.heap.size 2 1 (.slice (some ⟨w.heap.size, 0, none⟩) xs.length xs.length) xs.length us ∧ Below w.heap.size w wr) (fun i _ => xs.length - (intOf i).toNat)
  case atStart => exact ⟨0, us0, Nat.zero_le _, rfl, rfl, hu0, hown0, hb0⟩
  case round =>
    obtain ⟨k, us, hk, rfl, ht, hus, hown, hbw⟩ := hrel
    by_cases hlt : k < xs.length
    · have hlt2 : k < ys.length := by have := HL.out; omega
      have hlt3 : k < zs.length := by have := HZL.out; omega
      have hc1 : wr.cell? ⟨b1, o1 + k, none⟩ = some (.int .i64 xs[k]) := (hbw.cell (p := ⟨b1, o1 + k, none⟩) hb1).trans (H1.out k hlt)
      have hc2 : wr.cell? ⟨b2, o2 + k, none⟩ = some (.int .i64 ys[k]) := (hbw.cell (p := ⟨b2, o2 + k, none⟩) hb2).trans (H2.out k hlt2)
      have HT := Lib.hid (copy_step ht.out hus hlt3)
      have hval : zs[k] = (xs[k] + ys[k]) % p := by
        have := HZ.out
        subst this
        exact addL_at HL.out k hlt hlt3
      rw [hval] at HT
      obtain ⟨x0, x1⟩ := HX.out k hlt
      obtain ⟨y0, y1⟩ := HY.out k hlt2
      obtain ⟨x, hx⟩ : ∃ x, xs[k] = x := ⟨_, rfl⟩
      obtain ⟨y, hy⟩ : ∃ y, ys[k] = y := ⟨_, rfl⟩
      rw [hx] at hc1 x0 x1 HT
      rw [hy] at hc2 y0 y1 HT
      clear hx hy hval
      have j0' : 0 ≤ (k : Int) := by omega
      have j1 : (k : Int) < xs.length := by omega
      have j2 : (k : Int) < ys.length := by omega
      have w1 : IntKind.i64.wrap (x + y) = x + y := IntWalk.i64_in _ (by omega)
      have w3 : (x + y).tmod p = (x + y) % p := Int.tmod_eq_emod_of_nonneg (by omega)
      obtain ⟨y3, hy3⟩ : ∃ y3, us[k]? = some y3 := ⟨us[k], List.getElem?_eq_getElem (by omega)⟩
      have hc3 : wr.cell? ⟨w.heap.size, k, none⟩ = some y3 := by rw [hown.cellAt k (by omega)]; exact hy3
      have hf3 : wr.frozen? ⟨w.heap.size, k, none⟩ = false := hown.frozenAt k
      have HO := Lib.hid (hown.stored k (.int .i64 ((x + y) % p))).1
      have HB : Hid (Below w.heap.size w (wr.setCell ⟨w.heap.size, k, none⟩ (.int .i64 ((x + y) % p)))) := hbw.setCell (p := ⟨w.heap.size, k, none⟩) (Nat.le_refl _) _
      have HUS : Hid ((us.set k (.int .i64 ((x + y) % p))).length = zs.length) := by show _ = _; rw [List.length_set]; exact hus
      clear hy3 ht hown hbw hus
      go_wp2
      go_region
      go_wp2
      go_roundw
      case rel => exact ⟨k + 1, _, by omega, by go_num, HT, HUS.out, HO.out, HB.out.drew⟩
      case measure => simp [intOf]; omega
    · obtain rfl : k = xs.length := by omega
      have e := copy_end (by rw [HZL.out]; exact ht.out) hus
      subst e
      have HO : Hid (OwnI w.heap.size wr (.slice (some ⟨w.heap.size, 0, none⟩) xs.length xs.length) zs) := by unfold OwnI; rw [HZL.out]; exact hown
      have HB := Lib.hid hbw
      clear hown hbw ht hus
      go_wp2
      go_ret2
      exact ⟨_, rfl, HO.out, HB.out⟩
theorem implAddV_any {p : Int} {u v : Value} {xs ys zs : List Int} {c : Int} {w : World} (hu : IntsAt w u xs) (hv : IntsAt w v ys) (h : AddRes p xs ys zs c) :
    Calls Try.prog 32 #[u, v, .int .i64 p] w fun e w' => RetVC zs c w e w' := by
  obtain ⟨hp, ⟨hc, rfl⟩ | ⟨rfl, rfl⟩⟩ := h
  · exact implAddV_bad hu hv hp hc
  · have hl := hp.good.2.2
    obtain ⟨a1, c1, rfl, _, rfl | ⟨b1, o1, rfl, hb1, h1⟩⟩ := hu
    · obtain ⟨a2, c2, rfl, _, _⟩ := hv
      obtain rfl : ys = [] := List.eq_nil_of_length_eq_zero (by simpa using hl.symm)
      exact implAddV_nil hp
    · obtain ⟨a2, c2, rfl, _, rfl | ⟨b2, o2, rfl, hb2, h2⟩⟩ := hv
      · obtain rfl : xs = [] := List.eq_nil_of_length_eq_zero (by simpa using hl)
        exact implAddV_nil hp
      · exact implAddV_some b1 o1 c1 b2 o2 c2 xs ys w hb1 hb2 h1 h2 hp

/-! ### ScaleVector -/
/-- 1 no vector modulo a prime, 2 the number out of range. -/
def SclRes (p : Int) (xs : List Int) (m : Int) (zs : List Int) (c : Int) : Prop :=
  (¬ Vec p xs ∧ zs = [] ∧ c = 1) ∨ (Vec p xs ∧ (m < 0 ∨ p - 1 < m) ∧ zs = [] ∧ c = 2) ∨ (Vec p xs ∧ 0 ≤ m ∧ m < p ∧ zs = sclC p m xs ∧ c = 0)
theorem sclRes_has (p : Int) (xs : List Int) (m : Int) : ∃ zs c, SclRes p xs m zs c := by
  by_cases h : Vec p xs
  · by_cases hm : m < 0 ∨ p - 1 < m
    · exact ⟨_, _, .inr (.inl ⟨h, hm, rfl, rfl⟩)⟩
    · exact ⟨_, _, .inr (.inr ⟨h, by omega, by omega, rfl, rfl⟩)⟩
  · exact ⟨_, _, .inl ⟨h, rfl, rfl⟩⟩
theorem specSclV_any {p m : Int} {u : Value} {xs zs : List Int} {c : Int} {w : World} (hu : IntsAt w u xs) (h : SclRes p xs m zs c) :
    Calls Try.prog 52 #[u, .int .i64 m, .int .i64 p] w fun e w' => RetVC zs c w e w' := by
  have HU := Lib.hid hu
  clear hu
  rcases h with ⟨hx, rfl, rfl⟩ | ⟨hx, hm, rfl, rfl⟩ | ⟨hx, m0, m1, rfl, rfl⟩
  · by_cases hp : IsPr p
    · have p0 := hp.1
      have p1 := hp.2.1
      have HP := Lib.hid hp
      have HX : Hid (¬ (NumOk p xs ∧ xs.length ≤ 64)) := fun h => hx ⟨hp, h⟩
      clear hx hp
      go_enter Try.func52, Try.ntmps52
      go_wp2_with fail
      refine (specPrime_yes _ _ HP.out).mono ?_
      rintro e w' ⟨rfl, rfl⟩
      go_wp2_with fail
      refine (specNums_any p0 p1 HU.out (.inr ⟨HX.out, rfl⟩)).mono ?_
      rintro e w' ⟨rfl, rfl⟩
      go_wp2_with fail
      go_ret2
      exact ⟨_, rfl, nilI _ _, Below.refl _ _⟩
    · have HP := Lib.hid hp
      clear hx hp
      go_enter Try.func52, Try.ntmps52
      go_wp2_with fail
      refine (specPrime_no _ _ HP.out).mono ?_
      rintro e w' ⟨rfl, rfl⟩
      go_wp2_with fail
      go_ret2
      exact ⟨_, rfl, nilI _ _, Below.refl _ _⟩
  · have p0 := hx.1.1
    have p1 := hx.1.2.1
    have HX := Lib.hid hx
    have HM := Lib.hid hm
    clear hx hm
    go_enter Try.func52, Try.ntmps52
    go_wp2_with fail
    refine (specPrime_yes _ _ HX.out.1).mono ?_
    rintro e w' ⟨rfl, rfl⟩
    go_wp2_with fail
    refine (specNums_any p0 p1 HU.out (.inl ⟨HX.out.2.1, HX.out.2.2, rfl⟩)).mono ?_
    rintro e w' ⟨rfl, rfl⟩
    go_wp2_with fail
    refine (l00In_no _ _ _ _ HM.out).mono ?_
    rintro e w' ⟨rfl, rfl⟩
    go_wp2_with fail
    go_ret2
    exact ⟨_, rfl, nilI _ _, Below.refl _ _⟩
  · have p0 := hx.1.1
    have p1 := hx.1.2.1
    have HX := Lib.hid hx
    clear hx
    go_enter Try.func52, Try.ntmps52
    go_wp2_with fail
    refine (specPrime_yes _ _ HX.out.1).mono ?_
    rintro e w' ⟨rfl, rfl⟩
    go_wp2_with fail
    refine (specNums_any p0 p1 HU.out (.inl ⟨HX.out.2.1, HX.out.2.2, rfl⟩)).mono ?_
    rintro e w' ⟨rfl, rfl⟩
    go_wp2_with fail
    refine (l00In_yes _ _ _ _ m0 (by omega)).mono ?_
    rintro e w' ⟨rfl, rfl⟩
    go_wp2_with fail
    refine (specScl_any p0 p1 m0 (by omega) HU.out HX.out.2.2 HX.out.2.1).mono ?_
    rintro e w1 ⟨r, rfl, ho, hb⟩
    have HO := Lib.hid ho
    have HB := Lib.hid hb
    clear ho hb
    go_wp2_with fail
    go_ret2
    exact ⟨_, rfl, HO.out, HB.out⟩
theorem implSclV_bad {p m : Int} {u : Value} {xs : List Int} {w : World} (hu : IntsAt w u xs) (hx : ¬ Vec p xs) :
    Calls Try.prog 33 #[u, .int .i64 m, .int .i64 p] w fun e w' => RetVC [] 1 w e w' := by
  have HU := Lib.hid hu
  have HX := Lib.hid hx
  clear hu hx
  go_enter Try.func33, Try.ntmps33
  go_wp2_with fail
  refine (implVec_no HU.out HX.out).mono ?_
  rintro e w' ⟨rfl, rfl⟩
  go_wp2_with fail
  go_ret2
  exact ⟨_, rfl, nilI _ _, Below.refl _ _⟩
theorem implSclV_range {p m : Int} {u : Value} {xs : List Int} {w : World} (hu : IntsAt w u xs) (hx : Vec p xs) (hm : m < 0 ∨ p - 1 < m) :
    Calls Try.prog 33 #[u, .int .i64 m, .int .i64 p] w fun e w' => RetVC [] 2 w e w' := by
  have HU := Lib.hid hu
  have HX := Lib.hid hx
  have HC : Hid (NumCode p [m] 2) := .inr (.inl ⟨hx.1, by rw [numOk_one]; omega, rfl⟩)
  clear hu hx hm
  go_enter Try.func33, Try.ntmps33
  go_wp2_with fail
  refine (implVec_yes HU.out HX.out).mono ?_
  rintro e w' ⟨rfl, rfl⟩
  go_wp2_with fail
  refine (numsP_any (one_at _ _ _) HC.out).mono ?_
  rintro e w' ⟨rfl, rfl⟩
  go_wp2_with fail
  go_ret2
  exact ⟨_, rfl, nilI _ _, (Below.refl _ _).alloc (Nat.le_refl _) _⟩
set_option maxRecDepth 100000 in
theorem implSclV_nil {p m : Int} {a1 : Option Addr} {c1 : Nat} {w : World} (hx : Vec p []) (m0 : 0 ≤ m) (m1 : m < p) :
    Calls Try.prog 33 #[.slice a1 0 c1, .int .i64 m, .int .i64 p] w fun e w' => RetVC [] 0 w e w' := by
  have HU : Hid (IntsAt w (.slice a1 0 c1) []) := ⟨a1, c1, rfl, by simp, .inl rfl⟩
  have HX := Lib.hid hx
  have HC : Hid (NumCode p [m] 0) := .inr (.inr ⟨hx.1, by rw [numOk_one]; omega, rfl⟩)
  have hmk : ∀ w : World, (Instr.makeSlice 33 (.int .i64 0) (.int .i64 0)).run Try.prog w = .ok (.slice (some ⟨w.heap.size, 0, none⟩) 0 0) (w.alloc (.cells #[] 2)) := fun _ => by kernel_rfl
  clear hx
  go_enter Try.func33, Try.ntmps33
  go_wp2_with fail
  refine (implVec_yes HU.out HX.out).mono ?_
  rintro e w' ⟨rfl, rfl⟩
  go_wp2_with fail
  refine (numsP_any (one_at _ _ _) HC.out).mono ?_
  rintro e w' ⟨rfl, rfl⟩
  go_wp2_with fail
  refine wp_loop_rounds 1 ?_
  rw [rounds_succ]
  go_wp2
  go_ret2
  refine ⟨_, rfl, ?_, ((Below.refl _ _).alloc (Nat.le_refl _) _).alloc (by simp) _⟩
  have := madeI (w.alloc (.cells #[.int .i64 m] 2)) w.heap.size (by simp)
  simpa using this
set_option maxRecDepth 100000 in
set_option maxHeartbeats 1600000 in
theorem implSclV_some {p m : Int} (b1 o1 c1 : Nat) (xs : List Int) (w : World) (hb1 : b1 < w.heap.size)
    (h1 : ∀ j (h : j < xs.length), w.cell? ⟨b1, o1 + j, none⟩ = some (.int .i64 xs[j])) (hv : Vec p xs) (m0 : 0 ≤ m) (m1 : m < p) :
    Calls Try.prog 33 #[.slice (some ⟨b1, o1, none⟩) xs.length c1, .int .i64 m, .int .i64 p] w fun e w' => RetVC (sclC p m xs) 0 w e w' := by
  obtain ⟨i0, hi, hz0, hz1, hz2⟩ := info_parts info2
  obtain ⟨hpr, hx, h64⟩ := hv
  have p0 := hpr.1
  have p1 := hpr.2.1
  have kz : ¬ p = 0 := by omega
  have HU : Hid (IntsAt w (.slice (some ⟨b1, o1, none⟩) xs.length c1) xs) := ⟨_, c1, rfl, by omega, .inr ⟨b1, o1, rfl, hb1, h1⟩⟩
  have HXV : Hid (Vec p xs) := ⟨hpr, hx, h64⟩
  have HC : Hid (NumCode p [m] 0) := .inr (.inr ⟨hpr, by rw [numOk_one]; omega, rfl⟩)
  have H1 := Lib.hid h1
  have HX := Lib.hid hx
  obtain ⟨zs, hzs⟩ : ∃ zs, sclC p m xs = zs := ⟨_, rfl⟩
  have HZ := Lib.hid hzs
  have HZL : Hid (zs.length = xs.length) := by rw [← hzs]; exact sclC_len p m xs
  rw [hzs]
  clear h1 hx hpr hzs
  go_enter Try.func33, Try.ntmps33
  go_wp2_with fail
  refine (implVec_yes HU.out HXV.out).mono ?_
  rintro e w' ⟨rfl, rfl⟩
  go_wp2_with fail
  refine (numsP_any (one_at _ _ _) HC.out).mono ?_
  rintro e w' ⟨rfl, rfl⟩
  go_wp2_with (at_make; refine wpList_make_full _ rfl _ _ 33 rfl w.heap.size 2 i0 (.int .i64 0) 1 Try.underlying33 hi hz0 hz1 _ _ _ _ xs.length rfl rfl rfl rfl ?ah1 ?ah2 ?ah3 ?_)
  case ah1 => rw [hz2]; omega
  case ah2 => unfold maxLen; omega
  case ah3 => simp
  intro w1 hown hgrow
  have hb0 := ((Below.refl w.heap.size w).alloc (Nat.le_refl _) (.cells #[.int .i64 m] 2)).grown hgrow (by simp) (fun k hk => by cases hk)
  obtain ⟨g, hg⟩ : ∃ g, w.heap.size + 1 = g := ⟨_, rfl⟩
  have hgw : w.heap.size ≤ g := by omega
  rw [hg] at hown ⊢
  have hr : ∃ us : List Value, us.length = zs.length ∧ w1.ownsRow w.heap.size 2 1 (.slice (some ⟨g, 0, none⟩) xs.length xs.length) xs.length us := ⟨_, by have := hown.1; have := HZL.out; simp at *; omega, hown⟩
  clear hown hgrow hg
  obtain ⟨us0, hu0, hown0⟩ := hr
  go_wp2
  go_loopw [28] (fun i wr => ∃ (k : Nat) (us : List Value), k ≤ xs.length ∧ i = .int .i64 (k : Int) ∧ Hid (us.take k = iv (zs.take k)) ∧ us.length = zs.length ∧ wr.ownsRow w.heap.size 2 1 (.slice (some ⟨g, 0, none⟩) xs.length xs.length) xs.length us ∧ Below w.heap.size w wr) (fun i _ => xs.length - (intOf i).toNat)
  case atStart => exact ⟨0, us0, Nat.zero_le _, rfl, rfl, hu0, hown0, hb0⟩
  case round =>
    obtain ⟨k, us, hk, rfl, ht, hus, hown, hbw⟩ := hrel
    by_cases hlt : k < xs.length
    · have hlt3 : k < zs.length := by have := HZL.out; omega
      have hc1 : wr.cell? ⟨b1, o1 + k, none⟩ = some (.int .i64 xs[k]) := (hbw.cell (p := ⟨b1, o1 + k, none⟩) hb1).trans (H1.out k hlt)
      have HT := Lib.hid (copy_step ht.out hus hlt3)
      have hval : zs[k] = xs[k] * m % p := by
        have := HZ.out
        subst this
        exact sclC_at k hlt hlt3
      rw [hval] at HT
      obtain ⟨x0, x1⟩ := HX.out k hlt
      obtain ⟨x, hx⟩ : ∃ x, xs[k] = x := ⟨_, rfl⟩
      rw [hx] at hc1 x0 x1 HT
      clear hx hval
      obtain ⟨q0, q1⟩ := prod_bd p1 x0 (by omega : x < p) m0 m1
      have j0' : 0 ≤ (k : Int) := by omega
      have j1 : (k : Int) < xs.length := by omega
      obtain ⟨y3, hy3⟩ : ∃ y3, us[k]? = some y3 := ⟨us[k], List.getElem?_eq_getElem (by omega)⟩
      have hc3 : wr.cell? ⟨g, k, none⟩ = some y3 := by rw [hown.cellAt k (by omega)]; exact hy3
      have hf3 : wr.frozen? ⟨g, k, none⟩ = false := hown.frozenAt k
      have HO := Lib.hid (hown.stored k (.int .i64 (x * m % p))).1
      have HB : Hid (Below w.heap.size w (wr.setCell ⟨g, k, none⟩ (.int .i64 (x * m % p)))) := hbw.setCell (p := ⟨g, k, none⟩) hgw _
      have HUS : Hid ((us.set k (.int .i64 (x * m % p))).length = zs.length) := by show _ = _; rw [List.length_set]; exact hus
      clear hy3 ht hown hbw hus
      go_wp2
      go_roundw
      case rel => exact ⟨k + 1, _, by omega, by go_num, HT, HUS.out, HO.out, HB.out⟩
      case measure => simp [intOf]; omega
    · obtain rfl : k = xs.length := by omega
      have e := copy_end (by rw [HZL.out]; exact ht.out) hus
      subst e
      have HO : Hid (OwnI w.heap.size wr (.slice (some ⟨g, 0, none⟩) xs.length xs.length) zs) := by unfold OwnI; rw [HZL.out]; exact hown
      have HB := Lib.hid hbw
      clear hown hbw ht hus
      go_wp2
      go_ret2
      exact ⟨_, rfl, HO.out, HB.out⟩
theorem implSclV_any {p m : Int} {u : Value} {xs zs : List Int} {c : Int} {w : World} (hu : IntsAt w u xs) (h : SclRes p xs m zs c) :
    Calls Try.prog 33 #[u, .int .i64 m, .int .i64 p] w fun e w' => RetVC zs c w e w' := by
  rcases h with ⟨hx, rfl, rfl⟩ | ⟨hx, hm, rfl, rfl⟩ | ⟨hx, m0, m1, rfl, rfl⟩
  · exact implSclV_bad hu hx
  · exact implSclV_range hu hx hm
  · obtain ⟨a1, c1, rfl, _, rfl | ⟨b1, o1, rfl, hb1, h1⟩⟩ := hu
    · exact implSclV_nil hx m0 m1
    · exact implSclV_some b1 o1 c1 xs w hb1 h1 hx m0 m1

/-! ### DotOf -/
def DotRes (p : Int) (xs ys : List Int) (r c : Int) : Prop := PairCode p xs ys c ∧ ((c ≠ 0 ∧ r = 0) ∨ (c = 0 ∧ r = dotN xs ys % p))
theorem dotRes_has (p : Int) (xs ys : List Int) : ∃ r c, DotRes p xs ys r c := by
  obtain ⟨c, hc⟩ := pairCode_has p xs ys
  by_cases h : c = 0
  · exact ⟨_, c, hc, .inr ⟨h, rfl⟩⟩
  · exact ⟨_, c, hc, .inl ⟨h, rfl⟩⟩
/-- A number and a code. -/
def RetVN (r c : Int) (w : World) (e : Ending) (w' : World) : Prop := e = .returned (.tuple #[.int .i64 r, .int .i64 c]) ∧ Below w.heap.size w w'
theorem specDotV_any {p : Int} {u v : Value} {xs ys : List Int} {r c : Int} {w : World} (hu : IntsAt w u xs) (hv : IntsAt w v ys) (h : DotRes p xs ys r c) :
    Calls Try.prog 53 #[u, v, .int .i64 p] w fun e w' => RetVN r c w e w' := by
  have HU := Lib.hid hu
  have HV := Lib.hid hv
  obtain ⟨hp, ⟨hc, rfl⟩ | ⟨rfl, rfl⟩⟩ := h
  · have HP := Lib.hid hp
    have e1 : (c != 0) = true := by simpa using hc
    clear hp hc hu hv
    go_enter Try.func53, Try.ntmps53
    go_wp2_with fail
    refine (specPair_any HU.out HV.out HP.out).mono ?_
    rintro e w' ⟨rfl, rfl⟩
    go_wp2_with fail
    go_ret2
    exact ⟨rfl, Below.refl _ _⟩
  · have HP := Lib.hid hp
    have HG := Lib.hid hp.good
    have p0 := hp.good.1.1.1
    have p1 := hp.good.1.1.2.1
    clear hp hu hv
    go_enter Try.func53, Try.ntmps53
    go_wp2_with fail
    refine (specPair_any HU.out HV.out HP.out).mono ?_
    rintro e w' ⟨rfl, rfl⟩
    go_wp2_with fail
    refine (specDot_any p0 p1 HU.out HV.out HG.out.2.2 HG.out.1.2.2 HG.out.1.2.1 HG.out.2.1.2.1).mono ?_
    rintro e w1 ⟨rfl, hb⟩
    have HB := Lib.hid hb
    clear hb
    go_wp2_with fail
    go_ret2
    exact ⟨rfl, HB.out⟩
theorem implDotV_bad {p : Int} {u v : Value} {xs ys : List Int} {c : Int} {w : World} (hu : IntsAt w u xs) (hv : IntsAt w v ys) (hp : PairCode p xs ys c) (hc : c ≠ 0) :
    Calls Try.prog 31 #[u, v, .int .i64 p] w fun e w' => RetVN 0 c w e w' := by
  have HU := Lib.hid hu
  have HV := Lib.hid hv
  have HP := Lib.hid hp
  have e1 : (c != 0) = true := by simpa using hc
  clear hp hc hu hv
  go_enter Try.func31, Try.ntmps31
  go_wp2_with fail
  refine (implPair_any HU.out HV.out HP.out).mono ?_
  rintro e w' ⟨rfl, rfl⟩
  go_wp2_with fail
  go_ret2
  exact ⟨rfl, Below.refl _ _⟩
theorem implDotV_nil {p : Int} {a1 a2 : Option Addr} {c1 c2 : Nat} {w : World} (hp : PairCode p [] [] 0) :
    Calls Try.prog 31 #[.slice a1 0 c1, .slice a2 0 c2, .int .i64 p] w fun e w' => RetVN 0 0 w e w' := by
  have HU : Hid (IntsAt w (.slice a1 0 c1) []) := ⟨a1, c1, rfl, by simp, .inl rfl⟩
  have HV : Hid (IntsAt w (.slice a2 0 c2) []) := ⟨a2, c2, rfl, by simp, .inl rfl⟩
  have p0 := hp.good.1.1.1
  have kz : ¬ p = 0 := by omega
  have HP := Lib.hid hp
  clear hp
  go_enter Try.func31, Try.ntmps31
  go_wp2_with fail
  refine (implPair_any HU.out HV.out HP.out).mono ?_
  rintro e w' ⟨rfl, rfl⟩
  go_wp2_with fail
  refine wp_loop_rounds 1 ?_
  rw [rounds_succ]
  go_wp2
  go_ret2
  exact ⟨rfl, Below.refl _ _⟩
set_option maxHeartbeats 1600000 in
theorem implDotV_some {p : Int} (b1 o1 c1 b2 o2 c2 : Nat) (xs ys : List Int) (w : World) (hb1 : b1 < w.heap.size) (hb2 : b2 < w.heap.size)
    (h1 : ∀ j (h : j < xs.length), w.cell? ⟨b1, o1 + j, none⟩ = some (.int .i64 xs[j])) (h2 : ∀ j (h : j < ys.length), w.cell? ⟨b2, o2 + j, none⟩ = some (.int .i64 ys[j])) (hp : PairCode p xs ys 0) :
    Calls Try.prog 31 #[.slice (some ⟨b1, o1, none⟩) xs.length c1, .slice (some ⟨b2, o2, none⟩) ys.length c2, .int .i64 p] w fun e w' => RetVN (dotN xs ys % p) 0 w e w' := by
  obtain ⟨⟨hpr, hx, h64⟩, ⟨_, hy, _⟩, hl⟩ := hp.good
  have p0 := hpr.1
  have p1 := hpr.2.1
  have kz : ¬ p = 0 := by omega
  have HU : Hid (IntsAt w (.slice (some ⟨b1, o1, none⟩) xs.length c1) xs) := ⟨_, c1, rfl, by omega, .inr ⟨b1, o1, rfl, hb1, h1⟩⟩
  have HV : Hid (IntsAt w (.slice (some ⟨b2, o2, none⟩) ys.length c2) ys) := ⟨_, c2, rfl, by omega, .inr ⟨b2, o2, rfl, hb2, h2⟩⟩
  have HP := Lib.hid hp
  have H1 := Lib.hid h1
  have H2 := Lib.hid h2
  have HX := Lib.hid hx
  have HY := Lib.hid hy
  have HL := Lib.hid hl
  clear h1 h2 hx hy hl hp hpr
  go_enter Try.func31, Try.ntmps31
  go_wp2_with fail
  refine (implPair_any HU.out HV.out HP.out).mono ?_
  rintro e w' ⟨rfl, rfl⟩
  go_wp2_with fail
  go_loopw [9, 20] (fun s i wr => ∃ (k n : Nat) (z : Int), k ≤ xs.length ∧ i = .int .i64 (k : Int) ∧ s = .int .i64 z ∧ 0 ≤ z ∧ z ≤ 62500 * k ∧ Hid (dotN (xs.take k) (ys.take k) = z) ∧ wr = w.drewN n) (fun _ i _ => xs.length - (intOf i).toNat)
  case atStart => exact ⟨0, 0, 0, Nat.zero_le _, rfl, rfl, by omega, by omega, by show _ = _; simp [dotN], rfl⟩
  case round =>
    obtain ⟨k, n, z, hk, rfl, rfl, z0, z1, HZ, rfl⟩ := hrel
    by_cases hlt : k < xs.length
    · have hlt2 : k < ys.length := by have := HL.out; omega
      have hc1 := H1.out k hlt
      have hc2 := H2.out k hlt2
      have HN := Lib.hid (dotN_next xs ys k hlt hlt2)
      obtain ⟨x0, x1⟩ := HX.out k hlt
      obtain ⟨y0, y1⟩ := HY.out k hlt2
      obtain ⟨x, hx⟩ : ∃ x, xs[k] = x := ⟨_, rfl⟩
      obtain ⟨y, hy⟩ : ∃ y, ys[k] = y := ⟨_, rfl⟩
      rw [hx] at hc1 x0 x1 HN
      rw [hy] at hc2 y0 y1 HN
      clear hx hy
      obtain ⟨m0, m1⟩ := prod_bd p1 x0 (by omega : x < p) y0 (by omega : y < p)
      have i0' : 0 ≤ (k : Int) := by omega
      have i1 : (k : Int) < xs.length := by omega
      have i2 : (k : Int) < ys.length := by omega
      have w1 : IntKind.i64.wrap (x * y) = x * y := IntWalk.i64_in _ (by omega)
      have w2 : IntKind.i64.wrap (z + x * y) = z + x * y := IntWalk.i64_in _ (by omega)
      have HZ2 : Hid (dotN (xs.take (k + 1)) (ys.take (k + 1)) = z + x * y) := by
        show _ = _; rw [HN.out, HZ.out]
      go_wp2
      go_quiet (fail)
      go_wp2
      go_roundw
      case rel => exact ⟨k + 1, _, _, by omega, by go_num, rfl, by omega, by omega, HZ2, rfl⟩
      case measure => simp [intOf]; omega
    · obtain rfl : k = xs.length := by omega
      have HE : Hid (z = dotN xs ys) := by
        have := HZ.out
        rw [List.take_length, List.take_of_length_le (by have := HL.out; omega)] at this
        exact this.symm
      go_wp2
      go_ret2
      exact ⟨by rw [← HE.out]; rfl, below_drewN2 (Below.refl _ _) n⟩
theorem implDotV_any {p : Int} {u v : Value} {xs ys : List Int} {r c : Int} {w : World} (hu : IntsAt w u xs) (hv : IntsAt w v ys) (h : DotRes p xs ys r c) :
    Calls Try.prog 31 #[u, v, .int .i64 p] w fun e w' => RetVN r c w e w' := by
  obtain ⟨hp, ⟨hc, rfl⟩ | ⟨rfl, rfl⟩⟩ := h
  · exact implDotV_bad hu hv hp hc
  · have hl := hp.good.2.2
    obtain ⟨a1, c1, rfl, _, rfl | ⟨b1, o1, rfl, hb1, h1⟩⟩ := hu
    · obtain ⟨a2, c2, rfl, _, _⟩ := hv
      obtain rfl : ys = [] := List.eq_nil_of_length_eq_zero (by simpa using hl.symm)
      have e : dotN [] [] % p = 0 := by simp [dotN]
      rw [e]
      exact implDotV_nil hp
    · obtain ⟨a2, c2, rfl, _, rfl | ⟨b2, o2, rfl, hb2, h2⟩⟩ := hv
      · obtain rfl : xs = [] := List.eq_nil_of_length_eq_zero (by simpa using hl)
        have e : dotN [] [] % p = 0 := by simp [dotN]
        rw [e]
        exact implDotV_nil hp
      · exact implDotV_some b1 o1 c1 b2 o2 c2 xs ys w hb1 hb2 h1 h2 hp
end Go.Proofs.Ytlikfgmhhjpggaa
