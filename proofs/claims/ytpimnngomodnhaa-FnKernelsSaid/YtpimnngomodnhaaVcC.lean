/-
  Contracts of AddVectors, ScaleVector and DotOf, of the model and of the program: whatever the arguments, both give the same list or number and code, the list in new memory.
-/
import Derived.Test.YtpimnngomodnhaaVcB
import Derived.Test.YtpimnngomodnhaaFldB
import Derived.Test.YtpimnngomodnhaaFldH
import Derived.RegionTactic
namespace Go.Proofs.Ytpimnngomodnhaa
open Go.RowKit
set_option linter.unusedVariables false

def addLV (p : Int) (xs ys : List Int) : List Int := List.zipWith (fun x y => (x + y) % p) xs ys
theorem addC_one (p : Int) (xs ys : List Int) : addC p 1 xs ys = addLV p xs ys := by unfold addC addLV; simp only [Int.one_mul]
theorem addL_len {p : Int} {xs ys : List Int} (h : xs.length = ys.length) : (addLV p xs ys).length = xs.length := by unfold addLV; rw [List.length_zipWith]; omega
theorem addL_at {p : Int} {xs ys : List Int} (h : xs.length = ys.length) (k : Nat) (hk : k < xs.length) (h3 : k < (addLV p xs ys).length) : (addLV p xs ys)[k] = (xs[k] + ys[k]'(by omega)) % p := by
  simp only [addLV, List.getElem_zipWith]
theorem sclC_at {p c : Int} {xs : List Int} (k : Nat) (hk : k < xs.length) (h3 : k < (sclC p c xs).length) : (sclC p c xs)[k] = xs[k] * c % p := by
  simp only [sclC, List.getElem_map]; rw [Int.mul_comm]
/-- A list and a code. -/
def RetVCV (zs : List Int) (c : Int) (w : World) (e : Ending) (w' : World) : Prop := ∃ v, e = .returned (.tuple #[v, .int .i64 c]) ∧ OwnI w.heap.size w' v zs ∧ Below w.heap.size w w'

/-! ### AddVectors -/
def AddRes (p : Int) (xs ys zs : List Int) (c : Int) : Prop := PairCode p xs ys c ∧ ((c ≠ 0 ∧ zs = []) ∨ (c = 0 ∧ zs = addLV p xs ys))
theorem addRes_has (p : Int) (xs ys : List Int) : ∃ zs c, AddRes p xs ys zs c := by
  obtain ⟨c, hc⟩ := pairCode_has p xs ys
  by_cases h : c = 0
  · exact ⟨_, c, hc, .inr ⟨h, rfl⟩⟩
  · exact ⟨_, c, hc, .inl ⟨h, rfl⟩⟩
theorem PairCode.good {p : Int} {xs ys : List Int} (h : PairCode p xs ys 0) : Vec p xs ∧ Vec p ys ∧ xs.length = ys.length := by
  rcases h with ⟨_, h⟩ | ⟨_, _, _, h⟩ | ⟨a, b, c, _⟩
  · exact absurd h (by decide)
  · exact absurd h (by decide)
  · exact ⟨a, b, c⟩
theorem specAddV_any {p : Int} {u v : Value} {xs ys zs : List Int} {c : Int} {w : World} (hu : IntsAt w u xs) (hv : IntsAt w v ys) (h : AddRes p xs ys zs c) :
    Calls Try.prog 21 #[u, v, .int .i64 p] w fun e w' => RetVCV zs c w e w' := by
  have HU := Lib.hid hu
  have HV := Lib.hid hv
  obtain ⟨hp, ⟨hc, rfl⟩ | ⟨rfl, rfl⟩⟩ := h
  · have HP := Lib.hid hp
    have e1 : (c != 0) = true := by simpa using hc
    clear hp hc hu hv
    go_enter Try.func21, Try.ntmps21
    go_wp2_with fail
    refine (specPair_any HU.out HV.out HP.out).mono ?_
    rintro e w' ⟨rfl, rfl⟩
    go_wp2_with fail
    go_ret2
    exact ⟨_, rfl, nilI _ _, Below.refl _ _⟩
  · have HP := Lib.hid hp
    have HG := Lib.hid hp.good
    have p0 := hp.good.1.1.1
    have p1 := hp.good.1.1.2.1
    clear hp hu hv
    go_enter Try.func21, Try.ntmps21
    go_wp2_with fail
    refine (specPair_any HU.out HV.out HP.out).mono ?_
    rintro e w' ⟨rfl, rfl⟩
    go_wp2_with fail
    refine (specAdd_any (c := 1) p0 p1 (by omega) (by omega) HU.out HV.out HG.out.2.2 HG.out.1.2.2 HG.out.1.2.1 HG.out.2.1.2.1).mono ?_
    rintro e w1 ⟨r, rfl, ho, hb⟩
    rw [addC_one] at ho
    have HO := Lib.hid ho
    have HB := Lib.hid hb
    clear ho hb
    go_wp2_with fail
    go_ret2
    exact ⟨_, rfl, HO.out, HB.out⟩

/-! ### ScaleVector -/
/-- 1 no vector modulo a prime, 2 the number out of range. -/
def SclRes (p : Int) (xs : List Int) (m : Int) (zs : List Int) (c : Int) : Prop :=
  (¬ Vec p xs ∧ zs = [] ∧ c = 1) ∨ (Vec p xs ∧ (m < 0 ∨ p - 1 < m) ∧ zs = [] ∧ c = 2) ∨ (Vec p xs ∧ 0 ≤ m ∧ m < p ∧ zs = sclC p m xs ∧ c = 0)
theorem sclRes_has (p : Int) (xs : List Int) (m : Int) : ∃ zs c, SclRes p xs m zs c := by
  by_cases h : Vec p xs
  · by_cases hm : m < 0 ∨ p - 1 < m
    · exact ⟨_, _, .inr (.inl ⟨h, hm, rfl, rfl⟩)⟩
    · exact ⟨_, _, .inr (.inr ⟨h, by omega, by omega, rfl, rfl⟩)⟩
  · exact ⟨_, _, .inl ⟨h, rfl, rfl⟩⟩
theorem specSclV_any {p m : Int} {u : Value} {xs zs : List Int} {c : Int} {w : World} (hu : IntsAt w u xs) (h : SclRes p xs m zs c) :
    Calls Try.prog 20 #[u, .int .i64 m, .int .i64 p] w fun e w' => RetVCV zs c w e w' := by
  have HU := Lib.hid hu
  clear hu
  rcases h with ⟨hx, rfl, rfl⟩ | ⟨hx, hm, rfl, rfl⟩ | ⟨hx, m0, m1, rfl, rfl⟩
  · by_cases hp : IsPr p
    · have p0 := hp.1
      have p1 := hp.2.1
      have HP := Lib.hid hp
      have HX : Hid (¬ (NumOk p xs ∧ xs.length ≤ 64)) := fun h => hx ⟨hp, h⟩
      clear hx hp
      go_enter Try.func20, Try.ntmps20
      go_wp2_with fail
      refine (specPrime_yes _ _ HP.out).mono ?_
      rintro e w' ⟨rfl, rfl⟩
      go_wp2_with fail
      refine (specNums_any p0 p1 HU.out (.inr ⟨HX.out, rfl⟩)).mono ?_
      rintro e w' ⟨rfl, rfl⟩
      go_wp2_with fail
      go_ret2
      exact ⟨_, rfl, nilI _ _, Below.refl _ _⟩
    · have HP := Lib.hid hp
      clear hx hp
      go_enter Try.func20, Try.ntmps20
      go_wp2_with fail
      refine (specPrime_no _ _ HP.out).mono ?_
      rintro e w' ⟨rfl, rfl⟩
      go_wp2_with fail
      go_ret2
      exact ⟨_, rfl, nilI _ _, Below.refl _ _⟩
  · have p0 := hx.1.1
    have p1 := hx.1.2.1
    have HX := Lib.hid hx
    have HM := Lib.hid hm
    clear hx hm
    go_enter Try.func20, Try.ntmps20
    go_wp2_with fail
    refine (specPrime_yes _ _ HX.out.1).mono ?_
    rintro e w' ⟨rfl, rfl⟩
    go_wp2_with fail
    refine (specNums_any p0 p1 HU.out (.inl ⟨HX.out.2.1, HX.out.2.2, rfl⟩)).mono ?_
    rintro e w' ⟨rfl, rfl⟩
    go_wp2_with fail
    refine (l00In_no _ _ _ _ HM.out).mono ?_
    rintro e w' ⟨rfl, rfl⟩
    go_wp2_with fail
    go_ret2
    exact ⟨_, rfl, nilI _ _, Below.refl _ _⟩
  · have p0 := hx.1.1
    have p1 := hx.1.2.1
    have HX := Lib.hid hx
    clear hx
    go_enter Try.func20, Try.ntmps20
    go_wp2_with fail
    refine (specPrime_yes _ _ HX.out.1).mono ?_
    rintro e w' ⟨rfl, rfl⟩
    go_wp2_with fail
    refine (specNums_any p0 p1 HU.out (.inl ⟨HX.out.2.1, HX.out.2.2, rfl⟩)).mono ?_
    rintro e w' ⟨rfl, rfl⟩
    go_wp2_with fail
    refine (l00In_yes _ _ _ _ m0 (by omega)).mono ?_
    rintro e w' ⟨rfl, rfl⟩
    go_wp2_with fail
    refine (specScl_any p0 p1 m0 (by omega) HU.out HX.out.2.2 HX.out.2.1).mono ?_
    rintro e w1 ⟨r, rfl, ho, hb⟩
    have HO := Lib.hid ho
    have HB := Lib.hid hb
    clear ho hb
    go_wp2_with fail
    go_ret2
    exact ⟨_, rfl, HO.out, HB.out⟩

/-! ### DotOf -/
def DotRes (p : Int) (xs ys : List Int) (r c : Int) : Prop := PairCode p xs ys c ∧ ((c ≠ 0 ∧ r = 0) ∨ (c = 0 ∧ r = dotN xs ys % p))
theorem dotRes_has (p : Int) (xs ys : List Int) : ∃ r c, DotRes p xs ys r c := by
  obtain ⟨c, hc⟩ := pairCode_has p xs ys
  by_cases h : c = 0
  · exact ⟨_, c, hc, .inr ⟨h, rfl⟩⟩
  · exact ⟨_, c, hc, .inl ⟨h, rfl⟩⟩
/-- A number and a code. -/
def RetVN (r c : Int) (w : World) (e : Ending) (w' : World) : Prop := e = .returned (.tuple #[.int .i64 r, .int .i64 c]) ∧ Below w.heap.size w w'
end Go.Proofs.Ytpimnngomodnhaa
