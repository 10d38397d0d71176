/-
  The code of two spaces, by the model.
-/
import Derived.Test.YtpimnngomodnhaaSqD
import Derived.Test.YtpimnngomodnhaaSpH
namespace Go.Proofs.Ytpimnngomodnhaa
open Go.RowKit
open Lin
set_option linter.unusedVariables false
set_option linter.unusedSectionVars false

set_option maxRecDepth 100000 in
set_option maxHeartbeats 3200000 in
theorem l04Two_a {p n q m : Int} {L G : Nat} {u v : Value} {xx yy : List (List Int)} {w : World} (hp : PtV w L p n u) (hg : PtV w G q m v) (hu : RowsD w u xx) (hv : RowsD w v yy) (h1 : false = vB p n xx) :
    Calls Try.prog 74 #[.pointer (some ⟨L, 0, none⟩), .pointer (some ⟨G, 0, none⟩)] w fun e w' => e = .returned (.int .i64 1) ∧ Below w.heap.size w w' := by
  have HU := Lib.hid hu
  have HP := Lib.hid hp
  have HK := Lib.hid h1
  clear hp hg hu hv h1
  go_enter Try.func74, Try.ntmps74
  go_wp2_with fail
  refine (l04Ok_is (T := false) HP.out HU.out HK.out).mono ?_
  rintro e w1 ⟨rfl, hb⟩
  have HB := Lib.hid hb
  clear hb
  go_wp2_with fail
  go_ret
  exact ⟨rfl, HB.out⟩
set_option maxRecDepth 100000 in
set_option maxHeartbeats 3200000 in
theorem l04Two_b {p n q m : Int} {L G : Nat} {u v : Value} {xx yy : List (List Int)} {w : World} (hp : PtV w L p n u) (hg : PtV w G q m v) (hu : RowsD w u xx) (hv : RowsD w v yy) (h1 : true = vB p n xx) (h2 : false = vB q m yy) :
    Calls Try.prog 74 #[.pointer (some ⟨L, 0, none⟩), .pointer (some ⟨G, 0, none⟩)] w fun e w' => e = .returned (.int .i64 1) ∧ Below w.heap.size w w' := by
  have HU := Lib.hid hu
  have HV := Lib.hid hv
  have HP := Lib.hid hp
  have HG := Lib.hid hg
  have HK := Lib.hid h1
  have HK2 := Lib.hid h2
  clear hp hg hu hv h1 h2
  go_enter Try.func74, Try.ntmps74
  go_wp2_with fail
  refine (l04Ok_is (T := true) HP.out HU.out HK.out).mono ?_
  rintro e w1 ⟨rfl, hb⟩
  have HB := Lib.hid hb
  clear hb
  go_wp2_with fail
  refine (l04Ok_is (T := false) (HG.out.on HB.out) (HV.out.on HB.out) HK2.out).mono ?_
  rintro e w2 ⟨rfl, hb⟩
  have HB := Lib.hid (HB.out.trans (hb.mono HB.out.size))
  clear hb
  go_wp2_with fail
  go_ret
  exact ⟨rfl, HB.out⟩
set_option maxRecDepth 100000 in
set_option maxHeartbeats 3200000 in
theorem l04Two_p {p n q m : Int} {L G : Nat} {u v : Value} {xx yy : List (List Int)} {w : World} (hp : PtV w L p n u) (hg : PtV w G q m v) (hu : RowsD w u xx) (hv : RowsD w v yy) (h1 : true = vB p n xx) (h2 : true = vB q m yy) (e0 : (p != q) = true) :
    Calls Try.prog 74 #[.pointer (some ⟨L, 0, none⟩), .pointer (some ⟨G, 0, none⟩)] w fun e w' => e = .returned (.int .i64 6) ∧ Below w.heap.size w w' := by
  have HU := Lib.hid hu
  have HV := Lib.hid hv
  have HP := Lib.hid hp
  have HG := Lib.hid hg
  have HK := Lib.hid h1
  have HK2 := Lib.hid h2
  clear hp hg hu hv h1 h2
  go_enter Try.func74, Try.ntmps74
  go_wp2_with fail
  refine (l04Ok_is (T := true) HP.out HU.out HK.out).mono ?_
  rintro e w1 ⟨rfl, hb⟩
  have HB := Lib.hid hb
  clear hb
  go_wp2_with fail
  refine (l04Ok_is (T := true) (HG.out.on HB.out) (HV.out.on HB.out) HK2.out).mono ?_
  rintro e w2 ⟨rfl, hb⟩
  have HB := Lib.hid (HB.out.trans (hb.mono HB.out.size))
  clear hb
  obtain ⟨lA, x0, x1, x2⟩ := HP.out.on HB.out
  obtain ⟨lB, y0, y1, y2⟩ := HG.out.on HB.out
  go_wp2_with fail
  go_quiet (fail)
  go_wp2_with fail
  go_ret
  exact ⟨rfl, below_drewX HB.out _⟩
set_option maxRecDepth 100000 in
set_option maxHeartbeats 3200000 in
theorem l04Two_n {p n q m : Int} {L G : Nat} {u v : Value} {xx yy : List (List Int)} {w : World} (hp : PtV w L p n u) (hg : PtV w G q m v) (hu : RowsD w u xx) (hv : RowsD w v yy) (h1 : true = vB p n xx) (h2 : true = vB q m yy) (e0 : (p != q) = false) (e1 : (n != m) = true) :
    Calls Try.prog 74 #[.pointer (some ⟨L, 0, none⟩), .pointer (some ⟨G, 0, none⟩)] w fun e w' => e = .returned (.int .i64 6) ∧ Below w.heap.size w w' := by
  have HU := Lib.hid hu
  have HV := Lib.hid hv
  have HP := Lib.hid hp
  have HG := Lib.hid hg
  have HK := Lib.hid h1
  have HK2 := Lib.hid h2
  clear hp hg hu hv h1 h2
  go_enter Try.func74, Try.ntmps74
  go_wp2_with fail
  refine (l04Ok_is (T := true) HP.out HU.out HK.out).mono ?_
  rintro e w1 ⟨rfl, hb⟩
  have HB := Lib.hid hb
  clear hb
  go_wp2_with fail
  refine (l04Ok_is (T := true) (HG.out.on HB.out) (HV.out.on HB.out) HK2.out).mono ?_
  rintro e w2 ⟨rfl, hb⟩
  have HB := Lib.hid (HB.out.trans (hb.mono HB.out.size))
  clear hb
  obtain ⟨lA, x0, x1, x2⟩ := HP.out.on HB.out
  obtain ⟨lB, y0, y1, y2⟩ := HG.out.on HB.out
  go_wp2_with fail
  go_quiet (fail)
  go_wp2_with fail
  go_ret
  exact ⟨rfl, below_drewX HB.out _⟩
set_option maxRecDepth 100000 in
set_option maxHeartbeats 3200000 in
theorem l04Two_o {p n q m : Int} {L G : Nat} {u v : Value} {xx yy : List (List Int)} {w : World} (hp : PtV w L p n u) (hg : PtV w G q m v) (hu : RowsD w u xx) (hv : RowsD w v yy) (h1 : true = vB p n xx) (h2 : true = vB q m yy) (e0 : (p != q) = false) (e1 : (n != m) = false) :
    Calls Try.prog 74 #[.pointer (some ⟨L, 0, none⟩), .pointer (some ⟨G, 0, none⟩)] w fun e w' => e = .returned (.int .i64 0) ∧ Below w.heap.size w w' := by
  have HU := Lib.hid hu
  have HV := Lib.hid hv
  have HP := Lib.hid hp
  have HG := Lib.hid hg
  have HK := Lib.hid h1
  have HK2 := Lib.hid h2
  clear hp hg hu hv h1 h2
  go_enter Try.func74, Try.ntmps74
  go_wp2_with fail
  refine (l04Ok_is (T := true) HP.out HU.out HK.out).mono ?_
  rintro e w1 ⟨rfl, hb⟩
  have HB := Lib.hid hb
  clear hb
  go_wp2_with fail
  refine (l04Ok_is (T := true) (HG.out.on HB.out) (HV.out.on HB.out) HK2.out).mono ?_
  rintro e w2 ⟨rfl, hb⟩
  have HB := Lib.hid (HB.out.trans (hb.mono HB.out.size))
  clear hb
  obtain ⟨lA, x0, x1, x2⟩ := HP.out.on HB.out
  obtain ⟨lB, y0, y1, y2⟩ := HG.out.on HB.out
  go_wp2_with fail
  go_quiet (fail)
  go_wp2_with fail
  go_ret
  exact ⟨rfl, below_drewX HB.out _⟩
theorem l04Two_is {p n q m k : Int} {L G : Nat} {u v : Value} {xx yy : List (List Int)} {w : World} (hp : PtV w L p n u) (hg : PtV w G q m v) (hu : RowsD w u xx) (hv : RowsD w v yy) (h : TwoK p n xx q m yy k) :
    Calls Try.prog 74 #[.pointer (some ⟨L, 0, none⟩), .pointer (some ⟨G, 0, none⟩)] w fun e w' => e = .returned (.int .i64 k) ∧ Below w.heap.size w w' := by
  rcases h with ⟨h, rfl⟩ | ⟨h1, h2, h, rfl⟩ | ⟨h1, h2, rfl, rfl, rfl⟩
  · by_cases h1 : VOk p n xx
    · exact l04Two_b hp hg hu hv (vB_yes h1).symm (vB_no fun h2 => h ⟨h1, h2⟩).symm
    · exact l04Two_a hp hg hu hv (vB_no h1).symm
  · by_cases e : p = q
    · exact l04Two_n hp hg hu hv (vB_yes h1).symm (vB_yes h2).symm (by simpa using e) (by simpa using fun e2 => h ⟨e, e2⟩)
    · exact l04Two_p hp hg hu hv (vB_yes h1).symm (vB_yes h2).symm (by simpa using e)
  · exact l04Two_o hp hg hu hv (vB_yes h1).symm (vB_yes h2).symm (by simp) (by simp)
end Go.Proofs.Ytpimnngomodnhaa
