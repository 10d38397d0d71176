/-
  ValidComplex of the model and of the program.
-/
import Derived.Test.YtljmfpifhbfdcaaDoorCyI
namespace Go.Proofs.YtljmfpifhbfdcaaDoor
open Go.RowKit
set_option linter.unusedVariables false
set_option linter.unusedSimpArgs false

theorem okC_clo {zz : List (List Int)} (h : OkC zz) : CloIs zz zz 0 := by
  have e : zz = cloL zz := cloL_is h.1.sim h.1.ord fun x => ⟨fun hx => ⟨x, hx, fun e => by have := (h.1.sim x hx).pos; rw [e] at this; simp at this, List.Sublist.refl x⟩, fun ⟨s, hs, hf⟩ => h.1.clo s hs x hf⟩
  exact .inr (.inr ⟨simsB_iff.2 h.1.sim, h.2, by rw [← e]; exact h.2, e, rfl⟩)
theorem clo_okC {zz yy : List (List Int)} {c : Int} (h : CloIs zz yy c) (h0 : c = 0) : OkC yy := by
  rcases h with ⟨_, _, rfl⟩ | ⟨_, _, _, rfl⟩ | ⟨hv, _, hl, rfl, _⟩
  · cases h0
  · cases h0
  · have hs := simsB_iff.1 hv
    refine ⟨⟨cloL_ord zz, fun z hz => ?_, fun z hz x hx => ?_⟩, hl⟩
    · obtain ⟨s, h1, h2⟩ := (cloL_mem hs).1 hz
      exact (hs s h1).face h2
    · obtain ⟨s, h1, h2⟩ := (cloL_mem hs).1 hz
      exact (cloL_mem hs).2 ⟨s, h1, hx.1, hx.2.trans h2.2⟩
theorem OkC.fit {zz : List (List Int)} (h : OkC zz) : FitR zz := (okC_clo h).fit
set_option maxRecDepth 100000 in
theorem specVal_is {u : Value} {zz : List (List Int)} {T : Bool} {w : World} (hu : RowsQ w u zz) (h : OkIs zz T) :
    Calls Tryd.prog 15 #[.agg #[u]] w fun e w' => e = .returned (.bool T) ∧ Below w.heap.size w w' := by
  have HU := Lib.hid hu
  obtain ⟨a1, c1, rfl, _⟩ := hu
  have HT := Lib.hid h
  clear h
  go_enter Tryd.func15, Tryd.ntmps15
  go_wp2_with fail
  refine (l05Ok_is (PtC.new w _ _) (HU.out.on ((Below.refl _ _).alloc (Nat.le_refl _) _)) HT.out).mono ?_
  rintro e w1 ⟨rfl, hb⟩
  go_wp2_with fail
  go_ret
  exact ⟨rfl, ((Below.refl _ w).alloc (Nat.le_refl _) _).trans (hb.mono (by simp))⟩
set_option maxRecDepth 100000 in
set_option maxHeartbeats 3200000 in
theorem implVal_is {u : Value} {zz : List (List Int)} {T : Bool} {w : World} (hu : RowsAt w u zz) (h : OkIs zz T) (hTz : Tz w) :
    Calls Tryd.prog 17 #[.agg #[u]] w fun e w' => e = .returned (.bool T) ∧ Below w.heap.size w w' := by
  obtain ⟨yy, cc, hC⟩ := clo_has zz
  have HU := Lib.hid hu
  obtain ⟨a1, c1, rfl⟩ := hu.slice
  have HT := Lib.hid h
  have al0 : Below w.heap.size w (w.alloc (.cells #[.slice a1 zz.length c1] 27)) := (Below.refl _ w).alloc (Nat.le_refl _) _
  have P0 := Lib.hid (PtC.new w (.slice a1 zz.length c1) 27)
  have U0 := Lib.hid (HU.out.on al0)
  have AL := Lib.hid al0
  have TZ := Lib.hid (hTz.on AL.out)
  clear h hu al0 hTz
  have HC := Lib.hid hC
  rcases hC with ⟨_, he, rfl⟩ | ⟨_, _, he, rfl⟩ | ⟨_, _, _, he, rfl⟩
  · clear he
    obtain rfl := HT.out.no (fun g => by have := (CloIs.one HC.out (okC_clo g)).2; cases this)
    go_enter Tryd.func17, Tryd.ntmps17
    go_wp2_with fail
    refine (implClo_is U0.out HC.out TZ.out).mono ?_
    rintro e w2 ⟨v, rfl, ho, hb⟩
    obtain ⟨va, vc, rfl⟩ := ho.slice
    have hb4 := hb.alloc hb.size (.cells #[.slice va yy.length vc] 27)
    have p2 := P0.out.on hb
    have pn := p2.ne
    have pn' := Ne.symm pn
    have p4 := p2.2
    have p4' := (P0.out.on hb4).2
    have p5 := (PtC.new w2 (.slice va yy.length vc) 27).2
    have HO4 := Lib.hid (ho.alloc (.cells #[.slice va yy.length vc] 27))
    have HB4 := Lib.hid hb4
    clear ho hb hb4 p2
    go_wp2_with fail
    go_ret
    exact ⟨rfl, AL.out.trans (HB4.out.mono AL.out.size)⟩
  · clear he
    obtain rfl := HT.out.no (fun g => by have := (CloIs.one HC.out (okC_clo g)).2; cases this)
    go_enter Tryd.func17, Tryd.ntmps17
    go_wp2_with fail
    refine (implClo_is U0.out HC.out TZ.out).mono ?_
    rintro e w2 ⟨v, rfl, ho, hb⟩
    obtain ⟨va, vc, rfl⟩ := ho.slice
    have hb4 := hb.alloc hb.size (.cells #[.slice va yy.length vc] 27)
    have p2 := P0.out.on hb
    have pn := p2.ne
    have pn' := Ne.symm pn
    have p4 := p2.2
    have p4' := (P0.out.on hb4).2
    have p5 := (PtC.new w2 (.slice va yy.length vc) 27).2
    have HO4 := Lib.hid (ho.alloc (.cells #[.slice va yy.length vc] 27))
    have HB4 := Lib.hid hb4
    clear ho hb hb4 p2
    go_wp2_with fail
    go_ret
    exact ⟨rfl, AL.out.trans (HB4.out.mono AL.out.size)⟩
  · clear he
    have hfit := HC.out.fit
    have hok := clo_okC HC.out rfl
    have hT : T = eqRB yy zz := by
      by_cases e : yy = zz
      · rw [HT.out.yes (by rw [← e]; exact hok)]; simp [eqRB, e]
      · rw [HT.out.no (fun g => e (CloIs.one HC.out (okC_clo g)).1)]; simp [eqRB, e]
    have HTT := Lib.hid hT
    clear hT hok
    go_enter Tryd.func17, Tryd.ntmps17
    go_wp2_with fail
    refine (implClo_is U0.out HC.out TZ.out).mono ?_
    rintro e w2 ⟨v, rfl, ho, hb⟩
    obtain ⟨va, vc, rfl⟩ := ho.slice
    have hb4 := hb.alloc hb.size (.cells #[.slice va yy.length vc] 27)
    have p2 := P0.out.on hb
    have pn := p2.ne
    have pn' := Ne.symm pn
    have p4 := p2.2
    have p4' := (P0.out.on hb4).2
    have p5 := (PtC.new w2 (.slice va yy.length vc) 27).2
    have HO4 := Lib.hid (ho.alloc (.cells #[.slice va yy.length vc] 27))
    have HB4 := Lib.hid hb4
    clear ho hb hb4 p2
    go_wp2_with fail
    refine (implSC_is (HO4.out.at hfit) (U0.out.on HB4.out) HTT.out).mono ?_
    rintro e w5 ⟨rfl, hb5⟩
    have HB5 := Lib.hid hb5
    clear hb5
    go_wp2_with fail
    go_ret
    exact ⟨rfl, (AL.out.trans (HB4.out.mono AL.out.size)).trans (HB5.out.mono (Nat.le_trans AL.out.size HB4.out.size))⟩
end Go.Proofs.YtljmfpifhbfdcaaDoor
