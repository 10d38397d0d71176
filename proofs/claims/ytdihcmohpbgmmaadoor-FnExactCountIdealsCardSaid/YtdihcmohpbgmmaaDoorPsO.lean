/-
  ValidPoset, orderOf and isBelow of the program.
-/
import Derived.Test.YtdihcmohpbgmmaaDoorPsN
namespace Go.Proofs.YtdihcmohpbgmmaaDoor
open Go.RowKit
set_option linter.unusedVariables false
set_option linter.unusedSimpArgs false

theorem tot_two : ∀ L : List (List Int), (∀ p ∈ L, p.length = 2) → tot L = 2 * L.length := fun L => by
  induction L with
  | nil => intro _; rfl
  | cons x xs ih =>
    intro h
    have h1 := h x (by simp)
    have h2 := ih fun p hp => h p (by simp [hp])
    simp only [tot, List.length_cons, h1, h2]; omega
theorem PofIs.fitR {n : Int} {zz : List (List Int)} {m : Int} {yy : List (List Int)} {c : Int} (h : PofIs n zz m yy c) : FitR yy := by
  have hl := h.fit
  refine ⟨by omega, ?_⟩
  have h2 : ∀ p ∈ yy, p.length = 2 := by
    rcases h with ⟨_, _, rfl, _⟩ | ⟨N, _, _, _, ⟨_, _, rfl, _⟩ | ⟨_, _, _, rfl, _⟩ | ⟨_, _, _, rfl, _⟩⟩
    · intro p hp; simp at hp
    · intro p hp; simp at hp
    · intro p hp; simp at hp
    · intro p hp; obtain ⟨a, b, _, _, _, rfl⟩ := mem_covL.1 hp; rfl
  rw [tot_two _ h2]; omega
theorem implPof_L {n : Int} {v : Value} {zz : List (List Int)} {m : Int} {yy : List (List Int)} {k : Int} {w : World} (hv : RowsAt w v zz) (h : PofIs n zz m yy k) (hTz : Tz w) :
    Calls Tryd.prog 23 #[.int .i64 n, v] w fun e w' => RetPI m yy k w e w' := implPof_is hTz hv h
set_option maxRecDepth 100000 in
set_option maxHeartbeats 1600000 in
theorem implVP_is {n : Int} {v : Value} {zz : List (List Int)} {T : Bool} {w : World} (hv : RowsAt w v zz) (hT : OkPIs n zz T) (hTz : Tz w) :
    Calls Tryd.prog 18 #[.agg #[.int .i64 n, v]] w fun e w' => e = .returned (.bool T) ∧ Below w.heap.size w w' := by
  obtain ⟨m, yy, c, hp⟩ := pof_has n zz
  have HP := Lib.hid hp
  have HF := Lib.hid hp.fitR
  have HOK : Hid (T = true ↔ (c = 0 ∧ m = n ∧ yy = zz)) := by
    show _ ↔ _
    rw [← okP_pof hp]
    rcases hT with ⟨rfl, h⟩ | ⟨rfl, h⟩
    · simp [h]
    · simp [h]
  have HV := Lib.hid hv
  have TZ := Lib.hid hTz
  obtain ⟨va, vc, rfl⟩ := hv.slice
  have P0 : Hid (PtP (w.alloc (.cells #[.int .i64 n, .slice va zz.length vc] 27)) w.heap.size n (.slice va zz.length vc)) := PtP.new _ _ _ _
  have B0 : Hid (Below w.heap.size w (w.alloc (.cells #[.int .i64 n, .slice va zz.length vc] 27))) := al1 (Below.refl _ _) _
  clear hp hT hv hTz
  go_enter Tryd.func18, Tryd.ntmps18
  go_wp2_with fail
  generalize (w.alloc (.cells #[.int .i64 n, .slice va zz.length vc] 27)) = W0 at P0 B0 ⊢
  refine (implPof_is (TZ.out.on B0.out) (HV.out.on B0.out) HP.out).mono ?_
  rintro e w1 ⟨v1, rfl, ho, hb⟩
  have HO := Lib.hid (ho.at HF.out)
  obtain ⟨oa, oc, rfl⟩ := ho.slice
  have HB := Lib.hid (B0.out.trans (hb.mono B0.out.size))
  have HP1 := Lib.hid (P0.out.on hb)
  have AL : Hid (Below w1.heap.size w1 (w1.alloc (.cells #[.int .i64 m, .slice oa yy.length oc] 27))) := al1 (Below.refl _ _) _
  have PA := Lib.hid (HP1.out.on AL.out)
  have PN : Hid (PtP (w1.alloc (.cells #[.int .i64 m, .slice oa yy.length oc] 27)) w1.heap.size m (.slice oa yy.length oc)) := PtP.new _ _ _ _
  have HOA := Lib.hid (HO.out.on AL.out)
  have HVA := Lib.hid (HV.out.on (HB.out.trans (AL.out.mono HB.out.size)))
  have HBA := Lib.hid (HB.out.trans (AL.out.mono HB.out.size))
  clear ho hb
  by_cases hc : c = 0
  · have hs : T = samB m yy n zz := by
      unfold samB eqRB
      cases T with
      | true => obtain ⟨_, h1, h2⟩ := HOK.out.1 rfl; simp [h1, h2]
      | false =>
        by_cases h : m = n ∧ yy = zz
        · have := HOK.out.2 ⟨hc, h⟩; simp at this
        · rw [eq_comm, ← Bool.not_eq_true]
          simp only [Bool.and_eq_true, decide_eq_true_eq]
          exact h
    have HS := Lib.hid hs
    subst hc
    clear hs
    obtain ⟨_, a0, a1⟩ := PA.out
    obtain ⟨_, n0, n1⟩ := PN.out
    go_wp2_with (go_at_call 53; refine (implSP_is HOA.out HVA.out HS.out).mono ?_; rintro e w3 ⟨rfl, hb3⟩; have HB3 := Lib.hid (HBA.out.trans (hb3.mono HBA.out.size)); clear hb3)
    go_ret
    exact ⟨rfl, HB3.out⟩
  · have e0 : (c == 0) = false := by simpa using hc
    obtain rfl : T = false := by
      cases T with
      | false => rfl
      | true => exact absurd (HOK.out.1 rfl).1 hc
    clear hc
    go_wp2_with fail
    go_ret
    exact ⟨rfl, HBA.out⟩
/-! ### The order of a poset -/
def RetOO (es : List (Nat × Nat)) (N : Nat) (w : World) (e : Ending) (w' : World) : Prop := ∃ lo up, e = .returned (.tuple #[ordV N lo up, .int .i64 0]) ∧ OrdIs es N lo up ∧ Below w.heap.size w w'
def RetO0 (w : World) (e : Ending) (w' : World) : Prop := e = .returned (.tuple #[.agg #[.int .i64 0, .int .u16 0, .int .u16 0, .int .u16 0, .int .u16 0, .int .u16 0, .int .u16 0, .int .u16 0, .int .u16 0, .int .u16 0, .int .u16 0, .int .u16 0, .int .u16 0, .int .u16 0, .int .u16 0, .int .u16 0, .int .u16 0, .int .u16 0, .int .u16 0, .int .u16 0, .int .u16 0, .int .u16 0, .int .u16 0, .int .u16 0, .int .u16 0], .int .i64 1]) ∧ Below w.heap.size w w'
set_option maxRecDepth 100000 in
set_option maxHeartbeats 1600000 in
theorem orderOf_no {n : Int} {v : Value} {zz : List (List Int)} {w : World} (hv : RowsAt w v zz) (h : ¬ OkP n zz) (hTz : Tz w) :
    Calls Tryd.prog 67 #[.agg #[.int .i64 n, v]] w fun e w' => RetO0 w e w' := by
  have HV := Lib.hid hv
  have TZ := Lib.hid hTz
  have HH : Hid (OkPIs n zz false) := .inr ⟨rfl, h⟩
  obtain ⟨va, vc, rfl⟩ := hv.slice
  obtain ⟨NN, hNN⟩ : ∃ NN : Int, n = NN := ⟨_, rfl⟩
  have HNN := Lib.hid hNN
  rw [hNN] at HH ⊢
  have B1 : Hid (Below w.heap.size w (w.alloc (.cells #[.int .i64 NN, .slice va zz.length vc] 27))) := al1 (Below.refl _ _) _
  have P0 : Hid (PtP ((w.alloc (.cells #[.int .i64 NN, .slice va zz.length vc] 27)).alloc (.cells #[.int .i64 0, .int .u16 0, .int .u16 0, .int .u16 0, .int .u16 0, .int .u16 0, .int .u16 0, .int .u16 0, .int .u16 0, .int .u16 0, .int .u16 0, .int .u16 0, .int .u16 0, .int .u16 0, .int .u16 0, .int .u16 0, .int .u16 0, .int .u16 0, .int .u16 0, .int .u16 0, .int .u16 0, .int .u16 0, .int .u16 0, .int .u16 0, .int .u16 0] 64)) w.heap.size NN (.slice va zz.length vc)) := PtP.new1 _ _ _ _ _
  have PR : Hid (PtO ((w.alloc (.cells #[.int .i64 NN, .slice va zz.length vc] 27)).alloc (.cells #[.int .i64 0, .int .u16 0, .int .u16 0, .int .u16 0, .int .u16 0, .int .u16 0, .int .u16 0, .int .u16 0, .int .u16 0, .int .u16 0, .int .u16 0, .int .u16 0, .int .u16 0, .int .u16 0, .int .u16 0, .int .u16 0, .int .u16 0, .int .u16 0, .int .u16 0, .int .u16 0, .int .u16 0, .int .u16 0, .int .u16 0, .int .u16 0, .int .u16 0] 64)) (w.heap.size + 1) 0 (fun _ => 0) (fun _ => 0)) := by
    have h := PtO.new (w.alloc (.cells #[.int .i64 NN, .slice va zz.length vc] 27)) 0 (fun _ => 0) (fun _ => 0) 64
    rw [World.size_alloc] at h
    exact h
  have FR : Hid (Fz ((w.alloc (.cells #[.int .i64 NN, .slice va zz.length vc] 27)).alloc (.cells #[.int .i64 0, .int .u16 0, .int .u16 0, .int .u16 0, .int .u16 0, .int .u16 0, .int .u16 0, .int .u16 0, .int .u16 0, .int .u16 0, .int .u16 0, .int .u16 0, .int .u16 0, .int .u16 0, .int .u16 0, .int .u16 0, .int .u16 0, .int .u16 0, .int .u16 0, .int .u16 0, .int .u16 0, .int .u16 0, .int .u16 0, .int .u16 0, .int .u16 0] 64)) (w.heap.size + 1)) := by
    have h := Fz.new (w.alloc (.cells #[.int .i64 NN, .slice va zz.length vc] 27)) #[.int .i64 0, .int .u16 0, .int .u16 0, .int .u16 0, .int .u16 0, .int .u16 0, .int .u16 0, .int .u16 0, .int .u16 0, .int .u16 0, .int .u16 0, .int .u16 0, .int .u16 0, .int .u16 0, .int .u16 0, .int .u16 0, .int .u16 0, .int .u16 0, .int .u16 0, .int .u16 0, .int .u16 0, .int .u16 0, .int .u16 0, .int .u16 0, .int .u16 0] 64
    rw [World.size_alloc] at h
    exact h
  have B0 : Hid (Below w.heap.size w ((w.alloc (.cells #[.int .i64 NN, .slice va zz.length vc] 27)).alloc (.cells #[.int .i64 0, .int .u16 0, .int .u16 0, .int .u16 0, .int .u16 0, .int .u16 0, .int .u16 0, .int .u16 0, .int .u16 0, .int .u16 0, .int .u16 0, .int .u16 0, .int .u16 0, .int .u16 0, .int .u16 0, .int .u16 0, .int .u16 0, .int .u16 0, .int .u16 0, .int .u16 0, .int .u16 0, .int .u16 0, .int .u16 0, .int .u16 0, .int .u16 0] 64))) := al1 B1.out _
  clear hv hTz hNN B1
  go_enter Tryd.func67, Tryd.ntmps67
  go_wp2_with (go_at_call 18; refine Hid.out ?_)
  refine Lib.hid ?_
  generalize ((w.alloc (.cells #[.int .i64 NN, .slice va zz.length vc] 27)).alloc (.cells #[.int .i64 0, .int .u16 0, .int .u16 0, .int .u16 0, .int .u16 0, .int .u16 0, .int .u16 0, .int .u16 0, .int .u16 0, .int .u16 0, .int .u16 0, .int .u16 0, .int .u16 0, .int .u16 0, .int .u16 0, .int .u16 0, .int .u16 0, .int .u16 0, .int .u16 0, .int .u16 0, .int .u16 0, .int .u16 0, .int .u16 0, .int .u16 0, .int .u16 0] 64)) = W0 at P0 PR FR B0 ⊢
  refine (implVP_is (HV.out.on B0.out) HH.out (TZ.out.on B0.out)).mono ?_
  rintro e w1 ⟨rfl, hb⟩
  have hbe := B0.out.size
  have hsl : w.heap.size + 1 < W0.heap.size := PR.out.1
  have HB := Lib.hid (B0.out.trans (hb.mono B0.out.size))
  have P1 := Lib.hid (P0.out.on hb)
  have PR1 := Lib.hid (PR.out.on hb)
  have FR1 : Hid (Fz w1 (w.heap.size + 1)) := Fz.on FR.out PR.out.1 hb
  clear hb P0 PR FR
  have PR2 := PR1
  have FR2 := FR1
  have HBW := HB
  obtain ⟨cl, hcl⟩ : ∃ cl, ordC 0 (fun _ => 0) (fun _ => 0) = cl := ⟨_, rfl⟩
  have HTR : Hid (w1.there (w.heap.size + 1) 0 cl.toArray.size) := by
    show World.there _ _ _ _
    have : cl.toArray.size = 25 := by rw [← hcl, List.size_toArray, ordC_len]
    rw [this]; exact PR2.out.there FR2.out
  have HI1 : Hid ((Tryd.prog.info? 64).map (·.size) = some cl.toArray.size) := by show _ = _; rw [← hcl]; exact ord_size _ _ _
  have HI2 : Hid ((Tryd.prog.info? 64).map (·.size) = some cl.length) := by show _ = _; rw [← hcl]; exact ord_size2 _ _ _
  have HON : Hid (cl.toArray.all (·.oneCell') = true) := by show _ = _; rw [← hcl]; exact ord_one _ _ _
  have HRG : Hid ((w1.setCells (w.heap.size + 1) 0 cl).rangeAt (w.heap.size + 1) 0 cl) := World.rangeAt_setCells_same _ _ _ _ (by have := HTR.out; rw [List.size_toArray] at this; exact this)
  have HB2 : Hid (Below w.heap.size w (w1.setCells (w.heap.size + 1) 0 cl)) := below_setCells _ _ _ _ (by omega) HBW.out
  have HCL : Hid (cl.toArray = #[.int .i64 0, .int .u16 0, .int .u16 0, .int .u16 0, .int .u16 0, .int .u16 0, .int .u16 0, .int .u16 0, .int .u16 0, .int .u16 0, .int .u16 0, .int .u16 0, .int .u16 0, .int .u16 0, .int .u16 0, .int .u16 0, .int .u16 0, .int .u16 0, .int .u16 0, .int .u16 0, .int .u16 0, .int .u16 0, .int .u16 0, .int .u16 0, .int .u16 0]) := by show _ = _; rw [← hcl]; rfl
  have HSL : Hid ((.agg #[.int .i64 0, .int .u16 0, .int .u16 0, .int .u16 0, .int .u16 0, .int .u16 0, .int .u16 0, .int .u16 0, .int .u16 0, .int .u16 0, .int .u16 0, .int .u16 0, .int .u16 0, .int .u16 0, .int .u16 0, .int .u16 0, .int .u16 0, .int .u16 0, .int .u16 0, .int .u16 0, .int .u16 0, .int .u16 0, .int .u16 0, .int .u16 0, .int .u16 0] : Value) = .agg cl.toArray) := by show _ = _; rw [HCL.out]
  clear hcl
  go_wp2_with (refine wpList_store_mid rfl 64 (.tmp 2) (.tmp 7) rfl (w.heap.size + 1) 0 cl.toArray rfl ?_ ?_ HI1.out HON.out ?_; exact HSL.out; exact HTR.out; refine Hid.out ?_)
  refine Lib.hid ?_
  try rw [show cl.toArray.toList = cl from rfl]
  go_wp2_with fail
  have hld := run_loadVar_mid (P := Tryd.prog) _ _ _ 64 cl _ HRG.out Tryd.underlying64 rfl HI2.out
  refine bodyPost_ret (v := .tuple #[.agg cl.toArray, .int .i64 1]) (by simp [results, Tryd.results67, asAddr, hld]) rfl ⟨by rw [HCL.out], HB2.out⟩
set_option maxRecDepth 100000 in
set_option maxHeartbeats 1600000 in
theorem orderOf_ok {N : Nat} {v : Value} {zz : List (List Int)} {w : World} (hv : RowsAt w v zz) (h : OkP (N : Int) zz) (hTz : Tz w) :
    Calls Tryd.prog 67 #[.agg #[.int .i64 (N : Int), v]] w fun e w' => RetOO (esP zz) N w e w' := by
  have HV := Lib.hid hv
  have TZ := Lib.hid hTz
  have HH : Hid (OkPIs (N : Int) zz true) := .inl ⟨rfl, h⟩
  obtain ⟨va, vc, rfl⟩ := hv.slice
  obtain ⟨NN, hNN⟩ : ∃ NN : Int, (N : Int) = NN := ⟨_, rfl⟩
  have HNN := Lib.hid hNN
  rw [hNN] at HH ⊢
  have B1 : Hid (Below w.heap.size w (w.alloc (.cells #[.int .i64 NN, .slice va zz.length vc] 27))) := al1 (Below.refl _ _) _
  have P0 : Hid (PtP ((w.alloc (.cells #[.int .i64 NN, .slice va zz.length vc] 27)).alloc (.cells #[.int .i64 0, .int .u16 0, .int .u16 0, .int .u16 0, .int .u16 0, .int .u16 0, .int .u16 0, .int .u16 0, .int .u16 0, .int .u16 0, .int .u16 0, .int .u16 0, .int .u16 0, .int .u16 0, .int .u16 0, .int .u16 0, .int .u16 0, .int .u16 0, .int .u16 0, .int .u16 0, .int .u16 0, .int .u16 0, .int .u16 0, .int .u16 0, .int .u16 0] 64)) w.heap.size NN (.slice va zz.length vc)) := PtP.new1 _ _ _ _ _
  have PR : Hid (PtO ((w.alloc (.cells #[.int .i64 NN, .slice va zz.length vc] 27)).alloc (.cells #[.int .i64 0, .int .u16 0, .int .u16 0, .int .u16 0, .int .u16 0, .int .u16 0, .int .u16 0, .int .u16 0, .int .u16 0, .int .u16 0, .int .u16 0, .int .u16 0, .int .u16 0, .int .u16 0, .int .u16 0, .int .u16 0, .int .u16 0, .int .u16 0, .int .u16 0, .int .u16 0, .int .u16 0, .int .u16 0, .int .u16 0, .int .u16 0, .int .u16 0] 64)) (w.heap.size + 1) 0 (fun _ => 0) (fun _ => 0)) := by
    have h := PtO.new (w.alloc (.cells #[.int .i64 NN, .slice va zz.length vc] 27)) 0 (fun _ => 0) (fun _ => 0) 64
    rw [World.size_alloc] at h
    exact h
  have FR : Hid (Fz ((w.alloc (.cells #[.int .i64 NN, .slice va zz.length vc] 27)).alloc (.cells #[.int .i64 0, .int .u16 0, .int .u16 0, .int .u16 0, .int .u16 0, .int .u16 0, .int .u16 0, .int .u16 0, .int .u16 0, .int .u16 0, .int .u16 0, .int .u16 0, .int .u16 0, .int .u16 0, .int .u16 0, .int .u16 0, .int .u16 0, .int .u16 0, .int .u16 0, .int .u16 0, .int .u16 0, .int .u16 0, .int .u16 0, .int .u16 0, .int .u16 0] 64)) (w.heap.size + 1)) := by
    have h := Fz.new (w.alloc (.cells #[.int .i64 NN, .slice va zz.length vc] 27)) #[.int .i64 0, .int .u16 0, .int .u16 0, .int .u16 0, .int .u16 0, .int .u16 0, .int .u16 0, .int .u16 0, .int .u16 0, .int .u16 0, .int .u16 0, .int .u16 0, .int .u16 0, .int .u16 0, .int .u16 0, .int .u16 0, .int .u16 0, .int .u16 0, .int .u16 0, .int .u16 0, .int .u16 0, .int .u16 0, .int .u16 0, .int .u16 0, .int .u16 0] 64
    rw [World.size_alloc] at h
    exact h
  have B0 : Hid (Below w.heap.size w ((w.alloc (.cells #[.int .i64 NN, .slice va zz.length vc] 27)).alloc (.cells #[.int .i64 0, .int .u16 0, .int .u16 0, .int .u16 0, .int .u16 0, .int .u16 0, .int .u16 0, .int .u16 0, .int .u16 0, .int .u16 0, .int .u16 0, .int .u16 0, .int .u16 0, .int .u16 0, .int .u16 0, .int .u16 0, .int .u16 0, .int .u16 0, .int .u16 0, .int .u16 0, .int .u16 0, .int .u16 0, .int .u16 0, .int .u16 0, .int .u16 0] 64))) := al1 B1.out _
  clear hv hTz hNN B1
  go_enter Tryd.func67, Tryd.ntmps67
  go_wp2_with (go_at_call 18; refine Hid.out ?_)
  refine Lib.hid ?_
  generalize ((w.alloc (.cells #[.int .i64 NN, .slice va zz.length vc] 27)).alloc (.cells #[.int .i64 0, .int .u16 0, .int .u16 0, .int .u16 0, .int .u16 0, .int .u16 0, .int .u16 0, .int .u16 0, .int .u16 0, .int .u16 0, .int .u16 0, .int .u16 0, .int .u16 0, .int .u16 0, .int .u16 0, .int .u16 0, .int .u16 0, .int .u16 0, .int .u16 0, .int .u16 0, .int .u16 0, .int .u16 0, .int .u16 0, .int .u16 0, .int .u16 0] 64)) = W0 at P0 PR FR B0 ⊢
  refine (implVP_is (HV.out.on B0.out) HH.out (TZ.out.on B0.out)).mono ?_
  rintro e w1 ⟨rfl, hb⟩
  have hbe := B0.out.size
  have hsl : w.heap.size + 1 < W0.heap.size := PR.out.1
  have HB := Lib.hid (B0.out.trans (hb.mono B0.out.size))
  have P1 := Lib.hid (P0.out.on hb)
  have PR1 := Lib.hid (PR.out.on hb)
  have FR1 : Hid (Fz w1 (w.heap.size + 1)) := Fz.on FR.out PR.out.1 hb
  clear hb P0 PR FR
  have HOK := Lib.hid h
  obtain ⟨hN, HPI⟩ : N ≤ 12 ∧ Hid (PairsIn (N : Int) zz) := by
    obtain ⟨M, e, h1, _, h2, _⟩ := h
    obtain rfl : N = M := by omega
    exact ⟨h1, h2⟩
  have HVX := Lib.hid (HV.out.on HB.out)
  have TZX := Lib.hid (TZ.out.on HB.out)
  obtain ⟨_, x0, x1⟩ := P1.out
  clear h
  rw [← HNN.out] at x0
  go_wp2_with fail
  refine (orderBy_any TZX.out hN HVX.out HPI.out).mono ?_
  rintro e w3 ⟨lo, up, rfl, hod, hb3⟩
  have HOD := Lib.hid hod
  have hs1 := HB.out.size
  have HBW := Lib.hid (HB.out.trans (hb3.mono HB.out.size))
  have PR2 := Lib.hid (PR1.out.on hb3)
  have FR2 : Hid (Fz w3 (w.heap.size + 1)) := Fz.on FR1.out PR1.out.1 hb3
  clear hod hb3 x0 x1
  unfold ordV
  obtain ⟨cl, hcl⟩ : ∃ cl, ordC N lo up = cl := ⟨_, rfl⟩
  have HTR : Hid (w3.there (w.heap.size + 1) 0 cl.toArray.size) := by
    show World.there _ _ _ _
    have : cl.toArray.size = 25 := by rw [← hcl, List.size_toArray, ordC_len]
    rw [this]; exact PR2.out.there FR2.out
  have HI1 : Hid ((Tryd.prog.info? 64).map (·.size) = some cl.toArray.size) := by show _ = _; rw [← hcl]; exact ord_size _ _ _
  have HI2 : Hid ((Tryd.prog.info? 64).map (·.size) = some cl.length) := by show _ = _; rw [← hcl]; exact ord_size2 _ _ _
  have HON : Hid (cl.toArray.all (·.oneCell') = true) := by show _ = _; rw [← hcl]; exact ord_one _ _ _
  have HRG : Hid ((w3.setCells (w.heap.size + 1) 0 cl).rangeAt (w.heap.size + 1) 0 cl) := World.rangeAt_setCells_same _ _ _ _ (by have := HTR.out; rw [List.size_toArray] at this; exact this)
  have HB2 : Hid (Below w.heap.size w (w3.setCells (w.heap.size + 1) 0 cl)) := below_setCells _ _ _ _ (by omega) HBW.out
  have HCL := Lib.hid hcl
  simp only [hcl]
  clear hcl
  go_wp2_with (refine wpList_store_mid rfl 64 (.tmp 2) (.tmp 12) rfl (w.heap.size + 1) 0 cl.toArray rfl rfl ?_ HI1.out HON.out ?_; exact HTR.out; refine Hid.out ?_)
  refine Lib.hid ?_
  try rw [show cl.toArray.toList = cl from rfl]
  go_wp2_with fail
  have hld := run_loadVar_mid (P := Tryd.prog) _ _ _ 64 cl _ HRG.out Tryd.underlying64 rfl HI2.out
  refine bodyPost_ret (v := .tuple #[.agg cl.toArray, .int .i64 0]) (by simp [results, Tryd.results67, asAddr, hld]) rfl ⟨lo, up, by rw [← HCL.out]; rfl, HOD.out, HB2.out⟩

/-- What isBelow answers. -/
theorem below_iff {es : List (Nat × Nat)} {N a b : Nat} {lo up : Nat → Nat} (ho : OrdIs es N lo up) (ha : a < N) (hb : b < N) : up a &&& lo b ≠ 0 ↔ Rch es a b := by
  have h := (ho.up a ha).and (ho.lo b hb)
  constructor
  · intro hne
    obtain ⟨i, hi⟩ := Nat.exists_testBit_of_ne_zero hne
    obtain ⟨h1, h2⟩ := (h i).1 hi
    exact h1.trans h2
  · intro hr e
    have := (h a).2 ⟨.refl _, hr⟩
    rw [e] at this
    simp at this
set_option maxRecDepth 100000 in
set_option maxHeartbeats 1600000 in
theorem isBelow_is {es : List (Nat × Nat)} {N a b : Nat} {lo up : Nat → Nat} {T : Bool} {w : World} (hN : N ≤ 12) (hes : ∀ e ∈ es, e.1 < N ∧ e.2 < N) (ho : OrdIs es N lo up) (ha : a < N) (hb : b < N) (hT : T = true ↔ Rch es a b) :
    Calls Tryd.prog 68 #[ordV N lo up, .int .i64 (a : Int), .int .i64 (b : Int)] w fun e w' => e = .returned (.bool T) ∧ Below w.heap.size w w' := by
  have HB : Hid ((((up a &&& lo b : Nat) : Int) != 0) = T) := by
    show _ = _
    have h := below_iff ho ha hb
    cases T with
    | true => rw [bne_iff_ne]; have := h.2 (hT.1 rfl); omega
    | false =>
      have : up a &&& lo b = 0 := Classical.byContradiction fun e => by have := hT.2 (h.1 e); simp at this
      rw [this]; rfl
  have HLT : Hid (lo b < 65536) := by have := ho.ltL hes hN hb; show lo b < 65536; omega
  have HUT : Hid (up a < 65536) := by have := ho.ltU hes hN ha; show up a < 65536; omega
  have HI := Lib.hid (ord_size2 N lo up)
  have P0 : Hid (PtO (w.alloc (.cells (ordC N lo up).toArray 64)) w.heap.size N lo up) := PtO.new w N lo up 64
  have B0 : Hid (Below w.heap.size w (w.alloc (.cells (ordC N lo up).toArray 64))) := (Below.refl _ w).alloc (Nat.le_refl _) _
  clear hT ho hes
  unfold ordV
  obtain ⟨cs, hcs⟩ : ∃ cs, ordC N lo up = cs := ⟨_, rfl⟩
  have HCS := Lib.hid hcs
  rw [hcs] at P0 B0 ⊢
  clear hcs
  go_enter Tryd.func68, Tryd.ntmps68
  go_wp2_with (first | (refine wpList_load_mid rfl 64 (.tmp 3) rfl w.heap.size 0 rfl (ordC N lo up) _ P0.out.range Tryd.underlying64 rfl HI.out ?_) | (go_at_call 85; refine (between_is (N := N) (lo := lo) (up := up) (a := a) (b := b) (by omega) (by omega) HLT.out HUT.out).mono ?_; rintro e w3 ⟨rfl, hb3⟩; have HB3 := Lib.hid (B0.out.trans (hb3.mono B0.out.size)); clear hb3) | (go_at_call 70; refine (setOf_none _).mono ?_; rintro e w5 ⟨rfl, rfl⟩))
  have HB := HB.out
  simp only [HB]
  go_ret
  exact ⟨rfl, HB3.out⟩
end Go.Proofs.YtdihcmohpbgmmaaDoor
