/-
  What chains, antichains and ideals ask of an element of a set.
-/
import Derived.Test.YtdihcmohpbgmmaaDoorPsO
namespace Go.Proofs.YtdihcmohpbgmmaaDoor
open Go.RowKit
set_option linter.unusedVariables false
set_option linter.unusedSimpArgs false

set_option maxRecDepth 100000 in
theorem related_is {N a : Nat} {lo up : Nat → Nat} {w : World} (ha : a < 12) (hl : lo a < 65536) (hu : up a < 65536) :
    Calls Tryd.prog 147 #[ordV N lo up, .int .i64 (a : Int)] w fun e w' => e = .returned (.int .u16 ((up a ||| lo a : Nat) : Int)) ∧ Below w.heap.size w w' := by
  have P0 : Hid (PtO (w.alloc (.cells (ordC N lo up).toArray 64)) w.heap.size N lo up) := PtO.new w N lo up 64
  have B0 : Hid (Below w.heap.size w (w.alloc (.cells (ordC N lo up).toArray 64))) := (Below.refl _ w).alloc (Nat.le_refl _) _
  have q1 := P0.out.2.2.2 a ha
  have q2 := P0.out.2.2.1 a ha
  have hor := or_u16n hu hl
  have a0 : 0 ≤ (a : Int) := by omega
  have a1 : (a : Int) < 12 := by omega
  unfold ordV
  obtain ⟨cs, hcs⟩ : ∃ cs, ordC N lo up = cs := ⟨_, rfl⟩
  have HCS := Lib.hid hcs
  rw [hcs] at P0 B0 ⊢
  clear hcs
  rw [HCS.out] at q1 q2
  generalize up a = ua at q1 hor ⊢
  generalize lo a = la at q2 hor ⊢
  go_enter Tryd.func147, Tryd.ntmps147
  go_wp2_with fail
  go_quiet (fail)
  go_wp2_with fail
  go_ret
  exact ⟨rfl, below_drewP B0.out _⟩
set_option maxRecDepth 100000 in
theorem chFits_is {N a s : Nat} {lo up : Nat → Nat} {T : Bool} {w : World} (ha : a < 12) (hl : lo a < 65536) (hu : up a < 65536) (hs : s < 65536) (hT : T = true ↔ s &&& (65535 - (up a ||| lo a)) = 0) :
    Calls Tryd.prog 146 #[ordV N lo up, .int .i64 (a : Int), .int .u16 (s : Int)] w fun e w' => e = .returned (.bool T) ∧ Below w.heap.size w w' := by
  have P0 : Hid (PtO (w.alloc (.cells (ordC N lo up).toArray 80)) w.heap.size N lo up) := PtO.new w N lo up 80
  have B0 : Hid (Below w.heap.size w (w.alloc (.cells (ordC N lo up).toArray 80))) := (Below.refl _ w).alloc (Nat.le_refl _) _
  have hul : up a ||| lo a < 65536 := Nat.or_lt_two_pow (n := 16) hu hl
  have han := andnot_u16 hs hul
  have HE : Hid ((((s &&& (65535 - (up a ||| lo a)) : Nat) : Int) == 0) = T) := by
    show _ = _
    cases T with
    | true => rw [hT.1 rfl]; rfl
    | false => rw [beq_eq_false_iff_ne]; intro h; have := hT.2 (by omega); simp at this
  have HI := Lib.hid (ord_size2 N lo up)
  have HL : Hid (lo a < 65536) := hl
  have HU : Hid (up a < 65536) := hu
  clear hT hl hu
  unfold ordV
  obtain ⟨cs, hcs⟩ : ∃ cs, ordC N lo up = cs := ⟨_, rfl⟩
  have HCS := Lib.hid hcs
  rw [hcs] at P0 B0 ⊢
  clear hcs
  go_enter Tryd.func146, Tryd.ntmps146
  go_wp2_with (first | (refine wpList_load_mid rfl 64 (.tmp 8) rfl w.heap.size 0 rfl (ordC N lo up) _ P0.out.range Tryd.underlying64 rfl HI.out ?_) | (go_at_call 147; refine (related_is (N := N) (lo := lo) (up := up) (a := a) ha HL.out HU.out).mono ?_; rintro e w3 ⟨rfl, hb3⟩; have HB3 := Lib.hid (B0.out.trans (hb3.mono B0.out.size)); clear hb3) | (go_at_call 70; refine (setOf_none _).mono ?_; rintro e w5 ⟨rfl, rfl⟩))
  have HE2 := HE.out
  simp only [HE2]
  go_ret
  exact ⟨rfl, HB3.out⟩
set_option maxRecDepth 100000 in
theorem anFits_is {N a s : Nat} {lo up : Nat → Nat} {T : Bool} {w : World} (ha : a < 12) (hl : lo a < 65536) (hu : up a < 65536) (hs : s < 65536) (hT : T = true ↔ s &&& (up a ||| lo a) = 1 <<< a) :
    Calls Tryd.prog 148 #[ordV N lo up, .int .i64 (a : Int), .int .u16 (s : Int)] w fun e w' => e = .returned (.bool T) ∧ Below w.heap.size w w' := by
  have P0 : Hid (PtO (w.alloc (.cells (ordC N lo up).toArray 81)) w.heap.size N lo up) := PtO.new w N lo up 81
  have B0 : Hid (Below w.heap.size w (w.alloc (.cells (ordC N lo up).toArray 81))) := (Below.refl _ w).alloc (Nat.le_refl _) _
  have hul : up a ||| lo a < 65536 := Nat.or_lt_two_pow (n := 16) hu hl
  have han := and_u16 hs hul
  have HE : Hid ((((s &&& (up a ||| lo a) : Nat) : Int) == ((maskOf [(a : Int)] : Nat) : Int)) = T) := by
    show _ = _
    rw [maskOf_one]
    cases T with
    | true => rw [hT.1 rfl]; simp
    | false => rw [beq_eq_false_iff_ne]; intro h; have := hT.2 (by exact_mod_cast h); simp at this
  have HI := Lib.hid (ord_size2 N lo up)
  have HL : Hid (lo a < 65536) := hl
  have HU : Hid (up a < 65536) := hu
  have a0 : 0 ≤ (a : Int) := by omega
  clear hT hl hu
  unfold ordV
  obtain ⟨cs, hcs⟩ : ∃ cs, ordC N lo up = cs := ⟨_, rfl⟩
  have HCS := Lib.hid hcs
  rw [hcs] at P0 B0 ⊢
  clear hcs
  go_enter Tryd.func148, Tryd.ntmps148
  go_wp2_with (first | (refine wpList_load_mid rfl 64 (.tmp 8) rfl w.heap.size 0 rfl (ordC N lo up) _ P0.out.range Tryd.underlying64 rfl HI.out ?_) | (go_at_call 147; refine (related_is (N := N) (lo := lo) (up := up) (a := a) ha HL.out HU.out).mono ?_; rintro e w3 ⟨rfl, hb3⟩; have HB3 := Lib.hid (B0.out.trans (hb3.mono B0.out.size)); clear hb3) | (go_at_call 70; refine (setOf_gen (l := [(a : Int)]) (by simp) (by intro v hv; simp at hv; subst hv; exact ⟨a0, by omega⟩) (cells_one _ _ _)).mono ?_; rintro e w5 ⟨rfl, rfl⟩))
  have HE2 := HE.out
  simp only [HE2]
  go_ret
  exact ⟨rfl, al1 HB3.out _⟩
set_option maxRecDepth 100000 in
theorem idFits_is {N a s : Nat} {lo up : Nat → Nat} {T : Bool} {w : World} (ha : a < 12) (hl : lo a < 65536) (hs : s < 65536) (hT : T = true ↔ lo a &&& (65535 - s) = 0) :
    Calls Tryd.prog 149 #[ordV N lo up, .int .i64 (a : Int), .int .u16 (s : Int)] w fun e w' => e = .returned (.bool T) ∧ Below w.heap.size w w' := by
  have P0 : Hid (PtO (w.alloc (.cells (ordC N lo up).toArray 86)) w.heap.size N lo up) := PtO.new w N lo up 86
  have B0 : Hid (Below w.heap.size w (w.alloc (.cells (ordC N lo up).toArray 86))) := (Below.refl _ w).alloc (Nat.le_refl _) _
  have q2 := P0.out.2.2.1 a ha
  have han := andnot_u16 hl hs
  have HE : Hid ((((lo a &&& (65535 - s) : Nat) : Int) == 0) = T) := by
    show _ = _
    cases T with
    | true => rw [hT.1 rfl]; rfl
    | false => rw [beq_eq_false_iff_ne]; intro h; have := hT.2 (by omega); simp at this
  have a0 : 0 ≤ (a : Int) := by omega
  have a1 : (a : Int) < 12 := by omega
  clear hT
  unfold ordV
  obtain ⟨cs, hcs⟩ : ∃ cs, ordC N lo up = cs := ⟨_, rfl⟩
  have HCS := Lib.hid hcs
  rw [hcs] at P0 B0 ⊢
  clear hcs
  rw [HCS.out] at q2
  generalize lo a = la at q2 han HE
  have HE2 := HE.out
  go_enter Tryd.func149, Tryd.ntmps149
  go_wp2_with fail
  go_quiet ((go_at_call 70; exact Calls.quiet_of_same ((setOf_none _).mono fun _ _ ⟨a, b⟩ => ⟨a, b.symm⟩)))
  go_wp2_with fail
  go_ret
  exact ⟨by first | rfl | (simp only [HE2]), below_drewP B0.out _⟩
end Go.Proofs.YtdihcmohpbgmmaaDoor
