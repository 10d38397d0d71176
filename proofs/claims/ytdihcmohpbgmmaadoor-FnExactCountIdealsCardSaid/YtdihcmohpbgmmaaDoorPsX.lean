/-
  What the misfit of a set asks: the call of a family's fits.
-/
import Derived.Test.YtdihcmohpbgmmaaDoorPsV
namespace Go.Proofs.YtdihcmohpbgmmaaDoor
open Go.RowKit
set_option linter.unusedVariables false
set_option linter.unusedSimpArgs false

set_option maxRecDepth 100000 in
theorem misfitI_is {N a s F S : Nat} {lo up : Nat → Nat} {T : Bool} {w : World} (hf : w.cell? ⟨F, 0, none⟩ = some (.iface 86 (ordV N lo up))) (hs : w.cell? ⟨S, 0, none⟩ = some (.int .u16 (s : Int))) (ha : a < 12) (hl : lo a < 65536) (hs2 : s < 65536) (hT : T = true ↔ lo a &&& (65535 - s) = 0) :
    Calls Tryd.prog 93 #[.int .i64 (a : Int), .pointer (some ⟨F, 0, none⟩), .pointer (some ⟨S, 0, none⟩)] w fun e w' => e = .returned (.bool (!T)) ∧ Below w.heap.size w w' := by
  have HC : Hid (Calls Tryd.prog 149 #[ordV N lo up, .int .i64 (a : Int), .int .u16 (s : Int)] w fun e w' => e = .returned (.bool T) ∧ Below w.heap.size w w') := idFits_is ha hl hs2 hT
  obtain ⟨v, hv⟩ : ∃ v, ordV N lo up = v := ⟨_, rfl⟩
  rw [hv] at hf HC
  have hm : ∀ w', Sem.run Tryd.prog (method 263 86 v "loop.example/g01005/impl.fits") w' = .ok (149, v) w' := fun w' => by kernel_rfl
  clear hT hl hv
  go_enter Tryd.func93, Tryd.ntmps93
  go_wp2_with fail
  refine HC.out.mono ?_
  rintro e w3 ⟨rfl, hb3⟩
  have HB3 := Lib.hid hb3
  clear hb3 HC
  go_wp2_with fail
  go_ret
  exact ⟨rfl, HB3.out⟩
set_option maxRecDepth 100000 in
theorem misfitC_is {N a s F S : Nat} {lo up : Nat → Nat} {T : Bool} {w : World} (hf : w.cell? ⟨F, 0, none⟩ = some (.iface 80 (ordV N lo up))) (hs : w.cell? ⟨S, 0, none⟩ = some (.int .u16 (s : Int))) (ha : a < 12) (hl : lo a < 65536) (hu : up a < 65536) (hs2 : s < 65536) (hT : T = true ↔ s &&& (65535 - (up a ||| lo a)) = 0) :
    Calls Tryd.prog 93 #[.int .i64 (a : Int), .pointer (some ⟨F, 0, none⟩), .pointer (some ⟨S, 0, none⟩)] w fun e w' => e = .returned (.bool (!T)) ∧ Below w.heap.size w w' := by
  have HC : Hid (Calls Tryd.prog 146 #[ordV N lo up, .int .i64 (a : Int), .int .u16 (s : Int)] w fun e w' => e = .returned (.bool T) ∧ Below w.heap.size w w') := chFits_is ha hl hu hs2 hT
  obtain ⟨v, hv⟩ : ∃ v, ordV N lo up = v := ⟨_, rfl⟩
  rw [hv] at hf HC
  have hm : ∀ w', Sem.run Tryd.prog (method 263 80 v "loop.example/g01005/impl.fits") w' = .ok (146, v) w' := fun w' => by kernel_rfl
  clear hT hl hv
  go_enter Tryd.func93, Tryd.ntmps93
  go_wp2_with fail
  refine HC.out.mono ?_
  rintro e w3 ⟨rfl, hb3⟩
  have HB3 := Lib.hid hb3
  clear hb3 HC
  go_wp2_with fail
  go_ret
  exact ⟨rfl, HB3.out⟩
set_option maxRecDepth 100000 in
theorem misfitA_is {N a s F S : Nat} {lo up : Nat → Nat} {T : Bool} {w : World} (hf : w.cell? ⟨F, 0, none⟩ = some (.iface 81 (ordV N lo up))) (hs : w.cell? ⟨S, 0, none⟩ = some (.int .u16 (s : Int))) (ha : a < 12) (hl : lo a < 65536) (hu : up a < 65536) (hs2 : s < 65536) (hT : T = true ↔ s &&& (up a ||| lo a) = 1 <<< a) :
    Calls Tryd.prog 93 #[.int .i64 (a : Int), .pointer (some ⟨F, 0, none⟩), .pointer (some ⟨S, 0, none⟩)] w fun e w' => e = .returned (.bool (!T)) ∧ Below w.heap.size w w' := by
  have HC : Hid (Calls Tryd.prog 148 #[ordV N lo up, .int .i64 (a : Int), .int .u16 (s : Int)] w fun e w' => e = .returned (.bool T) ∧ Below w.heap.size w w') := anFits_is ha hl hu hs2 hT
  obtain ⟨v, hv⟩ : ∃ v, ordV N lo up = v := ⟨_, rfl⟩
  rw [hv] at hf HC
  have hm : ∀ w', Sem.run Tryd.prog (method 263 81 v "loop.example/g01005/impl.fits") w' = .ok (148, v) w' := fun w' => by kernel_rfl
  clear hT hl hv
  go_enter Tryd.func93, Tryd.ntmps93
  go_wp2_with fail
  refine HC.out.mono ?_
  rintro e w3 ⟨rfl, hb3⟩
  have HB3 := Lib.hid hb3
  clear hb3 HC
  go_wp2_with fail
  go_ret
  exact ⟨rfl, HB3.out⟩
end Go.Proofs.YtdihcmohpbgmmaaDoor
