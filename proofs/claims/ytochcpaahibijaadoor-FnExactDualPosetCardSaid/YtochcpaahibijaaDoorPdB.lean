/-
  The library's sort of a call's own pairs by their order.
-/
import Derived.Test.YtochcpaahibijaaDoorPdA
namespace Go.Proofs.YtochcpaahibijaaDoor
open Go.RowKit Go.Sort Go.Shelf Go.Lib
set_option linter.unusedVariables false
set_option linter.unusedSimpArgs false

noncomputable def siT : TypeInfo := (Tryd.prog.info? 22).get (by kernel_rfl)
noncomputable def siE : TypeInfo := (Tryd.prog.info? 40).get (by kernel_rfl)
theorem siK (n : Nat) (h2 : 2 ≤ n) : Lib.swapperK n siE 23 = 9 := by
  have a : siE.hasPointers = true := by kernel_rfl
  have b : siE.bytes = 24 := by kernel_rfl
  have c : (n == 0) = false := by simp; omega
  have d : (n == 1) = false := by simp; omega
  simp [Lib.swapperK, a, b, c, d]
theorem siK0 : Lib.swapperK 0 siE 23 = 1 := rfl
theorem siK1 : Lib.swapperK 1 siE 23 = 2 := rfl
set_option maxRecDepth 1000000 in
set_option maxHeartbeats 1600000 in
theorem sortSlice_any {w : World} {g cap Bl : Nat} [Inhabited { p : Value × List Int // RowOk w g p }] {d : Array { p : Value × List Int // RowOk w g p }} (h2 : 2 ≤ d.size) (hH : Holds encR w g 0 d) (hg : g < w.heap.size) (hB : w.cell? ⟨Bl, 0, none⟩ = some (.slice (some ⟨g, 0, none⟩) d.size cap)) (hne : Bl ≠ g) (hl : Bl < w.heap.size) (hz : d.size ≤ 1048576) :
    Calls Tryd.prog 79 #[.iface 22 (.slice (some ⟨g, 0, none⟩) d.size cap), .func (.func 80) #[] #[.pointer (some ⟨Bl, 0, none⟩)]] w fun e w' =>
      e = .returned (.tuple #[]) ∧ ∃ n os d', PermIn 0 d.size d d' ∧ SortedIn ltR 0 d.size d' ∧ w' = sortWorld encR w g 0 n d' os := by
  have X : Cx encR ltR 80 #[.pointer (some ⟨Bl, 0, none⟩)] 112 #[.slice (some ⟨g, 0, none⟩) d.size cap, typeHandle Tryd.prog 40] g 0 d.size w :=
    { eg := enters_of Tryd.func80 (by kernel_rfl) rfl
      less := fun dk W S hs i j hi hj => less_any hH hg hB hne hl (by omega) S hs i j hi hj
      swap := swapSwaps_of_literal false 112 (fun args W => run_callFunc_extern Tryd.func112 (by kernel_rfl) (by kernel_rfl) (by kernel_rfl) (e := Extern.ReflectliteSwapper.swap false) (by kernel_rfl) args W) 40 siE (by kernel_rfl) (by kernel_rfl) (fun _ => by kernel_rfl) encR encR_one g 0 d.size cap
      hb := hg
      d0 := ⟨d, hH, rfl⟩
      sz := by omega }
  have hbl : Lib.bitLen d.size < 4611686018427387904 := Nat.lt_of_le_of_lt (Lib.bitLen_le d.size 62 (by omega) (by omega)) (by omega)
  have S0 : SW encR w g 0 d w := SW.start hH
  have hp := pdq_any X swo_R (d.size + 1) 0 d.size (Lib.bitLen d.size) d (sliceWorld Tryd.prog Tryd.laysGg6_ren 22 (some ⟨g, 0, none⟩) d.size cap w) (by omega) ((S0.alloc _).alloc _) rfl (Nat.zero_le _) (Nat.le_refl _) hbl (Or.inl rfl)
  have hB9 : sliceBound Tryd.prog 40 siE 23 (some ⟨g, 0, none⟩) d.size cap = #[.slice (some ⟨g, 0, none⟩) d.size cap, typeHandle Tryd.prog 40] := by
    unfold sliceBound; rw [if_neg (swapperK_gt _ _ _ h2)]
  have h := Any.sort_Slice_of_pdq Tryd.laysGg6 22 40 siT siE (by kernel_rfl) (by kernel_rfl) (by kernel_rfl) (by kernel_rfl) 23 (fun _ => by kernel_rfl) (some ⟨g, 0, none⟩) d.size cap (by omega) 112 (by rw [siK _ h2]; kernel_rfl)
    (.func 80) #[] #[.pointer (some ⟨Bl, 0, none⟩)] w (fun w' => ∃ n os d', PermIn 0 d.size d d' ∧ SortedIn ltR 0 d.size d' ∧ w' = sortWorld encR w g 0 n d' os) (by
      rw [hB9]
      refine hp.mono ?_
      rintro e w' ⟨rfl, ⟨n, os, rfl⟩, _⟩
      have hs := pdq_sorts ltR swo_R d 0 d.size (Lib.bitLen d.size) true true (Nat.zero_le _) (Nat.le_refl _) (Or.inl rfl)
      exact ⟨rfl, n, os, _, hs.1, hs.2, rfl⟩)
  exact h
set_option maxRecDepth 1000000 in
theorem sortSlice_tiny {w : World} {p : Option Addr} {n cap Bl : Nat} (h1 : n ≤ 1) :
    Calls Tryd.prog 79 #[.iface 22 (.slice p n cap), .func (.func 80) #[] #[.pointer (some ⟨Bl, 0, none⟩)]] w fun e w' => e = .returned (.tuple #[]) ∧ ∃ os, w' = grow w os := by
  have h01 : n = 0 ∨ n = 1 := by omega
  rcases h01 with rfl | rfl
  · exact Any.sort_Slice_tiny Tryd.laysGg6 22 40 siT siE (by kernel_rfl) (by kernel_rfl) (by kernel_rfl) (by kernel_rfl) 23 (fun _ => by kernel_rfl) p 0 cap (by omega) 104 (by rw [siK0]; kernel_rfl) (.func 80) #[] #[.pointer (some ⟨Bl, 0, none⟩)] w
  · exact Any.sort_Slice_tiny Tryd.laysGg6 22 40 siT siE (by kernel_rfl) (by kernel_rfl) (by kernel_rfl) (by kernel_rfl) 23 (fun _ => by kernel_rfl) p 1 cap (by omega) 105 (by rw [siK1]; kernel_rfl) (.func 80) #[] #[.pointer (some ⟨Bl, 0, none⟩)] w
end Go.Proofs.YtochcpaahibijaaDoor
