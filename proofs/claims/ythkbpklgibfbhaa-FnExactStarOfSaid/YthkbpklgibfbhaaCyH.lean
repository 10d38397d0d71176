/-
  ClosureOf of the model, in whole; both closures.
-/
import Derived.Test.YthkbpklgibfbhaaCyG
namespace Go.Proofs.Ythkbpklgibfbhaa
open Go.RowKit
set_option linter.unusedVariables false
set_option linter.unusedSimpArgs false

theorem tot_four : ∀ {zz : List (List Int)}, (∀ z ∈ zz, z.length ≤ 4) → tot zz ≤ 4 * zz.length
  | [], _ => by simp [tot]
  | z :: zz, h => by
    have h1 := h z (by simp)
    have h2 := tot_four (zz := zz) fun y hy => h y (by simp [hy])
    simp only [tot, List.length_cons]; omega
theorem CloIs.fit {zz yy : List (List Int)} {c : Int} (h : CloIs zz yy c) : FitR yy := by
  rcases h with ⟨_, rfl, _⟩ | ⟨_, _, rfl, _⟩ | ⟨hv, _, hl, rfl, _⟩
  · exact ⟨by simp, by simp [tot]⟩
  · exact ⟨by simp, by simp [tot]⟩
  · have h4 := tot_four (zz := cloL zz) fun z hz => by
      obtain ⟨s, hs, hf⟩ := (cloL_mem (simsB_iff.1 hv)).1 hz
      exact ((simsB_iff.1 hv s hs).face hf).le
    exact ⟨by omega, by omega⟩
end Go.Proofs.Ythkbpklgibfbhaa
