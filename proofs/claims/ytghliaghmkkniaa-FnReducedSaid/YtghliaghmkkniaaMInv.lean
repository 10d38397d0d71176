/-
  The law of inverses: whatever is drawn, an inverse undoes a matrix, and there is one exactly if the determinant is not 0.
-/
import Derived.Test.YtghliaghmkkniaaMFill
import Derived.Test.YtghliaghmkkniaaMxDj
import Derived.Test.YtghliaghmkkniaaPD
import Derived.Test.YtghliaghmkkniaaPB
namespace Go.Proofs.Ytghliaghmkkniaa
open Go.RowKit
open Lin
set_option linter.unusedVariables false
set_option linter.unusedSectionVars false
set_option linter.unusedSimpArgs false

theorem pr_small {p k : Nat} (h : ∀ i, i < k → 2 ≤ i → p % i ≠ 0) (h0 : 2 ≤ p) (h1 : p ≤ 251) (hk : 2 ≤ k) (hkk : p < k * k) : IsPr (p : Int) := by
  refine ⟨by omega, by omega, fun i hi hii e => ?_⟩
  obtain ⟨j, rfl⟩ : ∃ j : Nat, i = j := ⟨i.toNat, by omega⟩
  have h2 : j * j ≤ p := by rw [← Int.natCast_mul] at hii; omega
  have h3 : j < k := by
    rcases Nat.lt_or_ge j k with g | g
    · exact g
    · have := Nat.mul_le_mul g g; omega
  have h4 : p % j = 0 := by rw [← Int.natCast_emod] at e; omega
  exact h j h3 (by omega) h4
theorem pr_draw {r : Int} (h : r ∈ [2, 2, 3, 5, 7, 31, 251]) : ∃ q : Nat, r = (q : Int) ∧ IsPr (q : Int) := by
  have h2 : r = 2 ∨ r = 3 ∨ r = 5 ∨ r = 7 ∨ r = 31 ∨ r = 251 := by simp at h; omega
  rcases h2 with rfl | rfl | rfl | rfl | rfl | rfl
  · exact ⟨2, rfl, pr_small (k := 2) (by decide) (by decide) (by decide) (by decide) (by decide)⟩
  · exact ⟨3, rfl, pr_small (k := 2) (by decide) (by decide) (by decide) (by decide) (by decide)⟩
  · exact ⟨5, rfl, pr_small (k := 3) (by decide) (by decide) (by decide) (by decide) (by decide)⟩
  · exact ⟨7, rfl, pr_small (k := 3) (by decide) (by decide) (by decide) (by decide) (by decide)⟩
  · exact ⟨31, rfl, pr_small (k := 6) (by decide) (by decide) (by decide) (by decide) (by decide)⟩
  · exact ⟨251, rfl, pr_small (k := 16) (by decide) (by decide) (by decide) (by decide) (by decide)⟩
set_option maxHeartbeats 800000 in
theorem drawPrime3_any {p : Nat} {a : Option Addr} {len cap K : Nat} {w : World} (hK : K ≤ 900000000) (h : Sc p a len cap K w) :
    Calls Try.prog 93 #[.pointer (some ⟨p, 0, none⟩)] w fun e w' => RetDr (fun r => ∃ q : Nat, r = (q : Int) ∧ IsPr (q : Int)) p a len cap (K + 2) w e w' := by
  have H := Lib.hid h
  clear h
  go_enter Try.func93, Try.ntmps93
  go_wp2_with fail
  refine (among_lit [2, 2, 3, 5, 7, 31, 251] _ _ 7 rfl rfl (by simp) (by simp) hK H.out).mono ?_
  rintro e w1 ⟨r, hr, rfl, hs, hg⟩
  have HR := Lib.hid (pr_draw hr)
  have HS := Lib.hid hs
  have HG := Lib.hid hg
  clear hs hg hr
  go_wp2_with fail
  go_ret
  exact ⟨r, HR.out, rfl, HS.out, HG.out⟩
set_option maxHeartbeats 800000 in
theorem r8Prime_any (w : World) (a : Option Addr) (len cap : Nat) (h : Bytes w a len) :
    Calls Try.prog 22 #[.slice a len cap] w fun e w' => RetDP w e w' := by
  have H := Lib.hid h
  clear h
  go_enter Try.func22, Try.ntmps22
  go_wp2_with fail
  refine (from_any w a len cap).mono ?_
  rintro e w1 hf
  obtain ⟨rfl, hsrc, hb, hp⟩ := hf
  have HS := Lib.hid (newSc H.out hsrc hb hp)
  have HB := Lib.hid hb
  clear hb hsrc
  go_wp2_with fail
  refine (drawPrime3_any (by omega) HS.out).mono ?_
  rintro e w2 ⟨r, ⟨q, hq, hpr⟩, rfl, hs, hg⟩
  have hb2 : Below w.heap.size w1 w2 := below_gb2 hg (Nat.le_refl _) (by omega)
  have HQ := Lib.hid hq
  have HP := Lib.hid hpr
  have HB2 := Lib.hid (HB.out.trans hb2)
  clear hs hg hq hpr hb2
  go_wp2_with fail
  go_ret
  exact ⟨q, by first | rfl | (rw [HQ.out]; rfl), HP.out, HB2.out⟩
theorem at8_int (a : Option Addr) (l c : Nat) (k n : Int) (w : World) (h : Bytes w a l) (hn : 2 ≤ n) (hn2 : n ≤ 256) (hk0 : 0 ≤ k) (hk : k ≤ 1000) :
    Calls Try.prog 24 #[.slice a l c, .int .i64 k, .int .i64 n] w fun e w' => ∃ r : Nat, (r : Int) < n ∧ e = .returned (.int .i64 (r : Int)) ∧ w = w' := by
  obtain ⟨k', rfl⟩ : ∃ k' : Nat, k = k' := ⟨k.toNat, by omega⟩
  obtain ⟨n', rfl⟩ : ∃ n' : Nat, n = n' := ⟨n.toNat, by omega⟩
  refine (at8_any a l c k' n' w h (by omega) (by omega) (by omega)).mono ?_
  rintro e w' ⟨r, hr, rfl, rfl⟩
  exact ⟨r, by omega, rfl, rfl⟩
end Go.Proofs.Ytghliaghmkkniaa
