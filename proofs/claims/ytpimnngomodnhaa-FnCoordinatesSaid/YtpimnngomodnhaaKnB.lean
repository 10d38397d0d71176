/-
  DrawKernelOf; a number that bytes choose.
-/
import Derived.Test.YtpimnngomodnhaaMDr
import Derived.Test.YtpimnngomodnhaaMSv
namespace Go.Proofs.Ytpimnngomodnhaa
open Go.RowKit
open Lin
set_option linter.unusedVariables false
set_option linter.unusedSectionVars false

/-- A matrix that was drawn for a law. -/
def RetDK (w : World) (e : Ending) (w' : World) : Prop :=
  ∃ (P S C : Int) (v : Value) (zs : List Int), e = .returned (.agg #[.int .i64 P, .int .i64 S, .int .i64 C, v]) ∧ OwnI w.heap.size w' v zs ∧ zs.length ≤ 1100 ∧ Below w.heap.size w w'
set_option maxRecDepth 100000 in
set_option maxHeartbeats 3200000 in
theorem drawKernel_any (w : World) (a : Option Addr) (len cap : Nat) (h : Bytes w a len) :
    Calls Try.prog 9 #[.slice a len cap] w fun e w' => RetDK w e w' := by
  have H := Lib.hid (h.on (al1 (Below.refl _ _) (.cells #[.int .i64 0, .int .i64 0, .int .i64 0, .slice none 0 0] 26)))
  have Pr0 := Lib.hid (PtM.new w 0 0 0 (.slice none 0 0) 26)
  have Fr0 : Hid (Fz (w.alloc (.cells #[.int .i64 0, .int .i64 0, .int .i64 0, .slice none 0 0] 26)) w.heap.size) := Fz.new w _ _
  have hz0 : (w.alloc (.cells #[.int .i64 0, .int .i64 0, .int .i64 0, .slice none 0 0] 26)).heap.size = w.heap.size + 1 := by simp
  have HB0 := Lib.hid (al1 (Below.refl w.heap.size w) (.cells #[.int .i64 0, .int .i64 0, .int .i64 0, .slice none 0 0] 26))
  clear h
  go_enter Try.func9, Try.ntmps9
  go_wp2_with fail
  refine (from_any _ a len cap).mono ?_
  rintro e w1 hf
  obtain ⟨rfl, hsrc, hb, hp⟩ := hf
  have HS := Lib.hid (newSc H.out hsrc hb hp)
  have HB := Lib.hid (HB0.out.trans (hb.mono (by omega)))
  have Pr := Lib.hid (Pr0.out.on hb)
  have Fr : Hid (Fz w1 w.heap.size) := Fr0.out.on (by simp) hb
  rw [hz0] at HS hp
  clear hsrc hb Pr0 Fr0
  go_wp2_with fail
  refine (l03Bent_any (by omega) HS.out).mono ?_
  rintro e w2 ⟨P, S, C, v, zs, rfl, ho, hzl, hg, -⟩
  have hs1 := hg.size
  have Fr : Hid (Fz w2 w.heap.size) := Fr.out.gb Pr.out.1 hg (by omega)
  have Pr := Lib.hid (Pr.out.gb hg (by omega))
  have HO := Lib.hid ho
  have HB2 := Lib.hid (HB.out.trans (below_gb2 hg (by omega) (by omega)))
  obtain ⟨va, vc, rfl⟩ := ho.slice
  obtain ⟨lR, r0, r1, r2, r3⟩ := Pr.out
  obtain ⟨f0, f1, f2, f3⟩ := Fr.out.all
  have HQ := Lib.hid (Pr.out.set4 P S C (.slice va zs.length vc))
  clear ho hg
  go_wp2_with fail
  obtain ⟨_, q0, q1, q2, q3⟩ := HQ.out
  refine bodyPost_ret (v := .agg #[.int .i64 P, .int .i64 S, .int .i64 C, .slice va zs.length vc]) (by simp [results, Try.results9, go_sem, q0, q1, q2, q3]) rfl ⟨P, S, C, _, zs, rfl, ?_, hzl, ?_⟩
  · refine OwnI.mono (B := w1.heap.size) ?_ (by omega)
    iterate 4 (refine OwnI.setOut ?_ (by omega) _)
    exact HO.out
  · iterate 4 (refine Below.setC ?_ (by omega) _)
    exact HB2.out
theorem at10_any (a : Option Addr) (l c : Nat) (k n : Nat) (w : World) (h : Bytes w a l) (hn : 2 ≤ n) (hn2 : n ≤ 256) (hk : k ≤ 1000) :
    Calls Try.prog 16 #[.slice a l c, .int .i64 (k : Int), .int .i64 (n : Int)] w fun e w' => ∃ r : Int, 0 ≤ r ∧ r ≤ (n : Int) - 1 ∧ e = .returned (.int .i64 r) ∧ w = w' := by
  have n1 : ¬ (n : Int) ≤ 1 := by omega
  have n0 : ¬ (n : Int) = 0 := by omega
  by_cases hlt : k < l
  · obtain ⟨hl, h0 | ⟨b, off, rfl, hb, hc⟩⟩ := h
    · omega
    obtain ⟨x, x0, x1, hx⟩ := hc k hlt
    have k0 : (0 : Int) ≤ (k : Int) := by omega
    have k1 : (k : Int) < (l : Int) := by omega
    have k2 : ¬ (l : Int) ≤ (k : Int) := by omega
    have r0 := Int.emod_nonneg x n0
    have r1 := Int.emod_lt_of_pos x (show 0 < (n : Int) by omega)
    have t : x.tmod (n : Int) = x % (n : Int) := Int.tmod_eq_emod_of_nonneg x0
    have wx : IntKind.i64.wrap x = x := IntWalk.i64_in _ (by omega)
    obtain ⟨r, hr⟩ : ∃ r : Int, x % (n : Int) = r := ⟨_, rfl⟩
    rw [hr] at r0 r1 t
    have wr : IntKind.i64.wrap r = r := IntWalk.i64_in _ (by omega)
    clear hc hr
    go_enter Try.func16, Try.ntmps16
    go_wp2
    go_ret
    exact ⟨r, by omega, by omega, rfl, rfl⟩
  · have k2 : ¬ (k : Int) < (l : Int) := by omega
    have k3 : (l : Int) ≤ (k : Int) := by omega
    have hl := h.1
    obtain ⟨x, hx⟩ : ∃ x : Int, (k : Int) * 37 + 11 = x := ⟨_, rfl⟩
    have w1 : IntKind.i64.wrap ((k : Int) * 37) = (k : Int) * 37 := IntWalk.i64_in _ (by omega)
    have w2 : IntKind.i64.wrap ((k : Int) * 37 + 11) = (k : Int) * 37 + 11 := IntWalk.i64_in _ (by omega)
    have x0 : 0 ≤ (k : Int) * 37 + 11 := by omega
    have r0 := Int.emod_nonneg ((k : Int) * 37 + 11) n0
    have r1 := Int.emod_lt_of_pos ((k : Int) * 37 + 11) (show 0 < (n : Int) by omega)
    have t : ((k : Int) * 37 + 11).tmod (n : Int) = ((k : Int) * 37 + 11) % (n : Int) := Int.tmod_eq_emod_of_nonneg x0
    obtain ⟨r, hr⟩ : ∃ r : Int, ((k : Int) * 37 + 11) % (n : Int) = r := ⟨_, rfl⟩
    rw [hr] at r0 r1 t
    have wr : IntKind.i64.wrap r = r := IntWalk.i64_in _ (by omega)
    clear h hlt hr hx
    go_enter Try.func16, Try.ntmps16
    go_wp2
    go_ret
    exact ⟨r, by omega, by omega, rfl, rfl⟩
end Go.Proofs.Ytpimnngomodnhaa
