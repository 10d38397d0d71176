/-
  The model's covers: l06Covers.
-/
import Derived.Test.YtdihcmohpbgmmaaDoorPsH
namespace Go.Proofs.YtdihcmohpbgmmaaDoor
open Go.RowKit
set_option linter.unusedVariables false
set_option linter.unusedSimpArgs false

/-- A table of Bools that is read. -/
structure TabR (w : World) (v : Value) (N : Nat) (f : Nat → Nat → Bool) (g : Nat) (rs : Nat → Nat) : Prop where
  form : ∃ a c, v = .slice a N c ∧ (0 < N → a = some ⟨g, 0, none⟩)
  lt : 0 < N → g < w.heap.size
  row : ∀ i, i < N → rs i < w.heap.size ∧ w.cell? ⟨g, i, none⟩ = some (.slice (some ⟨rs i, 0, none⟩) N N)
  cell : ∀ i j, i < N → j < N → w.cell? ⟨rs i, j, none⟩ = some (.bool (f i j))
theorem TabR.on {w w' : World} {v : Value} {N g : Nat} {f : Nat → Nat → Bool} {rs : Nat → Nat} (h : TabR w v N f g rs) (hb : Below w.heap.size w w') : TabR w' v N f g rs :=
  ⟨h.form, fun h0 => Nat.lt_of_lt_of_le (h.lt h0) hb.size, fun i hi => ⟨Nat.lt_of_lt_of_le (h.row i hi).1 hb.size, (hb.cell (p := ⟨g, i, none⟩) (h.lt (by omega))).trans (h.row i hi).2⟩,
    fun i j hi hj => (hb.cell (p := ⟨rs i, j, none⟩) (h.row i hi).1).trans (h.cell i j hi hj)⟩
theorem TabB.toR {B N : Nat} {w : World} {v : Value} {f : Nat → Nat → Bool} {rs : Nat → Nat} (h : TabB B w v N N f rs) : ∃ g, TabR w v N f g rs := by
  by_cases h0 : 0 < N
  · obtain ⟨g, c, rfl, _, hg, hk⟩ := h.outer h0
    exact ⟨g, ⟨⟨_, c, rfl, fun _ => rfl⟩, fun _ => hg, fun i hi => ⟨((h.own i hi).lt _ rfl).2, (hk i hi).1⟩, fun i j hi hj => (h.cell hi hj).1⟩⟩
  · obtain ⟨a, c, rfl⟩ := h.slice
    exact ⟨0, ⟨⟨a, c, rfl, fun h => absurd h h0⟩, fun h => absurd h h0, fun i hi => by omega, fun i j hi hj => by omega⟩⟩
/-- What l06Covers answers. -/
def CovIs (es : List (Nat × Nat)) (N : Nat) (Z : List (List Int)) (T : Bool) : Prop := (Circ es N ∧ Z = [] ∧ T = false) ∨ (¬ Circ es N ∧ Z = covL es N ∧ T = true)
theorem covIs_has (es : List (Nat × Nat)) (N : Nat) : ∃ Z T, CovIs es N Z T := by
  by_cases h : Circ es N
  · exact ⟨_, _, .inl ⟨h, rfl, rfl⟩⟩
  · exact ⟨_, _, .inr ⟨h, rfl, rfl⟩⟩
def NoC (es : List (Nat × Nat)) (N n m : Nat) : Prop := ∀ a b, (a < n ∧ b < N) ∨ (a = n ∧ b < m) → a ≠ b → Rch es a b → ¬ Rch es b a
theorem NoC.zero (es : List (Nat × Nat)) (N : Nat) : NoC es N 0 0 := fun a b h => by omega
theorem NoC.next {es : List (Nat × Nat)} {N n m : Nat} (h : NoC es N n m) (g : n ≠ m → Rch es n m → ¬ Rch es m n) : NoC es N n (m + 1) := fun a b hab hne => by
  by_cases e : a = n ∧ b = m
  · obtain ⟨rfl, rfl⟩ := e; exact g hne
  · exact h a b (by omega) hne
theorem NoC.line {es : List (Nat × Nat)} {N n : Nat} (h : NoC es N n N) : NoC es N (n + 1) 0 := fun a b hab hne => h a b (by omega) hne
theorem NoC.done {es : List (Nat × Nat)} {N : Nat} (h : NoC es N N 0) : ¬ Circ es N := fun ⟨a, b, ha, hb, hne, h1, h2⟩ => h a b (.inl ⟨ha, hb⟩) hne h1 h2
theorem ownRI_made (w : World) (B : Nat) (hB : B ≤ w.heap.size) : OwnRI B (w.alloc (.cells #[] 40)) (.slice (some ⟨w.heap.size, 0, none⟩) 0 0) [] :=
  ⟨[], rfl, World.ownsRow_made w #[] 0 hB (Nat.zero_le _) rfl, fun i u zs h _ => by simp at h, fun i u g h _ => by simp at h, fun i j u x g h _ _ _ => by simp at h, Nat.le_refl _, fun g h => by simp only [Value.ownBlock, Option.some.injEq] at h; rw [World.size_alloc]; omega, fun i u g h _ => by simp at h⟩
theorem ownI_two (w : World) (x y : Int) : OwnI w.heap.size (w.alloc (.cells #[.int .i64 x, .int .i64 y] 2)) (.slice (some ⟨w.heap.size, 0, none⟩) 2 2) [x, y] :=
  ⟨by simp [iv], .inr ⟨w.heap.size, 2, #[.int .i64 x, .int .i64 y], rfl, Nat.le_refl _, heap_alloc_new w _, Nat.le_refl _, by unfold maxLen; omega, by simp, by simp [iv]⟩⟩
def RetRB (Z : List (List Int)) (T : Bool) (w : World) (e : Ending) (w' : World) : Prop := ∃ v, e = .returned (.tuple #[v, .bool T]) ∧ OwnRI w.heap.size w' v Z ∧ Below w.heap.size w w'
set_option maxRecDepth 100000 in
set_option maxHeartbeats 6400000 in
theorem l06Covers_any {N g : Nat} {es : List (Nat × Nat)} {f : Nat → Nat → Bool} {rs : Nat → Nat} {v : Value} {w : World} {Z : List (List Int)} {T : Bool} (hN : N ≤ 12) (hes : ∀ e ∈ es, e.1 < N ∧ e.2 < N) (hf : ∀ a b, a < N → (f a b = true ↔ Rch es a b)) (hv : TabR w v N f g rs) (hZ : CovIs es N Z T) :
    Calls Tryd.prog 57 #[v] w fun e w' => RetRB Z T w e w' := by
  obtain ⟨i0, hi0, iz0, iz1, iz2⟩ := info_parts info_r
  have HV := Lib.hid hv
  have HZ := Lib.hid hZ
  have HE := Lib.hid hes
  have HF := Lib.hid hf
  obtain ⟨va, vc, rfl, hva⟩ := hv.form
  have AL : Hid (Below w.heap.size w (w.alloc (.cells #[] 40))) := (Below.refl _ w).alloc (Nat.le_refl _) _
  have O0 : Hid (OwnRI w.heap.size (w.alloc (.cells #[] 40)) (.slice (some ⟨w.heap.size, 0, none⟩) 0 0) (covTo es N 0)) := ownRI_made w _ (Nat.le_refl _)
  clear hv hZ hes hf
  go_enter Tryd.func57, Tryd.ntmps57
  go_wp2_with fail
  go_loopw [4, 5] (fun so si wr => ∃ (n : Nat), n ≤ N ∧ si = .int .i64 (n : Int) ∧ Hid (NoC es N n 0) ∧ Hid (OwnRI w.heap.size wr so (covTo es N n)) ∧ Hid (Below w.heap.size w wr)) (fun _ i _ => N - (intOf i).toNat)
  case atStart => exact ⟨0, Nat.zero_le _, rfl, NoC.zero _ _, O0, AL⟩
  case round =>
    clear O0 AL
    obtain ⟨n, hn, rfl, HC, HO, HB⟩ := hrel
    have n0 : 0 ≤ (n : Int) := by omega
    by_cases hlt : n < N
    · have n1 : (n : Int) < (N : Int) := by omega
      have HOa : Hid (OwnRI w.heap.size wr u4 (covTo es N n ++ covRow es n 0)) := by
        show OwnRI _ _ _ _
        rw [covRow_zero, List.append_nil]; exact HO.out
      obtain rfl := hva (by omega)
      obtain ⟨wo, rfl⟩ : ∃ wo, wo = wr := ⟨_, rfl⟩
      clear HO
      go_wp2_with fail
      go_loopw [4, 6] (fun so si wr => ∃ (m : Nat), m ≤ N ∧ si = .int .i64 (m : Int) ∧ Hid (NoC es N n m) ∧ Hid (OwnRI w.heap.size wr so (covTo es N n ++ covRow es n m)) ∧ Hid (Below w.heap.size w wr)) (fun _ i _ => N - (intOf i).toNat)
      case atStart => exact ⟨0, Nat.zero_le _, rfl, HC, HOa, HB⟩
      case round =>
        clear HOa HB HC
        obtain ⟨m, hm, rfl, HC, HO, HB⟩ := hrel
        have m0 : 0 ≤ (m : Int) := by omega
        by_cases hlm : m < N
        · have m1 : (m : Int) < (N : Int) := by omega
          have HT := Lib.hid (HV.out.on HB.out)
          obtain ⟨-, cn⟩ := HT.out.row n hlt
          obtain ⟨-, cm⟩ := HT.out.row m hlm
          have cnm := HT.out.cell n m hlt hlm
          have cmn := HT.out.cell m n hlm hlt
          have HKP : Hid (¬ Cov es n m → OwnRI w.heap.size wr u4 (covTo es N n ++ covRow es n (m + 1))) := fun h => by rw [covRow_no h]; exact HO.out
          by_cases hnm : n = m
          · have e0 : ((n : Int) == (m : Int)) = true := by rw [beq_iff_eq]; omega
            have HX := Lib.hid (HKP.out fun h => h.1 hnm)
            have HC' := Lib.hid (HC.out.next fun h => absurd hnm h)
            clear HKP hnm HO HC cn cm cnm cmn
            go_wp2_with fail
            go_roundw
            case rel => exact ⟨m + 1, by omega, by go_num, HC', HX, HB⟩
            case measure => simp [intOf]; omega
          · have e0 : ((n : Int) == (m : Int)) = false := by
              rw [beq_eq_false_iff_ne]; omega
            have HNM := Lib.hid hnm
            obtain ⟨p, hp⟩ : ∃ p, f n m = p := ⟨_, rfl⟩
            have HPR : Hid (p = true ↔ Rch es n m) := by show _ ↔ _; rw [← hp]; exact HF.out n m hlt
            rw [hp] at cnm
            obtain ⟨q, hq⟩ : ∃ q, f m n = q := ⟨_, rfl⟩
            have HQR : Hid (q = true ↔ Rch es m n) := by show _ ↔ _; rw [← hq]; exact HF.out m n hlm
            rw [hq] at cmn
            clear hp hq hnm
            cases p with
            | false =>
              have HNR : Hid (¬ Rch es n m) := fun h => by have := HPR.out.2 h; simp at this
              have HX := Lib.hid (HKP.out fun h => HNR.out h.2.1)
              have HC' := Lib.hid (HC.out.next fun _ h => absurd h HNR.out)
              clear HKP HO HC cm cmn HPR HQR
              go_wp2_with fail
              go_roundw
              case rel => exact ⟨m + 1, by omega, by go_num, HC', HX, HB⟩
              case measure => simp [intOf]; omega
            | true =>
              have HR1 : Hid (Rch es n m) := HPR.out.1 rfl
              cases q with
              | true =>
                have hci : Circ es N := ⟨n, m, hlt, hlm, HNM.out, HR1.out, HQR.out.1 rfl⟩
                obtain ⟨rfl, rfl⟩ : Z = [] ∧ T = false := by
                  rcases HZ.out with ⟨_, h⟩ | ⟨h, _⟩
                  · exact h
                  · exact absurd hci h
                clear hci
                go_wp2_with fail
                go_ret2
                exact ⟨_, rfl, OwnRI.nul _ _, HB.out⟩
              | false =>
                have HC' : Hid (NoC es N n (m + 1)) := HC.out.next fun _ _ h => by have := HQR.out.2 h; simp at this
                obtain ⟨wi, rfl⟩ : ∃ wi, wi = wr := ⟨_, rfl⟩
                clear HQR HPR HC
                go_wp2_with fail
                clear cnm cmn cn cm
                go_loopw [7, 8] (fun sb si wr => ∃ (k : Nat) (q : Bool), k ≤ N ∧ si = .int .i64 (k : Int) ∧ sb = .bool q ∧ Hid (q = true ↔ ∃ x, x < k ∧ x ≠ n ∧ x ≠ m ∧ Rch es n x ∧ Rch es x m) ∧ wi = wr) (fun _ i _ => N - (intOf i).toNat)
                case atStart => exact ⟨0, false, Nat.zero_le _, rfl, rfl, ⟨fun h => by simp at h, fun ⟨x, h, _⟩ => by omega⟩, rfl⟩
                case round =>
                  obtain ⟨k, q, hk, rfl, rfl, HQ, rfl⟩ := hrel
                  have k0 : 0 ≤ (k : Int) := by omega
                  by_cases hlk : k < N
                  · have k1 : (k : Int) < (N : Int) := by omega
                    have HQ' : Hid (∀ r : Bool, (r = true ↔ (q = true ∨ (k ≠ n ∧ k ≠ m ∧ Rch es n k ∧ Rch es k m))) → (r = true ↔ ∃ x, x < k + 1 ∧ x ≠ n ∧ x ≠ m ∧ Rch es n x ∧ Rch es x m)) := fun r hr => by
                      rw [hr, HQ.out]
                      constructor
                      · rintro (⟨x, h, h'⟩ | h)
                        · exact ⟨x, by omega, h'⟩
                        · exact ⟨k, by omega, h⟩
                      · rintro ⟨x, h, h'⟩
                        by_cases e : x = k
                        · subst e; exact .inr h'
                        · exact .inl ⟨x, by omega, h'⟩
                    clear HQ
                    cases q with
                    | true =>
                      have HX := Lib.hid (HQ'.out true (by simp))
                      clear HQ'
                      go_wp2_with fail
                      go_roundw
                      case rel => exact ⟨k + 1, true, by omega, by go_num, rfl, HX, by first | rfl | trivial⟩
                      case measure => simp [intOf]; omega
                    | false =>
                      by_cases h1 : k = n
                      · have HX := Lib.hid (HQ'.out false (by simp [h1]))
                        have e1 : ((k : Int) != (n : Int)) = false := by simp [h1]
                        clear HQ' h1
                        go_wp2_with fail
                        go_roundw
                        case rel => exact ⟨k + 1, false, by omega, by go_num, rfl, HX, by first | rfl | trivial⟩
                        case measure => simp [intOf]; omega
                      · have e1 : ((k : Int) != (n : Int)) = true := by rw [bne_iff_ne]; omega
                        by_cases h2 : k = m
                        · have HX := Lib.hid (HQ'.out false (by simp [h2]))
                          have e2 : ((k : Int) != (m : Int)) = false := by simp [h2]
                          clear HQ' h1 h2
                          go_wp2_with fail
                          go_roundw
                          case rel => exact ⟨k + 1, false, by omega, by go_num, rfl, HX, by first | rfl | trivial⟩
                          case measure => simp [intOf]; omega
                        · have e2 : ((k : Int) != (m : Int)) = true := by rw [bne_iff_ne]; omega
                          obtain ⟨-, cn⟩ := HT.out.row n hlt
                          obtain ⟨-, ck⟩ := HT.out.row k hlk
                          have cnk := HT.out.cell n k hlt hlk
                          have ckm := HT.out.cell k m hlk hlm
                          obtain ⟨p1, hp⟩ : ∃ p, f n k = p := ⟨_, rfl⟩
                          have HP1 : Hid (p1 = true ↔ Rch es n k) := by show _ ↔ _; rw [← hp]; exact HF.out n k hlt
                          rw [hp] at cnk
                          obtain ⟨p2, hq⟩ : ∃ q, f k m = q := ⟨_, rfl⟩
                          have HP2 : Hid (p2 = true ↔ Rch es k m) := by show _ ↔ _; rw [← hq]; exact HF.out k m hlk
                          rw [hq] at ckm
                          have HH := Lib.hid (And.intro h1 h2)
                          clear hp hq h1 h2
                          cases p1 with
                          | false =>
                            have HX := Lib.hid (HQ'.out false (by
                              constructor
                              · intro h; simp at h
                              · rintro (h | ⟨_, _, h, _⟩)
                                · exact h
                                · exact HP1.out.2 h))
                            clear HQ' HP1 HP2 HH
                            go_wp2_with fail
                            go_roundw
                            case rel => exact ⟨k + 1, false, by omega, by go_num, rfl, HX, by first | rfl | trivial⟩
                            case measure => simp [intOf]; omega
                          | true =>
                            have HX := Lib.hid (HQ'.out p2 (by
                              rw [HP2.out]
                              constructor
                              · intro h; exact .inr ⟨HH.out.1, HH.out.2, HP1.out.1 rfl, h⟩
                              · rintro (h | ⟨_, _, _, h⟩)
                                · simp at h
                                · exact h))
                            clear HQ' HP1 HP2 HH
                            go_wp2_with fail
                            go_roundw
                            case rel => exact ⟨k + 1, p2, by omega, by go_num, rfl, HX, by first | rfl | trivial⟩
                            case measure => simp [intOf]; omega
                  · have hkN : k = N := by omega
                    have HCV : Hid (q = false ↔ Cov es n m) := by
                      constructor
                      · rintro rfl
                        refine ⟨HNM.out, HR1.out, fun x h1 h2 => ?_⟩
                        apply Classical.byContradiction
                        intro hx
                        have := HQ.out.2 ⟨x, by rw [hkN]; exact h1.lt HE.out hlt, fun e => hx (.inl e), fun e => hx (.inr e), h1, h2⟩
                        simp at this
                      · intro h
                        cases q with
                        | false => rfl
                        | true =>
                          obtain ⟨x, _, h1, h2, h3, h4⟩ := HQ.out.1 rfl
                          exact absurd (h.2.2 x h3 h4) (by simp [h1, h2])
                    obtain ⟨kt, hkt⟩ : ∃ kt : Int, kt = (k : Int) := ⟨_, rfl⟩
                    have hk10 : ¬ kt < (N : Int) := by omega
                    rw [← hkt]
                    clear HQ k0 hlk hkt hk hkN k
                    cases q with
                    | true =>
                      have HX := Lib.hid (HKP.out fun h => by have := HCV.out.2 h; simp at this)
                      clear HKP HO HCV
                      go_wp2_with fail
                      go_roundw
                      case rel => exact ⟨m + 1, by omega, by go_num, HC', HX, HB⟩
                      case measure => simp [intOf]; omega
                    | false =>
                      have HCO := Lib.hid (HCV.out.1 rfl)
                      obtain ⟨L, hL⟩ := HO.out
                      have HL := Lib.hid hL
                      obtain ⟨z, hz⟩ : ∃ z, (covTo es N n ++ covRow es n m).length = z := ⟨_, rfl⟩
                      have hz9 : z ≤ 168 := by
                        rw [← hz, List.length_append]
                        have h1 := covTo_len es N n
                        have h2 := covRow_len es n m
                        have h3 : n * N ≤ 12 * 12 := Nat.mul_le_mul (by omega) hN
                        omega
                      have HZL := Lib.hid hz
                      obtain ⟨oa, oc, rfl⟩ := HL.out.slice
                      have HL2 := Lib.hid HL.out
                      rw [hz] at HL2 ⊢
                      have HU := Lib.hid (ownI_two wi (n : Int) (m : Int))
                      have HBU : Hid (Below wi.heap.size wi (wi.alloc (.cells #[.int .i64 (n : Int), .int .i64 (m : Int)] 2))) := (Below.refl _ _).alloc (Nat.le_refl _) _
                      have hbs := HB.out.size
                      clear hL hz HKP HO HCV HL
                      go_wp2_with (at_builtin; go_loud (refine wpList_append_place _ rfl _ _ 22 rfl w.heap.size 40 i0 (.slice none 0 0) 24 Tryd.underlying22 hi0 iz0 iz1 iz2 rfl _ z L rfl (by have h := (HL2.out.on (HBU.out.alloc HBU.out.size (.cells #[.slice (some ⟨wi.heap.size, 0, none⟩) 2 2] 40))).row; rw [HZL.out] at h; exact h) ⟨wi.heap.size + 1, 0, none⟩ _ (.slice (some ⟨wi.heap.size, 0, none⟩) 2 2) rfl (row_oneP _ _ _ _ (by simp)) (fun y hy => by simp at hy; rw [hy]; rfl) (by unfold maxLen; omega) (by omega) (by rw [World.size_alloc, World.size_alloc]; omega) ?_); intro v3 w3 hr3 hg3 hv3)
                      have hp3 := OwnRI.push HL2.out HU.out HBU.out hbs (by rw [HZL.out]; exact hr3) hg3 (fun g hg => (hv3 g hg).imp id (fun h => by rw [World.size_alloc, World.size_alloc] at h; rw [World.size_alloc]; omega))
                      have hb3 : Below w.heap.size w w3 := ((HB.out.alloc hbs _).alloc (by rw [World.size_alloc]; omega) _).grown hg3 (by rw [World.size_alloc, World.size_alloc]; omega) (fun k hk => (HL2.out.row.lt k hk).1)
                      have HX : Hid (OwnRI w.heap.size w3 v3 (covTo es N n ++ covRow es n (m + 1))) := by
                        show OwnRI _ _ _ _
                        rw [covRow_yes HCO.out, ← List.append_assoc]; exact hp3
                      have HB3 := Lib.hid hb3
                      clear hp3 hb3 hr3 hg3 hv3
                      go_wp2_with fail
                      go_roundw
                      case rel => exact ⟨m + 1, by omega, by go_num, HC', HX, HB3⟩
                      case measure => simp [intOf]; omega
        · have hmN : m = N := by omega
          have HX : Hid (OwnRI w.heap.size wr u4 (covTo es N (n + 1))) := by
            show OwnRI _ _ _ _
            rw [covTo_next, ← hmN]
            have h := HO.out
            rw [hmN] at h ⊢
            exact h
          have HC' : Hid (NoC es N (n + 1) 0) := by
            have h := HC.out
            rw [hmN] at h
            exact h.line
          obtain ⟨kt, hkt⟩ : ∃ kt : Int, kt = (m : Int) := ⟨_, rfl⟩
          have hk10 : ¬ kt < (N : Int) := by omega
          rw [← hkt]
          clear HO HC m0 hlm hkt hm hmN m
          go_wp2_with fail
          go_roundw
          case rel => exact ⟨n + 1, by omega, by go_num, HC', HX, HB⟩
          case measure => simp [intOf]; omega
    · have hnN : n = N := by omega
      have hnc : ¬ Circ es N := by
        have h := HC.out
        rw [hnN] at h
        exact h.done
      obtain ⟨rfl, rfl⟩ : Z = covL es N ∧ T = true := by
        rcases HZ.out with ⟨h, _⟩ | ⟨_, h⟩
        · exact absurd h hnc
        · exact h
      have HX : Hid (OwnRI w.heap.size wr u4 (covL es N)) := by
        have h := HO.out
        rw [hnN] at h
        exact h
      obtain ⟨kt, hkt⟩ : ∃ kt : Int, kt = (n : Int) := ⟨_, rfl⟩
      have hk10 : ¬ kt < (N : Int) := by omega
      rw [← hkt]
      clear HO HC n0 hlt hkt hn hnN hnc n
      go_wp2_with fail
      go_ret2
      exact ⟨_, rfl, HX.out, HB.out⟩
end Go.Proofs.YtdihcmohpbgmmaaDoor
