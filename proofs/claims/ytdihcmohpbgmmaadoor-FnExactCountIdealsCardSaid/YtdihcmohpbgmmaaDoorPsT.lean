/-
  The first extension: mathematics, and the model's l06First and FirstExtension.
-/
import Derived.Test.YtdihcmohpbgmmaaDoorPsR
namespace Go.Proofs.YtdihcmohpbgmmaaDoor
open Go.RowKit
set_option linter.unusedVariables false
set_option linter.unusedSimpArgs false

theorem maskOf_selN {P : Nat → Prop} {N : Nat} : MaskIs (fun i => i < N ∧ P i) (maskOf (selN P N)) := fun i => by
  rw [maskOf_bit _ (fun v hv => by obtain ⟨a, _, _, rfl⟩ := mem_selN.1 hv; omega), decide_eq_true_eq, mem_selN]
  constructor
  · rintro ⟨a, h1, h2, e⟩
    obtain rfl : i = a := by omega
    exact ⟨h1, h2⟩
  · rintro ⟨h1, h2⟩; exact ⟨i, h1, h2, rfl⟩
/-- Where not all are done, there is a next element. -/
theorem next_ex {es : List (Nat × Nat)} {N : Nat} (hes : ∀ e ∈ es, e.1 < N ∧ e.2 < N) (hc : ¬ Circ es N) (d : Nat) : ∀ (m a : Nat), maskOf (selN (fun i => Rch es i a) N) ≤ m → a < N → d.testBit a = false → ∃ x, x < N ∧ NxtP es d x
  | 0, a, hm, ha, hd => by
    exfalso
    have h := (maskOf_selN (P := fun i => Rch es i a) (N := N) a).2 ⟨ha, .refl _⟩
    rw [show maskOf (selN (fun i => Rch es i a) N) = 0 by omega] at h
    simp at h
  | m + 1, a, hm, ha, hd => by
    by_cases hn : NxtP es d a
    · exact ⟨a, ha, hn⟩
    · obtain ⟨b, hr, hne, hb⟩ : ∃ b, Rch es b a ∧ b ≠ a ∧ d.testBit b = false := by
        apply Classical.byContradiction
        intro hx
        refine hn ⟨hd, fun b hr hne => ?_⟩
        cases hb : d.testBit b with
        | true => rfl
        | false => exact absurd ⟨b, hr, hne, hb⟩ hx
      have hbN : b < N := hr.gt hes ha
      refine next_ex hes hc d m b ?_ hbN hb
      have h1 := maskOf_selN (P := fun i => Rch es i a) (N := N)
      have h2 := maskOf_selN (P := fun i => Rch es i b) (N := N)
      have hle : maskOf (selN (fun i => Rch es i b) N) ≤ maskOf (selN (fun i => Rch es i a) N) := by
        have e : maskOf (selN (fun i => Rch es i b) N) &&& maskOf (selN (fun i => Rch es i a) N) = maskOf (selN (fun i => Rch es i b) N) :=
          (h2.and h1).one (h2.congr fun i => ⟨fun h => ⟨h, h.1, h.2.trans hr⟩, fun h => h.1⟩)
        rw [← e]; exact Nat.and_le_right
      have hlt : maskOf (selN (fun i => Rch es i b) N) ≠ maskOf (selN (fun i => Rch es i a) N) := fun e => by
        have h3 := (h1 a).2 ⟨ha, .refl _⟩
        rw [← e] at h3
        exact hne (Circ.no hc hbN ha hr ((h2 a).1 h3).2)
      omega
/-- A list that has all numbers below N is as long. -/
theorem len_full : ∀ (N : Nat) (D : List Int), (∀ a, a < N → (a : Int) ∈ D) → N ≤ D.length
  | 0, _, _ => Nat.zero_le _
  | N + 1, D, h => by
    have h1 := h N (by omega)
    have h2 := len_full N (D.erase (N : Int)) fun a ha => (List.mem_erase_of_ne (by omega)).2 (h a (by omega))
    rw [List.length_erase_of_mem h1] at h2
    have := List.length_pos_of_mem h1
    omega
/-- The first elements of the first extension. -/
noncomputable def fstTo (es : List (Nat × Nat)) (N : Nat) : Nat → List Int
  | 0 => []
  | k + 1 => fstTo es N k ++ [(selN (NxtP es (maskOf (fstTo es N k))) N).headD 0]
theorem fstTo_len (es : List (Nat × Nat)) (N : Nat) : ∀ k, (fstTo es N k).length = k
  | 0 => rfl
  | k + 1 => by rw [fstTo, List.length_append, fstTo_len es N k]; rfl
theorem sel_head {P : Nat → Prop} {a : Nat} (h : ∀ a', a' < a → ¬ P a') (ha : P a) : ∀ N, a < N → ∃ t, selN P N = (a : Int) :: t
  | 0, hN => by omega
  | N + 1, hN => by
    by_cases e : a = N
    · subst e
      rw [selN_yes ha]
      have : selN P a = [] := by
        cases hs : selN P a with
        | nil => rfl
        | cons x xs =>
          have hx : x ∈ selN P a := by rw [hs]; simp
          obtain ⟨b, h1, h2, _⟩ := mem_selN.1 hx
          exact absurd h2 (h b h1)
      rw [this]
      exact ⟨[], rfl⟩
    · obtain ⟨t, ht⟩ := sel_head h ha N (by omega)
      by_cases hp : P N
      · rw [selN_yes hp, ht]; exact ⟨_, rfl⟩
      · rw [selN_no hp, ht]; exact ⟨_, rfl⟩
theorem fst_next {es : List (Nat × Nat)} {N k a : Nat} (ha : a < N) (h : ∀ a', a' < a → ¬ NxtP es (maskOf (fstTo es N k)) a') (hp : NxtP es (maskOf (fstTo es N k)) a) : fstTo es N (k + 1) = fstTo es N k ++ [(a : Int)] := by
  obtain ⟨t, ht⟩ := sel_head h hp N ha
  rw [fstTo, ht]; rfl
theorem fst_some {es : List (Nat × Nat)} {N k : Nat} (hes : ∀ e ∈ es, e.1 < N ∧ e.2 < N) (hc : ¬ Circ es N) (hk : k < N) (h0 : ∀ v ∈ fstTo es N k, 0 ≤ v) : ∃ a, a < N ∧ NxtP es (maskOf (fstTo es N k)) a ∧ ∀ a', a' < a → ¬ NxtP es (maskOf (fstTo es N k)) a' := by
  obtain ⟨x, hx, hd⟩ : ∃ x, x < N ∧ (maskOf (fstTo es N k)).testBit x = false := by
    apply Classical.byContradiction
    intro hn
    have h1 : ∀ a, a < N → (a : Int) ∈ fstTo es N k := fun a ha => by
      have h2 : (maskOf (fstTo es N k)).testBit a = true := by
        cases h3 : (maskOf (fstTo es N k)).testBit a with
        | true => rfl
        | false => exact absurd ⟨a, ha, h3⟩ hn
      rw [maskOf_bit _ h0, decide_eq_true_eq] at h2
      exact h2
    have h2 := len_full N _ h1
    rw [fstTo_len] at h2
    omega
  obtain ⟨y, hy, hp⟩ := next_ex hes hc (maskOf (fstTo es N k)) _ x (Nat.le_refl _) hx hd
  have key : ∀ m a, a ≤ m → a < N → NxtP es (maskOf (fstTo es N k)) a → ∃ a, a < N ∧ NxtP es (maskOf (fstTo es N k)) a ∧ ∀ a', a' < a → ¬ NxtP es (maskOf (fstTo es N k)) a' := fun m => by
    induction m with
    | zero =>
      intro a hm ha hpa
      exact ⟨a, ha, hpa, fun a' h => by omega⟩
    | succ m ih =>
      intro a hm ha hpa
      by_cases hx : ∃ a', a' < a ∧ NxtP es (maskOf (fstTo es N k)) a'
      · obtain ⟨a', h1, h2⟩ := hx
        exact ih a' (by omega) (by omega) h2
      · exact ⟨a, ha, hpa, fun a' h1 h2 => hx ⟨a', h1, h2⟩⟩
  exact key y y (Nat.le_refl _) hy hp
theorem fst_in {es : List (Nat × Nat)} {N : Nat} (hes : ∀ e ∈ es, e.1 < N ∧ e.2 < N) (hc : ¬ Circ es N) : ∀ k, k ≤ N → ∀ v ∈ fstTo es N k, 0 ≤ v ∧ v < (N : Int)
  | 0, _, v, hv => by simp [fstTo] at hv
  | k + 1, hk, v, hv => by
    have ih := fst_in hes hc k (by omega)
    obtain ⟨a, ha, hp, hm⟩ := fst_some hes hc (show k < N by omega) fun v hv => (ih v hv).1
    rw [fst_next ha hm hp, List.mem_append, List.mem_singleton] at hv
    rcases hv with hv | rfl
    · exact ih v hv
    · omega
theorem nxt_iff {es : List (Nat × Nat)} {N a : Nat} {D : List Int} (hes : ∀ e ∈ es, e.1 < N ∧ e.2 < N) (ha : a < N) (h0 : ∀ v ∈ D, 0 ≤ v) : NxtP es (maskOf D) a ↔ ((a : Int) ∉ D ∧ ∀ b, b < N → b = a ∨ ¬ Rch es b a ∨ (b : Int) ∈ D) := by
  unfold NxtP
  rw [maskOf_bit _ h0, decide_eq_false_iff_not]
  refine and_congr Iff.rfl ⟨fun h b hb => ?_, fun h b hr hne => ?_⟩
  · by_cases e : b = a
    · exact .inl e
    · by_cases hr : Rch es b a
      · have := h b hr e
        rw [maskOf_bit _ h0, decide_eq_true_eq] at this
        exact .inr (.inr this)
      · exact .inr (.inl hr)
  · rw [maskOf_bit _ h0, decide_eq_true_eq]
    rcases h b (hr.gt hes ha) with e | e | e
    · exact absurd e hne
    · exact absurd hr e
    · exact e
set_option maxRecDepth 100000 in
set_option maxHeartbeats 1600000 in
theorem hasP_is {v : Value} {zs : List Int} {n : Int} {T : Bool} {w : World} (hv : IntsAt w v zs) (h : T = true ↔ n ∈ zs) :
    Calls Tryd.prog 86 #[v, .int .i64 n] w fun e w' => e = .returned (.bool T) ∧ w = w' := by
  have HV := Lib.hid hv
  have hl : zs.length ≤ 1048576 := by obtain ⟨_, _, _, h, _⟩ := hv; exact h
  obtain ⟨a, c, rfl⟩ := hv.slice
  have HT := Lib.hid h
  clear hv h
  go_enter Tryd.func86, Tryd.ntmps86
  go_wp2
  go_loopw [5] (fun i wr => ∃ k : Nat, k ≤ zs.length ∧ i = .int .i64 (k : Int) ∧ Hid (∀ j (h : j < zs.length), j < k → zs[j] ≠ n) ∧ w = wr) (fun i _ => zs.length - (intOf i).toNat)
  case atStart => exact ⟨0, Nat.zero_le _, rfl, fun j _ h => by omega, rfl⟩
  case round =>
    obtain ⟨k, hk, rfl, HA, rfl⟩ := hrel
    by_cases hlt : k < zs.length
    · obtain ⟨b, o, cc, e, hb, ks⟩ := HV.out.atP (by omega)
      injection e with e1 e2 e3
      subst e1 e3
      have g1 := ks k hlt
      have i0 : 0 ≤ (k : Int) := by omega
      have i1 : (k : Int) < (zs.length : Int) := by omega
      have HM := Lib.hid (List.getElem_mem hlt)
      obtain ⟨x, hx⟩ : ∃ x, zs[k] = x := ⟨_, rfl⟩
      rw [hx] at g1 HM
      have HX := Lib.hid hx
      clear ks e2 hx
      by_cases he : x = n
      · obtain rfl : T = true := HT.out.2 (by rw [← he]; exact HM.out)
        have hee : (x == n) = true := by simp [he]
        clear he
        go_wp2_with fail
        go_ret
        exact ⟨rfl, rfl⟩
      · have hee : (x == n) = false := by simp [he]
        have HA' : Hid (∀ j (h : j < zs.length), j < k + 1 → zs[j] ≠ n) := fun j hj hjk => by
          by_cases e : j = k
          · subst e; rw [HX.out]; exact he
          · exact HA.out j hj (by omega)
        clear he
        go_wp2_with fail
        go_roundw
        case rel => exact ⟨k + 1, by omega, by go_num, HA', (by first | rfl | trivial)⟩
        case measure => simp [intOf]; omega
    · obtain rfl : T = false := by
        cases hT : T with
        | false => rfl
        | true =>
          obtain ⟨j, hj, e⟩ := List.getElem_of_mem (HT.out.1 hT)
          exact absurd e (HA.out j hj (by omega))
      go_wp2
      go_ret
      exact ⟨rfl, rfl⟩
def lenV : Value → Nat
  | .slice _ n _ => n
  | _ => 0
set_option maxRecDepth 100000 in
set_option maxHeartbeats 6400000 in
theorem l06First_any {N g : Nat} {es : List (Nat × Nat)} {f : Nat → Nat → Bool} {rs : Nat → Nat} {v : Value} {w : World} (hN : N ≤ 12) (hes : ∀ e ∈ es, e.1 < N ∧ e.2 < N) (hc : ¬ Circ es N) (hf : ∀ a b, a < N → (f a b = true ↔ Rch es a b)) (hv : TabR w v N f g rs) :
    Calls Tryd.prog 71 #[v] w fun e w' => RetN (fstTo es N N) w e w' := by
  obtain ⟨i0, hi, iz0, iz1, iz2⟩ := info_parts info2
  have HV := Lib.hid hv
  have HE := Lib.hid hes
  have HC : Hid (¬ Circ es N) := hc
  have HF := Lib.hid hf
  obtain ⟨va, vc, rfl, hva⟩ := hv.form
  have AL : Hid (Below w.heap.size w (w.alloc (.cells #[] 2))) := al1 (Below.refl _ _) _
  have O0 : Hid (OwnI w.heap.size (w.alloc (.cells #[] 2)) (.slice (some ⟨w.heap.size, 0, none⟩) 0 0) (fstTo es N 0)) := ownI_nilP w _ (Nat.le_refl _)
  clear hv hes hc hf
  go_enter Tryd.func71, Tryd.ntmps71
  go_wp2_with fail
  go_loopw [3] (fun so wr => ∃ (k : Nat), k ≤ N ∧ Hid (OwnI w.heap.size wr so (fstTo es N k)) ∧ Hid (Below w.heap.size w wr)) (fun so _ => N - lenV so)
  case atStart => exact ⟨0, Nat.zero_le _, O0, AL⟩
  case round =>
    clear O0 AL
    obtain ⟨k, hk, HO, HB⟩ := hrel
    obtain ⟨oa, oc, rfl⟩ := HO.out.slice
    have hfl := fstTo_len es N k
    have HFL := Lib.hid hfl
    rw [hfl] at HO ⊢
    clear hfl
    have k0 : 0 ≤ (k : Int) := by omega
    by_cases hlt : k < N
    · have k1 : (k : Int) < (N : Int) := by omega
      obtain rfl := hva (by omega)
      have hin := fst_in HE.out HC.out k (by omega)
      have hsome := fst_some HE.out HC.out hlt fun v hv => (hin v hv).1
      have HIN := Lib.hid hin
      have HSM := Lib.hid hsome
      have HTW := Lib.hid (HV.out.on HB.out)
      have HAT : Hid (IntsAt wr (.slice oa k oc) (fstTo es N k)) := HO.out.at (by rw [HFL.out]; omega)
      obtain ⟨wi, rfl⟩ : ∃ wi, wi = wr := ⟨_, rfl⟩
      clear hin hsome
      go_wp2_with fail
      go_loopw [3, 4] (fun so si wr => ∃ (a : Nat), a ≤ N ∧ so = .slice oa k oc ∧ si = .int .i64 (a : Int) ∧ Hid (∀ a', a' < a → ¬ NxtP es (maskOf (fstTo es N k)) a') ∧ wi = wr) (fun _ i _ => N - (intOf i).toNat)
      case atStart => exact ⟨0, Nat.zero_le _, rfl, rfl, fun a' h => by omega, rfl⟩
      case round =>
        obtain ⟨a, ha, rfl, rfl, HA, rfl⟩ := hrel
        have a0 : 0 ≤ (a : Int) := by omega
        by_cases hla : a < N
        · have a1 : (a : Int) < (N : Int) := by omega
          obtain ⟨T0, hT0⟩ : ∃ T : Bool, T = true ↔ (a : Int) ∈ fstTo es N k := ⟨decide ((a : Int) ∈ fstTo es N k), by rw [decide_eq_true_eq]⟩
          have HT0 := Lib.hid hT0
          have HQ0 : Hid ((!T0) = true ↔ ((a : Int) ∉ fstTo es N k ∧ ∀ b, b < 0 → b = a ∨ ¬ Rch es b a ∨ (b : Int) ∈ fstTo es N k)) := by
            show _ ↔ _
            rw [Bool.not_eq_true', ← hT0]
            simp
          clear hT0
          go_wp2_with (go_at_call 86; refine (hasP_is HAT.out HT0.out).mono ?_; rintro e w3 ⟨rfl, rfl⟩)
          go_loopw [5, 6] (fun sb si wr => ∃ (b : Nat) (q : Bool), b ≤ N ∧ si = .int .i64 (b : Int) ∧ sb = .bool q ∧ Hid (q = true ↔ ((a : Int) ∉ fstTo es N k ∧ ∀ b', b' < b → b' = a ∨ ¬ Rch es b' a ∨ (b' : Int) ∈ fstTo es N k)) ∧ wi = wr) (fun _ i _ => N - (intOf i).toNat)
          case atStart => exact ⟨0, !T0, Nat.zero_le _, rfl, rfl, HQ0, rfl⟩
          case round =>
            clear HQ0
            obtain ⟨b, q, hb, rfl, rfl, HQ, rfl⟩ := hrel
            have b0 : 0 ≤ (b : Int) := by omega
            cases q with
            | false =>
              have HNX : Hid (∀ a', a' < a + 1 → ¬ NxtP es (maskOf (fstTo es N k)) a') := fun a' ha' => by
                by_cases e : a' = a
                · subst e
                  intro hp
                  have h1 := (nxt_iff HE.out hla (fun v hv => (HIN.out v hv).1)).1 hp
                  have := HQ.out.2 ⟨h1.1, fun b' hb' => h1.2 b' (by omega)⟩
                  simp at this
                · exact HA.out a' (by omega)
              by_cases hlb : b < N
              · have b1 : (b : Int) < (N : Int) := by omega
                clear HQ
                go_wp2_with fail
                go_roundw
                case rel => exact ⟨a + 1, by omega, by first | rfl | trivial, by go_num, HNX, by first | rfl | trivial⟩
                case measure => simp [intOf]; omega
              · have b1 : ¬ (b : Int) < (N : Int) := by omega
                clear HQ
                go_wp2_with fail
                go_roundw
                case rel => exact ⟨a + 1, by omega, by first | rfl | trivial, by go_num, HNX, by first | rfl | trivial⟩
                case measure => simp [intOf]; omega
            | true =>
              by_cases hlb : b < N
              · have b1 : (b : Int) < (N : Int) := by omega
                have HQ' : Hid (∀ r : Bool, (r = true ↔ (b = a ∨ ¬ Rch es b a ∨ (b : Int) ∈ fstTo es N k)) → (r = true ↔ ((a : Int) ∉ fstTo es N k ∧ ∀ b', b' < b + 1 → b' = a ∨ ¬ Rch es b' a ∨ (b' : Int) ∈ fstTo es N k))) := fun r hr => by
                  have h0 := HQ.out.1 rfl
                  rw [hr]
                  constructor
                  · intro h
                    refine ⟨h0.1, fun b' hb' => ?_⟩
                    by_cases e : b' = b
                    · subst e; exact h
                    · exact h0.2 b' (by omega)
                  · intro h; exact h.2 b (by omega)
                clear HQ
                by_cases hba : b = a
                · have e1 : ((b : Int) == (a : Int)) = true := by simp [hba]
                  have HX := Lib.hid (HQ'.out true (by simp [hba]))
                  clear HQ' hba
                  go_wp2_with fail
                  go_roundw
                  case rel => exact ⟨b + 1, true, by omega, by go_num, rfl, HX, by first | rfl | trivial⟩
                  case measure => simp [intOf]; omega
                · have e1 : ((b : Int) == (a : Int)) = false := by rw [beq_eq_false_iff_ne]; omega
                  obtain ⟨-, cb⟩ := HTW.out.row b hlb
                  have cba := HTW.out.cell b a hlb hla
                  have hr := HF.out b a hlb
                  obtain ⟨p, hp⟩ : ∃ p, f b a = p := ⟨_, rfl⟩
                  rw [hp] at cba hr
                  have HR := Lib.hid hr
                  clear hp hr
                  cases p with
                  | false =>
                    have HX := Lib.hid (HQ'.out true ⟨fun _ => .inr (.inl fun h => by have := HR.out.2 h; simp at this), fun _ => rfl⟩)
                    clear HQ' hba HR
                    go_wp2_with fail
                    go_roundw
                    case rel => exact ⟨b + 1, true, by omega, by go_num, rfl, HX, by first | rfl | trivial⟩
                    case measure => simp [intOf]; omega
                  | true =>
                    obtain ⟨T1, hT1⟩ : ∃ T : Bool, T = true ↔ (b : Int) ∈ fstTo es N k := ⟨decide ((b : Int) ∈ fstTo es N k), by rw [decide_eq_true_eq]⟩
                    have HT1 := Lib.hid hT1
                    have HX : Hid (T1 = true ↔ ((a : Int) ∉ fstTo es N k ∧ ∀ b', b' < b + 1 → b' = a ∨ ¬ Rch es b' a ∨ (b' : Int) ∈ fstTo es N k)) := HQ'.out T1 (by
                      rw [hT1]
                      exact ⟨fun h => .inr (.inr h), fun h => h.elim (fun e => absurd e hba) fun h => h.elim (fun e => absurd (HR.out.1 rfl) e) id⟩)
                    clear HQ' hba HR hT1
                    go_wp2_with (go_at_call 86; refine (hasP_is HAT.out HT1.out).mono ?_; rintro e w3 ⟨rfl, rfl⟩)
                    go_roundw
                    case rel => exact ⟨b + 1, T1, by omega, by go_num, rfl, HX, by first | rfl | trivial⟩
                    case measure => simp [intOf]; omega
              · have hp : NxtP es (maskOf (fstTo es N k)) a := (nxt_iff HE.out hla (fun v hv => (HIN.out v hv).1)).2 ⟨(HQ.out.1 rfl).1, fun b' hb' => (HQ.out.1 rfl).2 b' (by omega)⟩
                have hfn := fst_next hla HA.out hp
                have HFN := Lib.hid hfn
                have b1 : ¬ (b : Int) < (N : Int) := by omega
                have hown := HO.out
                have hs := HB.out.size
                have hk12 : (fstTo es N k).length ≤ 12 := by rw [fstTo_len]; omega
                clear HQ hp hfn HSM HIN
                go_wp2_with (at_builtin; refine wpList_append_own _ rfl _ _ 40 rfl w.heap.size 2 i0 (.int .i64 0) 1 8 Tryd.underlying40 hi iz0 iz1 iz2 rfl (by decide) _ _ _ rfl (hown.out.alloc _) ⟨wi.heap.size, 0, none⟩ 1 1 [.int .i64 (a : Int)] rfl rfl ?ah1 ?ah2 ?ah3 ?ah4 ?ah5 ?_)
                try (case ah1 => exact row_one _ _ _)
                case ah2 => first | rfl | (intro u hu; simp at hu; subst hu; rfl)
                case ah3 => unfold maxLen; omega
                case ah4 => omega
                case ah5 => first | omega | (simp; omega)
                intro v2 w10 hown3 hgrow _
                have hp3 := pushU hown3
                have hk3 := below_pushU HB.out (Nat.le_refl _) hs hown hgrow
                obtain ⟨xa, xc, rfl⟩ := hp3.slice
                have hl1 : (fstTo es N k ++ [(a : Int)]).length = k + 1 := by rw [List.length_append, fstTo_len]; rfl
                rw [hl1] at hp3 ⊢
                rw [← HFN.out] at hp3
                have HX := Lib.hid hp3
                have HB3 := Lib.hid hk3
                clear hp3 hk3 hown3 hgrow hown hl1
                go_wp2_with fail
                go_roundw
                case rel => exact ⟨k + 1, by omega, HX, HB3⟩
                case measure => simp [lenV]; omega
        · exfalso
          obtain ⟨x, hx, hp, _⟩ := HSM.out
          exact HA.out x (by omega) hp
    · have hkN : k = N := by omega
      have HX : Hid (OwnI w.heap.size wr (.slice oa k oc) (fstTo es N N)) := by
        have h := HO.out
        rw [show fstTo es N k = fstTo es N N by rw [hkN]] at h
        exact h
      have hk10 : ¬ (k : Int) < (N : Int) := by omega
      clear HO hkN hlt hk HFL
      go_wp2_with fail
      go_ret
      exact ⟨_, rfl, HX.out, HB.out⟩
/-- What FirstExtension answers. -/
def FstIs (n : Int) (zz : List (List Int)) (Z : List Int) (k : Int) : Prop := (¬ OkP n zz ∧ Z = [] ∧ k = 1) ∨ (∃ N : Nat, n = (N : Int) ∧ OkP n zz ∧ Z = fstTo (esP zz) N N ∧ k = 0)
theorem fst_has (n : Int) (zz : List (List Int)) : ∃ Z k, FstIs n zz Z k := by
  by_cases h : OkP n zz
  · obtain ⟨N, e, _⟩ := h.nat
    exact ⟨_, _, .inr ⟨N, e, h, rfl, rfl⟩⟩
  · exact ⟨_, _, .inl ⟨h, rfl, rfl⟩⟩
theorem FstIs.fit {n : Int} {zz : List (List Int)} {Z : List Int} {k : Int} (h : FstIs n zz Z k) : Z.length ≤ 1048576 := by
  rcases h with ⟨_, rfl, _⟩ | ⟨N, e, ho, rfl, _⟩
  · simp
  · obtain ⟨M, e2, h1, _⟩ := ho.nat
    rw [fstTo_len]; omega
theorem OkP.acyc {N : Nat} {zz : List (List Int)} (h : OkP (N : Int) zz) : N ≤ 12 ∧ PairsIn (N : Int) zz ∧ ¬ Circ (esP zz) N := by
  obtain ⟨M, e, h1, _, h2, h3, _⟩ := h
  obtain rfl : N = M := by omega
  exact ⟨h1, h2, h3⟩
set_option maxRecDepth 100000 in
set_option maxHeartbeats 3200000 in
theorem specFst_is {n : Int} {v : Value} {zz : List (List Int)} {Z : List Int} {k : Int} {w : World} (hv : RowsAt w v zz) (h : FstIs n zz Z k) :
    Calls Tryd.prog 46 #[.agg #[.int .i64 n, v]] w fun e w' => RetNK Z k w e w' := by
  obtain ⟨va, vc, rfl, hl, -⟩ := hv.anyP
  have HV := Lib.hid hv
  have P0 : Hid (PtP (w.alloc (.cells #[.int .i64 n, .slice va zz.length vc] 27)) w.heap.size n (.slice va zz.length vc)) := PtP.new _ _ _ _
  have B0 : Hid (Below w.heap.size w (w.alloc (.cells #[.int .i64 n, .slice va zz.length vc] 27))) := al1 (Below.refl _ _) _
  clear hv
  rcases h with ⟨ho, rfl, rfl⟩ | ⟨N, rfl, ho, rfl, rfl⟩
  · have HOK : Hid (OkPIs n zz false) := .inr ⟨rfl, ho⟩
    clear ho
    go_enter Tryd.func46, Tryd.ntmps46
    go_wp2_with (go_at_call 52; refine (l06Ok_is P0.out (HV.out.on B0.out) HOK.out).mono ?_; rintro e w1 ⟨rfl, hb1⟩; have P1 := Lib.hid (P0.out.on hb1); have HB1 := Lib.hid (B0.out.trans (hb1.mono B0.out.size)); clear hb1)
    go_ret2
    exact ⟨_, rfl, World.ownsRow_nil _ _ _ _, HB1.out⟩
  · obtain ⟨hN, hpi, hnc⟩ := ho.acyc
    have HPI := Lib.hid hpi
    have HNC : Hid (¬ Circ (esP zz) N) := hnc
    have HOK : Hid (OkPIs (N : Int) zz true) := .inl ⟨rfl, ho⟩
    clear ho hpi hnc
    go_enter Tryd.func46, Tryd.ntmps46
    go_wp2_with (first | (go_at_call 52; refine (l06Ok_is P0.out (HV.out.on B0.out) HOK.out).mono ?_; rintro e w1 ⟨rfl, hb1⟩; have P1 := Lib.hid (P0.out.on hb1); have HB1 := Lib.hid (B0.out.trans (hb1.mono B0.out.size)); clear hb1) | (go_at_call 66; refine Hid.out ?_))
    refine Lib.hid ?_
    have HV1 := Lib.hid (HV.out.on HB1.out)
    refine (l06Ord_any P1.out HV1.out hN HPI.out).mono ?_
    rintro e w5 ⟨vt, rs, rfl, ht, hb5⟩
    obtain ⟨gt, hgt⟩ := ht.toR
    have HT5 := Lib.hid hgt
    obtain ⟨ta, tc, rfl⟩ := ht.slice
    have HB5 := Lib.hid (HB1.out.trans (hb5.mono HB1.out.size))
    clear ht hgt hb5
    go_wp2_with fail
    refine (l06First_any hN HPI.out.lt HNC.out (table_rch HPI.out) HT5.out).mono ?_
    rintro e w6 ⟨v6, rfl, ho6, hb6⟩
    have HO6 := Lib.hid ho6
    have hs5 := HB5.out.size
    have HB6 := Lib.hid (HB5.out.trans (hb6.mono HB5.out.size))
    clear ho6 hb6
    go_wp2_with fail
    go_ret2
    exact ⟨_, rfl, HO6.out.mono hs5, HB6.out⟩
end Go.Proofs.YtdihcmohpbgmmaaDoor
