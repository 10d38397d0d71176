/-
  Pairs of elements: what areElements and l06Pairs answer.
-/
import Derived.Test.YtdihcmohpbgmmaaDoorPsA
import Derived.Test.YtdihcmohpbgmmaaDoorPsD
import Derived.Test.YtdihcmohpbgmmaaDoorCxB
namespace Go.Proofs.YtdihcmohpbgmmaaDoor
open Go.RowKit
set_option linter.unusedVariables false
set_option linter.unusedSimpArgs false

theorem IntsAt.atP {w : World} {v : Value} {l : List Int} (h : IntsAt w v l) (h0 : 0 < l.length) : ∃ b o c, v = .slice (some ⟨b, o, none⟩) l.length c ∧ b < w.heap.size ∧ ∀ j (h : j < l.length), w.cell? ⟨b, o + j, none⟩ = some (.int .i64 l[j]) := by
  obtain ⟨a, c, rfl, hl, ha⟩ := h
  rcases ha with h' | ⟨b, o, rfl, hb, k1⟩
  · subst h'; simp at h0
  · exact ⟨b, o, c, rfl, hb, k1⟩
set_option maxRecDepth 100000 in
theorem areEl_is {N : Nat} {v : Value} {l : List Int} {T : Bool} {w : World} (hN : N ≤ 12) (hv : IntsAt w v l) (hT : (∀ x ∈ l, 0 ≤ x ∧ x < (N : Int)) ↔ T = true) :
    Calls Tryd.prog 60 #[.int .i64 (N : Int), v] w fun e w' => e = .returned (.bool T) ∧ w = w' := by
  have HV := Lib.hid hv
  have HT := Lib.hid hT
  obtain ⟨a, c, rfl⟩ := hv.slice
  have hll : l.length ≤ 1048576 := by obtain ⟨_, _, _, h, _⟩ := hv; exact h
  clear hv hT
  go_enter Tryd.func60, Tryd.ntmps60
  go_wp2_with fail
  go_loopw [9] (fun si wr => ∃ (k : Nat), k ≤ l.length ∧ si = .int .i64 (k : Int) ∧ Hid (∀ j (h : j < l.length), j < k → 0 ≤ l[j] ∧ l[j] < (N : Int)) ∧ w = wr) (fun i _ => l.length - (intOf i).toNat)
  case atStart => exact ⟨0, Nat.zero_le _, rfl, fun j _ hj => absurd hj (Nat.not_lt_zero j), rfl⟩
  case round =>
    obtain ⟨k, hk, rfl, HA, rfl⟩ := hrel
    have k0 : 0 ≤ (k : Int) := by omega
    by_cases hlt : k < l.length
    · have k1 : (k : Int) < (l.length : Int) := by omega
      obtain ⟨b, o, cc, e, hb, ks⟩ := HV.out.atP (by omega)
      injection e with e1 e2 e3
      subst e1 e3
      have s1 := ks k hlt
      have HLk := Lib.hid (List.getElem_mem hlt)
      obtain ⟨x, hx⟩ : ∃ x, l[k] = x := ⟨_, rfl⟩
      rw [hx] at s1 HLk
      have HX := Lib.hid hx
      clear hx ks
      by_cases hin : 0 ≤ x ∧ x < (N : Int)
      · have hb1 : inB x 0 ((N : Int) - 1) = true := inB_yes hin.1 (by omega)
        have HA' : Hid (∀ j (h : j < l.length), j < k + 1 → 0 ≤ l[j] ∧ l[j] < (N : Int)) := fun j hj hjk => by
          by_cases e : j = k
          · subst e; rw [HX.out]; exact hin
          · exact HA.out j hj (by omega)
        have HI := Lib.hid hb1
        clear hin hb1
        go_wp2_with (go_at_call 59; refine (within64_is _ HI.out).mono ?_; rintro e w3 ⟨rfl, rfl⟩)
        go_roundw
        case rel => exact ⟨k + 1, by omega, by go_num, HA', by first | rfl | trivial⟩
        case measure => simp [intOf]; omega
      · have hb1 : inB x 0 ((N : Int) - 1) = false := inB_no (by omega)
        have hTf : T = false := by
          cases hT : T with
          | false => rfl
          | true => exact absurd (HT.out.2 hT x HLk.out) hin
        have HI := Lib.hid hb1
        clear hin hb1
        subst hTf
        go_wp2_with (go_at_call 59; refine (within64_is _ HI.out).mono ?_; rintro e w3 ⟨rfl, rfl⟩)
        go_ret
        exact ⟨rfl, by first | rfl | trivial⟩
    · obtain rfl : k = l.length := by omega
      have hTt : T = true := HT.out.1 fun x hx => by
        obtain ⟨j, hj, rfl⟩ := List.getElem_of_mem hx
        exact HA.out j hj hj
      subst hTt
      go_wp2_with fail
      go_ret
      exact ⟨rfl, by first | rfl | trivial⟩
theorem RowsAt.anyP {w : World} {v : Value} {zz : List (List Int)} (h : RowsAt w v zz) : ∃ a c, v = .slice a zz.length c ∧ zz.length ≤ 1048576 ∧ ∀ i (h : i < zz.length), ∃ b o u, a = some ⟨b, o, none⟩ ∧ b < w.heap.size ∧ w.cell? ⟨b, o + i, none⟩ = some u ∧ IntsAt w u zz[i] := by
  obtain ⟨a, c, rfl, hl, rfl | ⟨b, off, rfl, hbk, hc⟩⟩ := h
  · exact ⟨a, c, rfl, hl, fun j hj => absurd hj (Nat.not_lt_zero j)⟩
  · exact ⟨_, c, rfl, hl, fun i hi => by obtain ⟨u, h1, h2⟩ := hc i hi; exact ⟨b, off, u, rfl, hbk, h1, h2⟩⟩
set_option maxRecDepth 100000 in
set_option maxHeartbeats 1600000 in
theorem l06Pairs_is {N : Nat} {v : Value} {zz : List (List Int)} {T : Bool} {w : World} (hN : N ≤ 12) (hv : RowsAt w v zz) (hT : PairsIn (N : Int) zz ↔ T = true) :
    Calls Tryd.prog 56 #[.int .i64 (N : Int), v] w fun e w' => e = .returned (.bool T) ∧ w = w' := by
  have HT := Lib.hid hT
  obtain ⟨a, c, rfl, hl, k1⟩ := hv.anyP
  have K1 := Lib.hid k1
  clear hv hT k1
  go_enter Tryd.func56, Tryd.ntmps56
  go_wp2_with fail
  go_loopw [5] (fun si wr => ∃ (k : Nat), k ≤ zz.length ∧ si = .int .i64 (k : Int) ∧ Hid (∀ j (h : j < zz.length), j < k → PairIn (N : Int) zz[j]) ∧ w = wr) (fun i _ => zz.length - (intOf i).toNat)
  case atStart => exact ⟨0, Nat.zero_le _, rfl, fun j _ hj => absurd hj (Nat.not_lt_zero j), rfl⟩
  case round =>
    obtain ⟨k, hk, rfl, HA, rfl⟩ := hrel
    have k0 : 0 ≤ (k : Int) := by omega
    by_cases hlt : k < zz.length
    · have k1 : (k : Int) < (zz.length : Int) := by omega
      obtain ⟨b, o, u, rfl, hb, c1, i1⟩ := K1.out k hlt
      have HLk := Lib.hid (List.getElem_mem hlt)
      obtain ⟨p, hp⟩ : ∃ p, zz[k] = p := ⟨_, rfl⟩
      rw [hp] at i1 HLk
      have HX := Lib.hid hp
      clear hp
      have HF : Hid (¬ PairIn (N : Int) p → T = false) := fun h => by
        cases hT : T with
        | false => rfl
        | true => exact absurd (HT.out.2 hT p HLk.out) h
      by_cases h2 : p.length = 2
      · obtain ⟨x, y, rfl⟩ : ∃ x y, p = [x, y] := by
          match p, h2 with
          | [x, y], _ => exact ⟨x, y, rfl⟩
        obtain ⟨tb, tq, tc, rfl, htb, kt⟩ := i1.atP (by simp)
        have t0 := kt 0 (by simp)
        have t1 := kt 1 (by simp)
        simp only [List.getElem_cons_zero, List.getElem_cons_succ, Nat.add_zero, List.length_cons, List.length_nil, Nat.zero_add, Nat.reduceAdd] at t0 t1 c1
        have HP : Hid (PairIn (N : Int) [x, y] ↔ (0 ≤ x ∧ x < (N : Int)) ∧ 0 ≤ y ∧ y < (N : Int)) := ⟨fun ⟨_, _, e, h1, h2, h3, h4⟩ => by injection e with e1 e2; injection e2 with e2; subst e1 e2; exact ⟨⟨h1, h2⟩, h3, h4⟩, fun ⟨⟨h1, h2⟩, h3, h4⟩ => ⟨x, y, rfl, h1, h2, h3, h4⟩⟩
        clear kt h2
        by_cases hx : 0 ≤ x ∧ x < (N : Int)
        · have hb1 : Hid (inB x 0 ((N : Int) - 1) = true) := inB_yes hx.1 (by omega)
          by_cases hy : 0 ≤ y ∧ y < (N : Int)
          · have hb2 : Hid (inB y 0 ((N : Int) - 1) = true) := inB_yes hy.1 (by omega)
            have HA' : Hid (∀ j (h : j < zz.length), j < k + 1 → PairIn (N : Int) zz[j]) := fun j hj hjk => by
              by_cases e : j = k
              · subst e; rw [HX.out]; exact HP.out.2 ⟨hx, hy⟩
              · exact HA.out j hj (by omega)
            clear hx hy
            go_wp2_with fail
            refine (l00In_is _ hb1.out).mono ?_
            rintro e w3 ⟨rfl, rfl⟩
            go_wp2_with fail
            refine (l00In_is _ hb2.out).mono ?_
            rintro e w3 ⟨rfl, rfl⟩
            go_wp2_with fail
            go_roundw
            case rel => exact ⟨k + 1, by omega, by go_num, HA', by first | rfl | trivial⟩
            case measure => simp [intOf]; omega
          · have hb2 : Hid (inB y 0 ((N : Int) - 1) = false) := inB_no (by omega)
            obtain rfl := HF.out fun h => hy (HP.out.1 h).2
            clear hx hy
            go_wp2_with fail
            refine (l00In_is _ hb1.out).mono ?_
            rintro e w3 ⟨rfl, rfl⟩
            go_wp2_with fail
            refine (l00In_is _ hb2.out).mono ?_
            rintro e w3 ⟨rfl, rfl⟩
            go_wp2_with fail
            go_ret
            exact ⟨rfl, by first | rfl | trivial⟩
        · have hb1 : Hid (inB x 0 ((N : Int) - 1) = false) := inB_no (by omega)
          obtain rfl := HF.out fun h => hx (HP.out.1 h).1
          clear hx
          go_wp2_with fail
          refine (l00In_is _ hb1.out).mono ?_
          rintro e w3 ⟨rfl, rfl⟩
          go_wp2_with fail
          go_ret
          exact ⟨rfl, by first | rfl | trivial⟩
      · obtain ⟨ta, tc, rfl⟩ := i1.slice
        have e2 : ((p.length : Int) != 2) = true := by rw [bne_iff_ne]; omega
        obtain rfl := HF.out fun ⟨_, _, e, _⟩ => h2 (by rw [e]; rfl)
        clear h2
        go_wp2_with fail
        go_ret
        exact ⟨rfl, by first | rfl | trivial⟩
    · obtain rfl : k = zz.length := by omega
      have hTt : T = true := HT.out.1 fun x hx => by
        obtain ⟨j, hj, rfl⟩ := List.getElem_of_mem hx
        exact HA.out j hj hj
      subst hTt
      go_wp2_with fail
      go_ret
      exact ⟨rfl, by first | rfl | trivial⟩
end Go.Proofs.YtdihcmohpbgmmaaDoor
