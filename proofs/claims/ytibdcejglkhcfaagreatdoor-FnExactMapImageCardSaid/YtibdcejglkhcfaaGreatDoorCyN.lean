/-
  StarOf of the model and of the program.
-/
import Derived.Test.YtibdcejglkhcfaaGreatDoorPM
namespace Go.Proofs.YtibdcejglkhcfaaGreatDoor
open Go.RowKit
set_option linter.unusedVariables false
set_option linter.unusedSimpArgs false

def RetSI5 (yy : List Int) (c : Int) (w : World) (e : Ending) (w' : World) : Prop := ∃ v, e = .returned (.tuple #[v, .int .i64 c]) ∧ OwnI w.heap.size w' v yy ∧ Below w.heap.size w w'
theorem row_oneS (w : World) (u : Value) (t : TypeId) (n : Nat) (hn : w.heap.size = n) : ∀ (j : Nat) (x : Value), [u][j]? = some x → (w.alloc (.cells #[u] t)).cell? ((⟨n, 0, none⟩ : Addr).add j) = some x := by subst hn; exact row_val w u t
/-- All numbers of s are in t. -/
def parB (s t : List Int) : Bool := s.all fun v => decide (v ∈ t)
theorem parB_iff {s t : List Int} : parB s t = true ↔ ∀ v ∈ s, v ∈ t := by simp [parB]
theorem parB_step {s t : List Int} {k : Nat} (h : k < s.length) : parB (s.drop k) t = (decide (s[k] ∈ t) && parB (s.drop (k + 1)) t) := by
  rw [List.drop_eq_getElem_cons h]; rfl
theorem parB_mask {s t : List Int} (hs : Sim s) (ht : Sim t) : parB s t = decide (maskOf t &&& maskOf s = maskOf s) := by
  rw [Bool.eq_iff_iff, parB_iff, decide_eq_true_eq, Nat.and_comm, ← subM_and]
  have b1 := fun x => maskOf_bit s (fun v hv => (hs.bd v hv).1) x
  have b2 := fun x => maskOf_bit t (fun v hv => (ht.bd v hv).1) x
  constructor
  · intro h x hx
    rw [b1] at hx
    rw [b2]
    exact decide_eq_true (h _ (of_decide_eq_true hx))
  · intro h v hv
    have hb := hs.bd v hv
    have e : ((v.toNat : Nat) : Int) = v := by omega
    have h1 := h v.toNat (by rw [b1, e]; exact decide_eq_true hv)
    rw [b2, e] at h1
    exact of_decide_eq_true h1
set_option maxRecDepth 100000 in
set_option maxHeartbeats 1600000 in
theorem l05Has_is {v : Value} {zs : List Int} {n : Int} {T : Bool} {w : World} (hv : IntsAt w v zs) (h : decide (n ∈ zs) = T) :
    Calls Tryz.prog 144 #[v, .int .i64 n] w fun e w' => e = .returned (.bool T) ∧ w = w' := by
  obtain ⟨a, c, rfl, hl, k1⟩ := hv.any
  have K1 := Lib.hid k1
  have HT : Hid (decide (n ∈ zs.drop 0) = T) := h
  clear k1 hv h
  go_enter Tryz.func144, Tryz.ntmps144
  go_wp2
  go_loopw [5] (fun i wr => ∃ k : Nat, k ≤ zs.length ∧ i = .int .i64 (k : Int) ∧ Hid (decide (n ∈ zs.drop k) = T) ∧ w = wr) (fun i _ => zs.length - (intOf i).toNat)
  case atStart => exact ⟨0, Nat.zero_le _, rfl, HT, rfl⟩
  case round =>
    clear HT
    obtain ⟨k, hk, rfl, HA, rfl⟩ := hrel
    by_cases hlt : k < zs.length
    · obtain ⟨b, o, rfl, hb, g1⟩ := K1.out k hlt
      have i0 : 0 ≤ (k : Int) := by omega
      have i1 : (k : Int) < (zs.length : Int) := by omega
      have ha := HA.out
      rw [List.drop_eq_getElem_cons hlt] at ha
      by_cases he : zs[k] = n
      · have hT : T = true := by rw [← ha]; simp [he]
        subst hT
        have hee : (zs[k] == n) = true := by simp [he]
        generalize zs[k] = x at g1 he hee
        clear ha HA
        go_wp2_with fail
        go_ret
        exact ⟨rfl, rfl⟩
      · have hb2 : decide (n ∈ zs.drop (k + 1)) = T := by
          rw [← ha, Bool.eq_iff_iff, decide_eq_true_eq, decide_eq_true_eq, List.mem_cons]
          exact ⟨.inr, fun h => h.elim (fun e => absurd e.symm he) id⟩
        have HB2 := Lib.hid hb2
        have hee : (zs[k] == n) = false := by simp [he]
        generalize zs[k] = x at g1 he hee
        clear ha HA hb2
        go_wp2_with fail
        go_roundw
        case rel => exact ⟨k + 1, by omega, by go_num, HB2, (by first | rfl | trivial)⟩
        case measure => simp [intOf]; omega
    · have hT : T = false := by rw [← HA.out, List.drop_eq_nil_of_le (by omega)]; simp
      subst hT
      go_wp2
      go_ret
      exact ⟨rfl, rfl⟩
set_option maxRecDepth 100000 in
set_option maxHeartbeats 1600000 in
theorem l05Part_is {u v : Value} {s t : List Int} {T : Bool} {w : World} (hu : IntsAt w u s) (hv : IntsAt w v t) (h : parB s t = T) :
    Calls Tryz.prog 197 #[u, v] w fun e w' => e = .returned (.bool T) ∧ w = w' := by
  obtain ⟨a, c, rfl, hl, k1⟩ := hu.any
  have K1 := Lib.hid k1
  have HV := Lib.hid hv
  obtain ⟨a2, c2, rfl⟩ := hv.slice
  have HT : Hid (parB (s.drop 0) t = T) := h
  clear k1 hu hv h
  go_enter Tryz.func197, Tryz.ntmps197
  go_wp2
  go_loopw [5] (fun i wr => ∃ k : Nat, k ≤ s.length ∧ i = .int .i64 (k : Int) ∧ Hid (parB (s.drop k) t = T) ∧ w = wr) (fun i _ => s.length - (intOf i).toNat)
  case atStart => exact ⟨0, Nat.zero_le _, rfl, HT, rfl⟩
  case round =>
    clear HT
    obtain ⟨k, hk, rfl, HA, rfl⟩ := hrel
    by_cases hlt : k < s.length
    · obtain ⟨b, o, rfl, hb, g1⟩ := K1.out k hlt
      have i0 : 0 ≤ (k : Int) := by omega
      have i1 : (k : Int) < (s.length : Int) := by omega
      have ha := HA.out
      rw [parB_step hlt] at ha
      cases he : decide (s[k] ∈ t) with
      | true =>
        rw [he, Bool.true_and] at ha
        have HB2 := Lib.hid ha
        generalize s[k] = x at g1 he
        have HE := Lib.hid he
        clear ha HA he
        go_wp2_with (go_at_call 144; refine (l05Has_is HV.out HE.out).mono ?_; rintro e w' ⟨rfl, rfl⟩)
        go_roundw
        case rel => exact ⟨k + 1, by omega, by go_num, HB2, (by first | rfl | trivial)⟩
        case measure => simp [intOf]; omega
      | false =>
        rw [he, Bool.false_and] at ha
        subst ha
        generalize s[k] = x at g1 he
        have HE := Lib.hid he
        clear HA he
        go_wp2_with (go_at_call 144; refine (l05Has_is HV.out HE.out).mono ?_; rintro e w' ⟨rfl, rfl⟩)
        go_ret
        exact ⟨rfl, rfl⟩
    · have hT : T = true := by rw [← HA.out, List.drop_eq_nil_of_le (by omega)]; rfl
      subst hT
      go_wp2
      go_ret
      exact ⟨rfl, rfl⟩
/-- The indices below k of the simplices that contain s. -/
def staK (zz : List (List Int)) (s : List Int) (k : Nat) : List Int := ((List.range k).filter fun i => parB s (zz.getD i [])).map fun (i : Nat) => (i : Int)
theorem staK_yes {zz : List (List Int)} {s : List Int} {k : Nat} (hk : k < zz.length) (h : parB s zz[k] = true) : staK zz s (k + 1) = staK zz s k ++ [(k : Int)] := by
  simp [staK, List.range_succ, List.filter_append, List.getD, hk, h]
theorem staK_no {zz : List (List Int)} {s : List Int} {k : Nat} (hk : k < zz.length) (h : parB s zz[k] = false) : staK zz s (k + 1) = staK zz s k := by
  simp [staK, List.range_succ, List.filter_append, List.getD, hk, h]
theorem staK_len (zz : List (List Int)) (s : List Int) (k : Nat) : (staK zz s k).length ≤ k := by
  unfold staK
  rw [List.length_map]
  exact Nat.le_trans (List.length_filter_le _ _) (by simp)
def StaIs (zz : List (List Int)) (k : Int) (yy : List Int) (c : Int) : Prop :=
  (¬ OkC zz ∧ yy = [] ∧ c = 1) ∨ (OkC zz ∧ ¬ (0 ≤ k ∧ k ≤ (zz.length : Int) - 1) ∧ yy = [] ∧ c = 2) ∨ (OkC zz ∧ (∃ i : Nat, ∃ h : i < zz.length, k = (i : Int) ∧ yy = staK zz zz[i] zz.length) ∧ c = 0)
theorem sta_has (zz : List (List Int)) (k : Int) : ∃ yy c, StaIs zz k yy c := by
  by_cases h : OkC zz
  · by_cases h1 : 0 ≤ k ∧ k ≤ (zz.length : Int) - 1
    · exact ⟨_, _, .inr (.inr ⟨h, ⟨k.toNat, by omega, by omega, rfl⟩, rfl⟩)⟩
    · exact ⟨_, _, .inr (.inl ⟨h, h1, rfl, rfl⟩)⟩
  · exact ⟨_, _, .inl ⟨h, rfl, rfl⟩⟩
theorem StaIs.fit {zz : List (List Int)} {k : Int} {yy : List Int} {c : Int} (h : StaIs zz k yy c) : yy.length ≤ 1048576 := by
  rcases h with ⟨_, rfl, _⟩ | ⟨_, _, rfl, _⟩ | ⟨h, ⟨i, hi, _, rfl⟩, _⟩
  · simp
  · simp
  · have := staK_len zz zz[i] zz.length; have := h.2; omega
def AskIs (zz : List (List Int)) (k c : Int) : Prop := (¬ OkC zz ∧ c = 1) ∨ (OkC zz ∧ ¬ (0 ≤ k ∧ k ≤ (zz.length : Int) - 1) ∧ c = 2) ∨ (OkC zz ∧ (0 ≤ k ∧ k ≤ (zz.length : Int) - 1) ∧ c = 0)
set_option maxRecDepth 100000 in
set_option maxHeartbeats 3200000 in
theorem l05Star_any {L : Nat} {v x : Value} {zz : List (List Int)} {s : List Int} {w : World} (p : PtC w L v) (hq : RowsAt w v zz) (hx : IntsAt w x s) (ho : OkC zz) :
    Calls Tryz.prog 160 #[.pointer (some ⟨L, 0, none⟩), x] w fun e w' => RetN (staK zz s zz.length) w e w' := by
  obtain ⟨i0, hi, iz0, iz1, iz2⟩ := info_parts info2
  obtain ⟨a, c, rfl, hl, k1⟩ := hq.any
  have K1 := Lib.hid k1
  have P := Lib.hid p
  have HX := Lib.hid hx
  obtain ⟨xa, xc, rfl⟩ := hx.slice
  have h48 := ho.2
  have hm : OwnI w.heap.size (w.alloc (.cells #[] 2)) (.slice (some ⟨w.heap.size, 0, none⟩) 0 0) [] := World.ownsRow_made (base := w.heap.size) (e := 2) (size := 1) w #[] 0 (Nat.le_refl _) (Nat.zero_le _) rfl
  have HM := Lib.hid hm
  have AL : Hid (Below w.heap.size w (w.alloc (.cells #[] 2))) := (Below.refl _ w).alloc (Nat.le_refl _) _
  clear k1 p hq ho hm hx
  go_enter Tryz.func160, Tryz.ntmps160
  go_wp2_with fail
  go_loopw [5, 6] (fun sv si wr => ∃ (k : Nat), k ≤ zz.length ∧ si = .int .i64 (k : Int) ∧ Hid (OwnI w.heap.size wr sv (staK zz s k)) ∧ Hid (Below w.heap.size w wr)) (fun _ i _ => zz.length - (intOf i).toNat)
  case atStart => exact ⟨0, Nat.zero_le _, rfl, HM, AL⟩
  case round =>
    clear HM AL
    obtain ⟨k, hk, rfl, HY, HB⟩ := hrel
    have q1 := (P.out.on HB.out).2
    have hs := HB.out.size
    by_cases hlt : k < zz.length
    · obtain ⟨b, o, u, rfl, hb, c1', i1'⟩ := K1.out k hlt
      have c1 : wr.cell? ⟨b, o + k, none⟩ = some u := (HB.out.cell (p := ⟨b, o + k, none⟩) hb).trans c1'
      have I1 := Lib.hid (i1'.on HB.out)
      have X1 := Lib.hid (HX.out.on HB.out)
      have i0' : 0 ≤ (k : Int) := by omega
      have i1 : (k : Int) < (zz.length : Int) := by omega
      have hkl := staK_len zz s k
      clear c1' i1'
      cases he : parB s zz[k] with
      | true =>
        have HN := Lib.hid (staK_yes hlt he)
        generalize zz[k] = t at I1 he
        have HE := Lib.hid he
        clear he
        go_wp2_with fail
        refine (l05Part_is X1.out I1.out HE.out).mono ?_
        rintro e w5 ⟨rfl, rfl⟩
        go_wp2_with (at_builtin; refine wpList_append_own _ rfl _ _ 25 rfl w.heap.size 2 i0 (.int .i64 0) 1 8 Tryz.underlying25 hi iz0 iz1 iz2 rfl (by decide) _ _ _ rfl (World.ownsRow.alloc HY.out.out (.cells #[.int .i64 (k : Int)] 2)) ⟨wr.heap.size, 0, none⟩ 1 1 [.int .i64 (k : Int)] rfl rfl (row_oneS _ _ _ _ (by first | rfl | simp)) (by first | rfl | (intro u hu; simp at hu; subst hu; rfl)) (by unfold maxLen; omega) (by omega) (by first | omega | (simp; omega)) ?_; intro v2 w10 hown3 hgrow _)
        have HO2 : Hid (OwnI w.heap.size w10 v2 (staK zz s (k + 1))) := by
          show OwnI _ _ _ _
          rw [HN.out]; exact pushU hown3
        have HB2 := Lib.hid (below_pushU HB.out (Nat.le_refl _) (by first | omega | (simp; omega)) HY.out hgrow)
        go_roundw
        case rel => exact ⟨k + 1, by omega, by go_num, HO2, HB2⟩
        case measure => simp [intOf]; omega
      | false =>
        have HN := Lib.hid (staK_no hlt he)
        generalize zz[k] = t at I1 he
        have HE := Lib.hid he
        clear he
        go_wp2_with (go_at_call 197; refine (l05Part_is X1.out I1.out HE.out).mono ?_; rintro e w5 ⟨rfl, rfl⟩)
        go_roundw
        case rel => exact ⟨k + 1, by omega, by go_num, by rw [HN.out]; exact HY, HB⟩
        case measure => simp [intOf]; omega
    · obtain rfl : k = zz.length := by omega
      go_wp2_with fail
      go_ret
      exact ⟨_, rfl, HY.out, HB.out⟩
set_option maxRecDepth 100000 in
theorem indexCode_is {u : Value} {zz : List (List Int)} {k c : Int} {w : World} (hu : RowsAt w u zz) (h : AskIs zz k c) (hTz : Tz w) :
    Calls Tryz.prog 46 #[.agg #[u], .int .i64 k] w fun e w' => e = .returned (.int .i64 c) ∧ Below w.heap.size w w' := by
  have HU := Lib.hid hu
  obtain ⟨a, cp, rfl⟩ := hu.slice
  have al0 : Below w.heap.size w (w.alloc (.cells #[.slice a zz.length cp] 27)) := (Below.refl _ w).alloc (Nat.le_refl _) _
  have P0 := Lib.hid (PtC.new w (.slice a zz.length cp) 27)
  have U0 := Lib.hid (HU.out.on al0)
  have AL := Lib.hid al0
  clear al0
  rcases h with ⟨ho, rfl⟩ | ⟨ho, hd, rfl⟩ | ⟨ho, hd, rfl⟩
  · have hvv := implVal_is U0.out (.inr ⟨rfl, ho⟩) (hTz.on AL.out)
    clear ho
    go_enter Tryz.func46, Tryz.ntmps46
    have p0 := P0.out.2
    go_wp2_with (go_at_call 75; refine hvv.mono ?_; rintro e w2 ⟨rfl, hb2⟩)
    go_ret
    exact ⟨rfl, AL.out.trans (hb2.mono AL.out.size)⟩
  · have hvv := implVal_is U0.out (.inl ⟨rfl, ho⟩) (hTz.on AL.out)
    have h48 := ho.2
    have hin : inB k 0 ((zz.length : Int) - 1) = false := inB_no (by omega)
    clear ho hd
    go_enter Tryz.func46, Tryz.ntmps46
    have p0 := P0.out.2
    go_wp2_with (first | (go_at_call 75; refine hvv.mono ?_; rintro e w2 ⟨rfl, hb2⟩; have p2 := (P0.out.on hb2).2) | (go_at_call 86; refine (within64_is _ hin).mono ?_; rintro e w3 ⟨rfl, rfl⟩))
    go_ret
    exact ⟨rfl, AL.out.trans (hb2.mono AL.out.size)⟩
  · have hvv := implVal_is U0.out (.inl ⟨rfl, ho⟩) (hTz.on AL.out)
    have h48 := ho.2
    have hin : inB k 0 ((zz.length : Int) - 1) = true := inB_yes hd.1 hd.2
    clear ho hd
    go_enter Tryz.func46, Tryz.ntmps46
    have p0 := P0.out.2
    go_wp2_with (first | (go_at_call 75; refine hvv.mono ?_; rintro e w2 ⟨rfl, hb2⟩; have p2 := (P0.out.on hb2).2) | (go_at_call 86; refine (within64_is _ hin).mono ?_; rintro e w3 ⟨rfl, rfl⟩))
    go_ret
    exact ⟨rfl, AL.out.trans (hb2.mono AL.out.size)⟩
end Go.Proofs.YtibdcejglkhcfaaGreatDoor
