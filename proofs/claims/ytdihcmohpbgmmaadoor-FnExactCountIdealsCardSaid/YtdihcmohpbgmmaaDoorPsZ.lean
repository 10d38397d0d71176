/-
  The sets of a family: order.sets.
-/
import Derived.Test.YtdihcmohpbgmmaaDoorPsY
namespace Go.Proofs.YtdihcmohpbgmmaaDoor
open Go.RowKit
set_option linter.unusedVariables false
set_option linter.unusedSimpArgs false

def sv (fs : List Nat) : List Value := fs.map fun (f : Nat) => .int .u16 (f : Int)
/-- A list of sets that the call made. -/
def OwnS (B : Nat) (w : World) (v : Value) (fs : List Nat) : Prop := w.ownsRow B 61 1 v fs.length (sv fs)
theorem OwnS.out {B : Nat} {w : World} {v : Value} {fs : List Nat} (h : OwnS B w v fs) : w.ownsRow B 61 1 v fs.length (sv fs) := h
theorem OwnS.on {B : Nat} {w w' : World} {v : Value} {fs : List Nat} (h : OwnS B w v fs) (hb : Below w.heap.size w w') : OwnS B w' v fs := ownsRow_on h.out hb
theorem OwnS.slice {B : Nat} {w : World} {v : Value} {fs : List Nat} (h : OwnS B w v fs) : ∃ a c, v = .slice a fs.length c := by
  rcases h.out.2 with ⟨rfl, h0⟩ | ⟨g, cap, cur, rfl, _⟩
  · rw [h0]; exact ⟨_, _, rfl⟩
  · exact ⟨_, _, rfl⟩
theorem OwnS.mono {B B' : Nat} {w : World} {v : Value} {fs : List Nat} (h : OwnS B w v fs) (hle : B' ≤ B) : OwnS B' w v fs := by
  obtain ⟨hx, h | ⟨g, cap, cur, e, hB, r⟩⟩ := h
  · exact ⟨hx, .inl h⟩
  · exact ⟨hx, .inr ⟨g, cap, cur, e, Nat.le_trans hle hB, r⟩⟩
theorem pushS {B : Nat} {w : World} {v : Value} {fs : List Nat} {f : Nat} (h : w.ownsRow B 61 1 v (fs.length + 1) (sv fs ++ [.int .u16 (f : Int)])) : OwnS B w v (fs ++ [f]) := by
  unfold OwnS sv at *; rw [List.length_append, List.map_append]; exact h
theorem info_t7 : (Tryd.prog.info? 61).map (fun i => (i.zero, i.size, i.bytes)) = some (some (.int .u16 0), 1, 2) := by kernel_rfl
/-- The sets below k all of whose elements fit. -/
def setsL (P : Nat → Nat → Bool) (k : Nat) : List Nat := (List.range k).filter fun s => (membL s).all fun x => P x.toNat s
theorem setsL_yes {P : Nat → Nat → Bool} {k : Nat} (h : ((membL k).all fun x => P x.toNat k) = true) : setsL P (k + 1) = setsL P k ++ [k] := by simp only [setsL, List.range_succ, List.filter_append, List.filter_cons, h, if_true, List.filter_nil]
theorem setsL_no {P : Nat → Nat → Bool} {k : Nat} (h : ((membL k).all fun x => P x.toNat k) = false) : setsL P (k + 1) = setsL P k := by simp [setsL, List.range_succ, List.filter_append, List.filter_cons, h]
theorem setsL_len (P : Nat → Nat → Bool) (k : Nat) : (setsL P k).length ≤ k := by
  unfold setsL
  exact Nat.le_trans (List.length_filter_le _ _) (by simp)
def RetSets (fs : List Nat) (w : World) (e : Ending) (w' : World) : Prop := ∃ v, e = .returned v ∧ OwnS w.heap.size w' v fs ∧ Below w.heap.size w w'
/-- What a family asks, at each world. -/
def FamOk (fv : Value) (N : Nat) (P : Nat → Nat → Bool) : Prop := ∀ (a s F S : Nat) (w : World), w.cell? ⟨F, 0, none⟩ = some fv → w.cell? ⟨S, 0, none⟩ = some (.int .u16 (s : Int)) → a < N → s < 4096 →
  Calls Tryd.prog 93 #[.int .i64 (a : Int), .pointer (some ⟨F, 0, none⟩), .pointer (some ⟨S, 0, none⟩)] w fun e w' => e = .returned (.bool (!P a s)) ∧ Below w.heap.size w w'
theorem FamOk.mis {fv : Value} {N s F S : Nat} {P : Nat → Nat → Bool} {w : World} (h : FamOk fv N P) (hs : s < 2 ^ N) (hN : N ≤ 12) (hF : F < w.heap.size) (hS : S < w.heap.size) (cF : w.cell? ⟨F, 0, none⟩ = some fv) (cS : w.cell? ⟨S, 0, none⟩ = some (.int .u16 (s : Int))) : MisOk w F S (membL s) (fun x => !P x.toNat s) := fun x hx w' hb => by
  obtain ⟨h0, _, ht⟩ := mem_membL.1 hx
  obtain ⟨a, rfl⟩ : ∃ a : Nat, x = (a : Int) := ⟨_, (Int.toNat_of_nonneg h0).symm⟩
  rw [Int.toNat_natCast] at ht
  have ha : a < N := by
    apply Classical.byContradiction
    intro hn
    have h3 : s < 2 ^ a := Nat.lt_of_lt_of_le hs (Nat.pow_le_pow_right (by decide) (by omega))
    rw [Nat.testBit_lt_two_pow h3] at ht
    simp at ht
  have h4 : s < 4096 := Nat.lt_of_lt_of_le hs (Nat.pow_le_pow_right (n := 2) (by decide) hN)
  show Calls _ _ _ _ (fun e w'' => e = .returned (.bool (!P ((a : Int).toNat) s)) ∧ _)
  rw [Int.toNat_natCast]
  exact h a s F S w' ((hb.cell (p := ⟨F, 0, none⟩) hF).trans cF) ((hb.cell (p := ⟨S, 0, none⟩) hS).trans cS) ha h4
set_option maxRecDepth 100000 in
set_option maxHeartbeats 6400000 in
theorem sets_is {N : Nat} {lo up : Nat → Nat} {ft : TypeId} {fx : Value} {P : Nat → Nat → Bool} {w : World} (hTz : Tz w) (hN : N ≤ 12) (hf : FamOk (.iface ft fx) N P) :
    Calls Tryd.prog 77 #[ordV N lo up, .iface ft fx] w fun e w' => RetSets (setsL P (2 ^ N)) w e w' := by
  obtain ⟨i0, hi, iz0, iz1, iz2⟩ := info_parts info_t7
  have TZ := Lib.hid hTz
  have HF := Lib.hid hf
  have P0 : Hid (PtO ((w.alloc (.cells (ordC N lo up).toArray 64)).alloc (.cells #[.iface ft fx] 95)) w.heap.size N lo up) := (PtO.new w N lo up _).on ((Below.refl _ _).alloc (Nat.le_refl _) _)
  have B0 : Hid (Below w.heap.size w ((w.alloc (.cells (ordC N lo up).toArray 64)).alloc (.cells #[.iface ft fx] 95))) := al1 (al1 (Below.refl _ _) _) _
  have CF : Hid (((w.alloc (.cells (ordC N lo up).toArray 64)).alloc (.cells #[.iface ft fx] 95)).cell? ⟨w.heap.size + 1, 0, none⟩ = some (.iface ft fx)) := by
    show _ = _
    rw [World.cell?_alloc_at _ _ _ _ (by simp)]; rfl
  have p2 : (2 : Nat) ^ N ≤ 4096 := Nat.pow_le_pow_right (n := 2) (by decide) hN
  clear hTz hf
  unfold ordV
  obtain ⟨cs, hcs⟩ : ∃ cs, ordC N lo up = cs := ⟨_, rfl⟩
  rw [hcs] at P0 B0 CF ⊢
  clear hcs
  obtain ⟨l0, p00, -⟩ := P0.out
  have n0 : 0 ≤ (N : Int) := by omega
  have n1 : (N : Int) ≤ 12 := by omega
  have S0 : ((w.alloc (.cells cs.toArray 64)).alloc (.cells #[.iface ft fx] 95)).heap.size = w.heap.size + 2 := by simp
  obtain ⟨M, hM⟩ : ∃ M, 2 ^ N = M := ⟨_, rfl⟩
  have hM' : ((2 : Int) ^ N) = (M : Int) := by rw [← hM]; simp
  rw [hM] at p2
  have hw : IntKind.u16.wrap ((2 : Int) ^ N) = (M : Int) := by rw [hM']; exact wrap_u16 (by omega)
  have HM := Lib.hid hM
  clear hM hM'
  go_enter Tryd.func77, Tryd.ntmps77
  go_wp2_with fail
  have O0 : Hid (OwnS (w.heap.size + 2) ((w.alloc (.cells cs.toArray 64)).alloc (.cells #[.iface ft fx] 95)) (.slice none 0 0) (setsL P 0)) := World.ownsRow_nil _ _ _ _
  have R0 : Hid (Below (w.heap.size + 2) ((w.alloc (.cells cs.toArray 64)).alloc (.cells #[.iface ft fx] 95)) ((w.alloc (.cells cs.toArray 64)).alloc (.cells #[.iface ft fx] 95))) := Below.refl _ _
  have c0 : ∀ k : Nat, k < M → (k : Int) < (M : Int) := fun k h => by omega
  obtain ⟨W0, hW0⟩ : ∃ W0, ((w.alloc (.cells cs.toArray 64)).alloc (.cells #[.iface ft fx] 95)) = W0 := ⟨_, rfl⟩
  rw [hW0] at O0 R0 P0 B0 CF S0 ⊢
  clear hW0 p00 l0
  go_loopw [5, 11] (fun so si wr => ∃ (k : Nat), k ≤ M ∧ si = .int .u16 (k : Int) ∧ Hid (OwnS (w.heap.size + 2) wr so (setsL P k)) ∧ Hid (Below (w.heap.size + 2) W0 wr)) (fun _ i _ => M - (intOf i).toNat)
  case atStart => exact ⟨0, Nat.zero_le _, rfl, O0, R0⟩
  case round =>
    obtain ⟨k, hk, rfl, HO, HB⟩ := hrel
    have k0 : 0 ≤ (k : Int) := by omega
    by_cases hlt : k < M
    · have k1 : (k : Int) < (M : Int) := by omega
      have hs := HB.out.size
      rw [S0] at hs
      have CFr : Hid (wr.cell? ⟨w.heap.size + 1, 0, none⟩ = some (.iface ft fx)) := (HB.out.cell (p := ⟨w.heap.size + 1, 0, none⟩) (by show w.heap.size + 1 < _; omega)).trans CF.out
      have HBw : Hid (Below w.heap.size w wr) := B0.out.trans (HB.out.mono (by omega))
      go_wp2_with fail
      have hk4 : k < 4096 := by omega
      have HBa : Hid (Below w.heap.size w (wr.alloc (.cells #[.int .u16 (k : Int)] 61))) := HBw.out.alloc (by omega) _
      have HBA : Hid (Below (w.heap.size + 2) W0 (wr.alloc (.cells #[.int .u16 (k : Int)] 61))) := HB.out.alloc (by omega) _
      have CS : Hid ((wr.alloc (.cells #[.int .u16 (k : Int)] 61)).cell? ⟨wr.heap.size, 0, none⟩ = some (.int .u16 (k : Int))) := by
        show _ = _
        rw [World.cell?_alloc_at _ _ _ _ (by simp)]; rfl
      have CFa : Hid ((wr.alloc (.cells #[.int .u16 (k : Int)] 61)).cell? ⟨w.heap.size + 1, 0, none⟩ = some (.iface ft fx)) := (((Below.refl wr.heap.size wr).alloc (Nat.le_refl _) _).cell (p := ⟨w.heap.size + 1, 0, none⟩) (by show w.heap.size + 1 < _; omega)).trans CFr.out
      have HOa : Hid (OwnS (w.heap.size + 2) (wr.alloc (.cells #[.int .u16 (k : Int)] 61)) u5 (setsL P k)) := HO.out.on ((Below.refl _ _).alloc (Nat.le_refl _) _)
      have hsA : (wr.alloc (.cells #[.int .u16 (k : Int)] 61)).heap.size = wr.heap.size + 1 := by simp
      obtain ⟨WA, hWA⟩ : ∃ WA, (wr.alloc (.cells #[.int .u16 (k : Int)] 61)) = WA := ⟨_, rfl⟩
      rw [hWA] at HBa HBA CS CFa HOa hsA ⊢
      clear hWA HO HB CFr HBw
      refine (members16_any hk4 (TZ.out.on HBa.out)).mono ?_
      rintro e w7 ⟨v7, rfl, ho7, hb7⟩
      have hs7 := hb7.size
      have IA : Hid (IntsAt w7 v7 (membL k)) := ho7.at (by have h1 := membL_len k; omega)
      have CS7 : Hid (w7.cell? ⟨wr.heap.size, 0, none⟩ = some (.int .u16 (k : Int))) := (hb7.cell (p := ⟨wr.heap.size, 0, none⟩) (by show wr.heap.size < _; omega)).trans CS.out
      have CF7 : Hid (w7.cell? ⟨w.heap.size + 1, 0, none⟩ = some (.iface ft fx)) := (hb7.cell (p := ⟨w.heap.size + 1, 0, none⟩) (by show w.heap.size + 1 < _; omega)).trans CFa.out
      have MO : Hid (MisOk w7 (w.heap.size + 1) wr.heap.size (membL k) (fun x => !P x.toNat k)) := FamOk.mis HF.out (by rw [HM.out]; exact hlt) hN (by omega) (by omega) CF7.out CS7.out
      have HO7 : Hid (OwnS (w.heap.size + 2) w7 u5 (setsL P k)) := HOa.out.on (hb7.mono (Nat.le_refl _))
      have HB7 : Hid (Below (w.heap.size + 2) W0 w7) := HBA.out.trans (hb7.mono (by omega))
      clear ho7 hb7 HOa HBA
      go_wp2_with fail
      obtain ⟨T, hT⟩ : ∃ T, ((membL k).any fun x => !P x.toNat k) = T := ⟨_, rfl⟩
      refine (contF_is (F := w.heap.size + 1) (S := wr.heap.size) (T := T) IA.out MO.out (by rw [← hT, List.any_eq_true])).mono ?_
      rintro e w8 ⟨rfl, hb8⟩
      have hs8 := hb8.size
      have CS8 : Hid (w8.cell? ⟨wr.heap.size, 0, none⟩ = some (.int .u16 (k : Int))) := (hb8.cell (p := ⟨wr.heap.size, 0, none⟩) (by show wr.heap.size < _; omega)).trans CS7.out
      have HO8 : Hid (OwnS (w.heap.size + 2) w8 u5 (setsL P k)) := HO7.out.on (hb8.mono (Nat.le_refl _))
      have HB8 : Hid (Below (w.heap.size + 2) W0 w8) := HB7.out.trans (hb8.mono (by omega))
      clear hb8 HO7 HB7 CS7 CF7 MO IA
      cases T with
      | true =>
        have HE : setsL P (k + 1) = setsL P k := setsL_no (by
          rw [List.any_eq_true] at hT
          obtain ⟨x, hx, hp⟩ := hT
          rw [Bool.eq_false_iff]
          intro h
          rw [List.all_eq_true] at h
          have := h x hx
          rw [this] at hp; simp at hp)
        have HX : Hid (OwnS (w.heap.size + 2) w8 u5 (setsL P (k + 1))) := by
          show OwnS _ _ _ _
          rw [HE]; exact HO8.out
        clear HE hT HO8
        go_wp2_with fail
        go_roundw
        case rel => exact ⟨k + 1, by omega, by go_num, HX, HB8⟩
        case measure => simp [intOf]; omega
      | false =>
        have HE : setsL P (k + 1) = setsL P k ++ [k] := setsL_yes (by
          rw [List.all_eq_true]
          intro x hx
          rw [List.any_eq_false] at hT
          have := hT x hx
          simpa using this)
        have HEX := Lib.hid HE
        clear HE hT
        obtain ⟨ua, uc, rfl⟩ := HO8.out.slice
        have hzl := setsL_len P k
        have hown := HO8.out
        have hsz := HB8.out.size
        rw [S0] at hsz
        have cs8 := CS8.out
        obtain ⟨fs, hfs⟩ : ∃ fs, setsL P k = fs := ⟨_, rfl⟩
        rw [hfs] at hown hzl HEX ⊢
        clear HO8 hfs
        go_wp2_with (at_builtin; refine wpList_append_own _ rfl _ _ 84 rfl (w.heap.size + 2) 61 i0 (.int .u16 0) 1 2 Tryd.underlying84 hi iz0 iz1 iz2 rfl (by decide) _ _ _ rfl (hown.out.alloc _) ⟨w8.heap.size, 0, none⟩ 1 1 [.int .u16 (k : Int)] rfl rfl ?ah1 ?ah2 ?ah3 ?ah4 ?ah5 ?_)
        try (case ah1 => exact row_one _ _ _)
        case ah2 => first | rfl | (intro u hu; simp at hu; subst hu; rfl)
        case ah3 => unfold maxLen; omega
        case ah4 => omega
        case ah5 => first | omega | (simp; omega)
        intro v2 w10 hown3 hgrow _
        have hp3 := pushS hown3
        have hk3 : Below (w.heap.size + 2) W0 w10 := (HB8.out.alloc (by omega) _).grown hgrow (by simp; omega) (fun k hk => by have := (hown.out.lt k hk).1; omega)
        have HX : Hid (OwnS (w.heap.size + 2) w10 v2 (setsL P (k + 1))) := by
          show OwnS _ _ _ _
          rw [HEX.out]; exact hp3
        have HB3 := Lib.hid hk3
        clear hp3 hk3 hown3 hgrow hown
        go_wp2_with fail
        go_roundw
        case rel => exact ⟨k + 1, by omega, by go_num, HX, HB3⟩
        case measure => simp [intOf]; omega
    · have e : k = M := by omega
      subst e
      have HX : Hid (OwnS w.heap.size wr u5 (setsL P k)) := by
        exact HO.out.mono (by omega)
      have HBw : Hid (Below w.heap.size w wr) := B0.out.trans (HB.out.mono (by omega))
      have HX2 : Hid (OwnS w.heap.size wr u5 (setsL P (2 ^ N))) := by
        show OwnS _ _ _ _
        rw [HM.out]; exact HX.out
      clear HX
      go_wp2_with fail
      go_ret
      exact ⟨_, rfl, HX2.out, HBw.out⟩
end Go.Proofs.YtdihcmohpbgmmaaDoor
