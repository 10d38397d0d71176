/-
  The complex of some sets of vertices, by the program: complexOf.
-/
import Derived.Test.YtibdcejglkhcfaaGreatDoorCxV
import Derived.Test.YtibdcejglkhcfaaGreatDoorCxS
import Derived.Test.YtibdcejglkhcfaaGreatDoorCxA
import Derived.Deep.RegionHeld3
import Derived.StillTactics
namespace Go.Proofs.YtibdcejglkhcfaaGreatDoor
open Go.RowKit Go.Sort Go.Shelf
set_option linter.unusedVariables false
set_option linter.unusedSimpArgs false

/-- One row of a slice of own rows is written. -/
theorem OwnR.put {B g n cap k : Nat} {w w1 : World} {L : List Value} {zz : List (List Int)} {u : Value} {zs : List Int} (h : OwnR B w.heap.size w (.slice (some ⟨g, 0, none⟩) n cap) L zz) (hn : zz.length = n) (hu : OwnI w.heap.size w1 u zs) (hb : Below w.heap.size w w1) (hB : B ≤ w.heap.size) (hk : k < n) :
    OwnR B (w1.setCell ⟨g, k, none⟩ u).heap.size (w1.setCell ⟨g, k, none⟩ u) (.slice (some ⟨g, 0, none⟩) n cap) (L.set k u) (zz.set k zs) := by
  subst hn
  have hg := (h.row.lt g rfl).2
  have hr := ownsRow_on h.row hb
  obtain ⟨hs, hgr⟩ := World.ownsRow.stored hr k u
  have hz : (w1.setCell ⟨g, k, none⟩ u).heap.size = w1.heap.size := by simp
  have hs1 := hb.size
  have ub : ∀ q, u.ownBlock = some q → w.heap.size ≤ q ∧ q < w1.heap.size := fun q hq => hu.out.lt q hq
  have lo : ∀ (i : Nat) (x : Value) (q : Nat), L[i]? = some x → x.ownBlock = some q → q < w.heap.size := fun i x q h1 h2 => (h.lo h1 h2).2
  have pick : ∀ (i : Nat) (x : Value), (L.set k u)[i]? = some x → (i = k ∧ x = u) ∨ (i ≠ k ∧ L[i]? = some x) := fun i x hx => by
    rw [List.getElem?_set] at hx
    by_cases e : k = i
    · rw [if_pos e] at hx
      split at hx
      · simp at hx; exact .inl ⟨e.symm, hx.symm⟩
      · simp at hx
    · rw [if_neg e] at hx; exact .inr ⟨fun e' => e e'.symm, hx⟩
  refine ⟨by simp [h.len], by rw [List.length_set]; exact hs, fun i x ys h1 h2 => ?_, fun i x q h1 h2 => ?_, fun i j x y q h1 h2 h3 h4 => ?_, Nat.le_refl _, fun q hq => ?_, fun i x q h1 h2 => ?_⟩
  · rcases pick i x h1 with ⟨rfl, rfl⟩ | ⟨hne, h1'⟩
    · rw [List.getElem?_set, if_pos rfl, if_pos hk] at h2
      injection h2 with h2
      subst h2
      refine World.ownsRow.kept (OwnI.mono hu hB).out hgr ?_
      cases ho : x.ownBlock with
      | none => exact .inl rfl
      | some q => exact .inr (fun e => by injection e with e; have := (ub q ho).1; omega)
    · rw [List.getElem?_set, if_neg (fun e => hne e.symm)] at h2
      refine World.ownsRow.kept ((h.own i x ys h1' h2).on hb).out hgr ?_
      cases ho : x.ownBlock with
      | none => exact .inl rfl
      | some q => exact .inr (fun e => h.off i x q h1' ho e.symm)
  · rcases pick i x h1 with ⟨rfl, rfl⟩ | ⟨hne, h1'⟩
    · intro e
      have e' : some g = some q := e
      injection e' with e'
      have := (ub q h2).1; omega
    · exact h.off i x q h1' h2
  · rcases pick i x h1 with ⟨rfl, rfl⟩ | ⟨hne, h1'⟩
    · rcases pick j y h2 with ⟨rfl, rfl⟩ | ⟨hne', h2'⟩
      · rfl
      · have := (ub q h3).1; have := lo j y q h2' h4; omega
    · rcases pick j y h2 with ⟨rfl, rfl⟩ | ⟨hne', h2'⟩
      · have := (ub q h4).1; have := lo i x q h1' h3; omega
      · exact h.sep i j x y q h1' h2' h3 h4
  · have hq' : some g = some q := hq
    injection hq' with hq'
    rw [hz]; omega
  · rcases pick i x h1 with ⟨rfl, rfl⟩ | ⟨hne, h1'⟩
    · have := ub q h2; rw [hz]; omega
    · have := lo i x q h1' h2; rw [hz]; omega
/-- The rows after k sets. -/
def rowsK (fs : List Nat) (k : Nat) : List (List Int) := (fs.take k).map vertsOf ++ List.replicate (fs.length - k) []
theorem rowsK_len {fs : List Nat} {k : Nat} (h : k ≤ fs.length) : (rowsK fs k).length = fs.length := by simp [rowsK]; omega
theorem rowsK_next {fs : List Nat} {k : Nat} (h : k < fs.length) : (rowsK fs k).set k (vertsOf fs[k]) = rowsK fs (k + 1) := by
  unfold rowsK
  rw [List.take_succ_eq_append_getElem h, List.map_append, List.set_append_right _ _ (by simp; omega)]
  have e : fs.length - k = (fs.length - (k + 1)) + 1 := by omega
  rw [e, List.replicate_succ]
  simp [Nat.min_eq_left (Nat.le_of_lt h)]
theorem rowsK_end (fs : List Nat) : rowsK fs fs.length = fs.map vertsOf := by simp [rowsK]
theorem OwnR.nils {B g n : Nat} {w : World} (h : w.ownsRow B 25 1 (.slice (some ⟨g, 0, none⟩) n n) n (List.replicate n (.slice none 0 0))) : OwnR B w.heap.size w (.slice (some ⟨g, 0, none⟩) n n) (List.replicate n (.slice none 0 0)) (List.replicate n []) := by
  have pick : ∀ (i : Nat) (u : Value), (List.replicate n (Value.slice none 0 0))[i]? = some u → u = .slice none 0 0 := fun i u hu => (List.eq_of_mem_replicate (List.mem_of_getElem? hu))
  refine ⟨by simp, by rw [List.length_replicate]; exact h, fun i u zs h1 h2 => ?_, fun i u q h1 h2 => ?_, fun i j u x q h1 h2 h3 h4 => ?_, Nat.le_refl _, fun q hq => (h.lt q hq).2, fun i u q h1 h2 => ?_⟩
  · rw [pick i u h1, List.eq_of_mem_replicate (List.mem_of_getElem? h2)]
    exact World.ownsRow_nil _ _ _ _
  · rw [pick i u h1] at h2; simp [Value.ownBlock] at h2
  · rw [pick i u h1] at h3; simp [Value.ownBlock] at h3
  · rw [pick i u h1] at h2; simp [Value.ownBlock] at h2
/-- How complexOf ends. -/
def RetCx (fs : List Nat) (w : World) (e : Ending) (w' : World) : Prop :=
  ∃ v zz c, e = .returned (.tuple #[.agg #[v], .int .i64 c]) ∧ OwnRI w.heap.size w' v zz ∧ Below w.heap.size w w' ∧
    ((48 < fs.length ∧ zz = [] ∧ c = 5) ∨ (fs.length ≤ 48 ∧ c = 0 ∧ zz.Perm (fs.map vertsOf) ∧ ∀ i j (hi : i < zz.length) (hj : j < zz.length), i < j → befB zz[j] zz[i] = false))
set_option maxRecDepth 100000 in
theorem complexOf_long {a : Option Addr} {n c : Nat} {w : World} (hn : 48 < n) (hn2 : n ≤ 1048576) {fs : List Nat} (hf : fs.length = n) :
    Calls Tryz.prog 42 #[.slice a n c] w fun e w' => RetCx fs w e w' := by
  have h1 : (48 : Int) < (n : Int) := by omega
  go_enter Tryz.func42, Tryz.ntmps42
  go_wp2_with fail
  refine bodyPost_ret (v := .tuple #[.agg #[.slice none 0 0], .int .i64 5]) (by simp [results, Tryz.results42, go_sem]) rfl ⟨_, [], 5, rfl, OwnRI.nul _ _, ?_, .inl ⟨by omega, rfl, rfl⟩⟩
  exact (Below.refl _ _).alloc (Nat.le_refl _) _
theorem PtC.far {w : World} {L b o : Nat} {v : Value} (h : PtC w L v) (hne : L ≠ b) (u : Value) : PtC (w.setCell ⟨b, o, none⟩ u) L v :=
  ⟨by simpa using h.1, by rw [World.cell?_setCell_other _ _ _ _ (by intro e; injection e with e1 _; first | exact hne e1 | exact hne e1.symm)]; exact h.2⟩
set_option maxRecDepth 100000 in
set_option maxHeartbeats 6400000 in
theorem complexOf_some {a : Option Addr} {c : Nat} {fs : List Nat} {w : World} (hl : fs.length ≤ 48) (hf : ∀ f ∈ fs, f < 1024 ∧ f ≠ 0) (k1 : ∀ j (h : j < fs.length), ∃ b o, a = some ⟨b, o, none⟩ ∧ b < w.heap.size ∧ w.cell? ⟨b, o + j, none⟩ = some (.int .u16 (fs[j] : Int))) (hTz : Tz w) :
    Calls Tryz.prog 42 #[.slice a fs.length c] w fun e w' => RetCx fs w e w' := by
  obtain ⟨i0, hi, iz0, iz1, iz2⟩ := info_parts info_r
  have K1 := Lib.hid k1
  have HF := Lib.hid hf
  have TZ := Lib.hid hTz
  clear hTz
  have h1 : ¬ (48 : Int) < (fs.length : Int) := by omega
  clear k1 hf
  go_enter Tryz.func42, Tryz.ntmps42
  go_wp2_with (at_make; refine wpList_make_full _ rfl _ _ 22 rfl (w.heap.size + 1) 25 i0 (.slice none 0 0) 1 Tryz.underlying22 hi iz0 iz1 _ _ _ _ fs.length rfl rfl rfl rfl ?ah1 ?ah2 ?ah3 ?_)
  case ah1 => first | omega | (rw [iz2]; omega)
  case ah2 => unfold maxLen; omega
  try (case ah3 => simp)
  intro w1 hown hgrow
  have hb1 : Below w.heap.size w w1 := ((Below.refl w.heap.size w).alloc (Nat.le_refl _) _).grown hgrow (by simp) (fun k hk => by cases hk)
  have hs1 := hgrow.size
  (try rw [World.size_alloc] at hs1)
  (try rw [World.size_alloc] at hown)
  have hR1 : PtC w1 w.heap.size (.slice none 0 0) ∧ w1.frozen? ⟨w.heap.size, 0, none⟩ = false := by
    have p := PtC.new w (.slice none 0 0) 27
    have hbb : Below (w.heap.size + 1) (w.alloc (.cells #[.slice none 0 0] 27)) w1 := ⟨hgrow.os, hgrow.tape, hgrow.output, hgrow.size, fun k hk => hgrow.block k (by rw [World.size_alloc]; exact hk) (fun e => by cases e)⟩
    refine ⟨p.on (by rw [World.size_alloc]; exact hbb), ?_⟩
    rw [hbb.frozen (p := ⟨w.heap.size, 0, none⟩) (by show w.heap.size < w.heap.size + 1; omega)]
    exact World.frozen?_alloc_new w _ _ _
  have hO1 : OwnR (w.heap.size + 1) w1.heap.size w1 (.slice (some ⟨w.heap.size + 1, 0, none⟩) fs.length fs.length) (List.replicate fs.length (.slice none 0 0)) (List.replicate fs.length []) := by
    refine OwnR.nils ?_
    simpa [Value.cells, toList_madeCells_one] using hown
  obtain ⟨g, hgdef⟩ : ∃ g, g = w.heap.size + 1 := ⟨_, rfl⟩
  rw [← hgdef] at hO1
  have hgs := (hO1.row.lt g rfl).2
  have HO1 := Lib.hid hO1
  have HR1 := Lib.hid hR1
  have HB1 := Lib.hid hb1
  have hg0 : w.heap.size < g := by omega
  clear hown hgrow hb1 hR1 hO1
  go_wp2_with fail
  rw [← hgdef]
  have HG := Lib.hid hgdef
  clear hgdef
  have hB3 := al1 HB1.out (.cells #[.slice (some ⟨g, 0, none⟩) fs.length fs.length] 22)
  have hO3 := OwnR.on HO1.out ((Below.refl w1.heap.size w1).alloc (Nat.le_refl _) (.cells #[.slice (some ⟨g, 0, none⟩) fs.length fs.length] 22))
  have hR3 := HR1.out.1.on ((Below.refl w1.heap.size w1).alloc (Nat.le_refl _) (.cells #[.slice (some ⟨g, 0, none⟩) fs.length fs.length] 22))
  have hF3 : (w1.alloc (.cells #[.slice (some ⟨g, 0, none⟩) fs.length fs.length] 22)).frozen? ⟨w.heap.size, 0, none⟩ = false := by
    rw [((Below.refl w1.heap.size w1).alloc (Nat.le_refl _) _).frozen (p := ⟨w.heap.size, 0, none⟩) (by show w.heap.size < w1.heap.size; omega)]; exact HR1.out.2
  have hL3 := PtC.new w1 (.slice (some ⟨g, 0, none⟩) fs.length fs.length) 22
  obtain ⟨lv, hlv⟩ : ∃ lv, w1.heap.size = lv := ⟨_, rfl⟩
  have hsz : (w1.alloc (.cells #[.slice (some ⟨g, 0, none⟩) fs.length fs.length] 22)).heap.size = lv + 1 := by simp [hlv]
  rw [hlv] at hL3 hgs hs1 ⊢
  generalize hW : World.alloc w1 (.cells #[.slice (some ⟨g, 0, none⟩) fs.length fs.length] 22) = W3 at hB3 hO3 hR3 hF3 hL3 hsz ⊢
  have hO3' : OwnR (w.heap.size + 1) W3.heap.size W3 (.slice (some ⟨g, 0, none⟩) fs.length fs.length) (List.replicate fs.length (.slice none 0 0)) (rowsK fs 0) := by
    have e : rowsK fs 0 = List.replicate fs.length [] := by simp [rowsK]
    rw [e]
    exact OwnR.wide (OwnR.mono hO3 (by have := HG.out; omega)) (by rw [hsz, hlv]; omega) (Nat.le_refl _)
  have HO3 := Lib.hid hO3'
  have HB3 := Lib.hid hB3
  have HR3 := Lib.hid hR3
  have HF3 := Lib.hid hF3
  have HL3 := Lib.hid hL3
  have hW3 : lv < W3.heap.size := by omega
  have HLV := Lib.hid hlv
  clear hW hO3 hO3' hB3 hR3 hF3 hL3 HO1 HR1 HB1 hlv hsz HLV
  have n1 : lv ≠ g := by omega
  have n2 : w.heap.size ≠ g := by omega
  go_loopw [16] (fun si wr => ∃ (k : Nat) (L : List Value), k ≤ fs.length ∧ si = .int .i64 (k : Int) ∧ Hid (OwnR (w.heap.size + 1) wr.heap.size wr (.slice (some ⟨g, 0, none⟩) fs.length fs.length) L (rowsK fs k)) ∧ Hid (PtC wr lv (.slice (some ⟨g, 0, none⟩) fs.length fs.length)) ∧ Hid (PtC wr w.heap.size (.slice none 0 0)) ∧ Hid (wr.frozen? ⟨w.heap.size, 0, none⟩ = false) ∧ Hid (Below w.heap.size w wr)) (fun si _ => fs.length - (intOf si).toNat)
  case atStart => exact ⟨0, _, Nat.zero_le _, rfl, HO3, HL3, HR3, HF3, HB3⟩
  case round =>
    clear HO3 HL3 HR3 HF3 HB3
    obtain ⟨k, L, hk, rfl, HO, HL, HR, HZ, HB⟩ := hrel
    have i0' : 0 ≤ (k : Int) := by omega
    have hsr := HB.out.size
    have hgr := (HO.out.row.lt g rfl).2
    have hlr := HL.out.1
    by_cases hlt : k < fs.length
    · have i1 : (k : Int) < (fs.length : Int) := by omega
      obtain ⟨b, o, rfl, hb, g1'⟩ := K1.out k hlt
      have g1 : wr.cell? ⟨b, o + k, none⟩ = some (.int .u16 (fs[k] : Int)) := (HB.out.cell (p := ⟨b, o + k, none⟩) hb).trans g1'
      clear g1'
      have hf1 := (HF.out _ (List.getElem_mem hlt)).1
      have HNX := Lib.hid (rowsK_next hlt)
      obtain ⟨f, hfe⟩ : ∃ f, fs[k] = f := ⟨_, rfl⟩
      rw [hfe] at g1 hf1 HNX
      clear hfe
      obtain ⟨_, l0⟩ := HL.out
      have hLl : L.length = fs.length := by rw [HO.out.len]; exact rowsK_len (by omega)
      obtain ⟨y, hy⟩ : ∃ y, L[k]? = some y := ⟨_, List.getElem?_eq_getElem (by omega)⟩
      have hrow : wr.ownsRow (w.heap.size + 1) 25 1 (.slice (some ⟨g, 0, none⟩) fs.length fs.length) fs.length L := by have := HO.out.row; rwa [rowsK_len hk] at this
      have c2 : wr.cell? ⟨g, k, none⟩ = some y := by
        rw [World.ownsRow.cellAt hrow k (by omega)]; exact hy
      have c3 : wr.frozen? ⟨g, k, none⟩ = false := hrow.frozenAt k
      have ng : ¬ lv = g := n1
      have ng' : ¬ g = lv := fun e => n1 e.symm
      clear hLl hy hrow
      go_wp2_with fail
      go_region_held3 (fun w' => w'.cell? ⟨lv, 0, none⟩ = some (.slice (some ⟨g, 0, none⟩) fs.length fs.length)) (go_keep)
        (first
          | (go_at_call 90; refine (members_any hf1 (by first | exact (TZ.out.on HB.out).drew _ | exact TZ.out.on HB.out)).mono ?_; rintro e w5 ⟨u, rfl, ho5, hb5'⟩; have hb5 : Below wr.heap.size wr w5 := undrew hb5'; obtain ⟨ua, uc, rfl⟩ := ho5.slice; have c4 : w5.cell? ⟨g, k, none⟩ = some y := (hb5.cell (p := ⟨g, k, none⟩) hgr).trans c2; have c5 : w5.frozen? ⟨g, k, none⟩ = false := (hb5.frozen (p := ⟨g, k, none⟩) hgr).trans c3; have l5 : w5.cell? ⟨lv, 0, none⟩ = some (.slice (some ⟨g, 0, none⟩) fs.length fs.length) := (hb5.cell (p := ⟨lv, 0, none⟩) hlr).trans l0))
      have HO5 := Lib.hid ((HO.out).put (k := k) (rowsK_len hk) ho5 hb5 (by omega) hlt)
      have HB5 := Lib.hid (HB.out.trans (hb5.mono hsr))
      have HL5 := Lib.hid (HL.out.on hb5)
      have HR5 := Lib.hid (HR.out.on hb5)
      have HZ5 : Hid (w5.frozen? ⟨w.heap.size, 0, none⟩ = false) := (hb5.frozen (p := ⟨w.heap.size, 0, none⟩) HR.out.1).trans HZ.out
      clear ho5 hb5 hb5' c2 c3 c4 c5 l5 l0 g1
      go_wp2_with fail
      go_roundw
      case rel =>
        refine ⟨k + 1, L.set k (.slice ua (vertsOf f).length uc), by omega, by go_num, ?_, ?_, ?_, ?_, ?_⟩
        · have := HO5.out
          rw [HNX.out] at this
          exact ⟨this.len, this.row, this.own, this.off, this.sep, this.le, this.top, this.tops⟩
        · exact (HL5.out.far n1 _)
        · exact (HR5.out.far n2 _)
        · show _ = _
          first | exact HZ5.out | (rw [World.frozen?_setCell]; exact HZ5.out) | (simp; exact HZ5.out)
        · first | exact HB5.out.setCell (p := ⟨g, k, none⟩) (by show w.heap.size ≤ g; omega) _ | exact drew_below (HB5.out.setCell (p := ⟨g, k, none⟩) (by show w.heap.size ≤ g; omega) _)
      case measure => simp [intOf]; omega
    · obtain rfl : k = fs.length := by omega
      obtain ⟨_, l0⟩ := HL.out
      have ho : OwnR (w.heap.size + 1) wr.heap.size wr (.slice (some ⟨g, 0, none⟩) (fs.map vertsOf).length fs.length) L (fs.map vertsOf) := by
        have := HO.out
        rw [rowsK_end] at this
        rw [List.length_map]; exact this
      have hso := sortRows_any (Bl := lv) ho (by rw [List.length_map]; exact l0) n1 HL.out.1 (by rw [List.length_map]; omega) (fun z hz => by
        obtain ⟨f, hf, rfl⟩ := List.mem_map.1 hz
        refine ⟨fun e => ?_, Nat.le_trans (vk_len f 10) (by omega)⟩
        have := mask_verts (HF.out f hf).1
        rw [e] at this
        exact (HF.out f hf).2 this.symm)
      rw [List.length_map] at hso
      clear ho
      go_wp2_with fail
      refine hso.mono ?_
      rintro e w6 ⟨rfl, L', ys, hp, hsd, ho6, hg6⟩
      have hyl : ys.length = fs.length := by rw [hp.length_eq, List.length_map]
      have hbl6 : Below w.heap.size w w6 := HB.out.grown hg6 hsr (fun q hq => by cases hq; omega)
      have l6 : PtC w6 lv (.slice (some ⟨g, 0, none⟩) fs.length fs.length) := ⟨Nat.lt_of_lt_of_le hlr hg6.size, by rw [World.cell?_of_block (hg6.block lv hlr (fun e => n1 (by injection e)))]; exact l0⟩
      have r6 : PtC w6 w.heap.size (.slice none 0 0) := ⟨Nat.lt_of_lt_of_le HR.out.1 hg6.size, by rw [World.cell?_of_block (hg6.block w.heap.size HR.out.1 (fun e => n2 (by injection e)))]; exact HR.out.2⟩
      have z6 : w6.frozen? ⟨w.heap.size, 0, none⟩ = false := by rw [World.frozen?_of_block (hg6.block w.heap.size HR.out.1 (fun e => n2 (by injection e)))]; exact HZ.out
      obtain ⟨_, l6c⟩ := l6
      obtain ⟨r6l, r6c⟩ := r6
      have HO6 := Lib.hid ho6
      have HB6 := Lib.hid hbl6
      have HP := Lib.hid hp
      have HSD := Lib.hid hsd
      have HYL := Lib.hid hyl
      clear hso ho6 hbl6 hp hsd hg6 hyl l0
      go_wp2_with fail
      refine bodyPost_ret (v := .tuple #[.agg #[.slice (some ⟨g, 0, none⟩) fs.length fs.length], .int .i64 0]) (by simp [results, Tryz.results42, go_sem, r6c]) rfl ⟨_, ys, 0, rfl, ?_, ?_, .inr ⟨hl, rfl, HP.out, HSD.out⟩⟩
      · have ho : OwnRI (w.heap.size + 1) w6 (.slice (some ⟨g, 0, none⟩) ys.length fs.length) ys := ⟨L', HO6.out⟩
        rw [HYL.out] at ho
        exact OwnRI.mono (OwnRI.setOut ho (by omega) _) (by omega)
      · exact HB6.out.setCell (p := ⟨w.heap.size, 0, none⟩) (Nat.le_refl _) _
end Go.Proofs.YtibdcejglkhcfaaGreatDoor
