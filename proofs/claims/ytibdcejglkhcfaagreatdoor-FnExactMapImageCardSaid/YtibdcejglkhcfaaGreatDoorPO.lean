/-
  Maps of the program: the simplices as sets, all vertices, and the image of a set.
  Maps of the program: the image of a set, and whether all images are there.
  The map of a list, if it is one, of the program; IsMap of both.
  IsMap and SimplexImage of the model and of the program.
-/
import Derived.Test.YtibdcejglkhcfaaGreatDoorPN
import Derived.Test.YtibdcejglkhcfaaGreatDoorPR
import Derived.Deep.RegionHeld3
import Derived.Maps.OwnOps
namespace Go.Proofs.YtibdcejglkhcfaaGreatDoor
open Go.RowKit
set_option linter.unusedVariables false
set_option linter.unusedSimpArgs false

theorem uv_set (fs : List Nat) (i : Nat) (x : Nat) : (uv fs).set i (.int .u16 (x : Int)) = uv (fs.set i x) := by unfold uv; rw [List.map_set]
theorem OwnU.write {B g n c : Nat} {w : World} {fs : List Nat} (h : OwnU B w (.slice (some ⟨g, 0, none⟩) n c) fs) (hn : n = fs.length) (i : Nat) (x : Nat) : OwnU B (w.setCell ⟨g, i, none⟩ (.int .u16 (x : Int))) (.slice (some ⟨g, 0, none⟩) n c) (fs.set i x) := by
  subst hn
  obtain ⟨h1, h2⟩ := World.ownsRow.stored h.out i (.int .u16 (x : Int))
  unfold OwnU
  rw [List.length_set, ← uv_set]
  exact h1
theorem OwnU.on {B : Nat} {w w' : World} {v : Value} {fs : List Nat} (h : OwnU B w v fs) (hb : Below w.heap.size w w') : OwnU B w' v fs := by
  obtain ⟨hx, ⟨h1, hn⟩ | ⟨g, cap, cur, h1, hg, hcur, r⟩⟩ := h
  · exact ⟨hx, .inl ⟨h1, hn⟩⟩
  · refine ⟨hx, .inr ⟨g, cap, cur, h1, hg, ?_, r⟩⟩
    have : g < w.heap.size := by
      rcases Nat.lt_or_ge g w.heap.size with h | h
      · exact h
      · simp [Array.getElem?_eq_none h] at hcur
    rw [hb.block g this]; exact hcur
theorem fillN {α : Type} {n i : Nat} {p : List α} {x d : α} (hn : p.length = n) (hi : i < n) (hx : p[i]? = some x) : (p.take i ++ List.replicate (n - i) d).set i x = p.take (i + 1) ++ List.replicate (n - (i + 1)) d := by
  subst hn
  obtain ⟨hi, e⟩ := List.getElem?_eq_some_iff.1 hx
  apply List.ext_getElem
  · simp; omega
  · intro k h1 h2
    simp only [List.getElem_set, List.getElem_append, List.getElem_take, List.length_take, List.getElem_replicate]
    by_cases e1 : i = k
    · subst e1
      rw [if_pos rfl, dif_pos (by omega)]
      exact e.symm
    · rw [if_neg e1]
      by_cases e2 : k < i
      · rw [dif_pos (by omega), dif_pos (by omega)]
      · rw [dif_neg (by omega), dif_neg (by omega)]
set_option maxRecDepth 100000 in
set_option maxHeartbeats 3200000 in
theorem list_any {u : Value} {zz : List (List Int)} {w : World} (hu : RowsAt w u zz) (ho : OkC zz) :
    Calls Tryz.prog 40 #[.agg #[u]] w fun e w' => RetU (zz.map maskOf) w e w' := by
  obtain ⟨i0, hi, iz0, iz1, iz2⟩ := info_parts info_u
  obtain ⟨a, cp, rfl, hl, k1⟩ := hu.any
  have K1 := Lib.hid k1
  have h48 := ho.2
  have HO := Lib.hid ho
  clear k1 hu ho
  go_enter Tryz.func40, Tryz.ntmps40
  go_wp2_with (at_make; refine wpList_make_full _ rfl _ _ 65 rfl (w.heap.size + 1) 68 i0 (.int .u16 0) 1 Tryz.underlying65 hi iz0 iz1 _ _ _ _ zz.length rfl rfl rfl rfl ?ah1 ?ah2 ?ah3 ?_)
  case ah1 => first | omega | (rw [iz2]; omega)
  case ah2 => unfold maxLen; omega
  try (case ah3 => simp)
  intro w1 hown hgrow
  have hb1 : Below w.heap.size w w1 := ((Below.refl w.heap.size w).alloc (Nat.le_refl _) _).grown hgrow (by simp) (fun k hk => by cases hk)
  have hP1 : PtC w1 w.heap.size (.slice a zz.length cp) := by
    have p := PtC.new w (.slice a zz.length cp) 27
    have hbb : Below (w.heap.size + 1) (w.alloc (.cells #[.slice a zz.length cp] 27)) w1 := ⟨hgrow.os, hgrow.tape, hgrow.output, hgrow.size, fun k hk => hgrow.block k (by rw [World.size_alloc]; exact hk) (fun e => by cases e)⟩
    exact p.on (by rw [World.size_alloc]; exact hbb)
  (try rw [World.size_alloc] at hown)
  have hO1 : OwnU (w.heap.size + 1) w1 (.slice (some ⟨w.heap.size + 1, 0, none⟩) zz.length zz.length) ((zz.map maskOf).take 0 ++ List.replicate (zz.length - 0) 0) := by
    have e : (zz.map maskOf).take 0 ++ List.replicate (zz.length - 0) 0 = List.replicate zz.length (0 : Nat) := by simp
    rw [e]
    unfold OwnU
    rw [List.length_replicate]
    have e2 : uv (List.replicate zz.length 0) = List.replicate zz.length (.int .u16 0) := by unfold uv; rw [List.map_replicate]; rfl
    rw [e2]
    simpa [Value.cells, toList_madeCells_one] using hown
  obtain ⟨g, hgdef⟩ : ∃ g, w.heap.size + 1 = g := ⟨_, rfl⟩
  rw [hgdef] at hO1
  have HG := Lib.hid hgdef
  have HO1 := Lib.hid hO1
  have HB1 := Lib.hid hb1
  have HP1 := Lib.hid hP1
  have p1 := hP1.2
  clear hown hgrow hb1 hO1 hP1
  go_wp2_with fail
  rw [hgdef]
  clear hgdef p1
  go_loopw [13] (fun si wr => ∃ (k : Nat), k ≤ zz.length ∧ si = .int .i64 (k : Int) ∧ Hid (OwnU g wr (.slice (some ⟨g, 0, none⟩) zz.length zz.length) ((zz.map maskOf).take k ++ List.replicate (zz.length - k) 0)) ∧ Hid (Below w.heap.size w wr)) (fun si _ => zz.length - (intOf si).toNat)
  case atStart => exact ⟨0, Nat.zero_le _, rfl, HO1, HB1⟩
  case round =>
    clear HO1 HB1
    obtain ⟨k, hk, rfl, HY, HB⟩ := hrel
    have i0' : 0 ≤ (k : Int) := by omega
    by_cases hlt : k < zz.length
    · have i1 : (k : Int) < (zz.length : Int) := by omega
      obtain ⟨b, o, y, rfl, hb, c1', i1'⟩ := K1.out k hlt
      have c1 : wr.cell? ⟨b, o + k, none⟩ = some y := (HB.out.cell (p := ⟨b, o + k, none⟩) hb).trans c1'
      have hsk := HO.out.sim hlt
      have hI1 := i1'.on HB.out
      have hml : (zz.map maskOf).length = zz.length := List.length_map _
      have HPF := Lib.hid (fillN (i := k) (p := zz.map maskOf) (x := maskOf zz[k]) (d := 0) hml hlt (by simp [hlt]))
      have hll : ((zz.map maskOf).take k ++ List.replicate (zz.length - k) 0).length = zz.length := by simp; omega
      obtain ⟨sb, so, sc, rfl, hsb, k1s⟩ := hI1.at1 hsk.pos
      have hset := setOf_some (c := sc) (by have := hsk.le; omega) hsk.bd k1s
      generalize maskOf zz[k] = m at HPF hset
      generalize zz[k].length = sl at c1 hset
      obtain ⟨y0, yc⟩ : ∃ y, wr.cell? ⟨g, k, none⟩ = some y := ⟨_, HY.out.cell hll.symm (by omega)⟩
      have hyo := HY.out.out
      rw [hll] at hyo
      have ff1 : wr.frozen? ⟨g, k, none⟩ = false := hyo.frozenAt k
      have h1 := HY.out.write hll.symm k m
      rw [HPF.out] at h1
      have HY1 := Lib.hid h1
      have HB1 : Hid (Below w.heap.size w (wr.setCell ⟨g, k, none⟩ (.int .u16 (m : Int)))) := HB.out.setCell (p := ⟨g, k, none⟩) (by have h : w.heap.size + 1 = g := HG.out; show w.heap.size ≤ g; omega) _
      clear hyo h1 hll hml hI1 k1s c1' i1' hsk
      go_wp2_with (go_at_call 47; refine hset.mono ?_; rintro e w' ⟨rfl, rfl⟩)
      go_roundw
      case rel => exact ⟨k + 1, by omega, by go_num, HY1, HB1⟩
      case measure => simp [intOf]; omega
    · obtain rfl : k = zz.length := by omega
      have HYz : Hid (OwnU g wr (.slice (some ⟨g, 0, none⟩) zz.length zz.length) (zz.map maskOf)) := by
        have e : (zz.map maskOf).take zz.length ++ List.replicate (zz.length - zz.length) 0 = zz.map maskOf := by
          rw [List.take_of_length_le (by simp), Nat.sub_self]; simp
        have := HY.out
        rw [e] at this
        exact this
      go_wp2_with fail
      go_ret
      exact ⟨_, rfl, OwnU.mono HYz.out (by have := HG.out; omega), HB.out⟩
theorem orL_take {ms : List Nat} {k : Nat} (h : k < ms.length) : orL (ms.take (k + 1)) = orL (ms.take k) ||| ms[k] := by
  rw [List.take_succ_eq_append_getElem h, orL_snoc]
set_option maxRecDepth 100000 in
set_option maxHeartbeats 3200000 in
theorem verts_any {u : Value} {zz : List (List Int)} {w : World} (hu : RowsAt w u zz) (ho : OkC zz) (hTz : Tz w) :
    Calls Tryz.prog 85 #[.agg #[u]] w fun e w' => RetN (vsL zz) w e w' := by
  have HU := Lib.hid hu
  obtain ⟨a, cp, rfl⟩ := hu.slice
  have al0 : Below w.heap.size w (w.alloc (.cells #[.slice a zz.length cp] 27)) := (Below.refl _ w).alloc (Nat.le_refl _) _
  have P0 := Lib.hid (PtC.new w (.slice a zz.length cp) 27)
  have U0 := Lib.hid (HU.out.on al0)
  have TZ := Lib.hid (hTz.on al0)
  have AL := Lib.hid al0
  have HO := Lib.hid ho
  have h48 := ho.2
  clear al0 hu ho hTz
  go_enter Tryz.func85, Tryz.ntmps85
  have p0 := P0.out.2
  go_wp2_with (go_at_call 47; refine (setOf_none _).mono ?_; rintro e w' ⟨rfl, rfl⟩)
  refine (list_any U0.out HO.out).mono ?_
  rintro e w2 ⟨v2, rfl, ho2, hb2⟩
  have HA2 := Lib.hid (AL.out.trans (hb2.mono AL.out.size))
  have HTZ2 := Lib.hid (TZ.out.on hb2)
  have HMS := Lib.hid (msks_lt HO.out)
  have HVV := Lib.hid (all_verts HO.out)
  have hml : (zz.map maskOf).length ≤ 48 := by simp; omega
  have HO2 := Lib.hid ho2
  obtain ⟨va, vc, rfl⟩ := ho2.slice
  generalize zz.map maskOf = ms at HO2 HMS HVV hml ⊢
  clear ho2 hb2
  go_wp2_with fail
  go_loopw [3, 10] (fun sm si wr => ∃ (k : Nat), k ≤ ms.length ∧ si = .int .i64 (k : Int) ∧ sm = .int .u16 (orL (ms.take k) : Int) ∧ w2 = wr) (fun _ si _ => ms.length - (intOf si).toNat)
  case atStart => exact ⟨0, Nat.zero_le _, rfl, rfl, rfl⟩
  case round =>
    obtain ⟨k, hk, rfl, rfl, rfl⟩ := hrel
    have i0' : 0 ≤ (k : Int) := by omega
    have hor : orL (ms.take k) < 1024 := orL_lt fun m hm => HMS.out m (List.mem_of_mem_take hm)
    by_cases hlt : k < ms.length
    · have i1 : (k : Int) < (ms.length : Int) := by omega
      obtain ⟨g, cap, e, hg⟩ := HO2.out.at1 (by omega)
      injection e with e1 e2 e3
      subst e1 e3
      have c5 := HO2.out.cell rfl hlt
      have hm := HMS.out ms[k] (List.getElem_mem hlt)
      have HN := Lib.hid (orL_take hlt)
      have e2 : bits BinOp.or IntKind.u16 (orL (ms.take k) : Int) (ms[k] : Int) = ((orL (ms.take k) ||| ms[k] : Nat) : Int) := or_u16n (by omega) (by omega)
      generalize ms[k] = m at c5 e2 HN
      generalize orL (ms.take k) = q at e2 HN ⊢
      go_wp2_with fail
      go_roundw
      case rel => exact ⟨k + 1, by omega, by go_num, by rw [HN.out], (by first | rfl | trivial)⟩
      case measure => simp [intOf]; omega
    · obtain rfl : k = ms.length := by omega
      have HQ := HVV.out
      rw [List.take_length] at hor
      have hmb := members_any hor HTZ2.out
      rw [HQ] at hmb
      rw [List.take_length]
      generalize orL ms = q at hmb ⊢
      clear HQ
      go_wp2_with fail
      refine hmb.mono ?_
      rintro e w5 ⟨v5, rfl, ho5, hb5⟩
      go_wp2_with fail
      go_ret
      exact ⟨_, rfl, OwnI.mono ho5 HA2.out.size, HA2.out.trans (hb5.mono HA2.out.size)⟩
end Go.Proofs.YtibdcejglkhcfaaGreatDoor

namespace Go.Proofs.YtibdcejglkhcfaaGreatDoor
open Go.RowKit Go.Maps
set_option linter.unusedVariables false
set_option linter.unusedSimpArgs false

/-- What is told, by value. -/
def vmV (f : Nat → Int) : Value := .agg (arrL f).toArray
theorem Arr.new (w : World) (f : Nat → Int) (t : TypeId) : Arr (w.alloc (.cells (arrL f).toArray t)) w.heap.size f := fun j hj => by
  have h : (arrL f).toArray[j]? = some (.int .i64 (f j)) := by simp [arrL, hj]
  have hlt : j < (arrL f).toArray.size := by simp [arrL]; omega
  refine ⟨?_, ?_⟩
  · rw [World.cell?_alloc_at _ _ _ _ rfl]; exact h
  · rw [World.frozen?_alloc_at _ _ _ _ rfl]
theorem vm_size (f : Nat → Int) : (Tryz.prog.info? 60).map (·.size) = some (arrL f).length := by
  rw [arrL_len]; kernel_rfl
/-- The set of what is told for the members of a set. -/
def mkI (f : Nat → Int) (r : Nat) : Nat := maskOf ((vertsOf r).map fun v => f v.toNat)
theorem mkI_zero (f : Nat → Int) : mkI f 0 = 0 := by
  have : vertsOf 0 = [] := by decide
  unfold mkI; rw [this]; rfl
theorem mkI_step {f : Nat → Int} (hf : ∀ j, j < 10 → 0 ≤ f j ∧ f j ≤ 9) {r : Nat} (hr : r < 1024) (h0 : r ≠ 0) : mkI f r = maskOf [f (lowOf r)] ||| mkI f (r &&& (r - 1)) ∧ lowOf r < 10 := by
  obtain ⟨hb, _, _, hlow, hlt, _⟩ := low_facts (m := r) (by omega) h0
  rw [membL_verts hr, membL_verts (m := r &&& (r - 1)) (by omega)] at hb
  have hl : lowOf r < 10 := by
    have hm : (lowOf r : Int) ∈ vertsOf r := by rw [hb]; simp
    have := verts_bd r _ hm
    omega
  refine ⟨?_, hl⟩
  unfold mkI
  rw [hb, List.map_cons]
  have e : ((lowOf r : Nat) : Int).toNat = lowOf r := by omega
  rw [e]
  have h1 : ∀ x ∈ (vertsOf (r &&& (r - 1))).map (fun v => f v.toNat), 0 ≤ x := fun x hx => by
    obtain ⟨v, hv, rfl⟩ := List.mem_map.1 hx
    have := verts_bd _ v hv
    exact (hf v.toNat (by omega)).1
  rw [maskOf_cons (hf _ hl).1 h1]
  have e2 : (1 <<< (f (lowOf r)).toNat) = maskOf [f (lowOf r)] := by simp [maskOf]
  rw [e2]
theorem mkI_lt {f : Nat → Int} (hf : ∀ j, j < 10 → 0 ≤ f j ∧ f j ≤ 9) (r : Nat) : mkI f r < 1024 :=
  maskOf_lt _ fun x hx => by
    obtain ⟨v, hv, rfl⟩ := List.mem_map.1 hx
    have := verts_bd _ v hv
    exact hf v.toNat (by omega)
set_option maxRecDepth 100000 in
set_option maxHeartbeats 3200000 in
theorem imageOf_any {f : Nat → Int} {m : Nat} {w : World} (hf : ∀ j, j < 10 → 0 ≤ f j ∧ f j ≤ 9) (hm : m < 1024) (hTz : Tz w) :
    Calls Tryz.prog 41 #[vmV f, .int .u16 (m : Int)] w fun e w' => e = .returned (.int .u16 (mkI f m : Int)) ∧ Below w.heap.size w w' := by
  have AL : Hid (Below w.heap.size w (w.alloc (.cells (arrL f).toArray 60))) := (Below.refl _ w).alloc (Nat.le_refl _) _
  have A0 : Hid (Arr (w.alloc (.cells (arrL f).toArray 60)) w.heap.size f) := Arr.new w f _
  have HF := Lib.hid hf
  have TZ := Lib.hid hTz
  unfold vmV
  generalize (arrL f).toArray = cs at AL A0 ⊢
  clear hTz hf
  go_enter Tryz.func41, Tryz.ntmps41
  go_wp2_with (go_at_call 47; refine (setOf_none _).mono ?_; rintro e w' ⟨rfl, rfl⟩)
  have HB0 := AL
  have hsz : w.heap.size < (w.alloc (.cells cs 60)).heap.size := by simp
  go_loopw [5, 6] (fun sm sr wr => ∃ (q r : Nat), sr = .int .u16 (r : Int) ∧ sm = .int .u16 (q : Int) ∧ q < 1024 ∧ r < 1024 ∧ Hid (q ||| mkI f r = mkI f m) ∧ Hid (Arr wr w.heap.size f) ∧ Hid (Below w.heap.size w wr)) (fun _ sr _ => (intOf sr).toNat)
  case atStart => exact ⟨0, m, rfl, rfl, by omega, hm, (by show _ = _; simp), A0, HB0⟩
  case round =>
    clear A0 HB0
    obtain ⟨q, r, rfl, rfl, hq, hr, HR, HA, HB⟩ := hrel
    rcases Nat.eq_zero_or_pos r with h0 | h0
    · subst h0
      have ht : Hid (q = mkI f m) := by
        show _ = _
        have := HR.out
        rw [mkI_zero, Nat.or_zero] at this
        exact this
      have e0 : (((0 : Nat) : Int) != 0) = false := by simp
      go_wp2_with fail
      go_ret
      rw [← ht.out]
      exact ⟨rfl, HB.out⟩
    · have hr0 : r ≠ 0 := by omega
      obtain ⟨_, _, _, _, hlt, _⟩ := low_facts (m := r) (by omega) hr0
      obtain ⟨hst, hl10⟩ := mkI_step HF.out hr hr0
      have htz := tz16_any (m := r) (by omega) hr0 (TZ.out.on HB.out)
      have e0 : ((r : Int) != 0) = true := by simp; omega
      have e1 : IntKind.u16.wrap ((r : Int) - 1) = ((r - 1 : Nat) : Int) := by
        rw [show (r : Int) - 1 = ((r - 1 : Nat) : Int) by omega]
        exact wrap_u16 (by omega)
      have e2 : bits BinOp.and IntKind.u16 (r : Int) ((r - 1 : Nat) : Int) = ((r &&& (r - 1) : Nat) : Int) := and_u16 (by omega) (by omega)
      have e3 : bits BinOp.and IntKind.u16 (r : Int) ((r : Int) - 1) = ((r &&& (r - 1) : Nat) : Int) := by rw [← e2]; congr 1; omega
      obtain ⟨l, hll⟩ : ∃ l, lowOf r = l := ⟨_, rfl⟩
      rw [hll] at hst hl10 htz
      obtain ⟨g, hgg⟩ : ∃ g, r &&& (r - 1) = g := ⟨_, rfl⟩
      rw [hgg] at hlt hst e2 e3
      obtain ⟨x, hx⟩ : ∃ x, f l = x := ⟨_, rfl⟩
      have hx9 := HF.out l hl10
      rw [hx] at hst hx9
      obtain ⟨fa1, _⟩ := HA.out.at hl10 (x := x) hx
      have l0 : 0 ≤ (l : Int) := by omega
      have l1 : (l : Int) < 10 := by omega
      have hmx : maskOf [x] < 1024 := maskOf_lt [x] fun v hv => by rw [List.mem_singleton] at hv; subst hv; exact hx9
      have e4 : bits BinOp.or IntKind.u16 (q : Int) (maskOf [x] : Int) = ((q ||| maskOf [x] : Nat) : Int) := or_u16n (by omega) (by omega)
      have hq2 : q ||| maskOf [x] < 1024 := Nat.or_lt_two_pow (n := 10) hq hmx
      have HR2 : Hid ((q ||| maskOf [x]) ||| mkI f g = mkI f m) := by show _ = _; rw [Nat.or_assoc, ← hst]; exact HR.out
      have hset : ∀ w0 : World, w0.cell? ⟨wr.heap.size, 0, none⟩ = some (.int .i64 x) → Calls Tryz.prog 47 #[.slice (some ⟨wr.heap.size, 0, none⟩) 1 1] w0 fun e w' => e = .returned (.int .u16 (maskOf [x] : Int)) ∧ w0 = w' := fun w0 h => by
        have := setOf_some (b := wr.heap.size) (o := 0) (c := 1) (l := [x]) (w := w0) (by simp) (fun v hv => by rw [List.mem_singleton] at hv; subst hv; exact hx9) (fun j hj => by
          have hj0 : j = 0 := by simpa using hj
          subst hj0; exact h)
        simpa using this
      have HSET := Lib.hid hset
      have f1 : (1 : Int) ≤ (r : Int) := by omega
      have HA2 : Hid (Arr (wr.alloc (.cells #[.int .i64 x] 2)) w.heap.size f) := HA.out.on (by have := HB.out.size; have : w.heap.size < wr.heap.size := World.block_lt_of_cell? _ ⟨w.heap.size, l, none⟩ fa1; exact this) ((Below.refl _ _).alloc (Nat.le_refl _) _)
      have HB2 : Hid (Below w.heap.size w (wr.alloc (.cells #[.int .i64 x] 2))) := HB.out.alloc (by exact HB.out.size) _
      have hc0 : (wr.alloc (.cells #[.int .i64 x] 2)).cell? ⟨wr.heap.size, 0, none⟩ = some (.int .i64 x) := by rw [World.cell?_alloc_at _ _ _ _ rfl]; rfl
      have HC0 := Lib.hid hc0
      generalize maskOf [x] = y at hmx e4 hq2 HR2 HSET
      clear hll hgg hst HR hset hc0 hx
      go_wp2_with fail
      refine htz.mono ?_
      rintro e w2 ⟨rfl, rfl⟩
      go_wp2_with fail
      refine (HSET.out _ HC0.out).mono ?_
      rintro e w3 ⟨rfl, rfl⟩
      go_wp2_with fail
      go_roundw
      case rel => exact ⟨q ||| y, g, rfl, rfl, hq2, by omega, HR2, HA2, HB2⟩
      case measure => simp [intOf]; omega
/-- The image's set of a simplex. -/
theorem mkI_sim {f : Nat → Int} {s : List Int} (hs : Sim s) (hf : ∀ j, j < 10 → 0 ≤ f j ∧ f j ≤ 9) : mkI f (maskOf s) = maskOf (imgL (fun v => f v.toNat) s) ∧ Sim (imgL (fun v => f v.toNat) s) := by
  have hb : ∀ v ∈ s, 0 ≤ f v.toNat ∧ f v.toNat ≤ 9 := fun v hv => hf v.toNat (by have := hs.bd v hv; omega)
  refine ⟨?_, imgL_sim hs hb⟩
  unfold mkI
  rw [hs.verts, imgL_mask fun v hv => (hb v hv).1]
def ledB (zb : List (List Int)) (f : Nat → Int) (zz : List (List Int)) : Bool := zz.all fun s => decide (imgL (fun v => f v.toNat) s ∈ zb)
theorem ledB_step {zb : List (List Int)} {f : Nat → Int} {zz : List (List Int)} {k : Nat} (h : k < zz.length) : ledB zb f (zz.drop k) = (decide (imgL (fun v => f v.toNat) zz[k] ∈ zb) && ledB zb f (zz.drop (k + 1))) := by
  unfold ledB
  rw [List.drop_eq_getElem_cons h, List.all_cons]
theorem OwnU.any {B : Nat} {w : World} {v : Value} {fs : List Nat} (h : OwnU B w v fs) : ∃ a c, v = .slice a fs.length c ∧ ∀ j (hj : j < fs.length), ∃ b o, a = some ⟨b, o, none⟩ ∧ b < w.heap.size ∧ w.cell? ⟨b, o + j, none⟩ = some (.int .u16 (fs[j] : Int)) := by
  obtain ⟨a, c, rfl⟩ := h.slice
  refine ⟨a, c, rfl, fun j hj => ?_⟩
  obtain ⟨g, cap, e, hg⟩ := h.at1 (by omega)
  injection e with e1 e2 e3
  subst e1 e3
  exact ⟨g, 0, rfl, (h.out.lt g rfl).2, by rw [Nat.zero_add]; exact h.cell rfl hj⟩
theorem idx_has_iff {zb : List (List Int)} {D : DataW Unit} (ob : OkC zb) (hD : IdxD zb zb.length D) {t : List Int} (ht : Sim t) : has D (.int .u16 (maskOf t : Int)) = decide (t ∈ zb) := by
  rw [Bool.eq_iff_iff, hD.2.1, decide_eq_true_eq]
  constructor
  · rintro ⟨i, hi, _, e⟩
    have e' : maskOf zb[i] = maskOf t := by omega
    rw [← ht.verts, ← e', (ob.sim hi).verts]
    exact List.getElem_mem hi
  · intro h
    obtain ⟨i, hi, e⟩ := List.getElem_of_mem h
    exact ⟨i, hi, hi, by rw [e]⟩
set_option maxRecDepth 100000 in
set_option maxHeartbeats 3200000 in
theorem leadsTo_is {f : Nat → Int} {mb n c : Nat} {D : DataW Unit} {zb zz : List (List Int)} {a : Option Addr} {T : Bool} {w : World} (hf : ∀ j, j < 10 → 0 ≤ f j ∧ f j ≤ 9) (ob : OkC zb) (hM : MI w mb n D) (hD : IdxD zb zb.length D)
    (hs : ∀ s ∈ zz, Sim s) (hz : zz.length ≤ 1048576) (k1 : ∀ j (hj : j < zz.length), ∃ b o, a = some ⟨b, o, none⟩ ∧ b < w.heap.size ∧ w.cell? ⟨b, o + j, none⟩ = some (.int .u16 (maskOf zz[j] : Int))) (hT : ledB zb f zz = T) (hTz : Tz w) :
    Calls Tryz.prog 87 #[vmV f, .map (some mb), .slice a zz.length c] w fun e w' => e = .returned (.bool T) ∧ Below w.heap.size w w' := by
  have AL : Hid (Below w.heap.size w (w.alloc (.cells (arrL f).toArray 60))) := (Below.refl _ w).alloc (Nat.le_refl _) _
  have A0 : Hid (Arr (w.alloc (.cells (arrL f).toArray 60)) w.heap.size f) := Arr.new w f _
  have HF := Lib.hid hf
  have TZ := Lib.hid hTz
  have HMM := Lib.hid hM
  have HDD := Lib.hid hD
  have OB := Lib.hid ob
  have HS := Lib.hid hs
  have K1 := Lib.hid k1
  have HT : Hid (ledB zb f (zz.drop 0) = T) := hT
  have HSZ := Lib.hid (vm_size f)
  have HIM : Hid (∀ (m : Nat) (w1 : World), m < 1024 → Tz w1 → Calls Tryz.prog 41 #[.agg (arrL f).toArray, .int .u16 (m : Int)] w1 fun e w' => e = .returned (.int .u16 (mkI f m : Int)) ∧ Below w1.heap.size w1 w') := fun m w1 hm ht => imageOf_any hf hm ht
  have HRG : Hid (∀ w1, Arr w1 w.heap.size f → w1.rangeAt w.heap.size 0 (arrL f)) := fun w1 h => h.range
  unfold vmV
  have hsz0 : w.heap.size < (w.alloc (.cells (arrL f).toArray 60)).heap.size := by simp
  generalize arrL f = cl at AL A0 HSZ HIM HRG hsz0 ⊢
  clear hTz hf hM hD ob hs k1 hT
  go_enter Tryz.func87, Tryz.ntmps87
  go_wp2_with fail
  go_loopw [13] (fun si wr => ∃ (k : Nat), k ≤ zz.length ∧ si = .int .i64 (k : Int) ∧ Hid (ledB zb f (zz.drop k) = T) ∧ Hid (Arr wr w.heap.size f) ∧ Hid (Below w.heap.size w wr)) (fun si _ => zz.length - (intOf si).toNat)
  case atStart => exact ⟨0, Nat.zero_le _, rfl, HT, A0, AL⟩
  case round =>
    clear HT A0 AL hsz0
    obtain ⟨k, hk, rfl, HA, HR, HB⟩ := hrel
    have i0' : 0 ≤ (k : Int) := by omega
    by_cases hlt : k < zz.length
    · have i1 : (k : Int) < (zz.length : Int) := by omega
      obtain ⟨b, o, rfl, hb, c1'⟩ := K1.out k hlt
      have c1 := (HB.out.cell (p := ⟨b, o + k, none⟩) hb).trans c1'
      have hsk := HS.out zz[k] (List.getElem_mem hlt)
      obtain ⟨him, hisim⟩ := mkI_sim hsk HF.out
      have hmk := maskOf_lt zz[k] (fun v hv => hsk.bd v hv)
      have hht := idx_has_iff OB.out HDD.out hisim
      rw [← him] at hht
      have ha := HA.out
      rw [ledB_step hlt, ← hht] at ha
      have hig := mkI_lt HF.out (maskOf zz[k])
      have hic := HIM.out (maskOf zz[k]) wr hmk (TZ.out.on HB.out)
      generalize maskOf zz[k] = m at c1 hmk hht ha hig hic him
      have hrg := Lib.hid (HRG.out wr HR.out)
      have hlw : w.heap.size < wr.heap.size := World.block_lt_of_cell? _ ⟨w.heap.size, 0, none⟩ (HR.out 0 (by omega)).1
      generalize mkI f m = y at hht ha hig hic him
      clear c1' him hisim hsk hht
      go_wp2_with (refine wpList_load_mid rfl 60 (.tmp 3) rfl w.heap.size 0 rfl cl _ hrg.out Tryz.underlying60 rfl HSZ.out ?_)
      refine hic.mono ?_
      rintro e w2 ⟨rfl, hb2⟩
      have HB2 := Lib.hid (HB.out.trans (hb2.mono HB.out.size))
      have HR2 := Lib.hid (HR.out.on hlw hb2)
      obtain ⟨x, ps, hrun, hx⟩ := World.ownsMap.look_ok (HMM.out.on HB2.out).out (int_keyed Tryz.underlying68) Tryz.underlying90 (zero_i64 w2) (plainElem_int Tryz.underlying2 (wf_i64 (k := 0) (by omega))) (key_u16 hig)
      clear hx hb2 hrg
      cases hh : has D (.int .u16 (y : Int)) with
      | true =>
        rw [hh] at hrun ha
        rw [Bool.true_and] at ha
        have HA2 := Lib.hid ha
        clear ha HA
        go_wp2_with fail
        go_roundw
        case rel => exact ⟨k + 1, by omega, by go_num, HA2, HR2, HB2⟩
        case measure => simp [intOf]; omega
      | false =>
        rw [hh] at hrun ha
        rw [Bool.false_and] at ha
        subst ha
        clear HA
        go_wp2_with fail
        go_ret
        exact ⟨rfl, HB2.out⟩
    · have hT : T = true := by rw [← HA.out, List.drop_eq_nil_of_le (by omega)]; rfl
      subst hT
      obtain rfl : k = zz.length := by omega
      go_wp2_with fail
      go_ret
      exact ⟨rfl, HB.out⟩
end Go.Proofs.YtibdcejglkhcfaaGreatDoor

namespace Go.Proofs.YtibdcejglkhcfaaGreatDoor
open Go.RowKit Go.Maps
set_option linter.unusedVariables false
set_option linter.unusedSimpArgs false

theorem Arr.there {w : World} {g : Nat} {f : Nat → Int} (h : Arr w g f) : w.there g 0 10 := fun j hj => by
  obtain ⟨h1, h2⟩ := h j hj
  rw [Nat.zero_add]
  exact ⟨by rw [h1]; rfl, h2⟩
theorem Arr.store {w : World} {g : Nat} {f' : Nat → Int} (h : Arr w g f') (f : Nat → Int) : Arr (w.setCells g 0 (arrL f)) g f := fun j hj => by
  have hr := World.rangeAt_setCells_same w g 0 (arrL f) (by rw [arrL_len]; exact h.there)
  have h1 := hr j (.int .i64 (f j)) (by simp [arrL, hj])
  rw [Nat.zero_add] at h1
  exact ⟨h1, by rw [World.frozen?_setCells]; exact (h j hj).2⟩
theorem arrL_one (f : Nat → Int) : (arrL f).toArray.all (·.oneCell') = true := all_oneCell_toArray fun v hv => by
  obtain ⟨j, _, rfl⟩ := List.mem_map.1 hv; rfl
theorem vm_size2 (f : Nat → Int) : (Tryz.prog.info? 60).map (·.size) = some (arrL f).toArray.size := by
  rw [List.size_toArray]; exact vm_size f
theorem OwnU.sims {B : Nat} {w : World} {v : Value} {zz : List (List Int)} (h : OwnU B w v (zz.map maskOf)) : ∃ a c, v = .slice a zz.length c ∧ ∀ j (hj : j < zz.length), ∃ b o, a = some ⟨b, o, none⟩ ∧ b < w.heap.size ∧ w.cell? ⟨b, o + j, none⟩ = some (.int .u16 (maskOf zz[j] : Int)) := by
  obtain ⟨a, c, e, k⟩ := h.any
  refine ⟨a, c, by rw [e, List.length_map], fun j hj => ?_⟩
  obtain ⟨b, o, e1, e2, e3⟩ := k j (by rw [List.length_map]; exact hj)
  exact ⟨b, o, e1, e2, by rw [e3, List.getElem_map]⟩
def RetVM (f : Nat → Int) (c : Int) (w : World) (e : Ending) (w' : World) : Prop := e = .returned (.tuple #[vmV f, .int .i64 c]) ∧ Below w.heap.size w w'
set_option maxRecDepth 100000 in
set_option maxHeartbeats 6400000 in
theorem mapOf_no1 {u v x : Value} {za zb : List (List Int)} {xs : List Int} {w : World} (hu : RowsAt w u za) (hv : RowsAt w v zb) (hx : IntsAt w x xs) (ha : ¬ OkC za) (hTz : Tz w) :
    Calls Tryz.prog 39 #[.agg #[u], .agg #[v], x] w fun e w' => RetVM (fun _ => 0) 1 w e w' := by
  have HU := Lib.hid hu
  have HV := Lib.hid hv
  have HX := Lib.hid hx
  obtain ⟨a, ca, rfl⟩ := hu.slice
  obtain ⟨b, cb, rfl⟩ := hv.slice
  obtain ⟨xa, xc, rfl⟩ := hx.slice
  have P0 : Hid (PtC (((w.alloc (.cells #[.slice a za.length ca] 27)).alloc (.cells #[.slice b zb.length cb] 27)).alloc (.cells #[.int .i64 0, .int .i64 0, .int .i64 0, .int .i64 0, .int .i64 0, .int .i64 0, .int .i64 0, .int .i64 0, .int .i64 0, .int .i64 0] 60)) w.heap.size (.slice a za.length ca)) := (PtC.new1 w _ 27 (.cells #[.slice b zb.length cb] 27)).on ((Below.refl _ _).alloc (Nat.le_refl _) _)
  have P1 : Hid (PtC (((w.alloc (.cells #[.slice a za.length ca] 27)).alloc (.cells #[.slice b zb.length cb] 27)).alloc (.cells #[.int .i64 0, .int .i64 0, .int .i64 0, .int .i64 0, .int .i64 0, .int .i64 0, .int .i64 0, .int .i64 0, .int .i64 0, .int .i64 0] 60)) (w.heap.size + 1) (.slice b zb.length cb)) := by
    have h := PtC.new1 (w.alloc (.cells #[.slice a za.length ca] 27)) (.slice b zb.length cb) 27 (.cells #[.int .i64 0, .int .i64 0, .int .i64 0, .int .i64 0, .int .i64 0, .int .i64 0, .int .i64 0, .int .i64 0, .int .i64 0, .int .i64 0] 60)
    rw [World.size_alloc] at h
    exact h
  have AR : Hid (Arr (((w.alloc (.cells #[.slice a za.length ca] 27)).alloc (.cells #[.slice b zb.length cb] 27)).alloc (.cells #[.int .i64 0, .int .i64 0, .int .i64 0, .int .i64 0, .int .i64 0, .int .i64 0, .int .i64 0, .int .i64 0, .int .i64 0, .int .i64 0] 60)) (w.heap.size + 2) (fun _ => 0)) := by
    have h := Arr.new ((w.alloc (.cells #[.slice a za.length ca] 27)).alloc (.cells #[.slice b zb.length cb] 27)) (fun _ => 0) 60
    rw [World.size_alloc, World.size_alloc] at h
    exact h
  have B0 : Hid (Below w.heap.size w (((w.alloc (.cells #[.slice a za.length ca] 27)).alloc (.cells #[.slice b zb.length cb] 27)).alloc (.cells #[.int .i64 0, .int .i64 0, .int .i64 0, .int .i64 0, .int .i64 0, .int .i64 0, .int .i64 0, .int .i64 0, .int .i64 0, .int .i64 0] 60))) := al1 (al1 (al1 (Below.refl _ _) _) _) _
  have hS0 : w.heap.size + 3 ≤ (((w.alloc (.cells #[.slice a za.length ca] 27)).alloc (.cells #[.slice b zb.length cb] 27)).alloc (.cells #[.int .i64 0, .int .i64 0, .int .i64 0, .int .i64 0, .int .i64 0, .int .i64 0, .int .i64 0, .int .i64 0, .int .i64 0, .int .i64 0] 60)).heap.size := by simp
  have TZ := Lib.hid (hTz.on B0.out)
  have hbu := HU.out.on B0.out
  have hbv := HV.out.on B0.out
  have hbx := HX.out.on B0.out
  have HBU := Lib.hid hbu
  have HBV := Lib.hid hbv
  have HBX := Lib.hid hbx
  obtain ⟨zl, hzl⟩ : ∃ zl, arrL (fun _ => 0) = zl := ⟨_, rfl⟩
  have HI1 : Hid ((Tryz.prog.info? 60).map (·.size) = some zl.toArray.size) := by show _ = _; rw [← hzl]; exact vm_size2 _
  have HI2 : Hid ((Tryz.prog.info? 60).map (·.size) = some zl.length) := by show _ = _; rw [← hzl]; exact vm_size _
  have HON : Hid (zl.toArray.all (·.oneCell') = true) := by show _ = _; rw [← hzl]; exact arrL_one _
  have HSL : Hid ((.agg #[.int .i64 0, .int .i64 0, .int .i64 0, .int .i64 0, .int .i64 0, .int .i64 0, .int .i64 0, .int .i64 0, .int .i64 0, .int .i64 0] : Value) = .agg zl.toArray) := by show _ = _; rw [← hzl]; rfl
  have HZV : Hid (vmV (fun _ => 0) = .agg zl.toArray) := by show _ = _; rw [← hzl]; rfl
  have HTH : Hid (∀ w1 : World, (∃ f, Arr w1 (w.heap.size + 2) f) → w1.there (w.heap.size + 2) 0 zl.toArray.size ∧ (w1.setCells (w.heap.size + 2) 0 zl).rangeAt (w.heap.size + 2) 0 zl) := fun w1 ⟨f, h⟩ => by
    rw [← hzl]
    have e : (arrL (fun _ => 0)).toArray.size = 10 := rfl
    exact ⟨by rw [e]; exact h.there, (h.store _).range⟩
  clear hu hv hx hTz hbu hbv hbx hzl
  go_enter Tryz.func39, Tryz.ntmps39
  go_wp2_with (go_at_call 75; refine Hid.out ?_)
  refine Lib.hid ?_
  generalize (((w.alloc (.cells #[.slice a za.length ca] 27)).alloc (.cells #[.slice b zb.length cb] 27)).alloc (.cells #[.int .i64 0, .int .i64 0, .int .i64 0, .int .i64 0, .int .i64 0, .int .i64 0, .int .i64 0, .int .i64 0, .int .i64 0, .int .i64 0] 60)) = W0 at P0 P1 AR B0 TZ HBU HBV HBX hS0 ⊢
  refine (implVal_is HBU.out (.inr ⟨rfl, ha⟩) TZ.out).mono ?_
  rintro e w1 ⟨rfl, hb1⟩
  have HB1 := Lib.hid (B0.out.trans (hb1.mono B0.out.size))
  have AR1 := Lib.hid (AR.out.on (by omega) hb1)
  clear ha hb1
  obtain ⟨htr, hrg⟩ := HTH.out w1 ⟨_, AR1.out⟩
  have HTR := Lib.hid htr
  have HRG := Lib.hid hrg
  have HBE : Hid (Below w.heap.size w (w1.setCells (w.heap.size + 2) 0 zl)) := below_setCells _ _ _ _ (by omega) HB1.out
  clear htr hrg
  go_wp2_with (refine wpList_store_mid rfl 60 (.tmp 6) (.tmp 20) rfl (w.heap.size + 2) 0 zl.toArray rfl ?_ ?_ HI1.out HON.out ?_; exact HSL.out; exact HTR.out; refine Hid.out ?_)
  refine Lib.hid ?_
  try rw [show zl.toArray.toList = zl from rfl]
  go_wp2_with fail
  have hld := run_loadVar_mid (P := Tryz.prog) _ _ _ 60 zl _ HRG.out Tryz.underlying60 rfl HI2.out
  refine bodyPost_ret (v := .tuple #[.agg zl.toArray, .int .i64 1]) (by simp [results, Tryz.results39, asAddr, hld]) rfl ⟨by rw [HZV.out], HBE.out⟩
set_option maxRecDepth 100000 in
set_option maxHeartbeats 6400000 in
theorem mapOf_no2 {u v x : Value} {za zb : List (List Int)} {xs : List Int} {w : World} (hu : RowsAt w u za) (hv : RowsAt w v zb) (hx : IntsAt w x xs) (ha : OkC za) (hb : ¬ OkC zb) (hTz : Tz w) :
    Calls Tryz.prog 39 #[.agg #[u], .agg #[v], x] w fun e w' => RetVM (fun _ => 0) 1 w e w' := by
  have HU := Lib.hid hu
  have HV := Lib.hid hv
  have HX := Lib.hid hx
  obtain ⟨a, ca, rfl⟩ := hu.slice
  obtain ⟨b, cb, rfl⟩ := hv.slice
  obtain ⟨xa, xc, rfl⟩ := hx.slice
  have P0 : Hid (PtC (((w.alloc (.cells #[.slice a za.length ca] 27)).alloc (.cells #[.slice b zb.length cb] 27)).alloc (.cells #[.int .i64 0, .int .i64 0, .int .i64 0, .int .i64 0, .int .i64 0, .int .i64 0, .int .i64 0, .int .i64 0, .int .i64 0, .int .i64 0] 60)) w.heap.size (.slice a za.length ca)) := (PtC.new1 w _ 27 (.cells #[.slice b zb.length cb] 27)).on ((Below.refl _ _).alloc (Nat.le_refl _) _)
  have P1 : Hid (PtC (((w.alloc (.cells #[.slice a za.length ca] 27)).alloc (.cells #[.slice b zb.length cb] 27)).alloc (.cells #[.int .i64 0, .int .i64 0, .int .i64 0, .int .i64 0, .int .i64 0, .int .i64 0, .int .i64 0, .int .i64 0, .int .i64 0, .int .i64 0] 60)) (w.heap.size + 1) (.slice b zb.length cb)) := by
    have h := PtC.new1 (w.alloc (.cells #[.slice a za.length ca] 27)) (.slice b zb.length cb) 27 (.cells #[.int .i64 0, .int .i64 0, .int .i64 0, .int .i64 0, .int .i64 0, .int .i64 0, .int .i64 0, .int .i64 0, .int .i64 0, .int .i64 0] 60)
    rw [World.size_alloc] at h
    exact h
  have AR : Hid (Arr (((w.alloc (.cells #[.slice a za.length ca] 27)).alloc (.cells #[.slice b zb.length cb] 27)).alloc (.cells #[.int .i64 0, .int .i64 0, .int .i64 0, .int .i64 0, .int .i64 0, .int .i64 0, .int .i64 0, .int .i64 0, .int .i64 0, .int .i64 0] 60)) (w.heap.size + 2) (fun _ => 0)) := by
    have h := Arr.new ((w.alloc (.cells #[.slice a za.length ca] 27)).alloc (.cells #[.slice b zb.length cb] 27)) (fun _ => 0) 60
    rw [World.size_alloc, World.size_alloc] at h
    exact h
  have B0 : Hid (Below w.heap.size w (((w.alloc (.cells #[.slice a za.length ca] 27)).alloc (.cells #[.slice b zb.length cb] 27)).alloc (.cells #[.int .i64 0, .int .i64 0, .int .i64 0, .int .i64 0, .int .i64 0, .int .i64 0, .int .i64 0, .int .i64 0, .int .i64 0, .int .i64 0] 60))) := al1 (al1 (al1 (Below.refl _ _) _) _) _
  have hS0 : w.heap.size + 3 ≤ (((w.alloc (.cells #[.slice a za.length ca] 27)).alloc (.cells #[.slice b zb.length cb] 27)).alloc (.cells #[.int .i64 0, .int .i64 0, .int .i64 0, .int .i64 0, .int .i64 0, .int .i64 0, .int .i64 0, .int .i64 0, .int .i64 0, .int .i64 0] 60)).heap.size := by simp
  have TZ := Lib.hid (hTz.on B0.out)
  have hbu := HU.out.on B0.out
  have hbv := HV.out.on B0.out
  have hbx := HX.out.on B0.out
  have HBU := Lib.hid hbu
  have HBV := Lib.hid hbv
  have HBX := Lib.hid hbx
  obtain ⟨zl, hzl⟩ : ∃ zl, arrL (fun _ => 0) = zl := ⟨_, rfl⟩
  have HI1 : Hid ((Tryz.prog.info? 60).map (·.size) = some zl.toArray.size) := by show _ = _; rw [← hzl]; exact vm_size2 _
  have HI2 : Hid ((Tryz.prog.info? 60).map (·.size) = some zl.length) := by show _ = _; rw [← hzl]; exact vm_size _
  have HON : Hid (zl.toArray.all (·.oneCell') = true) := by show _ = _; rw [← hzl]; exact arrL_one _
  have HSL : Hid ((.agg #[.int .i64 0, .int .i64 0, .int .i64 0, .int .i64 0, .int .i64 0, .int .i64 0, .int .i64 0, .int .i64 0, .int .i64 0, .int .i64 0] : Value) = .agg zl.toArray) := by show _ = _; rw [← hzl]; rfl
  have HZV : Hid (vmV (fun _ => 0) = .agg zl.toArray) := by show _ = _; rw [← hzl]; rfl
  have HTH : Hid (∀ w1 : World, (∃ f, Arr w1 (w.heap.size + 2) f) → w1.there (w.heap.size + 2) 0 zl.toArray.size ∧ (w1.setCells (w.heap.size + 2) 0 zl).rangeAt (w.heap.size + 2) 0 zl) := fun w1 ⟨f, h⟩ => by
    rw [← hzl]
    have e : (arrL (fun _ => 0)).toArray.size = 10 := rfl
    exact ⟨by rw [e]; exact h.there, (h.store _).range⟩
  clear hu hv hx hTz hbu hbv hbx hzl
  go_enter Tryz.func39, Tryz.ntmps39
  go_wp2_with (go_at_call 75; refine Hid.out ?_)
  refine Lib.hid ?_
  generalize (((w.alloc (.cells #[.slice a za.length ca] 27)).alloc (.cells #[.slice b zb.length cb] 27)).alloc (.cells #[.int .i64 0, .int .i64 0, .int .i64 0, .int .i64 0, .int .i64 0, .int .i64 0, .int .i64 0, .int .i64 0, .int .i64 0, .int .i64 0] 60)) = W0 at P0 P1 AR B0 TZ HBU HBV HBX hS0 ⊢
  refine (implVal_is HBU.out (.inl ⟨rfl, ha⟩) TZ.out).mono ?_
  rintro e w1 ⟨rfl, hb1⟩
  have HB1 := Lib.hid (B0.out.trans (hb1.mono B0.out.size))
  have AR1 := Lib.hid (AR.out.on (by omega) hb1)
  have P11 := Lib.hid (P1.out.on hb1)
  have HV1 := Lib.hid (HBV.out.on hb1)
  have TZ1 := Lib.hid (TZ.out.on hb1)
  have p1 := P11.out.2
  have hs1 := hb1.size
  clear ha hb1
  go_wp2_with fail
  refine (implVal_is HV1.out (.inr ⟨rfl, hb⟩) TZ1.out).mono ?_
  rintro e w2 ⟨rfl, hb2⟩
  have HB2 := Lib.hid (HB1.out.trans (hb2.mono HB1.out.size))
  have AR2 := Lib.hid (AR1.out.on (by omega) hb2)
  clear hb hb2 p1
  obtain ⟨htr, hrg⟩ := HTH.out w2 ⟨_, AR2.out⟩
  have HTR := Lib.hid htr
  have HRG := Lib.hid hrg
  have HBE : Hid (Below w.heap.size w (w2.setCells (w.heap.size + 2) 0 zl)) := below_setCells _ _ _ _ (by omega) HB2.out
  clear htr hrg
  go_wp2_with (refine wpList_store_mid rfl 60 (.tmp 6) (.tmp 20) rfl (w.heap.size + 2) 0 zl.toArray rfl ?_ ?_ HI1.out HON.out ?_; exact HSL.out; exact HTR.out; refine Hid.out ?_)
  refine Lib.hid ?_
  try rw [show zl.toArray.toList = zl from rfl]
  go_wp2_with fail
  have hld := run_loadVar_mid (P := Tryz.prog) _ _ _ 60 zl _ HRG.out Tryz.underlying60 rfl HI2.out
  refine bodyPost_ret (v := .tuple #[.agg zl.toArray, .int .i64 1]) (by simp [results, Tryz.results39, asAddr, hld]) rfl ⟨by rw [HZV.out], HBE.out⟩
set_option maxRecDepth 100000 in
set_option maxHeartbeats 6400000 in
theorem mapOf_len {u v x : Value} {za zb : List (List Int)} {xs : List Int} {w : World} (hu : RowsAt w u za) (hv : RowsAt w v zb) (hx : IntsAt w x xs) (ha : OkC za) (hb : OkC zb) (hn : xs.length ≠ (vsL za).length) (hTz : Tz w) :
    Calls Tryz.prog 39 #[.agg #[u], .agg #[v], x] w fun e w' => RetVM (fun _ => 0) 7 w e w' := by
  have HU := Lib.hid hu
  have HV := Lib.hid hv
  have HX := Lib.hid hx
  obtain ⟨a, ca, rfl⟩ := hu.slice
  obtain ⟨b, cb, rfl⟩ := hv.slice
  obtain ⟨xa, xc, rfl⟩ := hx.slice
  have P0 : Hid (PtC (((w.alloc (.cells #[.slice a za.length ca] 27)).alloc (.cells #[.slice b zb.length cb] 27)).alloc (.cells #[.int .i64 0, .int .i64 0, .int .i64 0, .int .i64 0, .int .i64 0, .int .i64 0, .int .i64 0, .int .i64 0, .int .i64 0, .int .i64 0] 60)) w.heap.size (.slice a za.length ca)) := (PtC.new1 w _ 27 (.cells #[.slice b zb.length cb] 27)).on ((Below.refl _ _).alloc (Nat.le_refl _) _)
  have P1 : Hid (PtC (((w.alloc (.cells #[.slice a za.length ca] 27)).alloc (.cells #[.slice b zb.length cb] 27)).alloc (.cells #[.int .i64 0, .int .i64 0, .int .i64 0, .int .i64 0, .int .i64 0, .int .i64 0, .int .i64 0, .int .i64 0, .int .i64 0, .int .i64 0] 60)) (w.heap.size + 1) (.slice b zb.length cb)) := by
    have h := PtC.new1 (w.alloc (.cells #[.slice a za.length ca] 27)) (.slice b zb.length cb) 27 (.cells #[.int .i64 0, .int .i64 0, .int .i64 0, .int .i64 0, .int .i64 0, .int .i64 0, .int .i64 0, .int .i64 0, .int .i64 0, .int .i64 0] 60)
    rw [World.size_alloc] at h
    exact h
  have AR : Hid (Arr (((w.alloc (.cells #[.slice a za.length ca] 27)).alloc (.cells #[.slice b zb.length cb] 27)).alloc (.cells #[.int .i64 0, .int .i64 0, .int .i64 0, .int .i64 0, .int .i64 0, .int .i64 0, .int .i64 0, .int .i64 0, .int .i64 0, .int .i64 0] 60)) (w.heap.size + 2) (fun _ => 0)) := by
    have h := Arr.new ((w.alloc (.cells #[.slice a za.length ca] 27)).alloc (.cells #[.slice b zb.length cb] 27)) (fun _ => 0) 60
    rw [World.size_alloc, World.size_alloc] at h
    exact h
  have B0 : Hid (Below w.heap.size w (((w.alloc (.cells #[.slice a za.length ca] 27)).alloc (.cells #[.slice b zb.length cb] 27)).alloc (.cells #[.int .i64 0, .int .i64 0, .int .i64 0, .int .i64 0, .int .i64 0, .int .i64 0, .int .i64 0, .int .i64 0, .int .i64 0, .int .i64 0] 60))) := al1 (al1 (al1 (Below.refl _ _) _) _) _
  have hS0 : w.heap.size + 3 ≤ (((w.alloc (.cells #[.slice a za.length ca] 27)).alloc (.cells #[.slice b zb.length cb] 27)).alloc (.cells #[.int .i64 0, .int .i64 0, .int .i64 0, .int .i64 0, .int .i64 0, .int .i64 0, .int .i64 0, .int .i64 0, .int .i64 0, .int .i64 0] 60)).heap.size := by simp
  have TZ := Lib.hid (hTz.on B0.out)
  have hbu := HU.out.on B0.out
  have hbv := HV.out.on B0.out
  have hbx := HX.out.on B0.out
  have HBU := Lib.hid hbu
  have HBV := Lib.hid hbv
  have HBX := Lib.hid hbx
  obtain ⟨zl, hzl⟩ : ∃ zl, arrL (fun _ => 0) = zl := ⟨_, rfl⟩
  have HI1 : Hid ((Tryz.prog.info? 60).map (·.size) = some zl.toArray.size) := by show _ = _; rw [← hzl]; exact vm_size2 _
  have HI2 : Hid ((Tryz.prog.info? 60).map (·.size) = some zl.length) := by show _ = _; rw [← hzl]; exact vm_size _
  have HON : Hid (zl.toArray.all (·.oneCell') = true) := by show _ = _; rw [← hzl]; exact arrL_one _
  have HSL : Hid ((.agg #[.int .i64 0, .int .i64 0, .int .i64 0, .int .i64 0, .int .i64 0, .int .i64 0, .int .i64 0, .int .i64 0, .int .i64 0, .int .i64 0] : Value) = .agg zl.toArray) := by show _ = _; rw [← hzl]; rfl
  have HZV : Hid (vmV (fun _ => 0) = .agg zl.toArray) := by show _ = _; rw [← hzl]; rfl
  have HTH : Hid (∀ w1 : World, (∃ f, Arr w1 (w.heap.size + 2) f) → w1.there (w.heap.size + 2) 0 zl.toArray.size ∧ (w1.setCells (w.heap.size + 2) 0 zl).rangeAt (w.heap.size + 2) 0 zl) := fun w1 ⟨f, h⟩ => by
    rw [← hzl]
    have e : (arrL (fun _ => 0)).toArray.size = 10 := rfl
    exact ⟨by rw [e]; exact h.there, (h.store _).range⟩
  clear hu hv hx hTz hbu hbv hbx hzl
  go_enter Tryz.func39, Tryz.ntmps39
  go_wp2_with (go_at_call 75; refine Hid.out ?_)
  refine Lib.hid ?_
  generalize (((w.alloc (.cells #[.slice a za.length ca] 27)).alloc (.cells #[.slice b zb.length cb] 27)).alloc (.cells #[.int .i64 0, .int .i64 0, .int .i64 0, .int .i64 0, .int .i64 0, .int .i64 0, .int .i64 0, .int .i64 0, .int .i64 0, .int .i64 0] 60)) = W0 at P0 P1 AR B0 TZ HBU HBV HBX hS0 ⊢
  have HOA := Lib.hid ha
  have HOB := Lib.hid hb
  refine (implVal_is HBU.out (.inl ⟨rfl, ha⟩) TZ.out).mono ?_
  rintro e w1 ⟨rfl, hb1⟩
  have HB1 := Lib.hid (B0.out.trans (hb1.mono B0.out.size))
  have AR1 := Lib.hid (AR.out.on (by omega) hb1)
  have P01 := Lib.hid (P0.out.on hb1)
  have P11 := Lib.hid (P1.out.on hb1)
  have HU1 := Lib.hid (HBU.out.on hb1)
  have HV1 := Lib.hid (HBV.out.on hb1)
  have HX1 := Lib.hid (HBX.out.on hb1)
  have TZ1 := Lib.hid (TZ.out.on hb1)
  have p1 := P11.out.2
  have hs1 := hb1.size
  clear hb1 AR P0 P1 HBU HBV HBX TZ
  go_wp2_with fail
  refine (implVal_is HV1.out (.inl ⟨rfl, hb⟩) TZ1.out).mono ?_
  rintro e w2 ⟨rfl, hb2⟩
  have HB2 := Lib.hid (HB1.out.trans (hb2.mono HB1.out.size))
  have AR2 := Lib.hid (AR1.out.on (by omega) hb2)
  have P02 := Lib.hid (P01.out.on hb2)
  have P12 := Lib.hid (P11.out.on hb2)
  have HU2 := Lib.hid (HU1.out.on hb2)
  have HV2 := Lib.hid (HV1.out.on hb2)
  have HX2 := Lib.hid (HX1.out.on hb2)
  have TZ2 := Lib.hid (TZ1.out.on hb2)
  have p0 := P02.out.2
  have hs2 := hb2.size
  clear ha hb hb2 p1 AR1 P01 P11 HU1 HV1 HX1 TZ1
  go_wp2_with fail
  refine (verts_any HU2.out HOA.out TZ2.out).mono ?_
  rintro e w3 ⟨v3, rfl, ho3, hb3⟩
  have HB3 := Lib.hid (HB2.out.trans (hb3.mono HB2.out.size))
  have AR3 := Lib.hid (AR2.out.on (by omega) hb3)
  have P03 := Lib.hid (P02.out.on hb3)
  have P13 := Lib.hid (P12.out.on hb3)
  have HU3 := Lib.hid (HU2.out.on hb3)
  have HV3 := Lib.hid (HV2.out.on hb3)
  have HX3 := Lib.hid (HX2.out.on hb3)
  have TZ3 := Lib.hid (TZ2.out.on hb3)
  have hs3 := hb3.size
  have hv48 := vsL_le HOA.out
  have HVS := Lib.hid (ho3.at (by omega))
  obtain ⟨sa, sc, rfl⟩ := ho3.slice
  clear hb3 ho3 p0 AR2 P02 P12 HU2 HV2 HX2 TZ2
  have hne : ((xs.length : Int) != ((vsL za).length : Int)) = true := by simp; omega
  generalize (vsL za).length = vn at hne HVS ⊢
  generalize xs.length = xn at hne HX3 ⊢
  clear hn
  obtain ⟨htr, hrg⟩ := HTH.out w3 ⟨_, AR3.out⟩
  have HTR := Lib.hid htr
  have HRG := Lib.hid hrg
  have HBE : Hid (Below w.heap.size w (w3.setCells (w.heap.size + 2) 0 zl)) := below_setCells _ _ _ _ (by omega) HB3.out
  clear htr hrg
  go_wp2_with (refine wpList_store_mid rfl 60 (.tmp 6) (.tmp 28) rfl (w.heap.size + 2) 0 zl.toArray rfl ?_ ?_ HI1.out HON.out ?_; exact HSL.out; exact HTR.out; refine Hid.out ?_)
  refine Lib.hid ?_
  try rw [show zl.toArray.toList = zl from rfl]
  go_wp2_with fail
  have hld := run_loadVar_mid (P := Tryz.prog) _ _ _ 60 zl _ HRG.out Tryz.underlying60 rfl HI2.out
  refine bodyPost_ret (v := .tuple #[.agg zl.toArray, .int .i64 7]) (by simp [results, Tryz.results39, asAddr, hld]) rfl ⟨by rw [HZV.out], HBE.out⟩
set_option maxRecDepth 100000 in
set_option maxHeartbeats 6400000 in
theorem mapOf_go {u v x : Value} {za zb : List (List Int)} {xs : List Int} {w : World} (hu : RowsAt w u za) (hv : RowsAt w v zb) (hx : IntsAt w x xs) (ha : OkC za) (hb : OkC zb) (hn : xs.length = (vsL za).length) {c : Int} (hc : (MapP za zb xs ∧ c = 0) ∨ (¬ MapP za zb xs ∧ c = 7)) (hTz : Tz w) :
    Calls Tryz.prog 39 #[.agg #[u], .agg #[v], x] w fun e w' => ∃ f, RetVM f c w e w' ∧ (c = 0 → f = arF (vsL za) xs) := by
  have HU := Lib.hid hu
  have HV := Lib.hid hv
  have HX := Lib.hid hx
  obtain ⟨a, ca, rfl⟩ := hu.slice
  obtain ⟨b, cb, rfl⟩ := hv.slice
  obtain ⟨xa, xc, rfl⟩ := hx.slice
  have P0 : Hid (PtC (((w.alloc (.cells #[.slice a za.length ca] 27)).alloc (.cells #[.slice b zb.length cb] 27)).alloc (.cells #[.int .i64 0, .int .i64 0, .int .i64 0, .int .i64 0, .int .i64 0, .int .i64 0, .int .i64 0, .int .i64 0, .int .i64 0, .int .i64 0] 60)) w.heap.size (.slice a za.length ca)) := (PtC.new1 w _ 27 (.cells #[.slice b zb.length cb] 27)).on ((Below.refl _ _).alloc (Nat.le_refl _) _)
  have P1 : Hid (PtC (((w.alloc (.cells #[.slice a za.length ca] 27)).alloc (.cells #[.slice b zb.length cb] 27)).alloc (.cells #[.int .i64 0, .int .i64 0, .int .i64 0, .int .i64 0, .int .i64 0, .int .i64 0, .int .i64 0, .int .i64 0, .int .i64 0, .int .i64 0] 60)) (w.heap.size + 1) (.slice b zb.length cb)) := by
    have h := PtC.new1 (w.alloc (.cells #[.slice a za.length ca] 27)) (.slice b zb.length cb) 27 (.cells #[.int .i64 0, .int .i64 0, .int .i64 0, .int .i64 0, .int .i64 0, .int .i64 0, .int .i64 0, .int .i64 0, .int .i64 0, .int .i64 0] 60)
    rw [World.size_alloc] at h
    exact h
  have AR : Hid (Arr (((w.alloc (.cells #[.slice a za.length ca] 27)).alloc (.cells #[.slice b zb.length cb] 27)).alloc (.cells #[.int .i64 0, .int .i64 0, .int .i64 0, .int .i64 0, .int .i64 0, .int .i64 0, .int .i64 0, .int .i64 0, .int .i64 0, .int .i64 0] 60)) (w.heap.size + 2) (fun _ => 0)) := by
    have h := Arr.new ((w.alloc (.cells #[.slice a za.length ca] 27)).alloc (.cells #[.slice b zb.length cb] 27)) (fun _ => 0) 60
    rw [World.size_alloc, World.size_alloc] at h
    exact h
  have B0 : Hid (Below w.heap.size w (((w.alloc (.cells #[.slice a za.length ca] 27)).alloc (.cells #[.slice b zb.length cb] 27)).alloc (.cells #[.int .i64 0, .int .i64 0, .int .i64 0, .int .i64 0, .int .i64 0, .int .i64 0, .int .i64 0, .int .i64 0, .int .i64 0, .int .i64 0] 60))) := al1 (al1 (al1 (Below.refl _ _) _) _) _
  have hS0 : w.heap.size + 3 ≤ (((w.alloc (.cells #[.slice a za.length ca] 27)).alloc (.cells #[.slice b zb.length cb] 27)).alloc (.cells #[.int .i64 0, .int .i64 0, .int .i64 0, .int .i64 0, .int .i64 0, .int .i64 0, .int .i64 0, .int .i64 0, .int .i64 0, .int .i64 0] 60)).heap.size := by simp
  have TZ := Lib.hid (hTz.on B0.out)
  have hbu := HU.out.on B0.out
  have hbv := HV.out.on B0.out
  have hbx := HX.out.on B0.out
  have HBU := Lib.hid hbu
  have HBV := Lib.hid hbv
  have HBX := Lib.hid hbx
  obtain ⟨zl, hzl⟩ : ∃ zl, arrL (fun _ => 0) = zl := ⟨_, rfl⟩
  have HI1 : Hid ((Tryz.prog.info? 60).map (·.size) = some zl.toArray.size) := by show _ = _; rw [← hzl]; exact vm_size2 _
  have HI2 : Hid ((Tryz.prog.info? 60).map (·.size) = some zl.length) := by show _ = _; rw [← hzl]; exact vm_size _
  have HON : Hid (zl.toArray.all (·.oneCell') = true) := by show _ = _; rw [← hzl]; exact arrL_one _
  have HSL : Hid ((.agg #[.int .i64 0, .int .i64 0, .int .i64 0, .int .i64 0, .int .i64 0, .int .i64 0, .int .i64 0, .int .i64 0, .int .i64 0, .int .i64 0] : Value) = .agg zl.toArray) := by show _ = _; rw [← hzl]; rfl
  have HZV : Hid (vmV (fun _ => 0) = .agg zl.toArray) := by show _ = _; rw [← hzl]; rfl
  have HTH : Hid (∀ w1 : World, (∃ f, Arr w1 (w.heap.size + 2) f) → w1.there (w.heap.size + 2) 0 zl.toArray.size ∧ (w1.setCells (w.heap.size + 2) 0 zl).rangeAt (w.heap.size + 2) 0 zl) := fun w1 ⟨f, h⟩ => by
    rw [← hzl]
    have e : (arrL (fun _ => 0)).toArray.size = 10 := rfl
    exact ⟨by rw [e]; exact h.there, (h.store _).range⟩
  clear hu hv hx hTz hbu hbv hbx hzl
  have HN0 := Lib.hid hn
  clear hn
  go_enter Tryz.func39, Tryz.ntmps39
  go_wp2_with (go_at_call 75; refine Hid.out ?_)
  refine Lib.hid ?_
  generalize (((w.alloc (.cells #[.slice a za.length ca] 27)).alloc (.cells #[.slice b zb.length cb] 27)).alloc (.cells #[.int .i64 0, .int .i64 0, .int .i64 0, .int .i64 0, .int .i64 0, .int .i64 0, .int .i64 0, .int .i64 0, .int .i64 0, .int .i64 0] 60)) = W0 at P0 P1 AR B0 TZ HBU HBV HBX hS0 ⊢
  have HOA := Lib.hid ha
  have HOB := Lib.hid hb
  refine (implVal_is HBU.out (.inl ⟨rfl, ha⟩) TZ.out).mono ?_
  rintro e w1 ⟨rfl, hb1⟩
  have HB1 := Lib.hid (B0.out.trans (hb1.mono B0.out.size))
  have AR1 := Lib.hid (AR.out.on (by omega) hb1)
  have P01 := Lib.hid (P0.out.on hb1)
  have P11 := Lib.hid (P1.out.on hb1)
  have HU1 := Lib.hid (HBU.out.on hb1)
  have HV1 := Lib.hid (HBV.out.on hb1)
  have HX1 := Lib.hid (HBX.out.on hb1)
  have TZ1 := Lib.hid (TZ.out.on hb1)
  have p1 := P11.out.2
  have hs1 := hb1.size
  clear hb1 AR P0 P1 HBU HBV HBX TZ
  go_wp2_with fail
  refine (implVal_is HV1.out (.inl ⟨rfl, hb⟩) TZ1.out).mono ?_
  rintro e w2 ⟨rfl, hb2⟩
  have HB2 := Lib.hid (HB1.out.trans (hb2.mono HB1.out.size))
  have AR2 := Lib.hid (AR1.out.on (by omega) hb2)
  have P02 := Lib.hid (P01.out.on hb2)
  have P12 := Lib.hid (P11.out.on hb2)
  have HU2 := Lib.hid (HU1.out.on hb2)
  have HV2 := Lib.hid (HV1.out.on hb2)
  have HX2 := Lib.hid (HX1.out.on hb2)
  have TZ2 := Lib.hid (TZ1.out.on hb2)
  have p0 := P02.out.2
  have hs2 := hb2.size
  clear ha hb hb2 p1 AR1 P01 P11 HU1 HV1 HX1 TZ1
  go_wp2_with fail
  refine (verts_any HU2.out HOA.out TZ2.out).mono ?_
  rintro e w3 ⟨v3, rfl, ho3, hb3⟩
  have HB3 := Lib.hid (HB2.out.trans (hb3.mono HB2.out.size))
  have AR3 := Lib.hid (AR2.out.on (by omega) hb3)
  have P03 := Lib.hid (P02.out.on hb3)
  have P13 := Lib.hid (P12.out.on hb3)
  have HU3 := Lib.hid (HU2.out.on hb3)
  have HV3 := Lib.hid (HV2.out.on hb3)
  have HX3 := Lib.hid (HX2.out.on hb3)
  have TZ3 := Lib.hid (TZ2.out.on hb3)
  have hs3 := hb3.size
  have hv48 := vsL_le HOA.out
  have HVS := Lib.hid (ho3.at (by omega))
  obtain ⟨sa, sc, rfl⟩ := ho3.slice
  clear hb3 ho3 p0 AR2 P02 P12 HU2 HV2 HX2 TZ2
  have HND := Lib.hid (vsL_nodup HOA.out)
  have HVB := Lib.hid (vsL_bd HOA.out)
  have HCC := Lib.hid hc
  obtain ⟨sv, hsv⟩ : ∃ sv, vsL za = sv := ⟨_, rfl⟩
  have HSV := Lib.hid hsv
  have hn := HN0.out
  rw [hsv] at hn hv48 HVS HND HVB ⊢
  have HXN := Lib.hid hn
  rw [hn] at HX3 ⊢
  have A4 : Hid (Arr (w3.alloc (.cells #[.int .i64 0, .int .i64 0, .int .i64 0, .int .i64 0, .int .i64 0, .int .i64 0, .int .i64 0, .int .i64 0, .int .i64 0, .int .i64 0] 60)) w3.heap.size (arF (sv.take 0) (xs.take 0))) := by
    have h := Arr.new w3 (fun _ => 0) 60
    exact h.congr fun j hj => by simp only [List.take_zero]; rfl
  have B4 : Hid (Below w3.heap.size w3 (w3.alloc (.cells #[.int .i64 0, .int .i64 0, .int .i64 0, .int .i64 0, .int .i64 0, .int .i64 0, .int .i64 0, .int .i64 0, .int .i64 0, .int .i64 0] 60))) := al1 (Below.refl _ _) _
  have hB0 : Hid (bdB (xs.drop 0) = bdB xs) := rfl
  clear hsv hc hn HN0
  go_wp2_with fail
  obtain ⟨g, hg⟩ : ∃ g, w3.heap.size = g := ⟨_, rfl⟩
  have HG := Lib.hid hg
  rw [hg] at A4 ⊢
  clear hg
  go_loopw [31] (fun si wr => ∃ (k : Nat), k ≤ sv.length ∧ si = .int .i64 (k : Int) ∧ Hid (bdB (xs.drop k) = bdB xs) ∧ Hid (Arr wr g (arF (sv.take k) (xs.take k))) ∧ Hid (Below w3.heap.size w3 wr)) (fun si _ => sv.length - (intOf si).toNat)
  case atStart => exact ⟨0, Nat.zero_le _, rfl, hB0, A4, B4⟩
  case round =>
    clear hB0 A4 B4
    obtain ⟨k, hk, rfl, HD, HA, HB⟩ := hrel
    have k0 : 0 ≤ (k : Int) := by omega
    have hsr := HB.out.size
    have hxn : xs.length = sv.length := HXN.out
    by_cases hlt : k < sv.length
    · have k1 : (k : Int) < (sv.length : Int) := by omega
      have hkx : k < xs.length := by omega
      obtain ⟨va, vo, vc, e, hvaB, vs1⟩ := (HVS.out.on HB.out).at1 (by omega)
      injection e with e1 e2 e3
      subst e1 e3
      have v1 := vs1 k hlt
      obtain ⟨xa2, xo2, xc2, e, hxB, xs1⟩ := by
        have h := (HX3.out.on HB.out)
        rw [← HXN.out] at h
        exact h.at1 (by omega)
      rw [HXN.out] at e
      injection e with e1 e2 e3
      subst e1 e3
      have x1 := xs1 k hkx
      have ha := HD.out
      rw [bdB_step hkx] at ha
      obtain ⟨av, hav⟩ : ∃ n : Nat, sv[k] = (n : Int) := ⟨_, (Int.toNat_of_nonneg (HVB.out _ (List.getElem_mem hlt)).1).symm⟩
      have hav9 := (HVB.out _ (List.getElem_mem hlt)).2
      rw [hav] at v1 hav9
      have hav10 : av < 10 := by omega
      have a0 : 0 ≤ (av : Int) := by omega
      have a1 : (av : Int) < 10 := by omega
      clear vs1 xs1 e2
      by_cases he : 0 ≤ xs[k] ∧ xs[k] ≤ 9
      · rw [decide_eq_true he, Bool.true_and] at ha
        have HA2 := Lib.hid ha
        have hin : inB xs[k] 0 9 = true := inB_yes he.1 he.2
        have HTK : Hid (∀ j, j < 10 → (if j = av then xs[k] else arF (sv.take k) (xs.take k) j) = arF (sv.take (k + 1)) (xs.take (k + 1)) j) := fun j hj => by
          unfold arF
          rw [told_take HND.out HXN.out hlt, hav]
          by_cases e : j = av
          · subst e; rw [if_pos rfl, if_pos rfl]; exact (Int.max_eq_right he.1).symm
          · rw [if_neg e, if_neg (by omega)]
        generalize xs[k] = y at x1 hin HTK
        obtain ⟨fa1, fa2⟩ := HA.out av hav10
        have HN := Lib.hid ((HA.out.set av y).congr HTK.out)
        have HB' : Hid (Below w3.heap.size w3 (wr.setCell ⟨g, av, none⟩ (.int .i64 y))) := HB.out.setCell (p := ⟨g, av, none⟩) (by rw [HG.out]; exact Nat.le_refl _) _
        clear ha HD he hav HTK HA
        go_wp2_with (go_at_call 86; refine (within64_is _ hin).mono ?_; rintro e w4 ⟨rfl, rfl⟩)
        go_roundw
        case rel => exact ⟨k + 1, by omega, by go_num, HA2, HN, HB'⟩
        case measure => simp [intOf]; omega
      · have hc7 : c = 7 := by
          rcases HCC.out with ⟨h, _⟩ | ⟨_, h⟩
          · exact absurd (h.1 _ (List.getElem_mem hkx)) he
          · exact h
        subst hc7
        have hin : inB xs[k] 0 9 = false := inB_no (by omega)
        generalize xs[k] = y at x1 hin
        have HBW := Lib.hid (HB3.out.trans (HB.out.mono HB3.out.size))
        have ARr := Lib.hid (AR3.out.on (by omega) HB.out)
        clear ha HD he hav HA
        go_wp2_with (go_at_call 86; refine (within64_is _ hin).mono ?_; rintro e w4 ⟨rfl, rfl⟩; refine Hid.out ?_)
        refine Lib.hid ?_
        obtain ⟨htr, hrg⟩ := HTH.out wr ⟨_, ARr.out⟩
        have HTR := Lib.hid htr
        have HRG := Lib.hid hrg
        have HBE : Hid (Below w.heap.size w (wr.setCells (w.heap.size + 2) 0 zl)) := below_setCells _ _ _ _ (by omega) HBW.out
        clear htr hrg
        go_wp2_with (refine wpList_store_mid rfl 60 (.tmp 6) (.tmp 42) rfl (w.heap.size + 2) 0 zl.toArray rfl ?_ ?_ HI1.out HON.out ?_; exact HSL.out; exact HTR.out; refine Hid.out ?_)
        refine Lib.hid ?_
        try rw [show zl.toArray.toList = zl from rfl]
        go_wp2_with fail
        have hld := run_loadVar_mid (P := Tryz.prog) _ _ _ 60 zl _ HRG.out Tryz.underlying60 rfl HI2.out
        refine bodyPost_ret (v := .tuple #[.agg zl.toArray, .int .i64 7]) (by simp [results, Tryz.results39, asAddr, hld]) rfl ⟨_, ⟨by rw [HZV.out], HBE.out⟩, fun h => by cases h⟩
    · have hke : k = sv.length := by omega
      have hbd : bdB xs = true := by rw [← HD.out, List.drop_eq_nil_of_le (by omega)]; rfl
      have HFB := bdB_iff.1 hbd
      have HA1 : Hid (Arr wr g (arF sv xs)) := by
        have h := HA.out
        rw [List.take_of_length_le (by omega), List.take_of_length_le (by omega)] at h
        exact h
      have hf9 : ∀ j, j < 10 → 0 ≤ arF sv xs j ∧ arF sv xs j ≤ 9 := fun j hj => by
        unfold arF
        by_cases hm : (j : Int) ∈ sv
        · have := HFB _ (told_in HND.out hxn hm); omega
        · rw [told_none hm]; omega
      obtain ⟨T, hTc⟩ : ∃ T, T = decide (c = 0) := ⟨_, rfl⟩
      have HTC := Lib.hid hTc
      have hled : ledB zb (arF sv xs) za = T := by
        have hcg : ∀ s ∈ za, imgL (fun v => arF sv xs v.toNat) s = imgL (told sv xs) s := fun s hs => imgL_congr fun v hv => by
          have hvv : v ∈ sv := by rw [← HSV.out]; exact sim_ver HOA.out hs hv
          exact arF_told (HVB.out v hvv).1 (HFB _ (told_in HND.out hxn hvv)).1
        have hfit : MapP za zb xs ↔ ∀ s ∈ za, imgL (told sv xs) s ∈ zb := by
          have hsv : vsL za = sv := HSV.out
          constructor
          · intro h s hs
            have := h.img HOA.out hs
            rwa [hsv] at this
          · intro h
            refine ⟨HFB, by rw [hsv]; exact hxn, fun s hs _ => ?_⟩
            rw [hsv]; exact h s hs
        have h1 : ledB zb (arF sv xs) za = true ↔ MapP za zb xs := by
          rw [hfit]
          unfold ledB
          rw [List.all_eq_true]
          constructor
          · intro h s hs
            have := of_decide_eq_true (h s hs)
            rwa [hcg s hs] at this
          · intro h s hs
            exact decide_eq_true (by rw [hcg s hs]; exact h s hs)
        rw [hTc, Bool.eq_iff_iff, h1, decide_eq_true_eq]
        rcases HCC.out with ⟨h, e⟩ | ⟨h, e⟩
        · exact ⟨fun _ => e, fun _ => h⟩
        · exact ⟨fun g => absurd g h, fun g => by omega⟩
      have HLED := Lib.hid hled
      have HF9 := Lib.hid hf9
      have HBW := Lib.hid (HB3.out.trans (HB.out.mono HB3.out.size))
      have HB3r := HB
      have P0r := Lib.hid (P03.out.on HB.out)
      have P1r := Lib.hid (P13.out.on HB.out)
      have HUr := Lib.hid (HU3.out.on HB.out)
      have HVr := Lib.hid (HV3.out.on HB.out)
      have TZr := Lib.hid (TZ3.out.on HB.out)
      have ARr := Lib.hid (AR3.out.on (by omega) HB.out)
      have hgw : g < wr.heap.size := World.block_lt_of_cell? _ ⟨g, 0, none⟩ (HA1.out 0 (by omega)).1
      have HSIM : Hid (∀ s ∈ za, Sim s) := HOA.out.1.sim
      have h48a := HOA.out.2
      obtain ⟨f, hf⟩ : ∃ f, arF sv xs = f := ⟨_, rfl⟩
      have HFF := Lib.hid hf
      rw [hf] at HA1 HF9 HLED
      obtain ⟨kt, hkt⟩ : ∃ kt : Int, kt = (k : Int) := ⟨_, rfl⟩
      have hk10 : ¬ kt < (sv.length : Int) := by omega
      rw [← hkt]
      obtain ⟨wz, rfl⟩ : ∃ wz, wz = wr := ⟨_, rfl⟩
      clear HA HB HD k0 hlt hkt hk hke hbd hled hf9 hf HFB hsr k HB3r hxn hTc P03 P13 HU3 HV3 TZ3 AR3
      have p0 := P0r.out.2
      have p1 := P1r.out.2
      have hund := Tryz.underlying60
      have hinf := vm_size f
      have hrg := HA1.out.range
      have hne1 : g ≠ w.heap.size := by have h : w3.heap.size = g := HG.out; omega
      have hne2 : g ≠ w.heap.size + 1 := by have h : w3.heap.size = g := HG.out; omega
      go_wp2_with fail
      go_region_held3 (fun w' => w'.rangeAt g 0 (arrL f) ∧ w'.cell? ⟨w.heap.size, 0, none⟩ = some (.slice a za.length ca) ∧ w'.cell? ⟨w.heap.size + 1, 0, none⟩ = some (.slice b zb.length cb)) (go_keep)
        (first
          | (go_at_call 88; refine (indices_any (by first | exact HVr.out | exact HVr.out.drew) HOB.out).mono ?_; rintro e wx ⟨mb, D, rfl, hmx, hdx, hbx'⟩; have hbx : Below wz.heap.size wz wx := (by first | exact hbx' | exact undrew hbx'); have := (P0r.out.on hbx).2; have := (P1r.out.on hbx).2; have := (HA1.out.on hgw hbx).range)
          | (go_at_call 40; refine (list_any (by first | exact HUr.out.on hbx | exact (HUr.out.on hbx).drew) HOA.out).mono ?_; rintro e wy ⟨vy, rfl, hoy, hby'⟩; have hby0 : Below wx.heap.size wx wy := (by first | exact hby' | exact undrew hby'); have hby : Below wz.heap.size wz wy := hbx.trans (hby0.mono hbx.size); obtain ⟨ya, yc, rfl, hyk⟩ := hoy.sims; have HYK := Lib.hid hyk; have HMY := Lib.hid (hmx.on hby0); have HTY := Lib.hid (TZr.out.on hby); clear hyk hoy; have := (P0r.out.on hby).2; have := (P1r.out.on hby).2; have := (HA1.out.on hgw hby).range)
          | (go_at_call 87; refine (leadsTo_is HF9.out HOB.out HMY.out hdx HSIM.out (by omega) HYK.out HLED.out HTY.out).mono ?_; rintro e w7 ⟨rfl, hb7'⟩; have hb70 : Below wy.heap.size wy w7 := (by first | exact hb7' | exact undrew hb7'); have hb7 : Below wz.heap.size wz w7 := hby.trans (hb70.mono hby.size); have := (P0r.out.on hb7).2; have := (P1r.out.on hb7).2; have := (HA1.out.on hgw hb7).range))
      have HBX := Lib.hid (HBW.out.trans (hb7.mono HBW.out.size))
      have AR7 := Lib.hid (ARr.out.on (by have := HBW.out.size; have h : w3.heap.size = g := HG.out; omega) hb7)
      have hgw7 : g < w7.heap.size := Nat.lt_of_lt_of_le hgw hb7.size
      have HA7 := Lib.hid (HA1.out.on hgw hb7)
      clear hb7 hb70 hb7' hby hby0 hby' hbx hbx' hmx hdx HYK HMY HTY
      clear hrg
      cases T with
      | false =>
        have hc7 : c = 7 := by
          rcases HCC.out with ⟨_, h⟩ | ⟨_, h⟩
          · have := HTC.out; rw [h] at this; simp at this
          · exact h
        subst hc7
        obtain ⟨htr, hrg⟩ := HTH.out w7 ⟨_, AR7.out⟩
        have HTR := Lib.hid htr
        have HRG := Lib.hid hrg
        have HBE : Hid (Below w.heap.size w (w7.setCells (w.heap.size + 2) 0 zl)) := below_setCells _ _ _ _ (by omega) HBX.out
        clear htr hrg
        go_wp2_with (refine wpList_store_mid rfl 60 (.tmp 6) (.tmp 57) rfl (w.heap.size + 2) 0 zl.toArray rfl ?_ ?_ HI1.out HON.out ?_; exact HSL.out; exact HTR.out; refine Hid.out ?_)
        refine Lib.hid ?_
        try rw [show zl.toArray.toList = zl from rfl]
        go_wp2_with fail
        have hld := run_loadVar_mid (P := Tryz.prog) _ _ _ 60 zl _ HRG.out Tryz.underlying60 rfl HI2.out
        refine bodyPost_ret (v := .tuple #[.agg zl.toArray, .int .i64 7]) (by simp [results, Tryz.results39, asAddr, hld]) rfl ⟨_, ⟨by rw [HZV.out], HBE.out⟩, fun h => by cases h⟩
      | true =>
        have hc0 : c = 0 := of_decide_eq_true HTC.out.symm
        subst hc0
        obtain ⟨fl, hfl⟩ : ∃ fl, arrL f = fl := ⟨_, rfl⟩
        have HJ1 : Hid ((Tryz.prog.info? 60).map (·.size) = some fl.toArray.size) := by show _ = _; rw [← hfl]; exact vm_size2 _
        have HJ2 : Hid ((Tryz.prog.info? 60).map (·.size) = some fl.length) := by show _ = _; rw [← hfl]; exact vm_size _
        have HJN : Hid (fl.toArray.all (·.oneCell') = true) := by show _ = _; rw [← hfl]; exact arrL_one _
        have HJV : Hid (vmV f = .agg fl.toArray) := by show _ = _; rw [← hfl]; rfl
        have HJR : Hid (w7.rangeAt g 0 fl) := by rw [← hfl]; exact HA7.out.range
        have HJT : Hid (w7.there (w.heap.size + 2) 0 fl.toArray.size) := by
          show World.there _ _ _ _
          rw [← hfl]
          have e : (arrL f).toArray.size = 10 := rfl
          rw [e]; exact AR7.out.there
        have HJG : Hid ((w7.setCells (w.heap.size + 2) 0 fl).rangeAt (w.heap.size + 2) 0 fl) := by rw [← hfl]; exact (AR7.out.store f).range
        have HBE : Hid (Below w.heap.size w (w7.setCells (w.heap.size + 2) 0 fl)) := below_setCells _ _ _ _ (by omega) HBX.out
        clear hfl hinf
        go_wp2_with (first | (refine wpList_load_mid rfl 60 (.tmp 9) rfl g 0 rfl fl _ HJR.out Tryz.underlying60 rfl HJ2.out ?_) | (refine wpList_store_mid rfl 60 (.tmp 6) (.tmp 58) rfl (w.heap.size + 2) 0 fl.toArray rfl rfl HJT.out HJ1.out HJN.out ?_; refine Hid.out ?_))
        refine Lib.hid ?_
        try rw [show fl.toArray.toList = fl from rfl]
        go_wp2_with fail
        have hld := run_loadVar_mid (P := Tryz.prog) _ _ _ 60 fl _ HJG.out Tryz.underlying60 rfl HJ2.out
        refine bodyPost_ret (v := .tuple #[.agg fl.toArray, .int .i64 0]) (by simp [results, Tryz.results39, asAddr, hld]) rfl ⟨by rw [HSV.out, HFF.out, HJV.out], HBE.out⟩
end Go.Proofs.YtibdcejglkhcfaaGreatDoor

namespace Go.Proofs.YtibdcejglkhcfaaGreatDoor
open Go.RowKit Go.Maps
set_option linter.unusedVariables false
set_option linter.unusedSimpArgs false

theorem mapOf_is {u v x : Value} {za zb : List (List Int)} {xs : List Int} {c : Int} {w : World} (hu : RowsAt w u za) (hv : RowsAt w v zb) (hx : IntsAt w x xs) (h : MapC za zb xs c) (hTz : Tz w) :
    Calls Tryz.prog 39 #[.agg #[u], .agg #[v], x] w fun e w' => ∃ f, RetVM f c w e w' ∧ (c = 0 → f = arF (vsL za) xs) := by
  rcases h with ⟨h, rfl⟩ | ⟨oa, ob, h, rfl⟩ | ⟨oa, ob, h, rfl⟩
  · by_cases oa : OkC za
    · have ob : ¬ OkC zb := fun ob => h ⟨oa, ob⟩
      exact (mapOf_no2 hu hv hx oa ob hTz).mono fun e w' r => ⟨_, r, fun e => by cases e⟩
    · exact (mapOf_no1 hu hv hx oa hTz).mono fun e w' r => ⟨_, r, fun e => by cases e⟩
  · by_cases hn : xs.length = (vsL za).length
    · exact mapOf_go hu hv hx oa ob hn (.inr ⟨h, rfl⟩) hTz
    · exact (mapOf_len hu hv hx oa ob hn hTz).mono fun e w' r => ⟨_, r, fun e => by cases e⟩
  · exact mapOf_go hu hv hx oa ob h.2.1 (.inl ⟨h, rfl⟩) hTz
/-- What a variable of such an array needs, made behind a call. -/
structure VarF (w2 : World) (f : Nat → Int) (cl : List Value) : Prop where
  th : (w2.alloc (.cells #[.int .i64 0, .int .i64 0, .int .i64 0, .int .i64 0, .int .i64 0, .int .i64 0, .int .i64 0, .int .i64 0, .int .i64 0, .int .i64 0] 60)).there w2.heap.size 0 cl.toArray.size
  ar : Arr ((w2.alloc (.cells #[.int .i64 0, .int .i64 0, .int .i64 0, .int .i64 0, .int .i64 0, .int .i64 0, .int .i64 0, .int .i64 0, .int .i64 0, .int .i64 0] 60)).setCells w2.heap.size 0 cl) w2.heap.size f
  bl : Below w2.heap.size w2 ((w2.alloc (.cells #[.int .i64 0, .int .i64 0, .int .i64 0, .int .i64 0, .int .i64 0, .int .i64 0, .int .i64 0, .int .i64 0, .int .i64 0, .int .i64 0] 60)).setCells w2.heap.size 0 cl)
  i1 : (Tryz.prog.info? 60).map (·.size) = some cl.toArray.size
  i2 : (Tryz.prog.info? 60).map (·.size) = some cl.length
  one : cl.toArray.all (·.oneCell') = true
theorem varF (w2 : World) (f : Nat → Int) : VarF w2 f (arrL f) := by
  have h : Arr (w2.alloc (.cells #[.int .i64 0, .int .i64 0, .int .i64 0, .int .i64 0, .int .i64 0, .int .i64 0, .int .i64 0, .int .i64 0, .int .i64 0, .int .i64 0] 60)) w2.heap.size (fun _ => 0) := Arr.new w2 (fun _ => 0) 60
  have e : (arrL f).toArray.size = 10 := rfl
  exact ⟨by rw [e]; exact h.there, h.store f, below_setCells _ _ _ _ (Nat.le_refl _) (al1 (Below.refl _ _) _), vm_size2 f, vm_size f, arrL_one f⟩
def IsMapIs (za zb : List (List Int)) (xs : List Int) (T : Bool) : Prop := (T = true ∧ MapC za zb xs 0) ∨ (T = false ∧ ∃ c, c ≠ 0 ∧ MapC za zb xs c)
theorem isMap_has (za zb : List (List Int)) (xs : List Int) : ∃ T, IsMapIs za zb xs T := by
  obtain ⟨c, hc⟩ := mapC_has za zb xs
  by_cases h : c = 0
  · subst h; exact ⟨_, .inl ⟨rfl, hc⟩⟩
  · exact ⟨_, .inr ⟨rfl, c, h, hc⟩⟩
theorem mapC_zero {za zb : List (List Int)} {xs : List Int} (h : MapC za zb xs 0) : OkC za ∧ OkC zb ∧ MapP za zb xs := by
  rcases h with ⟨_, h⟩ | ⟨_, _, _, h⟩ | ⟨h1, h2, h3, _⟩
  · cases h
  · cases h
  · exact ⟨h1, h2, h3⟩
end Go.Proofs.YtibdcejglkhcfaaGreatDoor
