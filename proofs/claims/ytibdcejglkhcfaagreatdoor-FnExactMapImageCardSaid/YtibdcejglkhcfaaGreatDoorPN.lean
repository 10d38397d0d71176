/-
  Maps of complexes, plainly: what is told for a vertex, the image of a simplex, and maps.
  Maps of the model: vertices, what is told, images, and the test for a map.
  Maps of the model: whether all images are there, the test for a map, its code, IsMap, and the index of an image.
-/
import Derived.Test.YtibdcejglkhcfaaGreatDoorPR
import Derived.Test.YtibdcejglkhcfaaGreatDoorPQ
namespace Go.Proofs.YtibdcejglkhcfaaGreatDoor
open Go.RowKit
set_option linter.unusedVariables false
set_option linter.unusedSimpArgs false

/-- What is told for a vertex, -1 if there is nothing. -/
def told : List Int → List Int → Int → Int
  | v :: vs, x :: xs, a => if v = a then x else told vs xs a
  | [], _, _ => -1
  | _ :: _, [], _ => -1
theorem told_step {vs xs : List Int} {k : Nat} {a : Int} (h : k < xs.length) (hv : k < vs.length) : told (vs.drop k) (xs.drop k) a = if vs[k] = a then xs[k] else told (vs.drop (k + 1)) (xs.drop (k + 1)) a := by
  rw [List.drop_eq_getElem_cons h, List.drop_eq_getElem_cons hv]; rfl
theorem told_end {vs xs : List Int} {k : Nat} {a : Int} (h : xs.length ≤ k) : told (vs.drop k) (xs.drop k) a = -1 := by
  rw [List.drop_eq_nil_of_le h]; cases vs.drop k <;> rfl
theorem told_none : ∀ {vs xs : List Int} {a : Int}, a ∉ vs → told vs xs a = -1
  | [], _, _, _ => rfl
  | _ :: _, [], _, _ => rfl
  | v :: vs, x :: xs, a, h => by
    rw [List.mem_cons] at h
    unfold told
    rw [if_neg (fun e => h (.inl e.symm))]
    exact told_none fun g => h (.inr g)
theorem told_at : ∀ {vs xs : List Int} (hn : vs.Nodup) (hl : xs.length = vs.length) {k : Nat} (hk : k < vs.length), told vs xs vs[k] = xs[k]'(by omega)
  | v :: vs, x :: xs, hn, hl, 0, hk => by simp [told]
  | v :: vs, x :: xs, hn, hl, k + 1, hk => by
    have h := List.nodup_cons.1 hn
    have hk' : k < vs.length := by simpa using hk
    have he : v ≠ vs[k] := fun e => h.1 (by rw [e]; exact List.getElem_mem hk')
    simp only [told, List.getElem_cons_succ, if_neg he]
    exact told_at h.2 (by simpa using hl) hk'
theorem told_snoc : ∀ {vs xs : List Int} {v x a : Int}, vs.length = xs.length → v ∉ vs → told (vs ++ [v]) (xs ++ [x]) a = if a = v then x else told vs xs a
  | [], [], v, x, a, _, _ => by
    simp only [List.nil_append, told]
    by_cases e : v = a
    · rw [if_pos e, if_pos e.symm]
    · rw [if_neg e, if_neg (fun h => e h.symm)]
  | u :: vs, y :: xs, v, x, a, h, hn => by
    rw [List.mem_cons] at hn
    simp only [List.cons_append, told]
    rw [told_snoc (by simpa using h) (fun g => hn (.inr g))]
    by_cases e : u = a
    · rw [if_pos e, if_pos e, if_neg (fun g => hn (.inl (g.symm.trans e.symm)))]
    · rw [if_neg e, if_neg e]
theorem told_take {vs xs : List Int} {k : Nat} {a : Int} (hn : vs.Nodup) (hl : xs.length = vs.length) (hk : k < vs.length) : told (vs.take (k + 1)) (xs.take (k + 1)) a = if a = vs[k] then xs[k]'(by omega) else told (vs.take k) (xs.take k) a := by
  have hx : k < xs.length := by omega
  rw [List.take_succ_eq_append_getElem hk, List.take_succ_eq_append_getElem hx]
  refine told_snoc (by simp; omega) fun hm => ?_
  obtain ⟨j, hj, e⟩ := List.getElem_of_mem hm
  have hj' : j < k := by simp at hj; omega
  rw [List.getElem_take] at e
  exact (List.pairwise_iff_getElem.1 hn) j k (by omega) hk hj' e
theorem told_in {vs xs : List Int} {a : Int} (hn : vs.Nodup) (hl : xs.length = vs.length) (ha : a ∈ vs) : told vs xs a ∈ xs := by
  obtain ⟨k, hk, rfl⟩ := List.getElem_of_mem ha
  rw [told_at hn hl hk]; exact List.getElem_mem _

/-- The image of a list of vertices. -/
def imgL (f : Int → Int) (s : List Int) : List Int := s.foldl (fun o v => insL (f v) o) []
theorem imgL_snoc (f : Int → Int) (s : List Int) (v : Int) : imgL f (s ++ [v]) = insL (f v) (imgL f s) := by simp [imgL]
theorem snoc_ind {P : List Int → Prop} (h0 : P []) (h1 : ∀ s v, P s → P (s ++ [v])) (s : List Int) : P s := by
  have key : ∀ n (s : List Int), s.length = n → P s := by
    intro n
    induction n with
    | zero => intro s h; rw [List.length_eq_zero_iff.1 h]; exact h0
    | succ n ih =>
      intro s h
      have hs : s ≠ [] := by intro e; rw [e] at h; simp at h
      rw [← List.dropLast_concat_getLast hs]
      exact h1 _ _ (ih _ (by simp [h]))
  exact key _ s rfl
theorem mem_imgL {f : Int → Int} {s : List Int} {x : Int} : x ∈ imgL f s ↔ ∃ v ∈ s, f v = x := by
  refine snoc_ind (P := fun s => x ∈ imgL f s ↔ ∃ v ∈ s, f v = x) (by simp [imgL]) (fun s v ih => ?_) s
  rw [imgL_snoc, mem_insL, ih]
  constructor
  · rintro (h | ⟨u, hu, h⟩)
    · exact ⟨v, by simp, h.symm⟩
    · exact ⟨u, by simp [hu], h⟩
  · rintro ⟨u, hu, h⟩
    rcases List.mem_append.1 hu with g | g
    · exact .inr ⟨u, g, h⟩
    · rw [List.mem_singleton] at g; subst g; exact .inl h.symm
theorem imgL_rise (f : Int → Int) (s : List Int) : (imgL f s).Pairwise (· < ·) :=
  snoc_ind (P := fun s => (imgL f s).Pairwise (· < ·)) (by simp [imgL]) (fun s v ih => by rw [imgL_snoc]; exact insL_rise ih) s
theorem imgL_len (f : Int → Int) (s : List Int) : (imgL f s).length ≤ s.length :=
  snoc_ind (P := fun s => (imgL f s).length ≤ s.length) (by simp [imgL]) (fun s v ih => by rw [imgL_snoc]; have := insL_len (n := f v) (imgL f s); simp; omega) s
theorem imgL_sim {f : Int → Int} {s : List Int} (hs : Sim s) (hf : ∀ v ∈ s, 0 ≤ f v ∧ f v ≤ 9) : Sim (imgL f s) := by
  refine ⟨?_, Nat.le_trans (imgL_len f s) hs.le, imgL_rise f s, fun x hx => ?_⟩
  · have h1 := hs.pos
    have : (imgL f s) ≠ [] := fun e => by
      have hm : f s[0] ∈ imgL f s := mem_imgL.2 ⟨s[0], List.getElem_mem _, rfl⟩
      rw [e] at hm; simp at hm
    exact List.length_pos_iff.2 this
  · obtain ⟨v, hv, rfl⟩ := mem_imgL.1 hx; exact hf v hv
theorem imgL_congr {f g : Int → Int} {s : List Int} (h : ∀ v ∈ s, f v = g v) : imgL f s = imgL g s := by
  refine rise_ext (imgL_rise f s) (imgL_rise g s) fun x => ?_
  rw [mem_imgL, mem_imgL]
  exact ⟨fun ⟨v, hv, e⟩ => ⟨v, hv, by rw [← h v hv]; exact e⟩, fun ⟨v, hv, e⟩ => ⟨v, hv, by rw [h v hv]; exact e⟩⟩
theorem mask_ext {l m : List Int} (hl : ∀ v ∈ l, 0 ≤ v) (hm : ∀ v ∈ m, 0 ≤ v) (h : ∀ x, x ∈ l ↔ x ∈ m) : maskOf l = maskOf m := by
  apply Nat.eq_of_testBit_eq
  intro t
  rw [maskOf_bit l hl, maskOf_bit m hm, Bool.eq_iff_iff, decide_eq_true_eq, decide_eq_true_eq, h]
theorem imgL_mask {f : Int → Int} {s : List Int} (hf : ∀ v ∈ s, 0 ≤ f v) : maskOf (imgL f s) = maskOf (s.map f) := by
  refine mask_ext (fun x hx => ?_) (fun x hx => ?_) fun x => ?_
  · obtain ⟨v, hv, rfl⟩ := mem_imgL.1 hx; exact hf v hv
  · obtain ⟨v, hv, rfl⟩ := List.mem_map.1 hx; exact hf v hv
  · rw [mem_imgL, List.mem_map]
theorem maskOf_nil : maskOf [] = 0 := rfl
theorem maskOf_cons {l : List Int} {v : Int} (hv : 0 ≤ v) (hl : ∀ x ∈ l, 0 ≤ x) : maskOf (v :: l) = (1 <<< v.toNat) ||| maskOf l := by
  have e : (1 <<< v.toNat) = maskOf [v] := by simp [maskOf]
  apply Nat.eq_of_testBit_eq
  intro t
  rw [e, Nat.testBit_or, maskOf_bit _ (fun x hx => by rcases List.mem_cons.1 hx with h | h; · subst h; exact hv
                                                      · exact hl x h), maskOf_bit _ (fun x hx => by rw [List.mem_singleton] at hx; subst hx; exact hv), maskOf_bit _ hl, Bool.eq_iff_iff]
  simp

/-- The images of all simplices whose vertices are told are there. -/
def Fits (za zb : List (List Int)) (f : Int → Int) : Prop := ∀ s ∈ za, (∀ v ∈ s, 0 ≤ f v) → imgL f s ∈ zb
/-- A map of complexes. -/
def MapP (za zb : List (List Int)) (ims : List Int) : Prop := (∀ x ∈ ims, 0 ≤ x ∧ x ≤ 9) ∧ ims.length = (vsL za).length ∧ Fits za zb (told (vsL za) ims)
theorem sim_ver {zz : List (List Int)} (ho : OkC zz) {s : List Int} (hs : s ∈ zz) {v : Int} (hv : v ∈ s) : v ∈ vsL zz := by
  have hf : [v] ∈ zz := ho.1.clo s hs [v] ⟨by simp, List.singleton_sublist.2 hv⟩
  obtain ⟨i, h, _, e⟩ := ver_find ho hf
  rw [← e]; exact List.getElem_mem h
theorem ver_sim {zz : List (List Int)} (ho : OkC zz) {v : Int} (hv : v ∈ vsL zz) : [v] ∈ zz := by
  obtain ⟨i, hi, rfl⟩ := List.getElem_of_mem hv
  obtain ⟨h, _, e⟩ := ver_at ho hi
  rw [← e]; exact List.getElem_mem h
theorem vsL_rise {zz : List (List Int)} (ho : OkC zz) : (vsL zz).Pairwise (· < ·) := by
  refine List.pairwise_iff_getElem.2 fun i j hi hj hij => ?_
  obtain ⟨h1, _, e1⟩ := ver_at ho hi
  obtain ⟨h2, _, e2⟩ := ver_at ho hj
  have hb := (List.pairwise_iff_getElem.1 ho.1.ord) i j h1 h2 hij
  rw [e1, e2] at hb
  unfold befB at hb
  have := of_decide_eq_true hb
  simp [cmpL] at this
  split at this
  · assumption
  · split at this <;> omega
theorem vsL_le {zz : List (List Int)} (ho : OkC zz) : (vsL zz).length ≤ 48 := by
  rw [vsL_len]; exact Nat.le_trans (ofK_len zz 0 zz.length) ho.2
theorem MapP.bd {za zb : List (List Int)} {ims : List Int} (h : MapP za zb ims) (ho : OkC za) {v : Int} (hv : v ∈ vsL za) : 0 ≤ told (vsL za) ims v ∧ told (vsL za) ims v ≤ 9 :=
  h.1 _ (told_in (vsL_nodup ho) h.2.1 hv)
theorem MapP.img {za zb : List (List Int)} {ims : List Int} (h : MapP za zb ims) (ho : OkC za) {s : List Int} (hs : s ∈ za) : imgL (told (vsL za) ims) s ∈ zb :=
  h.2.2 s hs fun v hv => (h.bd ho (sim_ver ho hs hv)).1
/-- The set of all vertices. -/
def orL (ms : List Nat) : Nat := ms.foldl (fun a m => a ||| m) 0
theorem orL_snoc (ms : List Nat) (m : Nat) : orL (ms ++ [m]) = orL ms ||| m := by simp [orL]
theorem orL_bit (ms : List Nat) (t : Nat) : (orL ms).testBit t = ms.any fun m => m.testBit t := by
  have key : ∀ (ms : List Nat) (a : Nat), (ms.foldl (fun a m => a ||| m) a).testBit t = (a.testBit t || ms.any fun m => m.testBit t) := by
    intro ms
    induction ms with
    | nil => intro a; simp
    | cons m ms ih => intro a; rw [List.foldl_cons, ih, Nat.testBit_or, List.any_cons, Bool.or_assoc]
  rw [orL, key]; simp
theorem orL_lt {ms : List Nat} (h : ∀ m ∈ ms, m < 1024) : orL ms < 1024 := by
  have key : ∀ (ms : List Nat) (a : Nat), a < 1024 → (∀ m ∈ ms, m < 1024) → ms.foldl (fun a m => a ||| m) a < 1024 := by
    intro ms
    induction ms with
    | nil => intro a ha _; exact ha
    | cons m ms ih => intro a ha hm; rw [List.foldl_cons]; exact ih _ (Nat.or_lt_two_pow (n := 10) ha (hm m (by simp))) fun x hx => hm x (by simp [hx])
  exact key ms 0 (by omega) h
theorem msks_lt {zz : List (List Int)} (ho : OkC zz) : ∀ m ∈ zz.map maskOf, m < 1024 := fun m hm => by
  obtain ⟨s, hs, rfl⟩ := List.mem_map.1 hm
  exact maskOf_lt s fun v hv => (ho.1.sim s hs).bd v hv
theorem all_verts {zz : List (List Int)} (ho : OkC zz) : vertsOf (orL (zz.map maskOf)) = vsL zz := by
  refine rise_ext (verts_rise _) (vsL_rise ho) fun x => ?_
  rw [mem_verts, orL_bit, List.any_map, List.any_eq_true]
  constructor
  · rintro ⟨h0, h9, s, hs, hb⟩
    have hsm := ho.1.sim s hs
    have hb' : (maskOf s).testBit x.toNat = true := hb
    rw [maskOf_bit s fun v hv => (hsm.bd v hv).1] at hb'
    have hx := of_decide_eq_true hb'
    rw [show ((x.toNat : Nat) : Int) = x by omega] at hx
    exact sim_ver ho hs hx
  · intro hx
    obtain ⟨h0, h9⟩ := vsL_bd ho x hx
    refine ⟨h0, h9, [x], ver_sim ho hx, ?_⟩
    show (maskOf [x]).testBit x.toNat = true
    rw [maskOf_bit [x] fun v hv => by rw [List.mem_singleton] at hv; subst hv; exact h0]
    exact decide_eq_true (by rw [show ((x.toNat : Nat) : Int) = x by omega]; simp)
/-- The code of what may be a map. -/
def MapC (za zb : List (List Int)) (ims : List Int) (c : Int) : Prop :=
  (¬ (OkC za ∧ OkC zb) ∧ c = 1) ∨ (OkC za ∧ OkC zb ∧ ¬ MapP za zb ims ∧ c = 7) ∨ (OkC za ∧ OkC zb ∧ MapP za zb ims ∧ c = 0)
theorem mapC_has (za zb : List (List Int)) (ims : List Int) : ∃ c, MapC za zb ims c := by
  by_cases h : OkC za ∧ OkC zb
  · by_cases g : MapP za zb ims
    · exact ⟨_, .inr (.inr ⟨h.1, h.2, g, rfl⟩)⟩
    · exact ⟨_, .inr (.inl ⟨h.1, h.2, g, rfl⟩)⟩
  · exact ⟨_, .inl ⟨h, rfl⟩⟩
/-- The array of what is told for the ten vertices. -/
def arF (vs xs : List Int) (j : Nat) : Int := max 0 (told vs xs (j : Int))
theorem arF_told {vs xs : List Int} {v : Int} (h0 : 0 ≤ v) (ht : 0 ≤ told vs xs v) : arF vs xs v.toNat = told vs xs v := by
  unfold arF
  rw [show ((v.toNat : Nat) : Int) = v by omega]
  exact Int.max_eq_right ht
end Go.Proofs.YtibdcejglkhcfaaGreatDoor

namespace Go.Proofs.YtibdcejglkhcfaaGreatDoor
open Go.RowKit
set_option linter.unusedVariables false
set_option linter.unusedSimpArgs false

/-- The vertices among the first k simplices. -/
def vsK (zz : List (List Int)) (k : Nat) : List Int := (ofK zz 0 k).map fun i => (zz.getD i.toNat []).getD 0 0
theorem vsK_all (zz : List (List Int)) : vsK zz zz.length = vsL zz := rfl
theorem vsK_yes {zz : List (List Int)} {k : Nat} {x : Int} (hk : k < zz.length) (h : zz[k] = [x]) : vsK zz (k + 1) = vsK zz k ++ [x] := by
  unfold vsK
  rw [ofK_yes hk (by rw [h]; rfl), List.map_append]
  simp [List.getD, hk, h]
theorem vsK_no {zz : List (List Int)} {k : Nat} (hk : k < zz.length) (h : zz[k].length ≠ 1) : vsK zz (k + 1) = vsK zz k := by
  unfold vsK
  rw [ofK_no hk (by omega)]
theorem vsK_len (zz : List (List Int)) (k : Nat) : (vsK zz k).length ≤ k := by unfold vsK; rw [List.length_map]; exact ofK_len zz 0 k
set_option maxRecDepth 100000 in
set_option maxHeartbeats 3200000 in
theorem l08Ver_any {L : Nat} {v : Value} {zz : List (List Int)} {w : World} (p : PtC w L v) (hq : RowsAt w v zz) (ho : OkC zz) :
    Calls Tryz.prog 82 #[.pointer (some ⟨L, 0, none⟩)] w fun e w' => RetN (vsL zz) w e w' := by
  obtain ⟨i0, hi0, iz0, iz1, iz2⟩ := info_parts info2
  obtain ⟨a, c, rfl, hl, k1⟩ := hq.any
  have K1 := Lib.hid k1
  have P := Lib.hid p
  have h48 := ho.2
  have hm : OwnI w.heap.size (w.alloc (.cells #[] 2)) (.slice (some ⟨w.heap.size, 0, none⟩) 0 0) [] := World.ownsRow_made (base := w.heap.size) (e := 2) (size := 1) w #[] 0 (Nat.le_refl _) (Nat.zero_le _) rfl
  have HM := Lib.hid hm
  have AL : Hid (Below w.heap.size w (w.alloc (.cells #[] 2))) := (Below.refl _ w).alloc (Nat.le_refl _) _
  clear k1 p hq ho hm
  go_enter Tryz.func82, Tryz.ntmps82
  go_wp2_with fail
  go_loopw [3, 4] (fun sv si wr => ∃ (k : Nat), k ≤ zz.length ∧ si = .int .i64 (k : Int) ∧ Hid (OwnI w.heap.size wr sv (vsK zz k)) ∧ Hid (Below w.heap.size w wr)) (fun _ i _ => zz.length - (intOf i).toNat)
  case atStart => exact ⟨0, Nat.zero_le _, rfl, HM, AL⟩
  case round =>
    clear HM AL
    obtain ⟨k, hk, rfl, HY, HB⟩ := hrel
    have q1 := (P.out.on HB.out).2
    have hs := HB.out.size
    have i0' : 0 ≤ (k : Int) := by omega
    by_cases hlt : k < zz.length
    · obtain ⟨b, o, u, rfl, hb, c1', i1'⟩ := K1.out k hlt
      have c1 : wr.cell? ⟨b, o + k, none⟩ = some u := (HB.out.cell (p := ⟨b, o + k, none⟩) hb).trans c1'
      have i1 : (k : Int) < (zz.length : Int) := by omega
      have hkl := vsK_len zz k
      obtain ⟨ya, yc, hyv⟩ := HY.out.slice
      subst hyv
      obtain ⟨y, hyl⟩ : ∃ y, (vsK zz k).length = y := ⟨_, rfl⟩
      rw [hyl] at HY hkl ⊢
      by_cases he : zz[k].length = 1
      · obtain ⟨x, hx⟩ : ∃ x, zz[k] = [x] := ⟨_, one_of he⟩
        have HN := Lib.hid (vsK_yes hlt hx)
        rw [hx] at i1'
        obtain ⟨tb, tq, tc, rfl, htb, kt⟩ := (i1'.on HB.out).at1 (by simp)
        have t1 := kt 0 (by simp)
        simp only [List.getElem_cons_zero, Nat.add_zero, List.length_singleton] at t1 c1
        have hrow : wr.ownsRow w.heap.size 2 1 (.slice ya y yc) y (iv (vsK zz k)) := by
          have := HY.out.out
          rw [hyl] at this; exact this
        have HROW := Lib.hid hrow
        clear c1' i1' kt hx he hrow
        go_wp2_with (at_builtin; refine wpList_append_own _ rfl _ _ 25 rfl w.heap.size 2 i0 (.int .i64 0) 1 8 Tryz.underlying25 hi0 iz0 iz1 iz2 rfl (by decide) _ _ _ rfl (HROW.out.alloc (.cells #[.int .i64 x] 2)) ⟨wr.heap.size, 0, none⟩ 1 1 [.int .i64 x] rfl rfl (row_oneS _ _ _ _ (by first | rfl | simp)) (by first | rfl | (intro u hu; simp at hu; subst hu; rfl)) (by unfold maxLen; omega) (by omega) (by first | omega | (simp; omega)) ?_; intro v2 w10 hown3 hgrow _)
        have hown := HY.out
        have HO2 : Hid (OwnI w.heap.size w10 v2 (vsK zz (k + 1))) := by
          show OwnI _ _ _ _
          rw [HN.out]; exact pushU (by rw [hyl]; exact hown3)
        have HB2 := Lib.hid (below_pushU HB.out (Nat.le_refl _) (by first | omega | (simp; omega)) hown hgrow)
        go_roundw
        case rel => exact ⟨k + 1, by omega, by go_num, HO2, HB2⟩
        case measure => simp [intOf]; omega
      · have HN := Lib.hid (vsK_no hlt he)
        have he2 : ((zz[k].length : Int) == 1) = false := by
          rw [beq_eq_false_iff_ne]; omega
        have hI1 := i1'.on HB.out
        obtain ⟨xa, xc, rfl⟩ := hI1.slice
        generalize zz[k].length = n at c1 he2
        clear c1' i1' hI1
        go_wp2_with fail
        go_roundw
        case rel => exact ⟨k + 1, by omega, by go_num, by rw [HN.out]; exact HY, HB⟩
        case measure => simp [intOf]; omega
    · obtain rfl : k = zz.length := by omega
      go_wp2_with fail
      go_ret
      exact ⟨_, rfl, HY.out, HB.out⟩
set_option maxRecDepth 100000 in
set_option maxHeartbeats 1600000 in
theorem l08Told_is {u x : Value} {vs xs : List Int} {n T : Int} {w : World} (hu : IntsAt w u vs) (hx : IntsAt w x xs) (hl : xs.length ≤ vs.length) (h : told vs xs n = T) :
    Calls Tryz.prog 97 #[u, x, .int .i64 n] w fun e w' => e = .returned (.int .i64 T) ∧ w = w' := by
  obtain ⟨a, c, rfl, hl1, k1⟩ := hu.any
  have K1 := Lib.hid k1
  obtain ⟨a2, c2, rfl, hl2, k2⟩ := hx.any
  have K2 := Lib.hid k2
  have HT : Hid (told (vs.drop 0) (xs.drop 0) n = T) := h
  clear k1 k2 hu hx h
  go_enter Tryz.func97, Tryz.ntmps97
  go_wp2_with fail
  go_loopw [7] (fun i wr => ∃ k : Nat, k ≤ xs.length ∧ i = .int .i64 (k : Int) ∧ Hid (told (vs.drop k) (xs.drop k) n = T) ∧ w = wr) (fun i _ => xs.length - (intOf i).toNat)
  case atStart => exact ⟨0, Nat.zero_le _, rfl, HT, rfl⟩
  case round =>
    clear HT
    obtain ⟨k, hk, rfl, HA, rfl⟩ := hrel
    by_cases hlt : k < xs.length
    · have hv : k < vs.length := by omega
      obtain ⟨b, o, rfl, hb, g1⟩ := K1.out k hv
      obtain ⟨b2, o2, rfl, hb2, g2⟩ := K2.out k hlt
      have i0 : 0 ≤ (k : Int) := by omega
      have i1 : (k : Int) < (xs.length : Int) := by omega
      have i2 : (k : Int) < (vs.length : Int) := by omega
      have ha := HA.out
      rw [told_step hlt hv] at ha
      by_cases he : vs[k] = n
      · rw [if_pos he] at ha
        rw [ha] at g2
        have hee : (vs[k] == n) = true := by simp [he]
        generalize vs[k] = q at g1 he hee
        clear ha HA he
        go_wp2_with fail
        go_ret
        exact ⟨rfl, rfl⟩
      · rw [if_neg he] at ha
        have HB2 := Lib.hid ha
        have hee : (vs[k] == n) = false := by simp [he]
        generalize vs[k] = q at g1 he hee
        clear ha HA he
        go_wp2_with fail
        go_roundw
        case rel => exact ⟨k + 1, by omega, by go_num, HB2, (by first | rfl | trivial)⟩
        case measure => simp [intOf]; omega
    · have hT : T = -1 := by rw [← HA.out]; exact told_end (by omega)
      subst hT
      go_wp2_with fail
      go_ret
      exact ⟨rfl, rfl⟩
/-- What the model's image of a simplex answers. -/
def ImgIs (f : Int → Int) (s yy : List Int) (T : Bool) : Prop := (T = true ∧ (∀ v ∈ s, 0 ≤ f v) ∧ yy = imgL f s) ∨ (T = false ∧ (∃ v ∈ s, f v < 0) ∧ yy = [])
theorem img_has (f : Int → Int) (s : List Int) : ∃ yy T, ImgIs f s yy T := by
  by_cases h : ∀ v ∈ s, 0 ≤ f v
  · exact ⟨_, _, .inl ⟨rfl, h, rfl⟩⟩
  · refine ⟨_, _, .inr ⟨rfl, ?_, rfl⟩⟩
    exact Classical.byContradiction fun g => h fun v hv => Int.not_lt.1 fun hl => g ⟨v, hv, hl⟩
def RetSB5 (yy : List Int) (T : Bool) (w : World) (e : Ending) (w' : World) : Prop := ∃ v, e = .returned (.tuple #[v, .bool T]) ∧ OwnI w.heap.size w' v yy ∧ Below w.heap.size w w'
set_option maxRecDepth 100000 in
set_option maxHeartbeats 3200000 in
theorem l08Image_any {u x y : Value} {vs xs s yy : List Int} {T : Bool} {w : World} (hu : IntsAt w u vs) (hx : IntsAt w x xs) (hl : xs.length ≤ vs.length) (hy : IntsAt w y s) (hs4 : s.length ≤ 4) (h : ImgIs (told vs xs) s yy T) :
    Calls Tryz.prog 81 #[u, x, y] w fun e w' => RetSB5 yy T w e w' := by
  have HU := Lib.hid hu
  have HX := Lib.hid hx
  have HH := Lib.hid h
  obtain ⟨ua, uc, rfl⟩ := hu.slice
  obtain ⟨xa, xc, rfl⟩ := hx.slice
  obtain ⟨a, c, rfl, hl1, k1⟩ := hy.any
  have K1 := Lib.hid k1
  have hm : OwnI w.heap.size (w.alloc (.cells #[] 2)) (.slice (some ⟨w.heap.size, 0, none⟩) 0 0) [] := World.ownsRow_made (base := w.heap.size) (e := 2) (size := 1) w #[] 0 (Nat.le_refl _) (Nat.zero_le _) rfl
  have HM := Lib.hid hm
  have AL : Hid (Below w.heap.size w (w.alloc (.cells #[] 2))) := (Below.refl _ w).alloc (Nat.le_refl _) _
  clear k1 hu hx hy h hm
  go_enter Tryz.func81, Tryz.ntmps81
  go_wp2_with fail
  go_loopw [8, 9] (fun sv si wr => ∃ (k : Nat), k ≤ s.length ∧ si = .int .i64 (k : Int) ∧ Hid (∀ v ∈ s.take k, 0 ≤ told vs xs v) ∧ Hid (OwnI w.heap.size wr sv (imgL (told vs xs) (s.take k))) ∧ Hid (Below w.heap.size w wr)) (fun _ i _ => s.length - (intOf i).toNat)
  case atStart => exact ⟨0, Nat.zero_le _, rfl, by intro v hv; simp at hv, HM, AL⟩
  case round =>
    clear HM AL
    obtain ⟨k, hk, rfl, HP, HY, HB⟩ := hrel
    have hs := HB.out.size
    have i0' : 0 ≤ (k : Int) := by omega
    by_cases hlt : k < s.length
    · have i1 : (k : Int) < (s.length : Int) := by omega
      obtain ⟨b, o, rfl, hb, g1'⟩ := K1.out k hlt
      have g1 : wr.cell? ⟨b, o + k, none⟩ = some (.int .i64 s[k]) := (HB.out.cell (p := ⟨b, o + k, none⟩) hb).trans g1'
      have htk : s.take (k + 1) = s.take k ++ [s[k]] := by rw [List.take_succ_eq_append_getElem hlt]
      have hmem : s[k] ∈ s := List.getElem_mem hlt
      obtain ⟨t, ht⟩ : ∃ t, told vs xs s[k] = t := ⟨_, rfl⟩
      have HTD := Lib.hid ht
      have hil := imgL_len (told vs xs) (s.take k)
      rw [List.length_take] at hil
      clear g1' ht
      by_cases htn : t < 0
      · have hc : T = false ∧ yy = [] := by
          rcases HH.out with ⟨_, h, _⟩ | ⟨h1, _, h2⟩
          · have := h _ hmem; rw [HTD.out] at this; omega
          · exact ⟨h1, h2⟩
        obtain ⟨rfl, rfl⟩ := hc
        generalize s[k] = q at g1 HTD
        clear htk hmem
        go_wp2_with (go_at_call 97; refine (l08Told_is (HU.out.on HB.out) (HX.out.on HB.out) hl HTD.out).mono ?_; rintro e w' ⟨rfl, rfl⟩)
        go_ret2
        exact ⟨_, rfl, World.ownsRow_nil _ _ _ _, HB.out⟩
      · have HP2 : Hid (∀ v ∈ s.take (k + 1), 0 ≤ told vs xs v) := by
          intro v hv
          rw [htk] at hv
          rcases List.mem_append.1 hv with h | h
          · exact HP.out v h
          · rw [List.mem_singleton] at h; subst h; rw [HTD.out]; omega
        have HN : Hid (imgL (told vs xs) (s.take (k + 1)) = insL t (imgL (told vs xs) (s.take k))) := by
          show _ = _
          rw [htk, imgL_snoc, HTD.out]
        have hya := HY.out.at (by omega)
        have HYA := Lib.hid hya
        obtain ⟨ya, yc, rfl⟩ := hya.slice
        generalize imgL (told vs xs) (s.take k) = il at HY HN HYA hil ⊢
        generalize s[k] = q at g1 HTD
        clear htk hmem hya
        go_wp2_with (go_at_call 97; refine (l08Told_is (HU.out.on HB.out) (HX.out.on HB.out) hl HTD.out).mono ?_; rintro e w' ⟨rfl, rfl⟩)
        refine (l00Put_any HYA.out).mono ?_
        rintro e w5 ⟨v5, rfl, ho5, hb5⟩
        have HO5 : Hid (OwnI w.heap.size w5 v5 (imgL (told vs xs) (s.take (k + 1)))) := by
          show OwnI _ _ _ _
          rw [HN.out]; exact OwnI.mono ho5 hs
        have HB5 := Lib.hid (HB.out.trans (hb5.mono hs))
        obtain ⟨za, zc, rfl⟩ := ho5.slice
        clear ho5 hb5
        go_wp2_with fail
        go_roundw
        case rel => exact ⟨k + 1, by omega, by go_num, HP2, HO5, HB5⟩
        case measure => simp [intOf]; omega
    · obtain rfl : k = s.length := by omega
      have hc : T = true ∧ yy = imgL (told vs xs) s := by
        rcases HH.out with ⟨h1, _, h2⟩ | ⟨_, ⟨v, hv, h⟩, _⟩
        · exact ⟨h1, h2⟩
        · have := HP.out v (by rw [List.take_length]; exact hv); omega
      obtain ⟨rfl, rfl⟩ := hc
      rw [List.take_length] at HY
      go_wp2_with fail
      go_ret2
      exact ⟨_, rfl, HY.out, HB.out⟩
end Go.Proofs.YtibdcejglkhcfaaGreatDoor

namespace Go.Proofs.YtibdcejglkhcfaaGreatDoor
open Go.RowKit
set_option linter.unusedVariables false
set_option linter.unusedSimpArgs false

/-- The images of the simplices from k on are there, where all is told. -/
def fitB (zb : List (List Int)) (f : Int → Int) (s : List Int) : Bool := !(s.all fun v => decide (0 ≤ f v)) || decide (imgL f s ∈ zb)
def fitsB (za zb : List (List Int)) (f : Int → Int) : Bool := za.all (fitB zb f)
theorem fitB_iff {zb : List (List Int)} {f : Int → Int} {s : List Int} : fitB zb f s = true ↔ ((∀ v ∈ s, 0 ≤ f v) → imgL f s ∈ zb) := by
  unfold fitB
  rw [Bool.or_eq_true, Bool.not_eq_true', decide_eq_true_eq]
  constructor
  · rintro (h | h) hv
    · rw [List.all_eq_false] at h
      obtain ⟨v, hv1, hv2⟩ := h
      exact absurd (decide_eq_true (hv v hv1)) hv2
    · exact h
  · intro h
    by_cases g : ∀ v ∈ s, 0 ≤ f v
    · exact .inr (h g)
    · refine .inl ?_
      rw [List.all_eq_false]
      exact Classical.byContradiction fun k => g fun v hv => Classical.byContradiction fun n => k ⟨v, hv, by simpa using n⟩
theorem fitsB_iff {za zb : List (List Int)} {f : Int → Int} : fitsB za zb f = true ↔ Fits za zb f := by
  unfold fitsB Fits
  rw [List.all_eq_true]
  exact ⟨fun h s hs => fitB_iff.1 (h s hs), fun h s hs => fitB_iff.2 (h s hs)⟩
theorem fitsB_step {za zb : List (List Int)} {f : Int → Int} {k : Nat} (h : k < za.length) : fitsB (za.drop k) zb f = (fitB zb f za[k] && fitsB (za.drop (k + 1)) zb f) := by
  unfold fitsB
  rw [List.drop_eq_getElem_cons h, List.all_cons]
set_option maxRecDepth 100000 in
set_option maxHeartbeats 3200000 in
theorem l08Fits_is {La Lb : Nat} {va vb u x : Value} {za zb : List (List Int)} {vs xs : List Int} {T : Bool} {w : World} (pa : PtC w La va) (ha : RowsAt w va za) (pb : PtC w Lb vb) (hb : RowsAt w vb zb) (hu : IntsAt w u vs) (hx : IntsAt w x xs) (hl : xs.length ≤ vs.length) (h4 : ∀ s ∈ za, s.length ≤ 4) (h : fitsB za zb (told vs xs) = T) :
    Calls Tryz.prog 127 #[.pointer (some ⟨La, 0, none⟩), .pointer (some ⟨Lb, 0, none⟩), u, x] w fun e w' => e = .returned (.bool T) ∧ Below w.heap.size w w' := by
  obtain ⟨a, c, rfl, hlz, k1⟩ := ha.any
  have K1 := Lib.hid k1
  have PA := Lib.hid pa
  have PB := Lib.hid pb
  have HBZ := Lib.hid hb
  have HU := Lib.hid hu
  have HX := Lib.hid hx
  have H4 := Lib.hid h4
  obtain ⟨ua, uc, rfl⟩ := hu.slice
  obtain ⟨xa, xc, rfl⟩ := hx.slice
  have HT : Hid (fitsB (za.drop 0) zb (told vs xs) = T) := h
  have B0 : Hid (Below w.heap.size w w) := Below.refl _ _
  clear k1 pa ha pb hb hu hx h4 h
  go_enter Tryz.func127, Tryz.ntmps127
  go_wp2_with fail
  go_loopw [9] (fun i wr => ∃ k : Nat, k ≤ za.length ∧ i = .int .i64 (k : Int) ∧ Hid (fitsB (za.drop k) zb (told vs xs) = T) ∧ Hid (Below w.heap.size w wr)) (fun i _ => za.length - (intOf i).toNat)
  case atStart => exact ⟨0, Nat.zero_le _, rfl, HT, B0⟩
  case round =>
    clear HT B0
    obtain ⟨k, hk, rfl, HA, HB⟩ := hrel
    have q1 := (PA.out.on HB.out).2
    have i0 : 0 ≤ (k : Int) := by omega
    by_cases hlt : k < za.length
    · obtain ⟨b, o, y, rfl, hb, c1', i1'⟩ := K1.out k hlt
      have c1 : wr.cell? ⟨b, o + k, none⟩ = some y := (HB.out.cell (p := ⟨b, o + k, none⟩) hb).trans c1'
      have I1 := Lib.hid (i1'.on HB.out)
      have i1 : (k : Int) < (za.length : Int) := by omega
      have hs4 := H4.out za[k] (List.getElem_mem hlt)
      have ht := HA.out
      rw [fitsB_step hlt] at ht
      obtain ⟨yy, Tt, hi⟩ := img_has (told vs xs) za[k]
      have HI := Lib.hid hi
      have hfb : fitB zb (told vs xs) za[k] = (!Tt || decide (yy ∈ zb)) := by
        rw [Bool.eq_iff_iff, fitB_iff]
        rcases hi with ⟨rfl, h1, rfl⟩ | ⟨rfl, ⟨v, hv, h1⟩, rfl⟩
        · simp only [Bool.not_true, Bool.false_or, decide_eq_true_eq]; exact ⟨fun g => g h1, fun g _ => g⟩
        · simp only [Bool.not_false, Bool.true_or, iff_true]; intro g; have := g v hv; omega
      rw [hfb] at ht
      generalize za[k] = t at I1 HI hs4
      clear c1' i1' HA hi hfb
      go_wp2_with fail
      refine (l08Image_any (HU.out.on HB.out) (HX.out.on HB.out) hl I1.out hs4 HI.out).mono ?_
      rintro e w5 ⟨v5, rfl, ho5, hb5⟩
      have HB5 := Lib.hid (HB.out.trans (hb5.mono HB.out.size))
      have hyl : yy.length ≤ 1048576 := by
        rcases HI.out with ⟨_, _, rfl⟩ | ⟨_, _, rfl⟩
        · have := imgL_len (told vs xs) t; omega
        · simp
      have HY5 := Lib.hid (ho5.at hyl)
      obtain ⟨ya, yc, rfl⟩ := ho5.slice
      obtain ⟨N, hN⟩ : ∃ N, fndI yy zb 0 = N := ⟨_, rfl⟩
      have HN := Lib.hid hN
      clear ho5 hb5
      cases Tt with
      | false =>
        rw [Bool.not_false, Bool.true_or, Bool.true_and] at ht
        have HT2 := Lib.hid ht
        clear ht hN
        go_wp2_with fail
        go_roundw
        case rel => exact ⟨k + 1, by omega, by go_num, HT2, HB5⟩
        case measure => simp [intOf]; omega
      | true =>
        rw [Bool.not_true, Bool.false_or] at ht
        by_cases hm : yy ∈ zb
        · obtain ⟨j, hj, hj1, hj2⟩ := fndI_yes (i := 0) hm
          have hn0 : ¬ N < 0 := by omega
          rw [decide_eq_true hm, Bool.true_and] at ht
          have HT2 := Lib.hid ht
          clear ht hN hj1
          go_wp2_with fail
          refine (l05Find_is (PB.out.on HB5.out) (HBZ.out.on HB5.out) HY5.out HN.out).mono ?_
          rintro e w6 ⟨rfl, n6, rfl⟩
          have HB6 := Lib.hid (below_drewX HB5.out n6)
          go_wp2_with fail
          go_roundw
          case rel => exact ⟨k + 1, by omega, by go_num, HT2, HB6⟩
          case measure => simp [intOf]; omega
        · have hn0 : N = -1 := by rw [← hN]; exact fndI_no hm
          rw [decide_eq_false hm, Bool.false_and] at ht
          subst ht
          subst hn0
          clear hN
          go_wp2_with fail
          refine (l05Find_is (PB.out.on HB5.out) (HBZ.out.on HB5.out) HY5.out HN.out).mono ?_
          rintro e w6 ⟨rfl, n6, rfl⟩
          have HB6 := Lib.hid (below_drewX HB5.out n6)
          go_wp2_with fail
          go_ret
          exact ⟨rfl, HB6.out⟩
    · have hT : T = true := by rw [← HA.out, List.drop_eq_nil_of_le (by omega)]; rfl
      subst hT
      obtain rfl : k = za.length := by omega
      go_wp2_with fail
      go_ret
      exact ⟨rfl, HB.out⟩
/-- All numbers are vertices. -/
def bdB (xs : List Int) : Bool := xs.all fun x => decide (0 ≤ x ∧ x ≤ 9)
theorem bdB_iff {xs : List Int} : bdB xs = true ↔ ∀ x ∈ xs, 0 ≤ x ∧ x ≤ 9 := by simp [bdB]
theorem bdB_step {xs : List Int} {k : Nat} (h : k < xs.length) : bdB (xs.drop k) = (decide (0 ≤ xs[k] ∧ xs[k] ≤ 9) && bdB (xs.drop (k + 1))) := by
  unfold bdB
  rw [List.drop_eq_getElem_cons h, List.all_cons]
def MapB (za zb : List (List Int)) (ims : List Int) (T : Bool) : Prop := (T = true ∧ MapP za zb ims) ∨ (T = false ∧ ¬ MapP za zb ims)
theorem mapB_has (za zb : List (List Int)) (ims : List Int) : ∃ T, MapB za zb ims T := by
  by_cases h : MapP za zb ims
  · exact ⟨_, .inl ⟨rfl, h⟩⟩
  · exact ⟨_, .inr ⟨rfl, h⟩⟩
set_option maxRecDepth 100000 in
set_option maxHeartbeats 3200000 in
theorem l08Map_is {La Lb : Nat} {va vb x : Value} {za zb : List (List Int)} {xs : List Int} {T : Bool} {w : World} (pa : PtC w La va) (ha : RowsAt w va za) (pb : PtC w Lb vb) (hb : RowsAt w vb zb) (hx : IntsAt w x xs) (oa : OkC za) (h : MapB za zb xs T) :
    Calls Tryz.prog 80 #[.pointer (some ⟨La, 0, none⟩), .pointer (some ⟨Lb, 0, none⟩), x] w fun e w' => e = .returned (.bool T) ∧ Below w.heap.size w w' := by
  have PA := Lib.hid pa
  have PB := Lib.hid pb
  have HAZ := Lib.hid ha
  have HBZ := Lib.hid hb
  have HX := Lib.hid hx
  have OA := Lib.hid oa
  have HH := Lib.hid h
  have H4 : Hid (∀ s ∈ za, s.length ≤ 4) := fun s hs => (oa.1.sim s hs).le
  obtain ⟨xa, xc, rfl, hlx, kx⟩ := hx.any
  have KX := Lib.hid kx
  clear pa ha pb hb hx h oa kx
  go_enter Tryz.func80, Tryz.ntmps80
  go_wp2_with fail
  refine (l08Ver_any PA.out HAZ.out OA.out).mono ?_
  rintro e w2 ⟨v2, rfl, ho2, hb2⟩
  have hvl := vsL_le OA.out
  have HV2 := Lib.hid (ho2.at (by omega))
  have HB2 := Lib.hid hb2
  obtain ⟨ua, uc, rfl⟩ := ho2.slice
  have HD : Hid (bdB (xs.drop 0) = bdB xs) := rfl
  obtain ⟨vn, hvn⟩ : ∃ vn, (vsL za).length = vn := ⟨_, rfl⟩
  have HVN := Lib.hid hvn
  rw [hvn] at HV2 hvl ⊢
  clear ho2 hb2 hvn
  go_wp2_with fail
  go_loopw [8] (fun i wr => ∃ k : Nat, k ≤ xs.length ∧ i = .int .i64 (k : Int) ∧ Hid (bdB (xs.drop k) = bdB xs) ∧ w2 = wr) (fun i _ => xs.length - (intOf i).toNat)
  case atStart => exact ⟨0, Nat.zero_le _, rfl, HD, rfl⟩
  case round =>
    clear HD
    obtain ⟨k, hk, rfl, HA, rfl⟩ := hrel
    have i0 : 0 ≤ (k : Int) := by omega
    by_cases hlt : k < xs.length
    · obtain ⟨b, o, rfl, hb, g1'⟩ := KX.out k hlt
      have g1 : w2.cell? ⟨b, o + k, none⟩ = some (.int .i64 xs[k]) := (HB2.out.cell (p := ⟨b, o + k, none⟩) hb).trans g1'
      have i1 : (k : Int) < (xs.length : Int) := by omega
      have ha := HA.out
      rw [bdB_step hlt] at ha
      by_cases he : 0 ≤ xs[k] ∧ xs[k] ≤ 9
      · rw [decide_eq_true he, Bool.true_and] at ha
        have HA2 := Lib.hid ha
        have hin : inB xs[k] 0 9 = true := inB_yes he.1 he.2
        generalize xs[k] = q at g1 hin
        clear ha HA he g1'
        go_wp2_with (go_at_call 45; refine (l00In_is _ hin).mono ?_; rintro e w3 ⟨rfl, rfl⟩)
        go_roundw
        case rel => exact ⟨k + 1, by omega, by go_num, HA2, (by first | rfl | trivial)⟩
        case measure => simp [intOf]; omega
      · have hT : T = false := by
          rcases HH.out with ⟨_, h⟩ | ⟨h, _⟩
          · exact absurd (h.1 _ (List.getElem_mem hlt)) he
          · exact h
        subst hT
        have hin : inB xs[k] 0 9 = false := inB_no (by omega)
        generalize xs[k] = q at g1 hin
        clear ha HA he g1'
        go_wp2_with (go_at_call 45; refine (l00In_is _ hin).mono ?_; rintro e w3 ⟨rfl, rfl⟩)
        go_ret
        exact ⟨rfl, HB2.out⟩
    · have hbd : bdB xs = true := by rw [← HA.out, List.drop_eq_nil_of_le (by omega)]; rfl
      have HBD := Lib.hid (bdB_iff.1 hbd)
      obtain ⟨kk, hkk⟩ : ∃ kk : Int, kk = (k : Int) := ⟨_, rfl⟩
      have hk2 : ¬ kk < (xs.length : Int) := by omega
      rw [← hkk]
      obtain ⟨xn, hxn⟩ : ∃ xn, xs.length = xn := ⟨_, rfl⟩
      have HXN := Lib.hid hxn
      rw [hxn] at hk2 ⊢
      clear HA hkk hbd hlt hk i0 hxn
      by_cases hn : xn = vn
      · have hT : fitsB za zb (told (vsL za) xs) = T := by
          rcases HH.out with ⟨rfl, h⟩ | ⟨rfl, h⟩
          · exact fitsB_iff.2 h.2.2
          · cases hf : fitsB za zb (told (vsL za) xs) with
            | false => rfl
            | true => exact absurd ⟨HBD.out, by rw [HXN.out, HVN.out, hn], fitsB_iff.1 hf⟩ h
        have HT := Lib.hid hT
        have hlv : xs.length ≤ (vsL za).length := by have := HXN.out; have := HVN.out; omega
        have HX2 := Lib.hid (HX.out.on HB2.out)
        rw [HXN.out] at HX2
        subst hn
        clear hT
        go_wp2_with fail
        refine (l08Fits_is (PA.out.on HB2.out) (HAZ.out.on HB2.out) (PB.out.on HB2.out) (HBZ.out.on HB2.out) HV2.out HX2.out hlv H4.out HT.out).mono ?_
        rintro e w5 ⟨rfl, hb5⟩
        go_wp2_with fail
        go_ret
        exact ⟨rfl, HB2.out.trans (hb5.mono HB2.out.size)⟩
      · have hT : T = false := by
          rcases HH.out with ⟨_, h⟩ | ⟨h, _⟩
          · exact absurd (by rw [← HXN.out, ← HVN.out]; exact h.2.1) hn
          · exact h
        subst hT
        have he : ((xn : Int) == (vn : Int)) = false := by rw [beq_eq_false_iff_ne]; omega
        go_wp2_with fail
        go_ret
        exact ⟨rfl, HB2.out⟩
end Go.Proofs.YtibdcejglkhcfaaGreatDoor
