/-
  DualPoset of the program.
-/
import Derived.Test.YtochcpaahibijaaDoorPdC
import Derived.Test.YtochcpaahibijaaDoorPdE
namespace Go.Proofs.YtochcpaahibijaaDoor
open Go.RowKit Go.Sort
set_option linter.unusedVariables false
set_option linter.unusedSimpArgs false

/-- A variable of one cell. -/
def Pt1 (w : World) (L : Nat) (v : Value) : Prop := L < w.heap.size ∧ w.cell? ⟨L, 0, none⟩ = some v
theorem Pt1.new (w : World) (v : Value) (t : TypeId) : Pt1 (w.alloc (.cells #[v] t)) w.heap.size v := ⟨by simp, by rw [World.cell?_alloc_at _ _ _ _ rfl]; rfl⟩
theorem Pt1.on {w w' : World} {L : Nat} {v : Value} (h : Pt1 w L v) (hb : Below w.heap.size w w') : Pt1 w' L v := ⟨Nat.lt_of_lt_of_le h.1 hb.size, (hb.cell (p := ⟨L, 0, none⟩) h.1).trans h.2⟩
theorem OwnR.put {B g n cap k : Nat} {w w1 : World} {L : List Value} {zz : List (List Int)} {u : Value} {zs : List Int} (h : OwnR B w.heap.size w (.slice (some ⟨g, 0, none⟩) n cap) L zz) (hn : zz.length = n) (hu : OwnI w.heap.size w1 u zs) (hb : Below w.heap.size w w1) (hB : B ≤ w.heap.size) (hk : k < n) :
    OwnR B (w1.setCell ⟨g, k, none⟩ u).heap.size (w1.setCell ⟨g, k, none⟩ u) (.slice (some ⟨g, 0, none⟩) n cap) (L.set k u) (zz.set k zs) := by
  subst hn
  have hg := (h.row.lt g rfl).2
  have hr := ownsRow_on h.row hb
  obtain ⟨hs, hgr⟩ := World.ownsRow.stored hr k u
  have hz : (w1.setCell ⟨g, k, none⟩ u).heap.size = w1.heap.size := by simp
  have hs1 := hb.size
  have ub : ∀ q, u.ownBlock = some q → w.heap.size ≤ q ∧ q < w1.heap.size := fun q hq => hu.out.lt q hq
  have lo : ∀ (i : Nat) (x : Value) (q : Nat), L[i]? = some x → x.ownBlock = some q → q < w.heap.size := fun i x q h1 h2 => (h.lo h1 h2).2
  have pick : ∀ (i : Nat) (x : Value), (L.set k u)[i]? = some x → (i = k ∧ x = u) ∨ (i ≠ k ∧ L[i]? = some x) := fun i x hx => by
    rw [List.getElem?_set] at hx
    by_cases e : k = i
    · rw [if_pos e] at hx
      split at hx
      · simp at hx; exact .inl ⟨e.symm, hx.symm⟩
      · simp at hx
    · rw [if_neg e] at hx; exact .inr ⟨fun e' => e e'.symm, hx⟩
  refine ⟨by simp [h.len], by rw [List.length_set]; exact hs, fun i x ys h1 h2 => ?_, fun i x q h1 h2 => ?_, fun i j x y q h1 h2 h3 h4 => ?_, Nat.le_refl _, fun q hq => ?_, fun i x q h1 h2 => ?_⟩
  · rcases pick i x h1 with ⟨rfl, rfl⟩ | ⟨hne, h1'⟩
    · rw [List.getElem?_set, if_pos rfl, if_pos hk] at h2
      injection h2 with h2
      subst h2
      refine World.ownsRow.kept (OwnI.mono hu hB).out hgr ?_
      cases ho : x.ownBlock with
      | none => exact .inl rfl
      | some q => exact .inr (fun e => by injection e with e; have := (ub q ho).1; omega)
    · rw [List.getElem?_set, if_neg (fun e => hne e.symm)] at h2
      refine World.ownsRow.kept ((h.own i x ys h1' h2).on hb).out hgr ?_
      cases ho : x.ownBlock with
      | none => exact .inl rfl
      | some q => exact .inr (fun e => h.off i x q h1' ho e.symm)
  · rcases pick i x h1 with ⟨rfl, rfl⟩ | ⟨hne, h1'⟩
    · intro e
      have e' : some g = some q := e
      injection e' with e'
      have := (ub q h2).1; omega
    · exact h.off i x q h1' h2
  · rcases pick i x h1 with ⟨rfl, rfl⟩ | ⟨hne, h1'⟩
    · rcases pick j y h2 with ⟨rfl, rfl⟩ | ⟨hne', h2'⟩
      · rfl
      · have := (ub q h3).1; have := lo j y q h2' h4; omega
    · rcases pick j y h2 with ⟨rfl, rfl⟩ | ⟨hne', h2'⟩
      · have := (ub q h4).1; have := lo i x q h1' h3; omega
      · exact h.sep i j x y q h1' h2' h3 h4
  · have hq' : some g = some q := hq
    injection hq' with hq'
    rw [hz]; omega
  · rcases pick i x h1 with ⟨rfl, rfl⟩ | ⟨hne, h1'⟩
    · have := ub q h2; rw [hz]; omega
    · have := lo i x q h1' h2; rw [hz]; omega
theorem OwnR.nils {B g n : Nat} {w : World} (h : w.ownsRow B 40 1 (.slice (some ⟨g, 0, none⟩) n n) n (List.replicate n (.slice none 0 0))) : OwnR B w.heap.size w (.slice (some ⟨g, 0, none⟩) n n) (List.replicate n (.slice none 0 0)) (List.replicate n []) := by
  have pick : ∀ (i : Nat) (u : Value), (List.replicate n (Value.slice none 0 0))[i]? = some u → u = .slice none 0 0 := fun i u hu => (List.eq_of_mem_replicate (List.mem_of_getElem? hu))
  refine ⟨by simp, by rw [List.length_replicate]; exact h, fun i u zs h1 h2 => ?_, fun i u q h1 h2 => ?_, fun i j u x q h1 h2 h3 h4 => ?_, Nat.le_refl _, fun q hq => (h.lt q hq).2, fun i u q h1 h2 => ?_⟩
  · rw [pick i u h1, List.eq_of_mem_replicate (List.mem_of_getElem? h2)]
    exact World.ownsRow_nil _ _ _ _
  · rw [pick i u h1] at h2; simp [Value.ownBlock] at h2
  · rw [pick i u h1] at h3; simp [Value.ownBlock] at h3
  · rw [pick i u h1] at h2; simp [Value.ownBlock] at h2
theorem Pt1.far {w : World} {L b o : Nat} {v : Value} (h : Pt1 w L v) (hne : L ≠ b) (u : Value) : Pt1 (w.setCell ⟨b, o, none⟩ u) L v :=
  ⟨by simpa using h.1, by rw [World.cell?_setCell_other _ _ _ _ (by intro e; injection e with e1 _; first | exact hne e1 | exact hne e1.symm)]; exact h.2⟩
def rowsT (zz : List (List Int)) (k : Nat) : List (List Int) := (zz.map revP).take k ++ List.replicate (zz.length - k) []
theorem rowsT_len {zz : List (List Int)} {k : Nat} (h : k ≤ zz.length) : (rowsT zz k).length = zz.length := by simp [rowsT]; omega
theorem rowsT_next {zz : List (List Int)} {k : Nat} (h : k < zz.length) : (rowsT zz k).set k (revP zz[k]) = rowsT zz (k + 1) := by
  unfold rowsT
  have hl : ((zz.map revP).take k).length = k := by rw [List.length_take, List.length_map]; omega
  rw [List.set_append, if_neg (by omega), hl, Nat.sub_self, List.take_succ_eq_append_getElem (by simpa using h), List.getElem_map]
  obtain ⟨m, hm⟩ : ∃ m, zz.length - k = m + 1 := ⟨zz.length - k - 1, by omega⟩
  rw [hm, List.replicate_succ, List.set_cons_zero, List.append_assoc]
  congr 2
  rw [show zz.length - (k + 1) = m by omega]; rfl
theorem rowsT_end (zz : List (List Int)) : rowsT zz zz.length = zz.map revP := by
  unfold rowsT
  rw [Nat.sub_self, List.take_of_length_le (by simp)]; simp
set_option maxRecDepth 100000 in
set_option maxHeartbeats 3200000 in
theorem implDua_no {n : Int} {v : Value} {zz : List (List Int)} {w : World} (hv : RowsAt w v zz) (h : ¬ OkP n zz) (hTz : Tz w) :
    Calls Tryd.prog 51 #[.agg #[.int .i64 n, v]] w fun e w' => RetPI 0 [] 1 w e w' := by
  obtain ⟨va, vc, rfl, hl, -⟩ := hv.anyP
  have HV := Lib.hid hv
  have TZ := Lib.hid hTz
  have HOK : Hid (OkPIs n zz false) := .inr ⟨rfl, h⟩
  have P0 : Hid (PtP ((w.alloc (.cells #[.int .i64 n, .slice va zz.length vc] 27)).alloc (.cells #[.int .i64 0, .slice none 0 0] 27)) w.heap.size n (.slice va zz.length vc)) := PtP.new1 _ _ _ _ _
  have PR : Hid (PtP ((w.alloc (.cells #[.int .i64 n, .slice va zz.length vc] 27)).alloc (.cells #[.int .i64 0, .slice none 0 0] 27)) (w.heap.size + 1) 0 (.slice none 0 0)) := by
    have h := PtP.new (w.alloc (.cells #[.int .i64 n, .slice va zz.length vc] 27)) 0 (.slice none 0 0) 27
    rw [World.size_alloc] at h
    exact h
  have FR : Hid (Fz ((w.alloc (.cells #[.int .i64 n, .slice va zz.length vc] 27)).alloc (.cells #[.int .i64 0, .slice none 0 0] 27)) (w.heap.size + 1)) := by
    have h := Fz.new (w.alloc (.cells #[.int .i64 n, .slice va zz.length vc] 27)) #[.int .i64 0, .slice none 0 0] 27
    rw [World.size_alloc] at h
    exact h
  have B0 : Hid (Below w.heap.size w ((w.alloc (.cells #[.int .i64 n, .slice va zz.length vc] 27)).alloc (.cells #[.int .i64 0, .slice none 0 0] 27))) := al1 (al1 (Below.refl _ _) _) _
  clear hv h hTz
  go_enter Tryd.func51, Tryd.ntmps51
  go_wp2_with (go_at_call 18; refine Hid.out ?_)
  refine Lib.hid ?_
  refine (implVP_is (HV.out.on B0.out) HOK.out (TZ.out.on B0.out)).mono ?_
  rintro e w1 ⟨rfl, hb1⟩
  have PR1 := Lib.hid (PR.out.on hb1)
  have FR1 : Hid (Fz w1 (w.heap.size + 1)) := Fz.on FR.out PR.out.1 hb1
  have HB1 := Lib.hid (B0.out.trans (hb1.mono B0.out.size))
  have HQ := Lib.hid (PR1.out.set2 0 (.slice none 0 0))
  clear hb1
  obtain ⟨l0, q0, q1⟩ := PR1.out
  obtain ⟨f0, f1, _, _⟩ := FR1.out.all
  go_wp2_with fail
  obtain ⟨_, r0, r1⟩ := HQ.out
  refine bodyPost_ret (v := .tuple #[.agg #[.int .i64 0, .slice none 0 0], .int .i64 1]) (by simp [results, Tryd.results51, go_sem, r0, r1]) rfl ⟨_, rfl, OwnRI.nul _ _, ?_⟩
  repeat (refine Below.setC ?_ (by omega) _)
  exact HB1.out
set_option maxRecDepth 100000 in
set_option maxHeartbeats 6400000 in
theorem implDua_ok {N : Nat} {v : Value} {zz : List (List Int)} {w : World} (hv : RowsAt w v zz) (h : OkP (N : Int) zz) (hTz : Tz w) :
    Calls Tryd.prog 51 #[.agg #[.int .i64 (N : Int), v]] w fun e w' => RetPI (N : Int) (covL (esP (zz.map revP)) N) 0 w e w' := by
  obtain ⟨i0, hi, iz0, iz1, iz2⟩ := info_parts info_r
  obtain ⟨va, vc, rfl, hl, k1⟩ := hv.anyP
  have HV := Lib.hid hv
  have TZ := Lib.hid hTz
  have K1 := Lib.hid k1
  have HO0 := Lib.hid h
  have HOK : Hid (OkPIs (N : Int) zz true) := .inl ⟨rfl, h⟩
  obtain ⟨hN, HPI⟩ : N ≤ 12 ∧ Hid (PairsIn (N : Int) zz) := by
    obtain ⟨M, e, h1, h2⟩ := h.nat
    obtain rfl : N = M := by omega
    exact ⟨h1, h2⟩
  have hz30 : zz.length ≤ 30 := by obtain ⟨_, _, _, h, _⟩ := h; exact h
  have P0 : Hid (PtP ((w.alloc (.cells #[.int .i64 (N : Int), .slice va zz.length vc] 27)).alloc (.cells #[.int .i64 0, .slice none 0 0] 27)) w.heap.size (N : Int) (.slice va zz.length vc)) := PtP.new1 _ _ _ _ _
  have PR : Hid (PtP ((w.alloc (.cells #[.int .i64 (N : Int), .slice va zz.length vc] 27)).alloc (.cells #[.int .i64 0, .slice none 0 0] 27)) (w.heap.size + 1) 0 (.slice none 0 0)) := by
    have h := PtP.new (w.alloc (.cells #[.int .i64 (N : Int), .slice va zz.length vc] 27)) 0 (.slice none 0 0) 27
    rw [World.size_alloc] at h
    exact h
  have FR : Hid (Fz ((w.alloc (.cells #[.int .i64 (N : Int), .slice va zz.length vc] 27)).alloc (.cells #[.int .i64 0, .slice none 0 0] 27)) (w.heap.size + 1)) := by
    have h := Fz.new (w.alloc (.cells #[.int .i64 (N : Int), .slice va zz.length vc] 27)) #[.int .i64 0, .slice none 0 0] 27
    rw [World.size_alloc] at h
    exact h
  have B0 : Hid (Below w.heap.size w ((w.alloc (.cells #[.int .i64 (N : Int), .slice va zz.length vc] 27)).alloc (.cells #[.int .i64 0, .slice none 0 0] 27))) := al1 (al1 (Below.refl _ _) _) _
  clear hv h k1 hTz
  go_enter Tryd.func51, Tryd.ntmps51
  go_wp2_with (go_at_call 18; refine Hid.out ?_)
  refine Lib.hid ?_
  refine (implVP_is (HV.out.on B0.out) HOK.out (TZ.out.on B0.out)).mono ?_
  rintro e w1 ⟨rfl, hb1⟩
  have P1 := Lib.hid (P0.out.on hb1)
  have PR1 := Lib.hid (PR.out.on hb1)
  have FR1 : Hid (Fz w1 (w.heap.size + 1)) := Fz.on FR.out PR.out.1 hb1
  have HB1 := Lib.hid (B0.out.trans (hb1.mono B0.out.size))
  clear hb1
  obtain ⟨lp, p0, p1⟩ := P1.out
  go_wp2_with (at_make; refine wpList_make_full _ rfl _ _ 22 rfl w1.heap.size 40 i0 (.slice none 0 0) 1 Tryd.underlying22 hi iz0 iz1 _ _ _ _ zz.length rfl rfl rfl rfl ?ah1 ?ah2 ?ah3 ?_)
  case ah1 => first | omega | (rw [iz2]; omega)
  case ah2 => unfold maxLen; omega
  try (case ah3 => simp)
  intro w2 hown hgrow
  have hb2 : Below w1.heap.size w1 w2 := (Below.refl w1.heap.size w1).grown hgrow (Nat.le_refl _) (fun k hk => by cases hk)
  have hO2 : OwnR w1.heap.size w2.heap.size w2 (.slice (some ⟨w1.heap.size, 0, none⟩) zz.length zz.length) (List.replicate zz.length (.slice none 0 0)) (List.replicate zz.length []) := by
    refine OwnR.nils ?_
    simpa [Value.cells, toList_madeCells_one] using hown
  have hgs := (hO2.row.lt w1.heap.size rfl).2
  obtain ⟨g, hgdef⟩ : ∃ g, w1.heap.size = g := ⟨_, rfl⟩
  have HGD := Lib.hid hgdef
  have P2 := Lib.hid (P1.out.on hb2)
  have HB2 := Lib.hid hb2
  obtain ⟨lp2, p02, p12⟩ := P2.out
  rw [hgdef] at hO2 hgs ⊢
  have HO2 := Lib.hid hO2
  clear hown hgrow hb2 hO2 lp p0 p1 hgdef
  go_wp2_with fail
  have AL : Hid (Below w2.heap.size w2 (w2.alloc (.cells #[.slice (some ⟨g, 0, none⟩) zz.length zz.length] 22))) := al1 (Below.refl _ _) _
  have HL3 : Hid (Pt1 (w2.alloc (.cells #[.slice (some ⟨g, 0, none⟩) zz.length zz.length] 22)) w2.heap.size (.slice (some ⟨g, 0, none⟩) zz.length zz.length)) := Pt1.new _ _ _
  have HO3 : Hid (OwnR g (w2.alloc (.cells #[.slice (some ⟨g, 0, none⟩) zz.length zz.length] 22)).heap.size (w2.alloc (.cells #[.slice (some ⟨g, 0, none⟩) zz.length zz.length] 22)) (.slice (some ⟨g, 0, none⟩) zz.length zz.length) (List.replicate zz.length (.slice none 0 0)) (rowsT zz 0)) := by
    have e : rowsT zz 0 = List.replicate zz.length [] := by simp [rowsT]
    show OwnR _ _ _ _ _ _
    rw [e]
    exact (HO2.out.on AL.out).wide AL.out.size (Nat.le_refl _)
  obtain ⟨lv, hlv⟩ : ∃ lv, w2.heap.size = lv := ⟨_, rfl⟩
  have HB3 := Lib.hid (HB2.out.trans (AL.out.mono HB2.out.size))
  have hsz3 : (w2.alloc (.cells #[.slice (some ⟨g, 0, none⟩) zz.length zz.length] 22)).heap.size = lv + 1 := by simp [hlv]
  rw [hlv] at HL3 hgs ⊢
  generalize (w2.alloc (.cells #[.slice (some ⟨g, 0, none⟩) zz.length zz.length] 22)) = W3 at HB3 HO3 HL3 hsz3 ⊢
  have n1 : lv ≠ g := by omega
  clear hlv lp2 p02 p12 hsz3 HO2 HB2 P2
  have hg1 : w.heap.size + 2 ≤ g := by have h1 := PR1.out.1; have h2 := HGD.out; omega
  go_loopw [18] (fun si wr => ∃ (i : Nat) (L : List Value), i ≤ zz.length ∧ si = .int .i64 (i : Int) ∧ Hid (OwnR g wr.heap.size wr (.slice (some ⟨g, 0, none⟩) zz.length zz.length) L (rowsT zz i)) ∧ Hid (Pt1 wr lv (.slice (some ⟨g, 0, none⟩) zz.length zz.length)) ∧ Hid (Below w1.heap.size w1 wr)) (fun i _ => zz.length - (intOf i).toNat)
  case atStart => exact ⟨0, _, Nat.zero_le _, rfl, HO3, HL3, HB3⟩
  case round =>
    clear HO3 HL3 HB3
    obtain ⟨i, L, hil, rfl, HO, HL, HB⟩ := hrel
    have j0 : 0 ≤ (i : Int) := by omega
    have hs1 := HB.out.size
    have hgr := (HO.out.row.lt g rfl).2
    have hlr := HL.out.1
    by_cases hli : i < zz.length
    · have j1 : (i : Int) < (zz.length : Int) := by omega
      obtain ⟨x, y, hzk, hed, hx, hy⟩ := HPI.out.at hli
      obtain ⟨b, o, u, rfl, hb, c1', i1'⟩ := K1.out i hli
      have hbb := HB1.out.trans (HB.out.mono HB1.out.size)
      have HNX := Lib.hid (rowsT_next hli)
      rw [hzk] at i1' HNX
      obtain ⟨tb, tq, tc, rfl, htb, kt⟩ := i1'.atP (by simp)
      have t0' := kt 0 (by simp)
      have t1' := kt 1 (by simp)
      simp only [List.getElem_cons_zero, List.getElem_cons_succ, Nat.add_zero, List.length_cons, List.length_nil, Nat.zero_add, Nat.reduceAdd] at t0' t1' c1'
      have c1 := (hbb.cell (p := ⟨b, o + i, none⟩) hb).trans c1'
      have t0 := (hbb.cell (p := ⟨tb, tq, none⟩) htb).trans t0'
      have t1 := (hbb.cell (p := ⟨tb, tq + 1, none⟩) htb).trans t1'
      obtain ⟨_, l0⟩ := HL.out
      have hLl : L.length = zz.length := by rw [HO.out.len]; exact rowsT_len (by omega)
      obtain ⟨yv, hyv⟩ : ∃ v, L[i]? = some v := ⟨_, List.getElem?_eq_getElem (by omega)⟩
      have hrow : wr.ownsRow g 40 1 (.slice (some ⟨g, 0, none⟩) zz.length zz.length) zz.length L := by have := HO.out.row; rwa [rowsT_len hil] at this
      have c2 : wr.cell? ⟨g, i, none⟩ = some yv := by
        rw [World.ownsRow.cellAt hrow i (by omega)]; exact hyv
      have c3 : wr.frozen? ⟨g, i, none⟩ = false := hrow.frozenAt i
      have A2 : Below wr.heap.size wr (wr.alloc (.cells #[.int .i64 (y : Int), .int .i64 (x : Int)] 2)) := al1 (Below.refl _ _) _
      have c4 := (A2.cell (p := ⟨g, i, none⟩) hgr).trans c2
      have c5 := (A2.frozen (p := ⟨g, i, none⟩) hgr).trans c3
      have HO5 := Lib.hid (HO.out.put (k := i) (rowsT_len hil) (ownI_two wr (y : Int) (x : Int)) A2 (by omega) hli)
      have HL5 := Lib.hid ((HL.out.on A2).far n1 (.slice (some ⟨wr.heap.size, 0, none⟩) 2 2) (o := i))
      have HB5 : Hid (Below w1.heap.size w1 ((wr.alloc (.cells #[.int .i64 (y : Int), .int .i64 (x : Int)] 2)).setCell ⟨g, i, none⟩ (.slice (some ⟨wr.heap.size, 0, none⟩) 2 2))) := (HB.out.alloc hs1 _).setCell (p := ⟨g, i, none⟩) (by have := HGD.out; show w1.heap.size ≤ g; omega) _
      have hbW : tb < wr.heap.size := Nat.lt_of_lt_of_le htb hbb.size
      have m1 : ¬ wr.heap.size = tb := by omega
      have m2 : ¬ wr.heap.size = lv := by omega
      have m3 : ¬ g = lv := fun e => n1 e.symm
      have m4 : ¬ wr.heap.size = g := by omega
      have m5 : ¬ g = wr.heap.size := by omega
      have m6 : ¬ g = tb := by omega
      clear c1' i1' kt hzk hed hbb t0' t1' hLl hyv hrow HO
      go_wp2_with fail
      go_region_held3 (fun w' => w'.cell? ⟨lv, 0, none⟩ = some (.slice (some ⟨g, 0, none⟩) zz.length zz.length) ∧ w'.cell? ⟨tb, tq, none⟩ = some (.int .i64 (x : Int)) ∧ w'.cell? ⟨tb, tq + 1, none⟩ = some (.int .i64 (y : Int))) (go_keep) (fail)
      have HWE : ((wr.alloc (.cells #[.int .i64 (y : Int), .int .i64 (x : Int)] 2)).setCell ⟨g, i, none⟩ (.slice (some ⟨wr.heap.size, 0, none⟩) 2 2)) = ((wr.setCell ⟨g, i, none⟩ (.slice (some ⟨wr.heap.size, 0, none⟩) 2 2)).alloc (.cells #[.int .i64 (y : Int), .int .i64 (x : Int)] 2)) := by go_simp
      rw [HWE] at HO5 HL5 HB5
      rw [show revP [(x : Int), (y : Int)] = [(y : Int), (x : Int)] from rfl] at HNX
      have HO6 := Lib.hid HO5.out
      rw [HNX.out] at HO6
      have HOX := Lib.hid (HO6.out.on (Below.refl _ _).drew)
      clear c2 c3 c4 c5 m1 m2 m3 m4 m5 m6 A2 l0 t0 t1 c1 HWE HO5
      go_wp2_with fail
      go_roundw
      case rel => exact ⟨i + 1, _, by omega, by go_num, HO6.out.on (Below.refl _ _).drew, HL5.out.on (Below.refl _ _).drew, HB5.out.drew⟩
      case measure => simp [intOf]; omega
    · have hiN : i = zz.length := by omega
      obtain ⟨_, l0⟩ := HL.out
      have ho : OwnR g wr.heap.size wr (.slice (some ⟨g, 0, none⟩) (zz.map revP).length zz.length) L (zz.map revP) := by
        have h := HO.out
        rw [hiN, rowsT_end] at h
        rw [List.length_map]; exact h
      have hso := sortRows_any (Bl := lv) ho (by rw [List.length_map]; exact l0) n1 HL.out.1 (by rw [List.length_map]; omega) (fun z hz => by
        obtain ⟨q, _, rfl⟩ := List.mem_map.1 hz
        exact ⟨by simp [revP], rfl⟩)
      rw [List.length_map] at hso
      obtain ⟨kt, hkt⟩ : ∃ kt : Int, kt = (i : Int) := ⟨_, rfl⟩
      have hk10 : ¬ kt < (zz.length : Int) := by omega
      rw [← hkt]
      clear ho HO j0 hli hkt hil hiN i
      go_wp2_with fail
      refine hso.mono ?_
      rintro e w6 ⟨rfl, L', ys, hp, hsd, ho6, hg6⟩
      have hyl : ys.length = zz.length := by rw [hp.length_eq, List.length_map]
      have hb6 : Below w1.heap.size w1 w6 := HB.out.grown hg6 hs1 (fun q hq => by cases hq; have := HGD.out; omega)
      have l6c : w6.cell? ⟨lv, 0, none⟩ = some (.slice (some ⟨g, 0, none⟩) zz.length zz.length) := by rw [World.cell?_of_block (hg6.block lv hlr (fun e => n1 (by injection e)))]; exact l0
      have hdl := dual_sorted HO0.out hp hsd
      have P6 := Lib.hid (P1.out.on hb6)
      have PR6 := Lib.hid (PR1.out.on hb6)
      have FR6 : Hid (Fz w6 (w.heap.size + 1)) := Fz.on FR1.out PR1.out.1 hb6
      have HB6 := Lib.hid (HB1.out.trans (hb6.mono HB1.out.size))
      have HOY : Hid (OwnRI g w6 (.slice (some ⟨g, 0, none⟩) zz.length zz.length) (covL (esP (zz.map revP)) N)) := by
        have h : OwnRI g w6 (.slice (some ⟨g, 0, none⟩) ys.length zz.length) ys := ⟨L', ho6⟩
        rw [hyl, hdl] at h
        exact h
      have HQ := Lib.hid (PR6.out.set2 (N : Int) (.slice (some ⟨g, 0, none⟩) zz.length zz.length))
      obtain ⟨_, p0, p1⟩ := P6.out
      obtain ⟨l00, q0, q1⟩ := PR6.out
      obtain ⟨f0, f1, _, _⟩ := FR6.out.all
      clear hso ho6 hp hsd hg6 hyl l0 hdl hb6
      go_wp2_with fail
      obtain ⟨_, r0, r1⟩ := HQ.out
      refine bodyPost_ret (v := .tuple #[.agg #[.int .i64 (N : Int), .slice (some ⟨g, 0, none⟩) zz.length zz.length], .int .i64 0]) (by simp [results, Tryd.results51, go_sem, r0, r1]) rfl ⟨_, rfl, ?_, ?_⟩
      · refine OwnRI.mono (B := g) ?_ (by omega)
        repeat (refine OwnRI.setOut ?_ (by omega) _)
        exact HOY.out
      · repeat (refine Below.setC ?_ (by omega) _)
        exact HB6.out
theorem implDua_is {n : Int} {v : Value} {zz : List (List Int)} {m : Int} {yy : List (List Int)} {k : Int} {w : World} (hv : RowsAt w v zz) (h : DuaIs n zz m yy k) (hTz : Tz w) :
    Calls Tryd.prog 51 #[.agg #[.int .i64 n, v]] w fun e w' => RetPI m yy k w e w' := by
  rcases h with ⟨ho, rfl, rfl, rfl⟩ | ⟨N, rfl, ho, rfl, rfl, rfl⟩
  · exact implDua_no hv ho hTz
  · exact implDua_ok hv ho hTz
end Go.Proofs.YtochcpaahibijaaDoor
