/-
  ClosureOf of the program.
-/
import Derived.Test.YtibdcejglkhcfaaGreatDoorCxX
import Derived.Test.YtibdcejglkhcfaaGreatDoorCxW
import Derived.Test.YtibdcejglkhcfaaGreatDoorCxB
import Derived.Test.YtibdcejglkhcfaaGreatDoorCyA
import Derived.Maps.Own
namespace Go.Proofs.YtibdcejglkhcfaaGreatDoor
open Go.RowKit Go.Maps
set_option linter.unusedVariables false
set_option linter.unusedSimpArgs false

def DU {H : Type} (ms : List Nat) : DataW H := Maps.setOf (.lit (.bool true)) (ms.map fun (f : Nat) => Lit.int .u16 (f : Int))
theorem DU_snoc {H : Type} (ms : List Nat) (f : Nat) : DU (H := H) (ms ++ [f]) = (DU ms).put (.int .u16 (f : Int)) (.lit (.bool true)) := by
  unfold DU; rw [List.map_append]; exact Maps.setOf_snoc _ _ _
theorem has_DU {H : Type} (ms : List Nat) (x : Int) : has (DU (H := H) ms) (.int .u16 x) = true ↔ ∃ f ∈ ms, ((f : Nat) : Int) = x := by
  unfold DU
  rw [Maps.has_setOf _ _ _ (fun y hy => by obtain ⟨f, _, rfl⟩ := List.mem_map.1 hy; trivial)]
  simp [Lit.sameKey]
def MU (w : World) (mb : Nat) (ms : List Nat) : Prop := w.ownsMap Tryz.prog 68 (plainElem Tryz.prog 4) mb ms.length (DU (H := Unit) ms)
theorem MU.out {w : World} {mb : Nat} {ms : List Nat} (h : MU w mb ms) : w.ownsMap Tryz.prog 68 (plainElem Tryz.prog 4) mb ms.length (DU (H := Unit) ms) := h
theorem MU.lt {w : World} {mb : Nat} {ms : List Nat} (h : MU w mb ms) : mb < w.heap.size := World.ownsMap.lt h
theorem MU.on {w w' : World} {mb : Nat} {ms : List Nat} (h : MU w mb ms) (hb : Below w.heap.size w w') : MU w' mb ms := by
  have hbl := h.lt
  obtain ⟨es, clock, hc, Ft, hs, hD⟩ := h
  exact ⟨es, clock, (hb.block mb hbl).trans hc, Ft, hs, hD⟩
theorem MU.put {w : World} {mb : Nat} {ms : List Nat} {f : Nat} (h : w.ownsMap Tryz.prog 68 (plainElem Tryz.prog 4) mb (ms.length + 1) ((DU (H := Unit) ms).put (.int .u16 (f : Int)) (.lit (.bool true)))) : MU w mb (ms ++ [f]) := by
  unfold MU; rw [DU_snoc, List.length_append]; exact h
theorem wf_u16 {f : Nat} (hf : f < 65536) : (Lit.int .u16 (f : Int)).wf = true := by
  simp only [Lit.wf, Bool.and_eq_true, decide_eq_true_eq]; rw [show IntKind.u16.min = 0 from rfl, show IntKind.u16.max = 65535 from rfl]; omega
theorem key_u16 {f : Nat} (hf : f < 1024) : keyOf Tryz.prog 68 (.int .u16 (f : Int)) = some (.int .u16 (f : Int)) :=
  keyOf_int_mk Tryz.underlying68 (wf_u16 (by omega))
theorem IntsAt.at1 {w : World} {v : Value} {l : List Int} (h : IntsAt w v l) (h0 : 0 < l.length) : ∃ b o c, v = .slice (some ⟨b, o, none⟩) l.length c ∧ b < w.heap.size ∧ ∀ j (h : j < l.length), w.cell? ⟨b, o + j, none⟩ = some (.int .i64 l[j]) := by
  obtain ⟨a, c, rfl, hl, ha⟩ := h
  rcases ha with h' | ⟨b, o, rfl, hb, k1⟩
  · subst h'; simp at h0
  · exact ⟨b, o, c, rfl, hb, k1⟩
theorem OwnU.at1 {B : Nat} {w : World} {v : Value} {fs : List Nat} (h : OwnU B w v fs) (h0 : 0 < fs.length) : ∃ g cap, v = .slice (some ⟨g, 0, none⟩) fs.length cap ∧ B ≤ g := by
  obtain ⟨hx, ⟨rfl, hn⟩ | ⟨g, cap, cur, rfl, hB, hcur, r⟩⟩ := h
  · omega
  · exact ⟨g, cap, rfl, hB⟩
theorem OwnU.slice {B : Nat} {w : World} {v : Value} {fs : List Nat} (h : OwnU B w v fs) : ∃ a cap, v = .slice a fs.length cap := by
  obtain ⟨hx, ⟨rfl, hn⟩ | ⟨g, cap, cur, rfl, hB, hcur, r⟩⟩ := h
  · exact ⟨none, 0, by rw [hn]⟩
  · exact ⟨_, cap, rfl⟩
theorem OwnU.cell {B g n cap : Nat} {w : World} {fs : List Nat} (h : OwnU B w (.slice (some ⟨g, 0, none⟩) n cap) fs) (hn : n = fs.length) {j : Nat} (hj : j < fs.length) : w.cell? ⟨g, j, none⟩ = some (.int .u16 (fs[j] : Int)) := by
  subst hn
  rw [World.ownsRow.cellAt h.out j (by omega)]
  simp [uv, hj]
theorem OwnU.kept {B : Nat} {w w' : World} {v : Value} {fs : List Nat} {row : Option Nat} (h : OwnU B w v fs) (hg : w.grownBy w' row) (hne : v.ownBlock ≠ row) : OwnU B w' v fs := World.ownsRow.kept h.out hg (.inr hne)
theorem nats_of {ss : List Int} {ms : List Nat} (hn : ss.Nodup) (hm : ∀ x, x ∈ ss ↔ ∃ f ∈ ms, ((f : Nat) : Int) = x) : ∃ fs : List Nat, ss.map (Value.int .u16) = uv fs ∧ ss.length = fs.length ∧ fs.Nodup ∧ ∀ f, f ∈ fs ↔ f ∈ ms := by
  have hp : ∀ x ∈ ss, ((x.toNat : Nat) : Int) = x := fun x hx => by obtain ⟨f, _, e⟩ := (hm x).1 hx; omega
  refine ⟨ss.map Int.toNat, ?_, by simp, ?_, fun f => ?_⟩
  · unfold uv; rw [List.map_map]; exact List.map_congr_left fun x hx => by show _ = Value.int .u16 _; rw [hp x hx]
  · refine List.pairwise_map.2 (List.Pairwise.imp_of_mem (fun {a b} ha hb hab e => hab ?_) hn)
    rw [← hp a ha, ← hp b hb, e]
  · rw [List.mem_map]
    constructor
    · rintro ⟨x, hx, rfl⟩
      obtain ⟨f, hf, e⟩ := (hm x).1 hx
      rw [← e]; exact hf
    · intro hf; exact ⟨(f : Int), (hm _).2 ⟨f, hf, rfl⟩, by simp⟩
theorem facM_pos {s : List Int} (h : Sim s) : 0 < (facM s).length := by
  have := (mem_facM h (x := s)).2 ⟨fun e => by have := h.pos; rw [e] at this; simp at this, List.Sublist.refl s⟩
  obtain ⟨f, hf, _⟩ := List.mem_map.1 this
  exact List.length_pos_of_mem hf
theorem complexOf_any {B : Nat} {v : Value} {fs : List Nat} {w : World} (ho : OwnU B w v fs) (hf : ∀ f ∈ fs, f < 1024 ∧ f ≠ 0) (hl : fs.length ≤ 1048576) (hTz : Tz w) :
    Calls Tryz.prog 42 #[v] w fun e w' => RetCx fs w e w' := by
  by_cases h : 48 < fs.length
  · obtain ⟨a, c, rfl⟩ := ho.slice
    exact complexOf_long h hl rfl
  · have ho' := ho
    obtain ⟨hx, ⟨rfl, hn⟩ | ⟨g, cap, cur, rfl, hB, hcur, r⟩⟩ := ho
    · have := complexOf_some (a := none) (c := 0) (w := w) (by omega) hf (fun j hj => by omega) hTz
      rwa [hn] at this
    · exact complexOf_some (by omega) hf (fun j hj => ⟨g, 0, rfl, (Array.getElem?_eq_some_iff.1 hcur).1, by rw [Nat.zero_add]; exact ho'.cell rfl hj⟩) hTz
def RetClo (yy : List (List Int)) (c : Int) (w : World) (e : Ending) (w' : World) : Prop :=
  ∃ v, e = .returned (.tuple #[.agg #[v], .int .i64 c]) ∧ OwnRI w.heap.size w' v yy ∧ Below w.heap.size w w'
theorem keysU_any (mb : Option Nat) (w : World) :
    Calls Tryz.prog 44 #[.map mb] w fun e w' => e = .returned (.func (.func 95) #[] #[.pointer (some ⟨w.heap.size, 0, none⟩)]) ∧ w' = w.alloc (.cells #[.map mb] 63) :=
  (callsIn_wide (n := 6)).1 (keysU_in Fence.wide 6 trivial rfl mb w)
set_option maxRecDepth 100000 in
set_option maxHeartbeats 6400000 in
theorem implClo_any {a : Option Addr} {c : Nat} {zz yy : List (List Int)} {cc : Int} {w : World} (hl : zz.length ≤ 1048576)
    (k1 : ∀ i (h : i < zz.length), ∃ b o u, a = some ⟨b, o, none⟩ ∧ b < w.heap.size ∧ w.cell? ⟨b, o + i, none⟩ = some u ∧ IntsAt w u zz[i]) (hC : CloIs zz yy cc) (hTz : Tz w) :
    Calls Tryz.prog 121 #[.slice a zz.length c] w fun e w' => RetClo yy cc w e w' := by
  have hmm := @run_makeMap Tryz.prog
  have K1 := Lib.hid k1
  have HC := Lib.hid hC
  have TZ := Lib.hid hTz
  clear k1 hC hTz
  go_enter Tryz.func121, Tryz.ntmps121
  go_wp2_with fail
  have hR0 := PtC.new w (.slice none 0 0) 27
  have hZ0 : (w.alloc (.cells #[.slice none 0 0] 27)).frozen? ⟨w.heap.size, 0, none⟩ = false := World.frozen?_alloc_new w _ _ _
  have hB0 : Below w.heap.size w (w.alloc (.cells #[.slice none 0 0] 27)) := (Below.refl _ w).alloc (Nat.le_refl _) _
  generalize hW : World.alloc w (.cells #[.slice none 0 0] 27) = W0 at hR0 hZ0 hB0 ⊢
  have HR0 := Lib.hid hR0
  have HZ0 := Lib.hid hZ0
  have HB0 := Lib.hid hB0
  clear hW hR0 hZ0 hB0
  go_loopw [13] (fun si wr => ∃ (k : Nat), k ≤ zz.length ∧ si = .int .i64 (k : Int) ∧ Hid (∀ j (h : j < zz.length), j < k → simB zz[j] = true) ∧ Hid (PtC wr w.heap.size (.slice none 0 0)) ∧ Hid (wr.frozen? ⟨w.heap.size, 0, none⟩ = false) ∧ Hid (Below w.heap.size w wr)) (fun i _ => zz.length - (intOf i).toNat)
  case atStart => exact ⟨0, Nat.zero_le _, rfl, fun j _ hj => absurd hj (Nat.not_lt_zero j), HR0, HZ0, HB0⟩
  case round =>
    clear HR0 HZ0 HB0
    obtain ⟨k, hk, rfl, HS, HR, HZ, HB⟩ := hrel
    have hz := HZ.out
    obtain ⟨hrl, hr⟩ := HR.out
    by_cases hlt : k < zz.length
    · obtain ⟨b, o, u, rfl, hb, c1', i1'⟩ := K1.out k hlt
      have c1 : wr.cell? ⟨b, o + k, none⟩ = some u := (HB.out.cell (p := ⟨b, o + k, none⟩) hb).trans c1'
      have I1 := Lib.hid (i1'.on HB.out)
      clear c1' i1'
      have i0 : 0 ≤ (k : Int) := by omega
      have i1 : (k : Int) < (zz.length : Int) := by omega
      obtain ⟨s, hs⟩ : ∃ s, zz[k] = s := ⟨_, rfl⟩
      rw [hs] at I1
      have HSK := Lib.hid hs
      clear hs
      by_cases hv : simB s = true
      · go_wp2_with (go_at_call 161; refine (implSim_is I1.out hv).mono ?_; rintro e w' ⟨rfl, n, rfl⟩)
        go_roundw
        case rel =>
          refine ⟨k + 1, by omega, by go_num, ?_, HR.out.drewN n, HZ.out, below_drewX HB.out n⟩
          intro j hj hjk
          by_cases e : j = k
          · subst e; rw [HSK.out]; exact hv
          · exact HS.out j hj (by omega)
        case measure => simp [intOf]; omega
      · have hv' : simB s = false := by simpa using hv
        go_wp2_with (go_at_call 161; refine (implSim_is I1.out hv').mono ?_; rintro e w' ⟨rfl, n, rfl⟩)
        have hc : yy = [] ∧ cc = 1 := by
          have hsv : simsB zz = false := by
            cases g : simsB zz with
            | false => rfl
            | true => exact absurd (sim_iff.2 (simsB_iff.1 g s (by rw [← HSK.out]; exact List.getElem_mem hlt))) hv
          rcases HC.out with ⟨_, r⟩ | ⟨h, _⟩ | ⟨h, _⟩
          · exact r
          · rw [hsv] at h; cases h
          · rw [hsv] at h; cases h
        obtain ⟨rfl, rfl⟩ := hc
        refine bodyPost_ret (v := .tuple #[.agg #[.slice none 0 0], .int .i64 1]) (by simp [results, Tryz.results121, go_sem, hr]) rfl ⟨_, rfl, OwnRI.nul _ _, ?_⟩
        exact (below_drewX HB.out n).setCell (p := ⟨w.heap.size, 0, none⟩) (Nat.le_refl _) _
    · obtain rfl : k = zz.length := by omega
      have hv : simsB zz = true := by unfold simsB; rw [List.all_eq_true]; intro s hs; obtain ⟨j, hj, rfl⟩ := List.getElem_of_mem hs; exact HS.out j hj hj
      have HV := Lib.hid (simsB_iff.1 hv)
      clear hlt
      by_cases h48 : 48 < zz.length
      · have h1 : (48 : Int) < (zz.length : Int) := by omega
        have hc : yy = [] ∧ cc = 5 := by
          rcases HC.out with ⟨h, _⟩ | ⟨_, _, r⟩ | ⟨_, h, _⟩
          · rw [hv] at h; cases h
          · exact r
          · omega
        obtain ⟨rfl, rfl⟩ := hc
        go_wp2_with fail
        refine bodyPost_ret (v := .tuple #[.agg #[.slice none 0 0], .int .i64 5]) (by simp [results, Tryz.results121, go_sem, hr]) rfl ⟨_, rfl, OwnRI.nul _ _, ?_⟩
        exact HB.out.setCell (p := ⟨w.heap.size, 0, none⟩) (Nat.le_refl _) _
      · have h1 : ¬ (48 : Int) < (zz.length : Int) := by omega
        have hal := allM_len HV.out
        clear hk
        go_wp2_with fail
        have hM0 : MU (wr.alloc (.map #[] 0)) wr.heap.size [] := World.ownsMap_made _ _ _ _
        have hR3 := HR.out.on ((Below.refl wr.heap.size wr).alloc (Nat.le_refl _) (.map #[] 0))
        have hZ3 : (wr.alloc (.map #[] 0)).frozen? ⟨w.heap.size, 0, none⟩ = false := by rw [((Below.refl wr.heap.size wr).alloc (Nat.le_refl _) _).frozen (p := ⟨w.heap.size, 0, none⟩) hrl]; exact hz
        have hB3 := al1 HB.out (.map #[] 0)
        obtain ⟨mb, hmb⟩ : ∃ mb, wr.heap.size = mb := ⟨_, rfl⟩
        rw [hmb] at hM0 hrl ⊢
        generalize World.alloc wr (.map #[] 0) = W3 at hM0 hR3 hZ3 hB3 ⊢
        have HM3 := Lib.hid hM0
        have HB3 := Lib.hid hB3
        have HR3 := Lib.hid hR3
        have HZ3 := Lib.hid hZ3
        clear hM0 hR3 hZ3 hB3 hr hz HR HZ HB HS hmb h1 hmm
        have hmw := hrl
        clear hrl
        go_loopw [29] (fun si wr => ∃ (k : Nat), k ≤ zz.length ∧ si = .int .i64 (k : Int) ∧ Hid (MU wr mb (allM (zz.take k))) ∧ Hid (PtC wr w.heap.size (.slice none 0 0)) ∧ Hid (wr.frozen? ⟨w.heap.size, 0, none⟩ = false) ∧ Hid (Below w.heap.size w wr)) (fun i _ => zz.length - (intOf i).toNat)
        case atStart => exact ⟨0, Nat.zero_le _, rfl, by simpa [allM] using HM3, HR3, HZ3, HB3⟩
        case round =>
          clear HM3 HR3 HZ3 HB3
          obtain ⟨k, hk, rfl, HM, HR, HZ, HB⟩ := hrel
          by_cases hlt : k < zz.length
          · obtain ⟨b, o, u, rfl, hb, c1', i1'⟩ := K1.out k hlt
            have c1 : wr.cell? ⟨b, o + k, none⟩ = some u := (HB.out.cell (p := ⟨b, o + k, none⟩) hb).trans c1'
            have hI1 := i1'.on HB.out
            clear c1' i1'
            have i0 : 0 ≤ (k : Int) := by omega
            have i1 : (k : Int) < (zz.length : Int) := by omega
            have hsk := HV.out _ (List.getElem_mem hlt)
            have hnx := allM_take hlt
            have hml : (allM (zz.take k)).length ≤ 720 := by
              have := allM_len (zz := zz.take k) fun s hs => HV.out s (List.mem_of_mem_take hs)
              rw [List.length_take] at this; omega
            obtain ⟨s, hs⟩ : ∃ s, zz[k] = s := ⟨_, rfl⟩
            rw [hs] at hI1 hsk hnx
            clear hs
            have hm := maskOf_lt s (fun v hv => hsk.bd v hv)
            obtain ⟨sb, so, sc, rfl, hsb, k1s⟩ := hI1.at1 hsk.pos
            have hset := setOf_some (c := sc) (by have := hsk.le; omega) hsk.bd k1s
            have hl15 : (facM s).length ≤ 15 := subM_len hm hsk.four
            have hpos := facM_pos hsk
            have hfl : Hid (∀ f ∈ facM s, f < 1024) := fun f hf => (facM_lt hsk hf).1
            have hfa := fun w => faces_any hm hsk.four w
            have hfu : subM (maskOf s) = facM s := rfl
            rw [hfu] at hfa
            generalize facM s = fs at hnx hl15 hpos hfl hfa
            have HNX := Lib.hid hnx
            clear hnx hfu hI1 k1s hm hsk
            go_wp2_with (first | (go_at_call 47; refine hset.mono ?_; rintro e w' ⟨rfl, rfl⟩) | (go_at_call 162; refine (hfa _).mono ?_; rintro e w5 ⟨u, rfl, ho5, hb5⟩; obtain ⟨g, uc, rfl, hgB⟩ := ho5.at1 hpos))
            have hsr := HR.out.1
            have hml2 := HM.out.lt
            have HM5 := Lib.hid (HM.out.on hb5)
            have HB5 := Lib.hid (HB.out.trans (hb5.mono HB.out.size))
            have HR5 := Lib.hid (HR.out.on hb5)
            have HZ5 : Hid (w5.frozen? ⟨w.heap.size, 0, none⟩ = false) := (hb5.frozen (p := ⟨w.heap.size, 0, none⟩) hsr).trans HZ.out
            have hgm : g ≠ mb := by omega
            generalize wr.heap.size = B5 at ho5
            have HO5 := Lib.hid ho5
            clear hset hfa ho5 hb5 HM HR HZ HB c1 hsb hgB hml2 hsr
            generalize allM (zz.take k) = ms at HM5 HNX hml
            go_loopw [37] (fun si wr => ∃ (j : Nat), j ≤ fs.length ∧ si = .int .i64 (j : Int) ∧ Hid (MU wr mb (ms ++ fs.take j)) ∧ Hid (OwnU B5 wr (.slice (some ⟨g, 0, none⟩) fs.length uc) fs) ∧ Hid (PtC wr w.heap.size (.slice none 0 0)) ∧ Hid (wr.frozen? ⟨w.heap.size, 0, none⟩ = false) ∧ Hid (Below w.heap.size w wr)) (fun i _ => fs.length - (intOf i).toNat)
            case atStart => exact ⟨0, Nat.zero_le _, rfl, by simpa using HM5, HO5, HR5, HZ5, HB5⟩
            case round =>
              clear HM5 HO5 HR5 HZ5 HB5
              obtain ⟨j, hj, rfl, HM, HO, HR, HZ, HB⟩ := hrel
              by_cases hlj : j < fs.length
              · have c2 := HO.out.cell rfl hlj
                have hf1 := hfl.out _ (List.getElem_mem hlj)
                have ht : ms ++ fs.take (j + 1) = (ms ++ fs.take j) ++ [fs[j]] := by rw [List.take_succ_eq_append_getElem hlj, List.append_assoc]
                obtain ⟨f, hf⟩ : ∃ f, fs[j] = f := ⟨_, rfl⟩
                rw [hf] at c2 hf1 ht
                have HT := Lib.hid ht
                clear hf ht
                have j0 : 0 ≤ (j : Int) := by omega
                have j1 : (j : Int) < (fs.length : Int) := by omega
                have hln : (ms ++ fs.take j).length < maxLen := by rw [List.length_append, List.length_take]; unfold maxLen; omega
                go_wp2_with (at_mapUpdate; refine wpList_mapUpdate_own _ rfl _ _ _ 63 rfl 68 4 (int_keyed Tryz.underlying68) Tryz.underlying63 (plainElem Tryz.prog 4) mb (ms ++ fs.take j).length _ rfl HM.out.out hln _ _ (.int .u16 (f : Int)) rfl rfl (key_u16 hf1) (.lit (.bool true)) [] (plainElem_bool Tryz.underlying4 true) ?_; intro w1 hown1 hgrow1)
                have n1 : w.heap.size ≠ mb := by omega
                go_roundw
                case rel =>
                  refine ⟨j + 1, by omega, by go_num, ?_, HO.out.kept hgrow1 (by simp [Value.ownBlock]; exact hgm), ?_, ?_, ?_⟩
                  · rw [HT.out]; exact MU.put hown1
                  · exact ⟨Nat.lt_of_lt_of_le HR.out.1 hgrow1.size, by rw [World.cell?_of_block (hgrow1.block w.heap.size HR.out.1 (fun e => n1 (by injection e)))]; exact HR.out.2⟩
                  · show _ = _
                    rw [World.frozen?_of_block (hgrow1.block w.heap.size HR.out.1 (fun e => n1 (by injection e)))]; exact HZ.out
                  · exact HB.out.grown hgrow1 HB.out.size (fun q hq => by cases hq; omega)
                case measure => simp [intOf]; omega
              · obtain rfl : j = fs.length := by omega
                rw [List.take_length] at HM
                go_wp2_with fail
                go_roundw
                case rel => exact ⟨k + 1, by omega, by go_num, by rw [HNX.out]; exact HM, HR, HZ, HB⟩
                case measure => simp [intOf]; omega
          · obtain rfl : k = zz.length := by omega
            rw [List.take_length] at HM
            have hsz : Maps.size (DU (H := Unit) (allM zz)) ≤ 1048576 := Nat.le_trans (World.ownsMap.size_le HM.out.out) (by omega)
            have hb0 : Below wr.heap.size wr (wr.alloc (.cells #[.map (some mb)] 63)) := (Below.refl wr.heap.size wr).alloc (Nat.le_refl _) _
            have hB4 := al1 HB.out (.cells #[.map (some mb)] 63)
            have hP4 := PtC.new wr (.map (some mb)) 63
            have hM4 := HM.out.on hb0
            have hR4 := HR.out.on hb0
            have hZ4 := (hb0.frozen (p := ⟨w.heap.size, 0, none⟩) HR.out.1).trans HZ.out
            have hcol := collectU_any hP4.1 hP4.2 hM4.out hsz
            clear hlt hk
            go_wp2_with (first | (go_at_call 44; refine (keysU_any _ _).mono ?_; rintro e w' ⟨rfl, rfl⟩) | (go_at_call 43; refine hcol.mono ?_; rintro e w6 ⟨v, ss, rfl, ⟨hnd, hss⟩, hrow, hb6⟩; obtain ⟨fs, e1, e2, hn, hm⟩ := nats_of hnd (fun x => (hss x).trans (has_DU _ x)); rw [e1, e2] at hrow; clear hnd hss e1 e2))
            refine (complexOf_any hrow (fun f hf => allM_lt HV.out ((hm f).1 hf)) (Nat.le_trans (List.Nodup.length_le_of_subset hn (fun f hf => (hm f).1 hf)) (by omega)) ((TZ.out.on hB4).on hb6)).mono ?_
            rintro e w7 ⟨v7, y7, c7, rfl, ho7, hb7, hc7⟩
            have hb67 := hb6.trans (hb7.mono hb6.size)
            obtain ⟨_, l7⟩ := hR4.on hb67
            have z7 := (hb67.frozen (p := ⟨w.heap.size, 0, none⟩) hR4.1).trans hZ4
            have hyc : y7 = yy ∧ c7 = cc := by
              rcases hc7 with ⟨h1, h2, h3⟩ | ⟨h1, h2, hp, hs⟩
              · have hlc := (sets_perm HV.out hn hm).length_eq
                rw [List.length_map] at hlc
                exact CloIs.one (.inr (.inl ⟨hv, .inr (by omega), h2, h3⟩)) HC.out
              · have hq := sets_clo HV.out hn hm hp hs
                have hlc := (sets_perm HV.out hn hm).length_eq
                rw [List.length_map] at hlc
                exact CloIs.one (.inr (.inr ⟨hv, by omega, by omega, hq, h2⟩)) HC.out
            obtain ⟨rfl, rfl⟩ := hyc
            clear hcol hrow
            have HO7 := Lib.hid ho7
            obtain ⟨va, vc, rfl⟩ := ho7.slice
            clear ho7 hc7
            go_wp2_with fail
            have hs6 : w.heap.size ≤ w6.heap.size := Nat.le_trans hB4.size hb6.size
            refine bodyPost_ret (v := .tuple #[.agg #[.slice va y7.length vc], .int .i64 c7]) (by simp [results, Tryz.results121, go_sem, l7]) rfl ⟨_, rfl, OwnRI.mono (OwnRI.setOut HO7.out (by have := HR.out.1; have := hb6.size; simp at this; omega) _) hs6, (hB4.trans (hb67.mono hB4.size)).setCell (p := ⟨w.heap.size, 0, none⟩) (Nat.le_refl _) _⟩
end Go.Proofs.YtibdcejglkhcfaaGreatDoor
