/-
  Slices of texts: the laws' own helpers: equality and marks.
-/
import Derived.Test.YtjgajnhefhgpkaaDoorSpecSplit
import Derived.Test.YtjgajnhefhgpkaaDoorDec
import Derived.Laws.Concat
import Derived.Deep.RegionHeld3
import Derived.Outline
namespace Go.Proofs.YtjgajnhefhgpkaaDoor
open Go.RowKit
set_option linter.unusedVariables false

/-- The mark with a number. -/
def mk (k : Nat) : List UInt8 := 109 :: (revD k).reverse
theorem szl (t : ByteArray) : t.size = t.data.toList.length := by rw [Array.length_toList]; rfl
theorem appl (s t : ByteArray) : (s ++ t).data.toList = s.data.toList ++ t.data.toList := by simp [ByteArray.data_append]
theorem str_eta' (t : ByteArray) (l : List UInt8) (h : t.data.toList = l) : (⟨l.toArray⟩ : ByteArray) = t := by
  subst h; obtain ⟨⟨x⟩⟩ := t; rfl
/-- How a call ends that hands back one text. -/
def RetB (w : World) (l : List UInt8) (e : Ending) (w' : World) : Prop := e = .returned (.string ⟨l.toArray⟩) ∧ Below w.heap.size w w'
set_option maxHeartbeats 400000 in
set_option maxRecDepth 100000 in
theorem markText_any (k : Nat) (w : World) (h0 : 1 ≤ k) (h1 : k ≤ 2097153) :
    Calls Tryd.prog 50 #[.int .i64 (k : Int)] w fun e w' => RetB w (mk k) e w' := by
  have H7 := Lib.hid (revD_len 7 k (by omega))
  have hk0 : ¬ (k : Int) ≤ 0 := by omega
  go_enter Tryd.func50, Tryd.ntmps50
  go_wp2
  go_loopw [0, 3] (fun kv o wr => ∃ (m : Nat) (t : ByteArray), m ≤ 2097153 ∧ kv = .int .i64 (m : Int) ∧ o = .string t ∧ Hid ((revD m).reverse ++ t.data.toList = (revD k).reverse) ∧ Below w.heap.size w wr) (fun kv _ _ => (intOf kv).toNat)
  case atStart => exact ⟨k, ⟨#[]⟩, h1, rfl, rfl, by show _ ++ [] = _; rw [List.append_nil], Below.refl _ _⟩
  case round =>
    obtain ⟨m, t, hm, rfl, rfl, ht, hb⟩ := hrel
    have hts : t.size ≤ 7 := by
      have e := congrArg List.length ht.out
      rw [List.length_append, List.length_reverse, List.length_reverse, ← szl] at e
      have := H7.out
      omega
    by_cases hz : m = 0
    · have HT : Hid (t.data.toList = (revD k).reverse) := by have e := ht.out; rw [hz, revD_zero] at e; exact e
      have hmz : ¬ 0 < (m : Int) := by omega
      have hs1 : (⟨#[109]⟩ : ByteArray).size = 1 := rfl
      have HB := Lib.hid hb
      clear ht hb hz
      go_wp2
      go_ret
      refine ⟨ret_val ?_, HB.out⟩
      show Value.string (⟨#[109]⟩ ++ t) = _
      rw [← str_eta' (⟨#[109]⟩ ++ t) (mk k) (by rw [appl, HT.out]; rfl)]
    · have hmp : 0 < (m : Int) := by omega
      obtain ⟨r, hr⟩ : ∃ r : Int, (m : Int) % 10 = r := ⟨_, rfl⟩
      have r0 : 0 ≤ r := by omega
      have r1 : r ≤ 9 := by omega
      obtain ⟨b, hbv⟩ : ∃ b : UInt8, b = UInt8.ofNat (48 + m % 10) := ⟨_, rfl⟩
      have hbr : (b.toNat : Int) = 48 + r := by rw [hbv, ofNat_dig _ (by omega)]; omega
      have hconv := run_convert_bytes_back (P := Tryd.prog) (wr.alloc (.cells #[.int .u8 (48 + r)] 5)) 22 9 5 ⟨wr.heap.size, 0, none⟩ 1 [b] Tryd.underlying22 Tryd.underlying5 Tryd.underlying9
        (fun i hi => by
          have : i = 0 := by simpa using hi
          subst this
          simp only [List.getElem_cons_zero, hbr]
          exact one_cell_t wr _ _ 0 _ rfl)
      have HT : Hid ((revD (m / 10)).reverse ++ (⟨[b].toArray⟩ ++ t : ByteArray).data.toList = (revD k).reverse) := by
        show _ = _
        rw [← ht.out, revD_pos hz, appl, List.reverse_cons, List.append_assoc, hbv]
      have hs2 : (⟨[b].toArray⟩ : ByteArray).size = 1 := rfl
      have HB : Hid (Below w.heap.size w (wr.alloc (.cells #[.int .u8 (48 + r)] 5))) := hb.alloc hb.size _
      have HM : Hid (Value.int .i64 ((m : Int) / 10) = Value.int .i64 ((m / 10 : Nat) : Int)) := by show _ = _; congr 1
      have HQ : Hid (m / 10 < m) := by show _ < _; omega
      have HL : Hid (m / 10 ≤ 2097153) := by show _ ≤ _; omega
      have hlen : ([b] : List UInt8).length = 1 := rfl
      rw [hlen] at hconv
      clear ht hb hz hbv hbr hlen
      go_wp2
      go_roundw
      case rel => exact ⟨m / 10, _, HL.out, HM.out, rfl, HT, HB.out⟩
      case measure => simp only [intOf, Int.toNat_natCast]; exact HQ.out

/-! ### Equality -/
/-- A slice that reads as the texts ls. -/
def TextsAt (w : World) (v : Value) (ls : List (List UInt8)) : Prop :=
  ∃ a cap, v = .slice a ls.length cap ∧ ls.length ≤ 1048577 ∧ (ls = [] ∨ ∃ g, a = some ⟨g, 0, none⟩ ∧ g < w.heap.size ∧ ∀ j (h : j < ls.length), w.cell? ⟨g, j, none⟩ = some (.string ⟨ls[j].toArray⟩))
theorem OwnT.at {B : Nat} {w : World} {v : Value} {ls : List (List UInt8)} (h : OwnT B w v ls) (hl : ls.length ≤ 1048577) : TextsAt w v ls := by
  rcases h.form with ⟨rfl, rfl⟩ | ⟨g, cap, rfl, _, hg, hc, _⟩
  · exact ⟨none, 0, rfl, hl, .inl rfl⟩
  · exact ⟨_, cap, rfl, hl, .inr ⟨g, rfl, hg, hc⟩⟩
set_option maxHeartbeats 400000 in
theorem eqT_some (b1 c1 b2 c2 : Nat) (ls : List (List UInt8)) (w : World) (hl : ls.length ≤ 1048577)
    (h1 : ∀ j (h : j < ls.length), w.cell? ⟨b1, j, none⟩ = some (.string ⟨ls[j].toArray⟩)) (h2 : ∀ j (h : j < ls.length), w.cell? ⟨b2, j, none⟩ = some (.string ⟨ls[j].toArray⟩)) :
    Calls Tryd.prog 25 #[.slice (some ⟨b1, 0, none⟩) ls.length c1, .slice (some ⟨b2, 0, none⟩) ls.length c2] w fun e w' => e = .returned (.bool true) ∧ ∃ n, w' = w.drewN n := by
  have H1 := Lib.hid h1
  have H2 := Lib.hid h2
  clear h1 h2
  go_enter Tryd.func25, Tryd.ntmps25
  go_wp2
  go_loopw [5] (fun i wr => ∃ k n : Nat, k ≤ ls.length ∧ i = .int .i64 (k : Int) ∧ wr = w.drewN n) (fun i _ => ls.length - (intOf i).toNat)
  case atStart => exact ⟨0, 0, Nat.zero_le _, rfl, rfl⟩
  case round =>
    obtain ⟨k, n, hk, rfl, rfl⟩ := hrel
    by_cases hlt : k < ls.length
    · obtain ⟨t, hz⟩ : ∃ t : ByteArray, (⟨ls[k].toArray⟩ : ByteArray) = t := ⟨_, rfl⟩
      have c1 := H1.out k hlt
      have c2 := H2.out k hlt
      rw [hz] at c1 c2
      clear hz
      have i0 : 0 ≤ (k : Int) := by omega
      have i1 : (k : Int) < ls.length := by omega
      have eb : (t.toList == t.toList) = true := by simp
      go_wp2
      go_quiet (fail)
      go_wp2
      go_roundw
      case rel => exact ⟨k + 1, _, by omega, by go_num, rfl⟩
      case measure => simp [intOf]; omega
    · go_wp2
      go_ret
      exact ⟨rfl, _, rfl⟩
theorem eqT_none (a1 a2 : Option Addr) (c1 c2 : Nat) (w : World) :
    Calls Tryd.prog 25 #[.slice a1 0 c1, .slice a2 0 c2] w fun e w' => e = .returned (.bool true) ∧ ∃ n, w' = w.drewN n := by
  go_enter Tryd.func25, Tryd.ntmps25
  go_wp2
  refine wp_loop_rounds 1 ?_
  rw [rounds_succ]
  go_wp2
  go_ret
  exact ⟨rfl, 0, rfl⟩
theorem eqT_any {v1 v2 : Value} {ls : List (List UInt8)} {w : World} (h1 : TextsAt w v1 ls) (h2 : TextsAt w v2 ls) :
    Calls Tryd.prog 25 #[v1, v2] w fun e w' => e = .returned (.bool true) ∧ ∃ n, w' = w.drewN n := by
  obtain ⟨a1, c1, rfl, hl, h1⟩ := h1
  obtain ⟨a2, c2, rfl, _, h2⟩ := h2
  by_cases hz : ls = []
  · subst hz
    exact eqT_none a1 a2 c1 c2 w
  · rcases h1 with rfl | ⟨b1, rfl, _, h1⟩
    · exact absurd rfl hz
    rcases h2 with rfl | ⟨b2, rfl, _, h2⟩
    · exact absurd rfl hz
    exact eqT_some b1 c1 b2 c2 ls w hl h1 h2

/-! ### Marks -/
def marksT (k n : Nat) : List (List UInt8) := (List.range n).map fun (j : Nat) => mk (k + j)
theorem marksT_len (k n : Nat) : (marksT k n).length = n := by simp [marksT]
theorem marksT_at (k n j : Nat) (h : j < n) : (marksT k n)[j]? = some (mk (k + j)) := by simp [marksT, h]
def MarkedT (ls : List (List UInt8)) (k n : Nat) : List (List UInt8) := marksT k n ++ ls.drop n
theorem markedT_zero (ls : List (List UInt8)) (k : Nat) : MarkedT ls k 0 = ls := by simp [MarkedT, marksT]
theorem markedT_all (ls : List (List UInt8)) (k : Nat) : MarkedT ls k ls.length = marksT k ls.length := by simp [MarkedT]
theorem markedT_len (ls : List (List UInt8)) (k n : Nat) (h : n ≤ ls.length) : (MarkedT ls k n).length = ls.length := by simp [MarkedT, marksT_len]; omega
theorem markedT_next (ls : List (List UInt8)) (k n : Nat) (h : n < ls.length) : (MarkedT ls k n).set n (mk (k + n)) = MarkedT ls k (n + 1) := by
  unfold MarkedT
  rw [List.set_append_right _ _ (by rw [marksT_len]; exact Nat.le_refl _), marksT_len, Nat.sub_self, List.drop_eq_getElem_cons h]
  have : marksT k (n + 1) = marksT k n ++ [mk (k + n)] := by unfold marksT; rw [List.range_succ, List.map_append]; rfl
  rw [this, List.set_cons_zero, List.append_assoc]
  rfl
theorem tv_set (ls : List (List UInt8)) (n : Nat) (x : List UInt8) : (tv ls).set n (.string ⟨x.toArray⟩) = tv (ls.set n x) := by unfold tv; rw [List.map_set]
/-- How the marking ends. -/
def RetMT (B : Nat) (w : World) (v : Value) (ls : List (List UInt8)) (k : Nat) (e : Ending) (w' : World) : Prop :=
  e = .returned (.int .i64 ((k + ls.length : Nat) : Int)) ∧ OwnT B w' v (marksT k ls.length) ∧ Below B w w' ∧ w.grownBy w' v.ownBlock
set_option maxHeartbeats 400000 in
set_option maxRecDepth 100000 in
theorem markT_some (B g cap : Nat) (ls : List (List UInt8)) (k : Nat) (w : World) (hl : ls.length ≤ 1048577) (hk0 : 1 ≤ k) (hk1 : k ≤ 1048576) (hB : B ≤ g) (hown0 : OwnT B w (.slice (some ⟨g, 0, none⟩) ls.length cap) ls) :
    Calls Tryd.prog 26 #[.slice (some ⟨g, 0, none⟩) ls.length cap, .int .i64 (k : Int)] w fun e w' => RetMT B w (.slice (some ⟨g, 0, none⟩) ls.length cap) ls k e w' := by
  have hBw : B ≤ w.heap.size := by have := (hown0.out.lt g rfl).2; omega
  go_enter Tryd.func26, Tryd.ntmps26
  go_wp2
  go_loopw [1, 5] (fun m i wr => ∃ n : Nat, n ≤ ls.length ∧ i = .int .i64 (n : Int) ∧ m = .int .i64 ((k + n : Nat) : Int) ∧ wr.ownsRow B 9 1 (.slice (some ⟨g, 0, none⟩) ls.length cap) ls.length (tv (MarkedT ls k n)) ∧ Below B w wr ∧ w.grownBy wr (some g)) (fun _ i _ => ls.length - (intOf i).toNat)
  case atStart => exact ⟨0, Nat.zero_le _, rfl, rfl, by rw [markedT_zero]; exact hown0, Below.refl _ _, grown_refl _ _⟩
  case round =>
    obtain ⟨n, hn, rfl, rfl, hown, hbw, hgw⟩ := hrel
    by_cases hlt : n < ls.length
    · have HO := Lib.hid hown
      have HB := Lib.hid hbw
      have HG := Lib.hid hgw
      clear hown hbw hgw hown0
      go_wp2_with fail
      refine (markText_any (k + n) _ (by omega) (by omega)).mono ?_
      rintro e w2 ⟨rfl, hb2⟩
      have hown2 : w2.ownsRow B 9 1 (.slice (some ⟨g, 0, none⟩) ls.length cap) ls.length (tv (MarkedT ls k n)) := HO.out.kept (row := Option.none) ⟨hb2.os, hb2.tape, hb2.output, hb2.size, fun j hj _ => hb2.block j hj⟩ (.inr (by simp [Value.ownBlock]))
      have hbw2 : Below B w w2 := HB.out.trans (hb2.mono (Nat.le_trans hBw HB.out.size))
      have hgw2 : w.grownBy w2 (some g) := grown_trans HG.out ⟨hb2.os, hb2.tape, hb2.output, hb2.size, fun j hj _ => hb2.block j hj⟩
      obtain ⟨y, hy⟩ : ∃ y, (tv (MarkedT ls k n))[n]? = some y := ⟨_, tv_at _ n (by rw [markedT_len ls k n hn]; exact hlt)⟩
      have c2 : w2.cell? ⟨g, n, none⟩ = some y := by rw [hown2.cellAt n (by omega)]; exact hy
      have c3 : w2.frozen? ⟨g, n, none⟩ = false := hown2.frozenAt n
      have hst := hown2.stored n (.string ⟨(mk (k + n)).toArray⟩)
      have HO2 : Hid ((w2.setCell ⟨g, n, none⟩ (.string ⟨(mk (k + n)).toArray⟩)).ownsRow B 9 1 (.slice (some ⟨g, 0, none⟩) ls.length cap) ls.length (tv (MarkedT ls k (n + 1)))) := by
        rw [← markedT_next ls k n hlt, ← tv_set]; exact hst.1
      have HB2 : Hid (Below B w (w2.setCell ⟨g, n, none⟩ (.string ⟨(mk (k + n)).toArray⟩))) := hbw2.setCell (p := ⟨g, n, none⟩) hB _
      have HG2 : Hid (w.grownBy (w2.setCell ⟨g, n, none⟩ (.string ⟨(mk (k + n)).toArray⟩)) (some g)) := grown_trans hgw2 hst.2
      obtain ⟨t, ht⟩ : ∃ t : ByteArray, (⟨(mk (k + n)).toArray⟩ : ByteArray) = t := ⟨_, rfl⟩
      rw [ht] at HO2 HB2 HG2 ⊢
      clear hy hown2 hbw2 hgw2 hst hb2 ht
      go_wp2
      go_roundw
      case rel => exact ⟨n + 1, by omega, by go_num, by go_num, HO2.out, HB2.out, HG2.out⟩
      case measure => simp [intOf]; omega
    · obtain rfl : n = ls.length := by omega
      rw [markedT_all] at hown
      have HO : Hid (OwnT B wr (.slice (some ⟨g, 0, none⟩) ls.length cap) (marksT k ls.length)) := by unfold OwnT; rw [marksT_len]; exact hown
      have HB := Lib.hid hbw
      have HG := Lib.hid hgw
      clear hown hbw hgw hown0
      go_wp2
      go_ret
      exact ⟨rfl, HO.out, HB.out, HG.out⟩
theorem markT_none (B k : Nat) (w : World) :
    Calls Tryd.prog 26 #[.slice none 0 0, .int .i64 (k : Int)] w fun e w' => RetMT B w (.slice none 0 0) [] k e w' := by
  go_enter Tryd.func26, Tryd.ntmps26
  go_wp2
  refine wp_loop_rounds 1 ?_
  rw [rounds_succ]
  go_wp2
  go_ret
  exact ⟨rfl, World.ownsRow_nil _ _ _ _, Below.refl _ _, grown_refl _ _⟩
theorem markT_any {B : Nat} {v : Value} {ls : List (List UInt8)} (k : Nat) {w : World} (h : OwnT B w v ls) (hl : ls.length ≤ 1048577) (hk0 : 1 ≤ k) (hk1 : k ≤ 1048576) :
    Calls Tryd.prog 26 #[v, .int .i64 (k : Int)] w fun e w' => RetMT B w v ls k e w' := by
  rcases h.form with ⟨rfl, rfl⟩ | ⟨g, cap, rfl, hB, _⟩
  · exact markT_none B k w
  · exact markT_some B g cap ls k w hl hk0 hk1 hB h

/-- How the look at the marks ends: all are there; below the heap's end nothing turns but draws. -/
def RetH (w : World) (n : Nat) (e : Ending) (w' : World) : Prop := e = .returned (.int .i64 (n : Int)) ∧ Below w.heap.size w w'
theorem heldT_none (a : Option Addr) (cap k : Nat) (w : World) :
    Calls Tryd.prog 27 #[.slice a 0 cap, .int .i64 (k : Int)] w fun e w' => RetH w k e w' := by
  go_enter Tryd.func27, Tryd.ntmps27
  go_wp2
  refine wp_loop_rounds 1 ?_
  rw [rounds_succ]
  go_wp2
  go_ret
  exact ⟨rfl, Below.refl _ _⟩
theorem keep_call {w W W' : World} {g j : Nat} {x : Value} (hg : g < w.heap.size) (h : W.cell? ⟨g, j, none⟩ = some x ∧ Below w.heap.size w W) (hb : Below W.heap.size W W') : W'.cell? ⟨g, j, none⟩ = some x ∧ Below w.heap.size w W' :=
  ⟨(hb.cell (p := ⟨g, j, none⟩) (Nat.lt_of_lt_of_le hg h.2.size)).trans h.1, h.2.trans (hb.mono h.2.size)⟩
set_option maxHeartbeats 800000 in
set_option maxRecDepth 100000 in
theorem heldT_some (g cap n k : Nat) (w : World) (hl : n ≤ 1048577) (hk0 : 1 ≤ k) (hk1 : k ≤ 1048576) (hg : g < w.heap.size) (h1 : ∀ j, j < n → w.cell? ⟨g, j, none⟩ = some (.string ⟨(mk (k + j)).toArray⟩)) :
    Calls Tryd.prog 27 #[.slice (some ⟨g, 0, none⟩) n cap, .int .i64 (k : Int)] w fun e w' => RetH w (k + n) e w' := by
  have H1 := Lib.hid h1
  clear h1
  go_enter Tryd.func27, Tryd.ntmps27
  go_wp2
  go_loopw [1, 5] (fun m i wr => ∃ j : Nat, j ≤ n ∧ i = .int .i64 (j : Int) ∧ m = .int .i64 ((k + j : Nat) : Int) ∧ Below w.heap.size w wr) (fun _ i _ => n - (intOf i).toNat)
  case atStart => exact ⟨0, Nat.zero_le _, rfl, rfl, Below.refl _ _⟩
  case round =>
    obtain ⟨j, hj, rfl, rfl, hb⟩ := hrel
    by_cases hlt : j < n
    · have c1 : wr.cell? ⟨g, j, none⟩ = some (.string ⟨(mk (k + j)).toArray⟩) := (hb.cell (p := ⟨g, j, none⟩) hg).trans (H1.out j hlt)
      obtain ⟨t, ht⟩ : ∃ t : ByteArray, (⟨(mk (k + j)).toArray⟩ : ByteArray) = t := ⟨_, rfl⟩
      have HC : ∀ W : World, Calls Tryd.prog 50 #[.int .i64 ((k + j : Nat) : Int)] W fun e w' => e = .returned (.string t) ∧ Below W.heap.size W w' := fun W => by
        rw [← ht]; exact markText_any (k + j) W (by omega) (by omega)
      have HH := Lib.hid HC
      rw [ht] at c1
      have eb : (t.toList == t.toList) = true := by simp
      have i0 : 0 ≤ (j : Int) := by omega
      have i1 : (j : Int) < n := by omega
      clear HC ht
      go_wp2
      go_region_held3 (fun w' => w'.cell? ⟨g, j, none⟩ = some (.string t) ∧ Below w.heap.size w w') (first | exact ⟨c1, hb.drew⟩ | exact keep_call hg (by assumption) (by assumption)) (first | (go_at_call 50; refine (HH.out _).mono ?_; rintro e w2 ⟨rfl, hb2⟩))
      go_wp2
      go_roundw
      case rel => exact ⟨j + 1, by omega, by go_num, by go_num, And.right (by assumption)⟩
      case measure => simp [intOf]; omega
    · obtain rfl : j = n := by omega
      have HB := Lib.hid hb
      clear hb
      go_wp2
      go_ret
      exact ⟨rfl, HB.out⟩
end Go.Proofs.YtjgajnhefhgpkaaDoor
