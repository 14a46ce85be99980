/-
  Proved: the law TrackChanges returns true and leaves all that was there. Conditions: the tables that awake reads lie where the program lays them; the legs lie where the slice says; the three numbers are below 256.
-/
import Derived.Test.YtnknmplepgmfmaaGreatDoorXaw
import Derived.Test.YtnknmplepgmfmaaGreatDoorXv
import Derived.Test.YtnknmplepgmfmaaGreatDoorXq
import Derived.Test.YtnknmplepgmfmaaGreatDoorYj
import Derived.Deep.RegionHeld
open Go Go.Proofs Go.RowKit Go.Maps Go.Sort Go.WideMaps
set_option linter.unusedVariables false
set_option linter.unusedSimpArgs false
set_option maxRecDepth 100000
namespace Go.Mk
theorem cell3 {w : World} {a b c : Value} {t : TypeId} : (w.alloc (.cells #[a, b, c] t)).cell? ⟨w.heap.size, 0, none⟩ = some a ∧ (w.alloc (.cells #[a, b, c] t)).cell? ⟨w.heap.size, 1, none⟩ = some b ∧ (w.alloc (.cells #[a, b, c] t)).cell? ⟨w.heap.size, 2, none⟩ = some c := ⟨by simp, by simp, by simp⟩
/-- Three cells of a block. -/
def C3 (g : Nat) (a b c : Value) (w : World) : Prop := w.cell? ⟨g, 0, none⟩ = some a ∧ w.cell? ⟨g, 1, none⟩ = some b ∧ w.cell? ⟨g, 2, none⟩ = some c
theorem C3.next {B g : Nat} {a b c : Value} {w w' : World} (h : C3 g a b c w) (hb : Below B w w') (hg : g < B) : C3 g a b c w' :=
  ⟨(hb.cell (p := ⟨g, _, none⟩) hg).trans h.1, (hb.cell (p := ⟨g, _, none⟩) hg).trans h.2.1, (hb.cell (p := ⟨g, _, none⟩) hg).trans h.2.2⟩
/-- The three boxes that the law makes. -/
def Box3 (W : World) (g : Nat) (A : Option Addr) (n cap : Nat) (z b : Int) (p0 p1 p2 : Nat) (w' : World) : Prop :=
  C3 g (.slice A n cap) (.int .i64 z) (.int .i64 b) w' ∧ C3 (g + 1) (.int .u8 (p0 : Int)) (.int .u8 (p1 : Int)) (.int .u8 (p2 : Int)) w' ∧ C3 (g + 1 + 1) (.slice A n cap) (.int .i64 z) (.int .i64 b) w' ∧ g + 1 + 1 < w'.heap.size ∧ Below W.heap.size W w'
theorem Box3.next {W w w' : World} {g : Nat} {A : Option Addr} {n cap : Nat} {z b : Int} {p0 p1 p2 : Nat} (h : Box3 W g A n cap z b p0 p1 p2 w) (hb : Below w.heap.size w w') : Box3 W g A n cap z b p0 p1 p2 w' := by
  obtain ⟨h1, h2, h3, hl, hW⟩ := h
  exact ⟨h1.next hb (by omega), h2.next hb (by omega), h3.next hb hl, Nat.lt_of_lt_of_le hl hb.size, bstep hW hb⟩
theorem Box3.new (w : World) (A : Option Addr) (n cap : Nat) (z b : Int) (p0 p1 p2 : Nat) (t u v : TypeId) : Box3 w w.heap.size A n cap z b p0 p1 p2 (((w.alloc (.cells #[.slice A n cap, .int .i64 z, .int .i64 b] t)).alloc (.cells #[.int .u8 (p0 : Int), .int .u8 (p1 : Int), .int .u8 (p2 : Int)] u)).alloc (.cells #[.slice A n cap, .int .i64 z, .int .i64 b] v)) := by
  have q1 : C3 w.heap.size (.slice A n cap) (.int .i64 z) (.int .i64 b) (w.alloc (.cells #[.slice A n cap, .int .i64 z, .int .i64 b] t)) := cell3
  obtain ⟨wa, hwa⟩ : ∃ wa, w.alloc (.cells #[.slice A n cap, .int .i64 z, .int .i64 b] t) = wa := ⟨_, rfl⟩
  have sa : wa.heap.size = w.heap.size + 1 := by rw [← hwa]; simp
  have ba : Below w.heap.size w wa := by rw [← hwa]; exact balloc _ (Below.refl _ _)
  rw [hwa] at q1 ⊢
  have q2 : C3 wa.heap.size (.int .u8 (p0 : Int)) (.int .u8 (p1 : Int)) (.int .u8 (p2 : Int)) (wa.alloc (.cells #[.int .u8 (p0 : Int), .int .u8 (p1 : Int), .int .u8 (p2 : Int)] u)) := cell3
  obtain ⟨wb, hwb⟩ : ∃ wb, wa.alloc (.cells #[.int .u8 (p0 : Int), .int .u8 (p1 : Int), .int .u8 (p2 : Int)] u) = wb := ⟨_, rfl⟩
  have sb : wb.heap.size = w.heap.size + 1 + 1 := by rw [← hwb, ← sa]; simp
  have bb : Below wa.heap.size wa wb := by rw [← hwb]; exact balloc _ (Below.refl _ _)
  rw [hwb] at q2 ⊢
  have q3 : C3 wb.heap.size (.slice A n cap) (.int .i64 z) (.int .i64 b) (wb.alloc (.cells #[.slice A n cap, .int .i64 z, .int .i64 b] v)) := cell3
  obtain ⟨wc, hwc⟩ : ∃ wc, wb.alloc (.cells #[.slice A n cap, .int .i64 z, .int .i64 b] v) = wc := ⟨_, rfl⟩
  have sc : wc.heap.size = w.heap.size + 1 + 1 + 1 := by rw [← hwc, ← sb]; simp
  have bc : Below wb.heap.size wb wc := by rw [← hwc]; exact balloc _ (Below.refl _ _)
  rw [hwc] at q3 ⊢
  rw [sa] at q2
  rw [sb] at q3
  exact ⟨(q1.next bb (by omega)).next bc (by omega), q2.next bc (by omega), q3, by omega, bstep (bstep ba bb) bc⟩
theorem alloc_new (W : World) (o : Obj) : (W.alloc o).heap[W.heap.size]? = some o := Array.getElem?_push_size
theorem lit_cell {W : World} {t : TypeId} {vs : Array Value} : ∀ (i : Nat) (v : Value), vs[i]? = some v → (W.alloc (.cells vs t)).cell? ⟨W.heap.size, i, none⟩ = some v := by
  intro i v hv
  have hA : (W.alloc (.cells vs t)).heap[W.heap.size]? = some (.cells vs t) := alloc_new W _
  exact (cell_of_row _ _ _ _ _ _ hA).trans hv
/-- Slices of texts in a new block make teams. -/
theorem teams_lit (W : World) (t : TypeId) (n : Nat) (qs : List (Option Addr × Nat × List ByteArray)) (h : ∀ q ∈ qs, q.2.2.length = n ∧ n ≤ q.2.1 ∧ TextsZ W q.1 n q.2.2) :
    TeamsB (W.alloc (.cells (qs.map fun q => Value.slice q.1 n q.2.1).toArray t)) (W.alloc (.cells (qs.map fun q => Value.slice q.1 n q.2.1).toArray t)).heap.size (some ⟨W.heap.size, 0, none⟩) qs.length (qs.map (·.2.2)) := by
  refine ⟨by simp, Nat.le_refl _, fun h0 => ⟨W.heap.size, 0, rfl, by simp, fun j l hl => ?_⟩⟩
  rw [List.getElem?_map] at hl
  cases hq : qs[j]? with
  | none => rw [hq] at hl; cases hl
  | some q =>
    rw [hq] at hl
    obtain rfl : q.2.2 = l := Option.some.inj hl
    obtain ⟨h3, h1, h2⟩ := h q (List.mem_of_getElem? hq)
    have hB : ((qs.map fun q => Value.slice q.1 n q.2.1).toArray)[j]? = some (.slice q.1 n q.2.1) := by rw [List.getElem?_toArray, List.getElem?_map, hq]; rfl
    refine ⟨q.1, q.2.1, ?_, by omega, by rw [h3]; exact (h2.below (balloc _ (Below.refl _ _))).toB⟩
    rw [Nat.zero_add, h3]
    exact lit_cell j _ hB
theorem own_tz {w : World} {B n : Nat} {v : Value} {L : List ByteArray} (h : OwnNames w B v L) (hl : L.length = n) (h0 : 0 < n) : ∃ g c, v = .slice (some ⟨g, 0, none⟩) n c ∧ n ≤ c ∧ TextsZ w (some ⟨g, 0, none⟩) n L := by
  subst hl
  obtain ⟨g, c, hv, _, hg⟩ := ownSome h h0
  refine ⟨g, c, hv, ?_, ?_⟩
  · rcases h.2 with ⟨_, h1⟩ | ⟨g', cap, cur, a, b, c', d, e1, _⟩
    · omega
    · rw [hv] at a
      cases a
      exact d
  · obtain ⟨A, c', e2, hZ⟩ := TextsZ.of_own h
    rw [hv] at e2
    cases e2
    exact hZ
theorem smap_take8 {n J i : Nat} {u : Value} (h : (((NM.take n).take J).map Value.string)[i]? = some u) : ∃ x, NM[i]? = some x ∧ u = .string x := by
  rw [List.getElem?_map, List.take_take, List.getElem?_take] at h
  by_cases q : i < min J n
  · rw [if_pos q] at h
    cases hx : NM[i]? with
    | none => rw [hx] at h; cases h
    | some x => rw [hx] at h; exact ⟨x, rfl, (Option.some.inj h).symm⟩
  · rw [if_neg q] at h; cases h
theorem smap_drop8 {n J i : Nat} {u : Value} (h : (((NM.take n).drop J).map Value.string)[i]? = some u) : ∃ x, NM[J + i]? = some x ∧ u = .string x := by
  rw [List.getElem?_map, List.getElem?_drop, List.getElem?_take] at h
  by_cases q : J + i < n
  · rw [if_pos q] at h
    cases hx : NM[J + i]? with
    | none => rw [hx] at h; cases h
    | some x => rw [hx] at h; exact ⟨x, rfl, (Option.some.inj h).symm⟩
  · rw [if_neg q] at h; cases h
theorem turn_texts {n k : Nat} (hn : n ≤ 8) (hk : k < n) {w : World} {B : Nat} {v : Value} {gu cu : Nat} (h : w.ownsRow B 9 1 v (0 + (n - k) + k) ([] ++ ((nmN n).drop k).map Value.string ++ ((nmN n).take k).map Value.string)) (hv : v = .slice (some ⟨gu, 0, none⟩) (0 + (n - k) + k) cu) : v = .slice (some ⟨gu, 0, none⟩) n cu ∧ TextsZ w (some ⟨gu, 0, none⟩) n (turnN n k) ∧ n ≤ cu := by
  have e : 0 + (n - k) + k = n := by omega
  rw [e] at h hv
  have hcap : n ≤ cu := by
    rcases h.2 with ⟨_, h1⟩ | ⟨g', cap, cur, a, b, c', d, e1, _⟩
    · omega
    · rw [hv] at a
      cases a
      exact d
  refine ⟨hv, ?_, hcap⟩
  have hl := (turn_TM hn hk).1
  rw [List.nil_append, ← List.map_append] at h
  have ho : OwnNames w B v (turnN n k) := by
    unfold OwnNames
    rw [hl]
    exact h
  obtain ⟨A, c, e2, hZ⟩ := TextsZ.of_own ho
  rw [hv, hl] at e2
  rw [hl] at hZ
  cases e2
  exact hZ
theorem texts_set {w : World} {g n : Nat} {L : List ByteArray} (h : TextsZ w (some ⟨g, 0, none⟩) n L) {p : Addr} (hp : p.block ≠ g) (v : Value) : TextsZ (w.setCell p v) (some ⟨g, 0, none⟩) n L := by
  refine ⟨h.1, fun h0 => ?_⟩
  obtain ⟨g', off, e, hlt, hc⟩ := h.2 h0
  cases e
  exact ⟨g, 0, rfl, by simpa using hlt, fun j x hx => (World.cell?_setCell_far _ _ _ _ hp).trans (hc j x hx)⟩
theorem names_row {w : World} {B n : Nat} {v : Value} (h : w.ownsRow B 9 1 v (0 + n + 2) ([] ++ (nmN n).map Value.string ++ [.string ⟨#[115, 49]⟩, .string ⟨#[115, 50]⟩])) (hn : (nmN n).length = n := by assumption) : OwnNames w B v (nmN n ++ [s1, s2]) := by
  unfold OwnNames
  rw [List.length_append, hn, List.map_append]
  rw [Nat.zero_add, List.nil_append] at h
  exact h
theorem relW_n {L : List Int} {z b : Int} (h : relW L z b = 0) : 2 ≤ L.length ∧ L.length ≤ 8 := by
  unfold relW at h
  by_cases q : L.length < 2 ∨ 8 < L.length
  · rw [if_pos q] at h; exact absurd h (by decide)
  · omega
theorem texts_nm {w : World} {g n : Nat} (hg : g < w.heap.size) (hn : n ≤ 8) (h : ∀ (i : Nat) (x : ByteArray), NM[i]? = some x → w.cell? ⟨g, i, none⟩ = some (.string x)) : TextsZ w (some ⟨g, 0, none⟩) n (nmN n) := by
  have hl : (nmN n).length = n := by unfold nmN; rw [List.length_take]; show min n 8 = n; omega
  refine ⟨hl, fun h0 => ⟨g, 0, rfl, hg, fun j x hx => ?_⟩⟩
  have hj := (List.getElem?_eq_some_iff.1 hx).1
  rw [Nat.zero_add]
  refine h j x ?_
  unfold nmN at hx
  rwa [List.getElem?_take_of_lt (by omega)] at hx
set_option maxHeartbeats 16000000 in
theorem changes_ex1 (A : Option Addr) (n cap : Nat) (z b : Int) (L : List Int) (p0 p1 p2 : Nat) (w : World)
    (hL : IntsZ w A n L) (hc : n ≤ cap) (hn : (n : Int) ≤ 9223372036854775807) (ht : Tabs w) (h1 : 11 < n) :
    Calls Tryz.prog 6 #[.agg #[.slice A n cap, .int .i64 z, .int .i64 b], .agg #[.int .u8 (p0 : Int), .int .u8 (p1 : Int), .int .u8 (p2 : Int)]] w (Yes w) := by
  have HB := Lib.hid (Box3.new w A n cap z b p0 p1 p2 24 74 26)
  have HAW : Hid (∀ w', Below w.heap.size w w' → Calls Tryz.prog 9 #[] w' (RetPost (.bool true) w')) := Lib.hid fun w' hb => aw w' (ht.grow hb)
  have HSR := Lib.hid fun w' => r7ShortRelay_any A n cap z b w'
  have HRC : Hid (∀ w', Below w.heap.size w w' → Calls Tryz.prog 10 #[.agg #[.slice A n cap, .int .i64 z, .int .i64 b]] w' (RetPost (.int .i64 (relW L z b)) w')) := Lib.hid fun w' hb => r7CheckRelay_any L n cap A z b w' (hL.below hb) hn
  have h1i : ¬ (n : Int) ≤ 11 := by omega
  clear hL hn ht
  go_enter Tryz.func6, Tryz.ntmps6
  go_wp2_with fail
  refine (HSR.out _).mono ?_
  rintro e1 w1 ⟨rfl, hb1⟩
  have HB1 := Lib.hid (HB.out.next hb1)
  clear hb1
  have hbW := HB1.out.2.2.2.2
  go_wp2_with fail
  refine (HAW.out _ hbW).mono ?_
  rintro e9 w9 ⟨rfl, hb9⟩
  have hfin := bstep hbW hb9
  clear hb9
  go_wp2
  go_ret
  exact ⟨rfl, hfin⟩
set_option maxHeartbeats 16000000 in
theorem changes_ex2 (A : Option Addr) (n cap : Nat) (z b : Int) (L : List Int) (p0 p1 p2 : Nat) (w : World)
    (hL : IntsZ w A n L) (hc : n ≤ cap) (hn : (n : Int) ≤ 9223372036854775807) (ht : Tabs w) (h1 : n ≤ 11) (h2 : relW L z b ≠ 0) :
    Calls Tryz.prog 6 #[.agg #[.slice A n cap, .int .i64 z, .int .i64 b], .agg #[.int .u8 (p0 : Int), .int .u8 (p1 : Int), .int .u8 (p2 : Int)]] w (Yes w) := by
  have HB := Lib.hid (Box3.new w A n cap z b p0 p1 p2 24 74 26)
  have HAW : Hid (∀ w', Below w.heap.size w w' → Calls Tryz.prog 9 #[] w' (RetPost (.bool true) w')) := Lib.hid fun w' hb => aw w' (ht.grow hb)
  have HSR := Lib.hid fun w' => r7ShortRelay_any A n cap z b w'
  have HRC : Hid (∀ w', Below w.heap.size w w' → Calls Tryz.prog 10 #[.agg #[.slice A n cap, .int .i64 z, .int .i64 b]] w' (RetPost (.int .i64 (relW L z b)) w')) := Lib.hid fun w' hb => r7CheckRelay_any L n cap A z b w' (hL.below hb) hn
  have h1i : (n : Int) ≤ 11 := by omega
  obtain ⟨rel, hrel⟩ : ∃ rel, relW L z b = rel := ⟨_, rfl⟩
  rw [hrel] at HRC h2
  have hr0 : (rel != 0) = true := by rw [bne_iff_ne]; exact h2
  clear hL hn ht hrel h2
  go_enter Tryz.func6, Tryz.ntmps6
  go_wp2_with fail
  refine (HSR.out _).mono ?_
  rintro e1 w1 ⟨rfl, hb1⟩
  have HB1 := Lib.hid (HB.out.next hb1)
  clear hb1
  obtain ⟨_, _, ⟨c0, c1, c2⟩, _, _⟩ := HB1.out
  go_wp2_with fail
  refine (HRC.out _ HB1.out.2.2.2.2).mono ?_
  rintro e2 w2 ⟨rfl, hb2⟩
  have HB2 := Lib.hid (HB1.out.next hb2)
  clear c0 c1 c2 hb2
  have hbW := HB2.out.2.2.2.2
  go_wp2_with fail
  refine (HAW.out _ hbW).mono ?_
  rintro e9 w9 ⟨rfl, hb9⟩
  have hfin := bstep hbW hb9
  clear hb9
  go_wp2
  go_ret
  exact ⟨rfl, hfin⟩
set_option maxHeartbeats 16000000 in
theorem changes_main (A : Option Addr) (n cap : Nat) (z b : Int) (L : List Int) (p0 p1 p2 : Nat) (w : World)
    (hL : IntsZ w A n L) (hc : n ≤ cap) (hn : (n : Int) ≤ 9223372036854775807) (ht : Tabs w) (h2 : relW L z b = 0) (hp0 : p0 < 256) (hp1 : p1 < 256) (hp2 : p2 < 256) :
    Calls Tryz.prog 6 #[.agg #[.slice A n cap, .int .i64 z, .int .i64 b], .agg #[.int .u8 (p0 : Int), .int .u8 (p1 : Int), .int .u8 (p2 : Int)]] w (Yes w) := by
  have HB := Lib.hid (Box3.new w A n cap z b p0 p1 p2 24 74 26)
  have HAW : Hid (∀ w', Below w.heap.size w w' → Calls Tryz.prog 9 #[] w' (RetPost (.bool true) w')) := Lib.hid fun w' hb => aw w' (ht.grow hb)
  have HSR := Lib.hid fun w' => r7ShortRelay_any A n cap z b w'
  have HRC : Hid (∀ w', Below w.heap.size w w' → Calls Tryz.prog 10 #[.agg #[.slice A n cap, .int .i64 z, .int .i64 b]] w' (RetPost (.int .i64 (relW L z b)) w')) := Lib.hid fun w' hb => r7CheckRelay_any L n cap A z b w' (hL.below hb) hn
  obtain ⟨i0, hi, hz0, hz1, hz2⟩ := info_parts infoStr
  obtain ⟨n2, n8⟩ := relW_n h2
  rw [hL.1] at n2 n8
  rw [h2] at HRC
  have h1i : (n : Int) ≤ 11 := by omega
  have hn0 : 0 < n := by omega
  have h8i : (n : Int) ≤ 8 := by omega
  have h0i : (0 : Int) ≤ (n : Int) := by omega
  have hnt : ((n : Int)).toNat = n := by omega
  have hs8 : (0 : Int) ≤ (n : Int) ∧ (n : Int) ≤ 8 := ⟨h0i, h8i⟩
  obtain ⟨k, hk⟩ : ∃ k, p0 % n = k := ⟨_, rfl⟩
  obtain ⟨i, hi1⟩ : ∃ i, p1 % n = i := ⟨_, rfl⟩
  obtain ⟨j, hj1⟩ : ∃ j, p2 % n = j := ⟨_, rfl⟩
  have hkn : k < n := by rw [← hk]; exact Nat.mod_lt _ hn0
  have hin : i < n := by rw [← hi1]; exact Nat.mod_lt _ hn0
  have hjn : j < n := by rw [← hj1]; exact Nat.mod_lt _ hn0
  have hm1 : (p0 : Int) % (n : Int) = (k : Int) := by rw [← hk]; exact (Int.natCast_emod _ _).symm
  have hm2 : Int.tmod (p0 : Int) (n : Int) = (k : Int) := by rw [Int.tmod_eq_emod_of_nonneg (by omega)]; exact hm1
  have hnb : ((n : Int) == 0) = false := by simp; omega
  have hkw : IntKind.i64.wrap (k : Int) = (k : Int) := wrapX8 _ (by omega)
  have hRes1 := res1 n8 hkn hin hjn
  have hRes2 := res2 n8 hkn hin hjn hkn
  have hRes3 := res3 n8 hkn hin
  have hRes4 := res4 n8 hkn hin hjn
  have hTt := (turn_TM n8 hkn).1
  have HL := Lib.hid hL
  have HCH : Hid (∀ (U : List ByteArray) (c g9 gu p : Nat) (s : ByteArray) (w' : World), w'.cell? ⟨g9, 0, none⟩ = some (.slice (some ⟨gu, 0, none⟩) n c) → g9 < w'.heap.size → TextsZ w' (some ⟨gu, 0, none⟩) n U → p < 256 →
      Calls Tryz.prog 35 #[.int .u8 (p : Int), .string s, .pointer (some ⟨g9, 0, none⟩)] w' (fun e w'' => ∃ v, e = .returned v ∧ OwnNames w'' w'.heap.size v (U.set (p % n) s) ∧ Below w'.heap.size w' w'')) := Lib.hid fun U c g9 gu p s w' q1 q2 q3 q4 => by
    obtain ⟨g, off, e, hlt, hcc⟩ := q3.2 hn0
    cases e
    exact l7ChangesC_any U n c g9 gu p s w' hn0 (by omega) q1 q2 hlt q3.1 (fun i x hx => by have := hcc i x hx; rwa [Nat.zero_add] at this) q4
  have HTS : Hid (∀ (LL : List (List ByteArray)) (m gR cR : Nat) (W : World) (e0 : Nat) (e : Int) (gB : Nat), IntsZ W A n L → TeamsB W W.heap.size (some ⟨gB, 0, none⟩) m LL → TextsZ W (some ⟨gR, 0, none⟩) 3 RS → 3 ≤ cR → m ≤ 8 → (∀ l ∈ LL, l.length ≤ 1000 ∧ ∀ x ∈ l, x.size ≤ maxLen) → teamsE 0 n LL RS = (e0, e) →
      Calls Tryz.prog 26 #[.agg #[.slice A n cap, .int .i64 z, .int .i64 b], .slice (some ⟨gB, 0, none⟩) m m, .slice (some ⟨gR, 0, none⟩) 3 cR] W (RetPost (.tuple #[.int .i64 (e0 : Nat), .int .i64 e]) W)) := Lib.hid fun LL m gR cR W e0 e gB q1 q2 q3 q4 q5 q6 q7 => by
    have h := trCheckTeams_any A n cap z b L (some ⟨gB, 0, none⟩) m m LL (some ⟨gR, 0, none⟩) 3 cR RS W q1 q2 q3 hn hc q4 (by omega) q6 (by decide) (fun x hx => by have := rs_size x hx; have q : maxLen = 9223372036854775807 := rfl; omega)
    rw [h2, q7] at h
    exact h
  have HTM : Hid (∀ (LL : List (List ByteArray)) (m gR cR : Nat) (W : World) (M : List ByteArray) (e0 : Nat) (gB : Nat), IntsZ W A n L → TeamsB W W.heap.size (some ⟨gB, 0, none⟩) m LL → TextsZ W (some ⟨gR, 0, none⟩) 3 RS → 3 ≤ cR → m ≤ 8 → (∀ l ∈ LL, l.length ≤ 1000 ∧ ∀ x ∈ l, x.size ≤ maxLen) → LL.flatten.length ≤ 100000 → teamsE 0 n LL RS = (e0, 0) → srtB (dst [] LL.flatten) = M →
      Calls Tryz.prog 27 #[.agg #[.slice A n cap, .int .i64 z, .int .i64 b], .slice (some ⟨gB, 0, none⟩) m m, .slice (some ⟨gR, 0, none⟩) 3 cR] W (fun e w' => ∃ v, e = .returned (.tuple #[v, .int .i64 0]) ∧ OwnNames w' W.heap.size v M ∧ Below W.heap.size W w')) := Lib.hid fun LL m gR cR W M e0 gB q1 q2 q3 q4 q5 q6 q7 q8 q9 => by
    have h := trMembers_ok A n cap z b L (some ⟨gB, 0, none⟩) m m LL (some ⟨gR, 0, none⟩) 3 cR RS W q1 q2 q3 hn hc q4 (by omega) q6 (by decide) (fun x hx => by have := rs_size x hx; have q : maxLen = 9223372036854775807 := rfl; omega) q7 (by rw [h2, q8])
    rw [q9] at h
    exact h
  have HSZ : Hid (∀ l ∈ [nmN n, turnN n k, (turnN n k).set i s1, (turnN n k).set j s2, (turnN n k).set k s3, (turnN n k).set i whoB], l.length = n ∧ ∀ x ∈ l, x.size ≤ maxLen) := Lib.hid (sizes n8 hkn hin hjn)
  have HRES := Lib.hid (And.intro hRes1 (And.intro hRes2 (And.intro hRes3 (And.intro hRes4 hTt))))
  have HFLT : Hid ([nmN n, turnN n k, (turnN n k).set i s1, (turnN n k).set j s2, turnN n k].flatten.length ≤ 100000) := Lib.hid (by
    have q1 := (nmN_TM n8 hkn).1
    simp only [List.flatten_cons, List.flatten_nil, List.length_append, List.length_nil, List.length_set, q1, hTt]
    omega)
  have HIJ := Lib.hid (And.intro hk (And.intro hi1 hj1))
  clear hL hn ht h2 hk hi1 hj1 hRes1 hRes2 hRes3 hRes4 hTt
  go_enter Tryz.func6, Tryz.ntmps6
  go_wp2_with fail
  refine (HSR.out _).mono ?_
  rintro e1 w1 ⟨rfl, hb1⟩
  have HB1 := Lib.hid (HB.out.next hb1)
  clear hb1
  obtain ⟨_, _, ⟨c0, c1, c2⟩, _, _⟩ := HB1.out
  go_wp2_with fail
  refine (HRC.out _ HB1.out.2.2.2.2).mono ?_
  rintro e2 w3 ⟨rfl, hb2⟩
  have HB3 := Lib.hid (HB1.out.next hb2)
  clear c0 c1 c2 hb2 HB1 HB HSR HRC
  obtain ⟨⟨r0, r1, r2⟩, ⟨k0, k1, k2⟩, _, _⟩ := HB3.out
  have HW4 : Hid (∀ w', Below w3.heap.size w3 w' → Box3 w w.heap.size A n cap z b p0 p1 p2 w') := Lib.hid fun w' hb => HB3.out.next hb
  skip
  have b4 := balloc (.cells #[.string ⟨#[97]⟩, .string ⟨#[98]⟩, .string ⟨#[99]⟩, .string ⟨#[100]⟩, .string ⟨#[101]⟩, .string ⟨#[102]⟩, .string ⟨#[103]⟩, .string ⟨#[104]⟩] 9) (Below.refl w3.heap.size w3)
  have b5 := balloc (.cells #[.string ⟨#[115, 49]⟩, .string ⟨#[115, 50]⟩, .string ⟨#[115, 51]⟩] 9) b4
  obtain ⟨⟨x0, x1, x2⟩, ⟨x3, x4, x5⟩, _⟩ := HW4.out _ b4
  obtain ⟨⟨y0, y1, y2⟩, ⟨y3, y4, y5⟩, _⟩ := HW4.out _ b5
  have z4 := @lit_cell w3 9 #[.string ⟨#[97]⟩, .string ⟨#[98]⟩, .string ⟨#[99]⟩, .string ⟨#[100]⟩, .string ⟨#[101]⟩, .string ⟨#[102]⟩, .string ⟨#[103]⟩, .string ⟨#[104]⟩]
  have z5 := @lit_cell (w3.alloc (.cells #[.string ⟨#[97]⟩, .string ⟨#[98]⟩, .string ⟨#[99]⟩, .string ⟨#[100]⟩, .string ⟨#[101]⟩, .string ⟨#[102]⟩, .string ⟨#[103]⟩, .string ⟨#[104]⟩] 9)) 9 #[.string ⟨#[115, 49]⟩, .string ⟨#[115, 50]⟩, .string ⟨#[115, 51]⟩]
  have Z45 := Lib.hid (And.intro z4 z5)
  clear z4 z5
  go_wp2_with fail
  clear r0 r1 r2 k0 k1 k2 x0 x1 x2 x3 x4 x5 y0 y1 y2 y3 y4 y5
  obtain ⟨wa, hwa⟩ : ∃ wa, w3.alloc (.cells #[.string ⟨#[97]⟩, .string ⟨#[98]⟩, .string ⟨#[99]⟩, .string ⟨#[100]⟩, .string ⟨#[101]⟩, .string ⟨#[102]⟩, .string ⟨#[103]⟩, .string ⟨#[104]⟩] 9) = wa := ⟨_, rfl⟩
  rw [hwa] at b5 b4 Z45 ⊢
  obtain ⟨w7, hw7⟩ : ∃ w7, wa.alloc (.cells #[.string ⟨#[115, 49]⟩, .string ⟨#[115, 50]⟩, .string ⟨#[115, 51]⟩] 9) = w7 := ⟨_, rfl⟩
  have hsa : wa.heap.size = w3.heap.size + 1 := by rw [← hwa]; simp
  have hs7 : w7.heap.size = w3.heap.size + 1 + 1 := by rw [← hw7, ← hsa]; simp
  have ba7 : Below wa.heap.size wa w7 := by rw [← hw7]; exact balloc _ (Below.refl _ _)
  rw [hw7] at b5 Z45 ⊢
  rw [hsa] at Z45
  have HNM : Hid (∀ w', Below w7.heap.size w7 w' → ∀ (i : Nat) (x : ByteArray), NM[i]? = some x → w'.cell? ⟨w3.heap.size, i, none⟩ = some (.string x)) := Lib.hid fun w' hb i x hx => by
    refine (hb.cell (p := ⟨w3.heap.size, i, none⟩) (by show w3.heap.size < _; omega)).trans ((ba7.cell (p := ⟨w3.heap.size, i, none⟩) (by show w3.heap.size < _; omega)).trans (Z45.out.1 i _ ?_))
    have : (NM.map Value.string).toArray[i]? = some (.string x) := by rw [List.getElem?_toArray, List.getElem?_map, hx]; rfl
    exact this
  have HRS : Hid (∀ w', Below w7.heap.size w7 w' → TextsZ w' (some ⟨w3.heap.size + 1, 0, none⟩) 3 RS) := Lib.hid fun w' hb => ⟨rfl, fun _ => ⟨w3.heap.size + 1, 0, rfl, by have := hb.size; omega, fun i x hx => by
    rw [Nat.zero_add]
    refine (hb.cell (p := ⟨w3.heap.size + 1, i, none⟩) (by show w3.heap.size + 1 < _; omega)).trans (Z45.out.2 i _ ?_)
    have : (RS.map Value.string).toArray[i]? = some (.string x) := by rw [List.getElem?_toArray, List.getElem?_map, hx]; rfl
    exact this⟩⟩
  have HBX : Hid (∀ w', Below w7.heap.size w7 w' → Box3 w w.heap.size A n cap z b p0 p1 p2 w') := Lib.hid fun w' hb => HW4.out w' (bstep b5 hb)
  have HNZ : Hid (∀ w', Below w7.heap.size w7 w' → TextsZ w' (some ⟨w3.heap.size, 0, none⟩) n (nmN n)) := Lib.hid fun w' hb => texts_nm (by have := hb.size; omega) n8 (HNM.out w' hb)
  have HIZ : Hid (∀ w', Below w7.heap.size w7 w' → IntsZ w' A n L) := Lib.hid fun w' hb => HL.out.below (HBX.out w' hb).2.2.2.2
  have hk1 : (0 : Int) ≤ (k : Int) ∧ (k : Int) ≤ (n : Int) := by omega
  have hk2 : (0 : Int) ≤ (k : Int) ∧ (k : Int) ≤ 8 := by omega
  have hk0i : (0 : Int) ≤ (k : Int) := by omega
  have hkni : (k : Int) ≤ (n : Int) := by omega
  have hk8i : (k : Int) ≤ 8 := by omega
  have hkt : ((k : Int)).toNat = k := by omega
  have hk8 : ¬ (8 : Nat) = k := by omega
  have HTK : Hid ((((nmN n).drop k).map Value.string).length = (n - k) * 1 ∧ (((nmN n).take k).map Value.string).length = k * 1) := Lib.hid (by
    have := (nmN_TM n8 hkn).1
    exact ⟨by rw [List.length_map, List.length_drop, this]; omega, by rw [List.length_map, List.length_take, this]; omega⟩)
  clear b4 b5 Z45 hwa hw7 hsa ba7
  refine Code.wp_mono (Q := (fun e a' wz => match e with | .normal => ∃ (g9 gu cu : Nat) (v43 v44 v45 v46 v47 v48 v49 v50 v51 : Value), Below w7.heap.size w7 wz ∧ wz.cell? ⟨g9, 0, none⟩ = some (.slice (some ⟨gu, 0, none⟩) n cu) ∧ g9 < wz.heap.size ∧ TextsZ wz (some ⟨gu, 0, none⟩) n (turnN n k) ∧ n ≤ cu ∧ a' = { tmps := #[Value.agg #[Value.slice A n cap, Value.int IntKind.i64 z, Value.int IntKind.i64 b], Value.agg #[Value.int IntKind.u8 ↑p0, Value.int IntKind.u8 ↑p1, Value.int IntKind.u8 ↑p2], Value.pointer (some { block := w.heap.size, off := 0 }), Value.pointer (some { block := w.heap.size + 1, off := 0 }), Value.bool false, Value.pointer (some { block := w.heap.size + 1 + 1, off := 0 }), Value.slice (some ⟨w3.heap.size, 0, none⟩) n 8, Value.slice (some { block := w3.heap.size + 1, off := 0 }) 3 3, Value.int IntKind.i64 ↑k, .pointer (some ⟨g9, 0, none⟩), undef, undef, undef, undef, undef, undef, undef, undef, undef, undef, undef, Value.agg #[Value.slice A n cap, Value.int IntKind.i64 z, Value.int IntKind.i64 b], Value.agg #[Value.slice A n cap, Value.int IntKind.i64 z, Value.int IntKind.i64 b], Value.bool true, Value.bool false, Value.bool false, Value.agg #[Value.slice A n cap, Value.int IntKind.i64 z, Value.int IntKind.i64 b], Value.int IntKind.i64 0, Value.bool false, Value.bool false, undef, Value.slice (some ⟨w3.heap.size, 0, none⟩) 8 8, Value.pointer (some { block := w.heap.size, off := 0 }), Value.slice A n cap, Value.int IntKind.i64 ↑n, Value.slice (some ⟨w3.heap.size, 0, none⟩) n 8, Value.slice (some { block := w3.heap.size + 1, off := 0 }) 3 3, Value.pointer (some { block := w.heap.size + 1, off := 0 }), Value.int IntKind.u8 ↑p0, Value.int IntKind.i64 ↑p0, Value.slice (some ⟨w3.heap.size, 0, none⟩) n 8, Value.int IntKind.i64 ↑n, Value.int IntKind.i64 ↑k, v43, v44, v45, v46, v47, v48, v49, v50, v51, undef, undef, undef, undef, undef, undef, undef, undef, undef, undef, undef, undef, undef, undef, undef, undef, undef, undef, undef, undef, undef, undef, undef, undef, undef, undef, undef, undef, undef, undef, undef, undef, undef, undef, undef, undef, undef, undef, undef, undef, undef, undef, undef, undef, undef, undef, undef, undef, undef, undef, undef, undef, undef, undef, undef, undef, undef, undef, undef, undef, undef, undef, undef, undef, undef, undef, undef, undef, undef, undef, undef, undef, undef, undef, undef, undef, undef, undef, undef, undef, undef, undef, undef, undef, undef, undef, undef, undef, undef, undef, undef, undef, undef, undef, undef, undef], defers := [] } | _ => False)) ?_ ?_
  · intro e a' wz hq
    cases e with
    | normal =>
      obtain ⟨g9, gu, cu, v43, v44, v45, v46, v47, v48, v49, v50, v51, hHeld, hc9, h9, hUZ, hcu, rfl⟩ := hq
      have HZ := Lib.hid hHeld
      have H9 := Lib.hid (And.intro hc9 (And.intro h9 hUZ))
      have HCU := Lib.hid hcu
      clear hHeld hc9 h9 hUZ hcu
      have HF : Hid (∀ w', Below wz.heap.size wz w' → (w'.cell? ⟨w.heap.size, 0, none⟩ = some (.slice A n cap) ∧ w'.cell? ⟨w.heap.size, 1, none⟩ = some (.int .i64 z) ∧ w'.cell? ⟨w.heap.size, 2, none⟩ = some (.int .i64 b)) ∧ (w'.cell? ⟨w.heap.size + 1, 0, none⟩ = some (.int .u8 (p0 : Int)) ∧ w'.cell? ⟨w.heap.size + 1, 1, none⟩ = some (.int .u8 (p1 : Int)) ∧ w'.cell? ⟨w.heap.size + 1, 2, none⟩ = some (.int .u8 (p2 : Int))) ∧ w'.cell? ⟨g9, 0, none⟩ = some (.slice (some ⟨gu, 0, none⟩) n cu) ∧ g9 < w'.heap.size ∧ TextsZ w' (some ⟨gu, 0, none⟩) n (turnN n k) ∧ TextsZ w' (some ⟨w3.heap.size, 0, none⟩) n (nmN n) ∧ TextsZ w' (some ⟨w3.heap.size + 1, 0, none⟩) 3 RS ∧ IntsZ w' A n L ∧ Below w.heap.size w w') := Lib.hid fun w' hb => by
        have h7 := bstep HZ.out hb
        obtain ⟨q1, q2, _, _, q5⟩ := HBX.out w' h7
        exact ⟨q1, q2, (hb.cell (p := ⟨g9, 0, none⟩) H9.out.2.1).trans H9.out.1, Nat.lt_of_lt_of_le H9.out.2.1 hb.size, H9.out.2.2.below hb, HNZ.out w' h7, HRS.out w' h7, HIZ.out w' h7, q5⟩
      have HCL : Hid (∀ (p q : Nat) (s : ByteArray) (w' : World), p < 256 → p % n = q → Below wz.heap.size wz w' → Calls Tryz.prog 35 #[.int .u8 (p : Int), .string s, .pointer (some ⟨g9, 0, none⟩)] w' (fun e w'' => ∃ v, e = .returned v ∧ OwnNames w'' w'.heap.size v ((turnN n k).set q s) ∧ Below w'.heap.size w' w'')) := Lib.hid fun p q s w' hp hq hb => by
        obtain ⟨_, _, q3, q4, q5, _⟩ := HF.out w' hb
        have := HCH.out (turnN n k) cu g9 gu p s w' q3 q4 q5 hp
        rwa [hq] at this
      have H1 : Hid (∀ w', Below wz.heap.size wz w' → Calls Tryz.prog 35 #[.int .u8 (p1 : Int), .string ⟨#[115, 49]⟩, .pointer (some ⟨g9, 0, none⟩)] w' (fun e w'' => ∃ v, e = .returned v ∧ OwnNames w'' w'.heap.size v ((turnN n k).set i s1) ∧ Below w'.heap.size w' w'')) := Lib.hid fun w' hb => HCL.out p1 i s1 w' hp1 HIJ.out.2.1 hb
      have H2 : Hid (∀ w', Below wz.heap.size wz w' → Calls Tryz.prog 35 #[.int .u8 (p2 : Int), .string ⟨#[115, 50]⟩, .pointer (some ⟨g9, 0, none⟩)] w' (fun e w'' => ∃ v, e = .returned v ∧ OwnNames w'' w'.heap.size v ((turnN n k).set j s2) ∧ Below w'.heap.size w' w'')) := Lib.hid fun w' hb => HCL.out p2 j s2 w' hp2 HIJ.out.2.2 hb
      have H3 : Hid (∀ w', Below wz.heap.size wz w' → Calls Tryz.prog 35 #[.int .u8 (p0 : Int), .string ⟨#[115, 51]⟩, .pointer (some ⟨g9, 0, none⟩)] w' (fun e w'' => ∃ v, e = .returned v ∧ OwnNames w'' w'.heap.size v ((turnN n k).set k s3) ∧ Below w'.heap.size w' w'')) := Lib.hid fun w' hb => HCL.out p0 k s3 w' hp0 HIJ.out.1 hb
      have H4 : Hid (∀ w', Below wz.heap.size wz w' → Calls Tryz.prog 35 #[.int .u8 (p1 : Int), .string ⟨#[119, 104, 111]⟩, .pointer (some ⟨g9, 0, none⟩)] w' (fun e w'' => ∃ v, e = .returned v ∧ OwnNames w'' w'.heap.size v ((turnN n k).set i whoB) ∧ Below w'.heap.size w' w'')) := Lib.hid fun w' hb => HCL.out p1 i whoB w' hp1 HIJ.out.2.1 hb
      have HP9 : Hid (∀ w', Below wz.heap.size wz w' → w'.cell? ⟨w.heap.size + 1, 0, none⟩ = some (.int .u8 (p0 : Int)) ∧ w'.cell? ⟨w.heap.size + 1, 1, none⟩ = some (.int .u8 (p1 : Int)) ∧ w'.cell? ⟨w.heap.size + 1, 2, none⟩ = some (.int .u8 (p2 : Int)) ∧ Below wz.heap.size wz w') := Lib.hid fun w' hb => by
        obtain ⟨_, ⟨q1, q2, q3⟩, _⟩ := HF.out w' hb
        exact ⟨q1, q2, q3, hb⟩
      go_wp2_with fail
      go_region_held3 (fun w' => w'.cell? ⟨w.heap.size + 1, 0, none⟩ = some (.int .u8 (p0 : Int)) ∧ w'.cell? ⟨w.heap.size + 1, 1, none⟩ = some (.int .u8 (p1 : Int)) ∧ w'.cell? ⟨w.heap.size + 1, 2, none⟩ = some (.int .u8 (p2 : Int)) ∧ Below wz.heap.size wz w') ((first | (exact HP9.out _ (Below.drew (Below.refl _ _))) | (assumption) | (exact HP9.out _ (bstep (by first | exact (Below.drew (Below.refl _ _)) | assumption | (have hq : _ ∧ _ ∧ _ ∧ Below wz.heap.size wz _ := (by assumption); exact hq.2.2.2)) hbB)) | (exact HP9.out _ (bstep (by first | exact (Below.drew (Below.refl _ _)) | assumption | (have hq : _ ∧ _ ∧ _ ∧ Below wz.heap.size wz _ := (by assumption); exact hq.2.2.2)) hbA)))) ((first | (go_at_call 35; (with_reducible refine (H1.out _ (by first | exact (Below.drew (Below.refl _ _)) | assumption | (have hq : _ ∧ _ ∧ _ ∧ Below wz.heap.size wz _ := (by assumption); exact hq.2.2.2))).mono ?_); rintro e wA ⟨v1, rfl, ho1, hbA⟩) | (go_at_call 35; (with_reducible refine (H2.out _ (by first | exact (Below.drew (Below.refl _ _)) | assumption | (have hq : _ ∧ _ ∧ _ ∧ Below wz.heap.size wz _ := (by assumption); exact hq.2.2.2))).mono ?_); rintro e wB ⟨v2, rfl, ho2, hbB⟩)))
      all_goals
        rename_i hH
        have hzB := hH.2.2.2
        clear hH
        obtain ⟨g1, c1, rfl, hc1, hZ1⟩ := own_tz ho1 (HSZ.out _ (by simp)).1 hn0
        obtain ⟨g2, c2, rfl, hc2, hZ2⟩ := own_tz ho2 (HSZ.out _ (by simp)).1 hn0
        have hZ1B := hZ1.below hbB
        have HT : Hid (∀ w', Below wB.heap.size wB w' → TextsZ w' (some ⟨g1, 0, none⟩) n ((turnN n k).set i s1) ∧ TextsZ w' (some ⟨g2, 0, none⟩) n ((turnN n k).set j s2) ∧ Below wz.heap.size wz w') := Lib.hid fun w' hb => ⟨hZ1B.below hb, hZ2.below hb, bstep hzB hb⟩
        clear ho1 ho2 hZ1 hZ1B hZ2 hbA hbB H1 H2 HP9 HCL
        obtain ⟨⟨r0, r1, r2⟩, ⟨k0, k1, k2⟩, q3, q4, tU, tN, tR, tI, tW⟩ := HF.out wB (hzB)
        obtain ⟨t1, t2, _⟩ := HT.out wB (Below.refl _ _)
        have hTm : TeamsB (wB.alloc (.cells #[.slice (some ⟨w3.heap.size, 0, none⟩) n 8, .slice (some ⟨gu, 0, none⟩) n cu, .slice (some ⟨g1, 0, none⟩) n c1, .slice (some ⟨g2, 0, none⟩) n c2, .slice (some ⟨gu, 0, none⟩) n cu] 54)) (wB.alloc (.cells #[.slice (some ⟨w3.heap.size, 0, none⟩) n 8, .slice (some ⟨gu, 0, none⟩) n cu, .slice (some ⟨g1, 0, none⟩) n c1, .slice (some ⟨g2, 0, none⟩) n c2, .slice (some ⟨gu, 0, none⟩) n cu] 54)).heap.size (some ⟨wB.heap.size, 0, none⟩) 5 [nmN n, turnN n k, (turnN n k).set i s1, (turnN n k).set j s2, turnN n k] := teams_lit wB 54 n [((some ⟨w3.heap.size, 0, none⟩), 8, nmN n), ((some ⟨gu, 0, none⟩), cu, turnN n k), ((some ⟨g1, 0, none⟩), c1, (turnN n k).set i s1), ((some ⟨g2, 0, none⟩), c2, (turnN n k).set j s2), ((some ⟨gu, 0, none⟩), cu, turnN n k)] (by
          intro q hq
          simp only [List.mem_cons, List.mem_nil_iff, or_false] at hq
          rcases hq with rfl | rfl | rfl | rfl | rfl
          · exact ⟨(HSZ.out _ (by simp)).1, n8, tN⟩
          · exact ⟨(HSZ.out _ (by simp)).1, HCU.out, tU⟩
          · exact ⟨(HSZ.out _ (by simp)).1, hc1, t1⟩
          · exact ⟨(HSZ.out _ (by simp)).1, hc2, t2⟩
          · exact ⟨(HSZ.out _ (by simp)).1, HCU.out, tU⟩
          )
        have hbl := balloc (.cells #[.slice (some ⟨w3.heap.size, 0, none⟩) n 8, .slice (some ⟨gu, 0, none⟩) n cu, .slice (some ⟨g1, 0, none⟩) n c1, .slice (some ⟨g2, 0, none⟩) n c2, .slice (some ⟨gu, 0, none⟩) n cu] 54) (Below.refl wB.heap.size wB)
        have H10 : Calls Tryz.prog 26 #[.agg #[.slice A n cap, .int .i64 z, .int .i64 b], .slice (some ⟨wB.heap.size, 0, none⟩) 5 5, .slice (some ⟨w3.heap.size + 1, 0, none⟩) 3 3] (wB.alloc (.cells #[.slice (some ⟨w3.heap.size, 0, none⟩) n 8, .slice (some ⟨gu, 0, none⟩) n cu, .slice (some ⟨g1, 0, none⟩) n c1, .slice (some ⟨g2, 0, none⟩) n c2, .slice (some ⟨gu, 0, none⟩) n cu] 54)) (RetPost (.tuple #[.int .i64 0, .int .i64 0]) (wB.alloc (.cells #[.slice (some ⟨w3.heap.size, 0, none⟩) n 8, .slice (some ⟨gu, 0, none⟩) n cu, .slice (some ⟨g1, 0, none⟩) n c1, .slice (some ⟨g2, 0, none⟩) n c2, .slice (some ⟨gu, 0, none⟩) n cu] 54))) := HTS.out [nmN n, turnN n k, (turnN n k).set i s1, (turnN n k).set j s2, turnN n k] 5 (w3.heap.size + 1) 3 _ 0 0 wB.heap.size (tI.below hbl) hTm (tR.below hbl) (Nat.le_refl _) (by decide) (fun l hl => ⟨by rw [(HSZ.out l (by simp at hl ⊢; rcases hl with h | h | h | h | h <;> simp [h])).1]; omega, (HSZ.out l (by simp at hl ⊢; rcases hl with h | h | h | h | h <;> simp [h])).2⟩) HRES.out.1
        clear hTm tU tN tR tI tW t1 t2 k0 k1 k2 q4
        go_wp2_with fail
        refine H10.mono ?_
        rintro e wC ⟨rfl, hbC⟩
        have hBC := bstep hbl hbC
        clear r0 r1 r2 q3 hbC hbl H10
        obtain ⟨⟨r0, r1, r2⟩, ⟨k0, k1, k2⟩, q3, q4, tU, tN, tR, tI, tW⟩ := HF.out wC (bstep hzB hBC)
        obtain ⟨t1, t2, _⟩ := HT.out wC hBC
        have hTm : TeamsB (wC.alloc (.cells #[.slice (some ⟨w3.heap.size, 0, none⟩) n 8, .slice (some ⟨gu, 0, none⟩) n cu, .slice (some ⟨g1, 0, none⟩) n c1, .slice (some ⟨g2, 0, none⟩) n c2, .slice (some ⟨gu, 0, none⟩) n cu] 54)) (wC.alloc (.cells #[.slice (some ⟨w3.heap.size, 0, none⟩) n 8, .slice (some ⟨gu, 0, none⟩) n cu, .slice (some ⟨g1, 0, none⟩) n c1, .slice (some ⟨g2, 0, none⟩) n c2, .slice (some ⟨gu, 0, none⟩) n cu] 54)).heap.size (some ⟨wC.heap.size, 0, none⟩) 5 [nmN n, turnN n k, (turnN n k).set i s1, (turnN n k).set j s2, turnN n k] := teams_lit wC 54 n [((some ⟨w3.heap.size, 0, none⟩), 8, nmN n), ((some ⟨gu, 0, none⟩), cu, turnN n k), ((some ⟨g1, 0, none⟩), c1, (turnN n k).set i s1), ((some ⟨g2, 0, none⟩), c2, (turnN n k).set j s2), ((some ⟨gu, 0, none⟩), cu, turnN n k)] (by
          intro q hq
          simp only [List.mem_cons, List.mem_nil_iff, or_false] at hq
          rcases hq with rfl | rfl | rfl | rfl | rfl
          · exact ⟨(HSZ.out _ (by simp)).1, n8, tN⟩
          · exact ⟨(HSZ.out _ (by simp)).1, HCU.out, tU⟩
          · exact ⟨(HSZ.out _ (by simp)).1, hc1, t1⟩
          · exact ⟨(HSZ.out _ (by simp)).1, hc2, t2⟩
          · exact ⟨(HSZ.out _ (by simp)).1, HCU.out, tU⟩
          )
        have hbl := balloc (.cells #[.slice (some ⟨w3.heap.size, 0, none⟩) n 8, .slice (some ⟨gu, 0, none⟩) n cu, .slice (some ⟨g1, 0, none⟩) n c1, .slice (some ⟨g2, 0, none⟩) n c2, .slice (some ⟨gu, 0, none⟩) n cu] 54) (Below.refl wC.heap.size wC)
        have H11 : Calls Tryz.prog 27 #[.agg #[.slice A n cap, .int .i64 z, .int .i64 b], .slice (some ⟨wC.heap.size, 0, none⟩) 5 5, .slice (some ⟨w3.heap.size + 1, 0, none⟩) 3 3] (wC.alloc (.cells #[.slice (some ⟨w3.heap.size, 0, none⟩) n 8, .slice (some ⟨gu, 0, none⟩) n cu, .slice (some ⟨g1, 0, none⟩) n c1, .slice (some ⟨g2, 0, none⟩) n c2, .slice (some ⟨gu, 0, none⟩) n cu] 54)) (fun e w' => ∃ v, e = .returned (.tuple #[v, .int .i64 0]) ∧ OwnNames w' (wC.alloc (.cells #[.slice (some ⟨w3.heap.size, 0, none⟩) n 8, .slice (some ⟨gu, 0, none⟩) n cu, .slice (some ⟨g1, 0, none⟩) n c1, .slice (some ⟨g2, 0, none⟩) n c2, .slice (some ⟨gu, 0, none⟩) n cu] 54)).heap.size v (nmN n ++ [s1, s2]) ∧ Below (wC.alloc (.cells #[.slice (some ⟨w3.heap.size, 0, none⟩) n 8, .slice (some ⟨gu, 0, none⟩) n cu, .slice (some ⟨g1, 0, none⟩) n c1, .slice (some ⟨g2, 0, none⟩) n c2, .slice (some ⟨gu, 0, none⟩) n cu] 54)).heap.size (wC.alloc (.cells #[.slice (some ⟨w3.heap.size, 0, none⟩) n 8, .slice (some ⟨gu, 0, none⟩) n cu, .slice (some ⟨g1, 0, none⟩) n c1, .slice (some ⟨g2, 0, none⟩) n c2, .slice (some ⟨gu, 0, none⟩) n cu] 54)) w') := HTM.out [nmN n, turnN n k, (turnN n k).set i s1, (turnN n k).set j s2, turnN n k] 5 (w3.heap.size + 1) 3 _ _ 0 wC.heap.size (tI.below hbl) hTm (tR.below hbl) (Nat.le_refl _) (by decide) (fun l hl => ⟨by rw [(HSZ.out l (by simp at hl ⊢; rcases hl with h | h | h | h | h <;> simp [h])).1]; omega, (HSZ.out l (by simp at hl ⊢; rcases hl with h | h | h | h | h <;> simp [h])).2⟩) HFLT.out HRES.out.1 HRES.out.2.2.2.1
        clear hTm tU tN tR tI tW t1 t2 k0 k1 k2 q4
        go_wp2_with fail
        refine H11.mono ?_
        rintro e wD ⟨vm, rfl, hom, hbD⟩
        have hCD := bstep hbl hbD
        obtain ⟨gm, cm, rfl, hcm, hZm⟩ := own_tz hom (by rw [List.length_append, (HSZ.out (nmN n) (by simp)).1]; rfl : (nmN n ++ [s1, s2]).length = n + 2) (by omega)
        have hBD := bstep hBC hCD
        have HZD := Lib.hid (bstep hzB hBD)
        have HTD : Hid (∀ w', Below wD.heap.size wD w' → TextsZ w' (some ⟨gm, 0, none⟩) (n + 2) (nmN n ++ [s1, s2]) ∧ Below wB.heap.size wB w') := Lib.hid fun w' hb => ⟨hZm.below hb, bstep hBD hb⟩
        clear r0 r1 r2 q3 hbD hbl H11 hom hZm hBC hCD hBD hzB
        have HQ : Hid (∀ w', Below wD.heap.size wD w' → w'.cell? ⟨w.heap.size, 0, none⟩ = some (.slice A n cap) ∧ w'.cell? ⟨w.heap.size, 1, none⟩ = some (.int .i64 z) ∧ w'.cell? ⟨w.heap.size, 2, none⟩ = some (.int .i64 b) ∧ w'.cell? ⟨w.heap.size + 1, 0, none⟩ = some (.int .u8 (p0 : Int)) ∧ w'.cell? ⟨w.heap.size + 1, 1, none⟩ = some (.int .u8 (p1 : Int)) ∧ w'.cell? ⟨w.heap.size + 1, 2, none⟩ = some (.int .u8 (p2 : Int)) ∧ Below wD.heap.size wD w') := Lib.hid fun w' hb => by
          obtain ⟨⟨r0, r1, r2⟩, ⟨k0, k1, k2⟩, q3, _⟩ := HF.out w' (bstep HZD.out hb)
          exact ⟨r0, r1, r2, k0, k1, k2, hb⟩
        have HC : Hid (∀ (wE : World) (g3 c3 : Nat), n ≤ c3 → TextsZ wE (some ⟨g3, 0, none⟩) n ((turnN n k).set k s3) → Below wD.heap.size wD wE → Calls Tryz.prog 26 #[.agg #[.slice A n cap, .int .i64 z, .int .i64 b], .slice (some ⟨wE.heap.size, 0, none⟩) 4 4, .slice (some ⟨w3.heap.size + 1, 0, none⟩) 3 3] (wE.alloc (.cells #[.slice (some ⟨w3.heap.size, 0, none⟩) n 8, .slice (some ⟨g1, 0, none⟩) n c1, .slice (some ⟨g2, 0, none⟩) n c2, .slice (some ⟨g3, 0, none⟩) n c3] 54)) (RetPost (.tuple #[.int .i64 3, .int .i64 18]) (wE.alloc (.cells #[.slice (some ⟨w3.heap.size, 0, none⟩) n 8, .slice (some ⟨g1, 0, none⟩) n c1, .slice (some ⟨g2, 0, none⟩) n c2, .slice (some ⟨g3, 0, none⟩) n c3] 54)))) := Lib.hid fun wE g3 c3 q1 q2 qb => by
          obtain ⟨_, _, _, _, tU, tN, tR, tI, tW⟩ := HF.out wE (bstep HZD.out qb)
          obtain ⟨t1, t2, _⟩ := HT.out wE ((HTD.out _ qb).2)
          have hTm : TeamsB (wE.alloc (.cells #[.slice (some ⟨w3.heap.size, 0, none⟩) n 8, .slice (some ⟨g1, 0, none⟩) n c1, .slice (some ⟨g2, 0, none⟩) n c2, .slice (some ⟨g3, 0, none⟩) n c3] 54)) (wE.alloc (.cells #[.slice (some ⟨w3.heap.size, 0, none⟩) n 8, .slice (some ⟨g1, 0, none⟩) n c1, .slice (some ⟨g2, 0, none⟩) n c2, .slice (some ⟨g3, 0, none⟩) n c3] 54)).heap.size (some ⟨wE.heap.size, 0, none⟩) 4 [nmN n, (turnN n k).set i s1, (turnN n k).set j s2, (turnN n k).set k s3] := teams_lit wE 54 n [((some ⟨w3.heap.size, 0, none⟩), 8, nmN n), ((some ⟨g1, 0, none⟩), c1, (turnN n k).set i s1), ((some ⟨g2, 0, none⟩), c2, (turnN n k).set j s2), ((some ⟨g3, 0, none⟩), c3, (turnN n k).set k s3)] (by
            intro q hq
            simp only [List.mem_cons, List.mem_nil_iff, or_false] at hq
            rcases hq with rfl | rfl | rfl | rfl
            · exact ⟨(HSZ.out _ (by simp)).1, n8, tN⟩
            · exact ⟨(HSZ.out _ (by simp)).1, hc1, t1⟩
            · exact ⟨(HSZ.out _ (by simp)).1, hc2, t2⟩
            · exact ⟨(HSZ.out _ (by simp)).1, q1, q2⟩
            )
          have hbl := balloc (.cells #[.slice (some ⟨w3.heap.size, 0, none⟩) n 8, .slice (some ⟨g1, 0, none⟩) n c1, .slice (some ⟨g2, 0, none⟩) n c2, .slice (some ⟨g3, 0, none⟩) n c3] 54) (Below.refl wE.heap.size wE)
          exact HTS.out [nmN n, (turnN n k).set i s1, (turnN n k).set j s2, (turnN n k).set k s3] 4 (w3.heap.size + 1) 3 _ 3 18 wE.heap.size (tI.below hbl) hTm (tR.below hbl) (Nat.le_refl _) (by decide) (fun l hl => ⟨by rw [(HSZ.out l (by simp at hl ⊢; rcases hl with h | h | h | h <;> simp [h])).1]; omega, (HSZ.out l (by simp at hl ⊢; rcases hl with h | h | h | h <;> simp [h])).2⟩) HRES.out.2.1
        go_wp2_with fail
        go_region_held3 (fun w' => w'.cell? ⟨w.heap.size, 0, none⟩ = some (.slice A n cap) ∧ w'.cell? ⟨w.heap.size, 1, none⟩ = some (.int .i64 z) ∧ w'.cell? ⟨w.heap.size, 2, none⟩ = some (.int .i64 b) ∧ w'.cell? ⟨w.heap.size + 1, 0, none⟩ = some (.int .u8 (p0 : Int)) ∧ w'.cell? ⟨w.heap.size + 1, 1, none⟩ = some (.int .u8 (p1 : Int)) ∧ w'.cell? ⟨w.heap.size + 1, 2, none⟩ = some (.int .u8 (p2 : Int)) ∧ Below wD.heap.size wD w') ((first | (exact HQ.out _ (Below.drew (Below.refl _ _))) | (assumption) | (exact HQ.out _ (bstep (by first | exact (Below.drew (Below.refl _ _)) | assumption | (have hq : _ ∧ _ ∧ _ ∧ _ ∧ _ ∧ _ ∧ Below wD.heap.size wD _ := (by assumption); exact hq.2.2.2.2.2.2)) hbX)) | (exact HQ.out _ (balloc _ (by first | exact (Below.drew (Below.refl _ _)) | assumption | (have hq : _ ∧ _ ∧ _ ∧ _ ∧ _ ∧ _ ∧ Below wD.heap.size wD _ := (by assumption); exact hq.2.2.2.2.2.2)))) | (exact HQ.out _ (bstep (by first | exact (Below.drew (Below.refl _ _)) | assumption | (have hq : _ ∧ _ ∧ _ ∧ _ ∧ _ ∧ _ ∧ Below wD.heap.size wD _ := (by assumption); exact hq.2.2.2.2.2.2)) hbY)))) ((first | (go_at_call 35; (with_reducible refine (H3.out _ (bstep HZD.out (by first | exact (Below.drew (Below.refl _ _)) | assumption | (have hq : _ ∧ _ ∧ _ ∧ _ ∧ _ ∧ _ ∧ Below wD.heap.size wD _ := (by assumption); exact hq.2.2.2.2.2.2)))).mono ?_); rintro e wE ⟨v3, rfl, ho3, hbX⟩; obtain ⟨g3, c3, rfl, hc3, hZ3⟩ := own_tz ho3 (HSZ.out _ (by simp)).1 hn0) | (go_at_call 26; (refine (HC.out wE g3 c3 hc3 hZ3 (bstep (Below.drew (Below.refl _ _)) hbX)).mono ?_); rintro e wF ⟨rfl, hbY⟩)))
        all_goals
          rename_i hH
          have hWY := hH.2.2.2.2.2.2
          clear hH HQ HC ho3 hZ3 hbX hbY
          have HZF := Lib.hid (bstep HZD.out hWY)
          have HTF : Hid (∀ w', Below wF.heap.size wF w' → TextsZ w' (some ⟨gm, 0, none⟩) (n + 2) (nmN n ++ [s1, s2]) ∧ Below wB.heap.size wB w') := Lib.hid fun w' hb => HTD.out w' (bstep hWY hb)
          clear hWY hc3 H3
          have HQ : Hid (∀ w', Below wF.heap.size wF w' → w'.cell? ⟨w.heap.size, 0, none⟩ = some (.slice A n cap) ∧ w'.cell? ⟨w.heap.size, 1, none⟩ = some (.int .i64 z) ∧ w'.cell? ⟨w.heap.size, 2, none⟩ = some (.int .i64 b) ∧ w'.cell? ⟨g9, 0, none⟩ = some (.slice (some ⟨gu, 0, none⟩) n cu) ∧ w'.cell? ⟨w.heap.size + 1, 0, none⟩ = some (.int .u8 (p0 : Int)) ∧ w'.cell? ⟨w.heap.size + 1, 1, none⟩ = some (.int .u8 (p1 : Int)) ∧ w'.cell? ⟨w.heap.size + 1, 2, none⟩ = some (.int .u8 (p2 : Int)) ∧ Below wF.heap.size wF w') := Lib.hid fun w' hb => by
            obtain ⟨⟨r0, r1, r2⟩, ⟨k0, k1, k2⟩, q3, _⟩ := HF.out w' (bstep HZF.out hb)
            exact ⟨r0, r1, r2, q3, k0, k1, k2, hb⟩
          have HC : Hid (∀ (wG : World) (g4 c4 : Nat), n ≤ c4 → TextsZ wG (some ⟨g4, 0, none⟩) n ((turnN n k).set i whoB) → Below wF.heap.size wF wG → Calls Tryz.prog 26 #[.agg #[.slice A n cap, .int .i64 z, .int .i64 b], .slice (some ⟨wG.heap.size, 0, none⟩) 3 3, .slice (some ⟨w3.heap.size + 1, 0, none⟩) 3 3] (wG.alloc (.cells #[.slice (some ⟨w3.heap.size, 0, none⟩) n 8, .slice (some ⟨gu, 0, none⟩) n cu, .slice (some ⟨g4, 0, none⟩) n c4] 54)) (RetPost (.tuple #[.int .i64 2, .int .i64 10]) (wG.alloc (.cells #[.slice (some ⟨w3.heap.size, 0, none⟩) n 8, .slice (some ⟨gu, 0, none⟩) n cu, .slice (some ⟨g4, 0, none⟩) n c4] 54)))) := Lib.hid fun wG g4 c4 q1 q2 qb => by
            obtain ⟨_, _, _, _, tU, tN, tR, tI, tW⟩ := HF.out wG (bstep HZF.out qb)
            obtain ⟨t1, t2, _⟩ := HT.out wG ((HTF.out _ qb).2)
            have hTm : TeamsB (wG.alloc (.cells #[.slice (some ⟨w3.heap.size, 0, none⟩) n 8, .slice (some ⟨gu, 0, none⟩) n cu, .slice (some ⟨g4, 0, none⟩) n c4] 54)) (wG.alloc (.cells #[.slice (some ⟨w3.heap.size, 0, none⟩) n 8, .slice (some ⟨gu, 0, none⟩) n cu, .slice (some ⟨g4, 0, none⟩) n c4] 54)).heap.size (some ⟨wG.heap.size, 0, none⟩) 3 [nmN n, turnN n k, (turnN n k).set i whoB] := teams_lit wG 54 n [((some ⟨w3.heap.size, 0, none⟩), 8, nmN n), ((some ⟨gu, 0, none⟩), cu, turnN n k), ((some ⟨g4, 0, none⟩), c4, (turnN n k).set i whoB)] (by
              intro q hq
              simp only [List.mem_cons, List.mem_nil_iff, or_false] at hq
              rcases hq with rfl | rfl | rfl
              · exact ⟨(HSZ.out _ (by simp)).1, n8, tN⟩
              · exact ⟨(HSZ.out _ (by simp)).1, HCU.out, tU⟩
              · exact ⟨(HSZ.out _ (by simp)).1, q1, q2⟩
              )
            have hbl := balloc (.cells #[.slice (some ⟨w3.heap.size, 0, none⟩) n 8, .slice (some ⟨gu, 0, none⟩) n cu, .slice (some ⟨g4, 0, none⟩) n c4] 54) (Below.refl wG.heap.size wG)
            exact HTS.out [nmN n, turnN n k, (turnN n k).set i whoB] 3 (w3.heap.size + 1) 3 _ 2 10 wG.heap.size (tI.below hbl) hTm (tR.below hbl) (Nat.le_refl _) (by decide) (fun l hl => ⟨by rw [(HSZ.out l (by simp at hl ⊢; rcases hl with h | h | h <;> simp [h])).1]; omega, (HSZ.out l (by simp at hl ⊢; rcases hl with h | h | h <;> simp [h])).2⟩) HRES.out.2.2.1
          go_wp2_with fail
          go_region_held3 (fun w' => w'.cell? ⟨w.heap.size, 0, none⟩ = some (.slice A n cap) ∧ w'.cell? ⟨w.heap.size, 1, none⟩ = some (.int .i64 z) ∧ w'.cell? ⟨w.heap.size, 2, none⟩ = some (.int .i64 b) ∧ w'.cell? ⟨g9, 0, none⟩ = some (.slice (some ⟨gu, 0, none⟩) n cu) ∧ w'.cell? ⟨w.heap.size + 1, 0, none⟩ = some (.int .u8 (p0 : Int)) ∧ w'.cell? ⟨w.heap.size + 1, 1, none⟩ = some (.int .u8 (p1 : Int)) ∧ w'.cell? ⟨w.heap.size + 1, 2, none⟩ = some (.int .u8 (p2 : Int)) ∧ Below wF.heap.size wF w') ((first | (exact HQ.out _ (Below.drew (Below.refl _ _))) | (assumption) | (exact HQ.out _ (bstep (by first | exact (Below.drew (Below.refl _ _)) | assumption | (have hq : _ ∧ _ ∧ _ ∧ _ ∧ _ ∧ _ ∧ _ ∧ Below wF.heap.size wF _ := (by assumption); exact hq.2.2.2.2.2.2.2)) hbX)) | (exact HQ.out _ (balloc _ (by first | exact (Below.drew (Below.refl _ _)) | assumption | (have hq : _ ∧ _ ∧ _ ∧ _ ∧ _ ∧ _ ∧ _ ∧ Below wF.heap.size wF _ := (by assumption); exact hq.2.2.2.2.2.2.2)))) | (exact HQ.out _ (bstep (by first | exact (Below.drew (Below.refl _ _)) | assumption | (have hq : _ ∧ _ ∧ _ ∧ _ ∧ _ ∧ _ ∧ _ ∧ Below wF.heap.size wF _ := (by assumption); exact hq.2.2.2.2.2.2.2)) hbY)))) ((first | (go_at_call 35; (with_reducible refine (H4.out _ (bstep HZF.out (by first | exact (Below.drew (Below.refl _ _)) | assumption | (have hq : _ ∧ _ ∧ _ ∧ _ ∧ _ ∧ _ ∧ _ ∧ Below wF.heap.size wF _ := (by assumption); exact hq.2.2.2.2.2.2.2)))).mono ?_); rintro e wG ⟨v3, rfl, ho3, hbX⟩; obtain ⟨g4, c4, rfl, hc3, hZ3⟩ := own_tz ho3 (HSZ.out _ (by simp)).1 hn0) | (go_at_call 26; (refine (HC.out wG g4 c4 hc3 hZ3 (bstep (Below.drew (Below.refl _ _)) hbX)).mono ?_); rintro e wH ⟨rfl, hbY⟩)))
          all_goals
            rename_i hH
            have hWY := hH.2.2.2.2.2.2.2
            clear hH HQ HC ho3 hZ3 hbX hbY
            have HZH := Lib.hid (bstep HZF.out hWY)
            have HTH : Hid (∀ w', Below wH.heap.size wH w' → TextsZ w' (some ⟨gm, 0, none⟩) (n + 2) (nmN n ++ [s1, s2])) := Lib.hid fun w' hb => (HTF.out w' (bstep hWY hb)).1
            clear hWY hc3 H4
            obtain ⟨_, _, _, _, _, _, _, _, tW⟩ := HF.out wH HZH.out
            have hl0 := World.ownsRow_lit wH #[] 0 (base := wH.heap.size) (e := 9) (size := 1) (Nat.le_refl _) (by decide) rfl
            have b1 := balloc (.cells #[] 9) (Below.refl wH.heap.size wH)
            obtain ⟨_, _, _, _, _, tN, _, _, _⟩ := HF.out _ (bstep HZH.out b1)
            have HN1 : Hid (∀ (i : Nat) (x : ByteArray), (nmN n)[i]? = some x → (wH.alloc (.cells #[] 9)).cell? ⟨w3.heap.size, i, none⟩ = some (.string x)) := Lib.hid fun i x hx => by
              obtain ⟨g, off, e, _, hcc⟩ := tN.2 hn0
              cases e
              have := hcc i x hx
              rwa [Nat.zero_add] at this
            have hlN := (HSZ.out (nmN n) (by simp)).1
            have HWB := Lib.hid tW
            clear tN tW
            go_wp2_with (first | (at_builtin; refine wpList_append_src _ rfl _ _ 54 rfl wH.heap.size 9 i0 (.string ⟨#[]⟩) 1 16 Tryz.underlying54 hi hz0 hz1 hz2 rfl (by decide) _ _ _ rfl hl0 _ _ _ ((nmN n).map Value.string) rfl (by rw [List.length_map, hlN]; omega) (fun q => by cases q) (fun ad had i u hu => by cases had; rw [List.getElem?_map] at hu; cases hq1 : (nmN n)[i]? with | none => (rw [hq1] at hu; cases hu) | some y => (rw [hq1] at hu; cases hu; rw [add_atX, Nat.zero_add]; exact HN1.out i y hq1)) (strs_one _) (by unfold maxLen; omega) (by omega) b1.size ?_; intro v8 w8 hrow8 hgrow8 _; have b8 := b1.grown hgrow8 b1.size (fun r hr => (World.ownsRow.lt hl0 r hr).1)) | (at_builtin; refine wpList_append_src _ rfl _ _ 54 rfl wH.heap.size 9 i0 (.string ⟨#[]⟩) 1 16 Tryz.underlying54 hi hz0 hz1 hz2 rfl (by decide) _ _ _ rfl (World.ownsRow.alloc hrow8 _) _ _ _ [.string ⟨#[115, 49]⟩, .string ⟨#[115, 50]⟩] rfl rfl (fun q => by cases q) (fun ad had i u hu => by cases had; rw [add_atX, Nat.zero_add]; exact lit_cell i u (by rw [List.getElem?_toArray]; exact hu)) (by intro u hu; simp only [List.mem_cons, List.mem_nil_iff, or_false] at hu; rcases hu with rfl | rfl <;> rfl) (by unfold maxLen; omega) (by omega) (b8.alloc b8.size _).size ?_; intro v9 w9 hrow9 hgrow9 _; have b9 := (b8.alloc b8.size _).grown hgrow9 (b8.alloc b8.size _).size (fun r hr => (World.ownsRow.lt hrow8 r hr).1); obtain ⟨gv, cv, rfl, _, hWZ⟩ := own_tz (names_row hrow9) (by rw [List.length_append, hlN]; rfl : (nmN n ++ [s1, s2]).length = n + 2) (by omega)))
            have tM := HTH.out w9 b9
            go_wp2_with fail
            refine (sameW_any (nmN n ++ [s1, s2]) (some ⟨gm, 0, none⟩) (some ⟨gv, 0, none⟩) (n + 2) cm cv w9 (by omega) tM hWZ).mono ?_
            rintro e0 w0 ⟨rfl, hb0⟩
            have hbF := bstep (bstep HWB.out b9) hb0
            go_wp2_with fail
            refine (HAW.out _ hbF).mono ?_
            rintro e9 w9 ⟨rfl, hb9⟩
            have hfin := bstep hbF hb9
            clear hb9
            go_wp2
            go_ret
            exact ⟨rfl, hfin⟩
    | _ => exact hq.elim
  refine wp_region_held_drew (S := fun w' => Below w7.heap.size w7 w') (by kernel_rfl) ?_ (fun hHeld => ?_)
  · exact (Below.refl _ _).drew
  generalize World.drew w7 = wd at hHeld ⊢
  refine wpAnyH_take (i := 1) (oi := _) (v := ?_) rfl (by kernel_rfl) (by kernel_rfl) (by kernel_rfl) (fun _ _ _ h => h) (Or.inl ⟨by kernel_rfl, ?_⟩) (by assumption) ?_
  rotate_left
  · rintro w hw
    go_simp
    try with_reducible rfl
  try simp only [Act.put, List.setIfInBounds_toArray, List.set_cons_zero, List.set_cons_succ, List.getElem_toArray, List.getElem_cons_zero, List.getElem_cons_succ]
  refine wpAnyH_take (i := 2) (oi := _) (v := ?_) rfl (by kernel_rfl) (by kernel_rfl) (by kernel_rfl) (fun _ _ _ h => h) (Or.inl ⟨by kernel_rfl, ?_⟩) (by assumption) ?_
  rotate_left
  · rintro w hw
    go_simp
    try with_reducible rfl
  try simp only [Act.put, List.setIfInBounds_toArray, List.set_cons_zero, List.set_cons_succ, List.getElem_toArray, List.getElem_cons_zero, List.getElem_cons_succ]
  refine wpAnyH_take (i := 3) (oi := _) (v := ?_) rfl (by kernel_rfl) (by kernel_rfl) (by kernel_rfl) (fun _ _ _ h => h) (Or.inl ⟨by kernel_rfl, ?_⟩) (by assumption) ?_
  rotate_left
  · rintro w hw
    go_simp
    try simp only [if_pos hk1, if_pos hk2, if_neg hk8]
    try with_reducible rfl
  try simp only [Act.put, List.setIfInBounds_toArray, List.set_cons_zero, List.set_cons_succ, List.getElem_toArray, List.getElem_cons_zero, List.getElem_cons_succ]
  refine wpAnyH_take (i := 5) (oi := _) (v := ?_) rfl (by kernel_rfl) (by kernel_rfl) (by kernel_rfl) (fun _ _ _ h => h) (Or.inl ⟨by kernel_rfl, ?_⟩) (by assumption) ?_
  rotate_left
  · rintro w hw
    go_simp
    try with_reducible rfl
  try simp only [Act.put, List.setIfInBounds_toArray, List.set_cons_zero, List.set_cons_succ, List.getElem_toArray, List.getElem_cons_zero, List.getElem_cons_succ]
  refine wpAnyH_take (i := 6) (oi := _) (v := ?_) rfl (by kernel_rfl) (by kernel_rfl) (by kernel_rfl) (fun _ _ _ h => h) (Or.inl ⟨by kernel_rfl, ?_⟩) (by assumption) ?_
  rotate_left
  · rintro w hw
    go_simp
    try with_reducible rfl
  try simp only [Act.put, List.setIfInBounds_toArray, List.set_cons_zero, List.set_cons_succ, List.getElem_toArray, List.getElem_cons_zero, List.getElem_cons_succ]
  refine wpAnyH_take (i := 7) (oi := _) (v := ?_) rfl (by kernel_rfl) (by kernel_rfl) (by kernel_rfl) (fun _ _ _ h => h) (Or.inl ⟨by kernel_rfl, ?_⟩) (by assumption) ?_
  rotate_left
  · rintro w hw
    go_simp
    try simp only [if_pos hk1, if_pos hk2, if_neg hk8]
    try with_reducible rfl
  try simp only [Act.put, List.setIfInBounds_toArray, List.set_cons_zero, List.set_cons_succ, List.getElem_toArray, List.getElem_cons_zero, List.getElem_cons_succ]
  refine wpAnyH_ready (rs := [0, 9]) (by kernel_rfl) (by simp) ?_
  refine AllReadyH.cons (o := _) rfl (fun K hKK => ?_) ?_
  · skip
    go_simp
    have hrow := World.ownsRow_lit wd #[] 0 (base := w7.heap.size) (e := 9) (size := 1) hHeld.size (by decide) rfl
    have hN := hHeld.alloc hHeld.size (.cells #[] 9)
    clear hHeld
    refine hKK.out _ _ ?_ (fun hHeld => ?_)
    · exact hN
    clear hKK K
    try simp only [Act.put, List.setIfInBounds_toArray, List.set_cons_zero, List.set_cons_succ, List.getElem_toArray, List.getElem_cons_zero, List.getElem_cons_succ]
    clear hN
    refine wpAnyH_ready (rs := [4, 9]) (by kernel_rfl) (by simp) ?_
    refine AllReadyH.cons (o := _) rfl (fun K hKK => ?_) ?_
    · skip
      refine step_append_src rfl (.tmp 43) (.tmp 46) 54 rfl w7.heap.size 9 i0 (.string ⟨#[]⟩) 1 16 Tryz.underlying54 hi hz0 hz1 hz2 rfl (by decide) (Value.slice (some ⟨wd.heap.size, 0, none⟩) 0 0) _ _ rfl hrow _ _ _ (((nmN n).drop k).map Value.string) rfl (HTK.out.1) (fun q => by cases q) (fun ad had i u hu => by cases had; obtain ⟨y, q1, rfl⟩ := smap_drop8 hu; rw [add_atX]; exact HNM.out _ hHeld _ y q1) (strs_one _) (by unfold maxLen; omega) (by omega) hHeld.size ?_
      intro v1 x1 hown9 hgrow hat
      have hN := hHeld.grown hgrow hHeld.size (fun r hr => (World.ownsRow.lt hrow r hr).1)
      clear hHeld hrow hat hgrow
      have hrow := hown9
      clear hown9
      refine hKK.out _ _ ?_ (fun hHeld => ?_)
      · exact hN
      clear hKK K
      try simp only [Act.put, List.setIfInBounds_toArray, List.set_cons_zero, List.set_cons_succ, List.getElem_toArray, List.getElem_cons_zero, List.getElem_cons_succ]
      clear hN
      refine wpAnyH_ready (rs := [8, 9]) (by kernel_rfl) (by simp) ?_
      refine AllReadyH.cons (o := _) rfl (fun K hKK => ?_) ?_
      · skip
        refine step_append_src rfl (.tmp 47) (.tmp 50) 54 rfl w7.heap.size 9 i0 (.string ⟨#[]⟩) 1 16 Tryz.underlying54 hi hz0 hz1 hz2 rfl (by decide) (v1) _ _ rfl hrow _ _ _ (((nmN n).take k).map Value.string) rfl (HTK.out.2) (fun q => by cases q) (fun ad had i u hu => by cases had; obtain ⟨y, q1, rfl⟩ := smap_take8 hu; rw [add_atX, Nat.zero_add]; exact HNM.out _ hHeld i y q1) (strs_one _) (by unfold maxLen; omega) (by omega) hHeld.size ?_
        intro v2 x2 hown9 hgrow hat
        have hN := hHeld.grown hgrow hHeld.size (fun r hr => (World.ownsRow.lt hrow r hr).1)
        clear hHeld hrow hat hgrow
        have hrow := hown9
        clear hown9
        refine hKK.out _ _ ?_ (fun hHeld => ?_)
        · exact hN
        clear hKK K
        try simp only [Act.put, List.setIfInBounds_toArray, List.set_cons_zero, List.set_cons_succ, List.getElem_toArray, List.getElem_cons_zero, List.getElem_cons_succ]
        clear hN
        refine wpAnyH_ready (rs := [9]) (by kernel_rfl) (by simp) ?_
        refine AllReadyH.cons (o := _) rfl (fun K hKK => ?_) AllReadyH.nil
        go_simp
        obtain ⟨g9, hg9⟩ : ∃ g, (x2).heap.size = g := ⟨_, rfl⟩
        have hg8 := hg9
        try simp at hg8
        have hbx : ((x2).alloc (.cells #[.slice none 0 0] 54)).heap[g9]? = some (.cells #[.slice none 0 0] 54) := by rw [← hg9]; exact alloc_new _ _
        have h9 : g9 < ((x2).alloc (.cells #[.slice none 0 0] 54)).heap.size := by rw [← hg9]; simp
        have h97 : w7.heap.size ≤ g9 := by rw [← hg9]; exact hHeld.size
        have hne : some g9 ≠ (v2).ownBlock := fun q => by have := (World.ownsRow.lt hrow g9 q.symm).2; omega
        have hrow := World.ownsRow.alloc hrow (.cells #[.slice none 0 0] 54)
        have hN := hHeld.alloc hHeld.size (.cells #[.slice none 0 0] 54)
        clear hHeld
        refine hKK.out _ _ ?_ (fun hHeld => ?_)
        · exact hN
        clear hKK K
        try simp only [Act.put, List.setIfInBounds_toArray, List.set_cons_zero, List.set_cons_succ, List.getElem_toArray, List.getElem_cons_zero, List.getElem_cons_succ]
        clear hN
        skip
        refine wpAnyH_ready (rs := [10]) (by kernel_rfl) (by simp) ?_
        refine AllReadyH.cons (o := _) rfl (fun K hKK => ?_) AllReadyH.nil
        obtain ⟨gu, cu, hve, _, hgu⟩ := ownSome hrow (by omega)
        subst hve
        have hm9 : 0 + (n - k) + k = n := by omega
        obtain ⟨_, hUT, hcu⟩ := turn_texts n8 hkn hrow rfl
        rw [hm9] at hrow ⊢
        obtain ⟨wq, hwq⟩ : ∃ wq, ((x2).alloc (.cells #[.slice none 0 0] 54)) = wq := ⟨_, rfl⟩
        rw [hwq] at hrow hHeld hbx h9 hgu hUT ⊢
        have hcb : wq.cell? ⟨g9, 0, none⟩ = some (.slice none 0 0) := (cell_of_row _ g9 0 _ _ _ hbx).trans rfl
        have hfb : wq.frozen? ⟨g9, 0, none⟩ = false := frozen_of_row _ g9 0 _ _ hbx
        clear hwq
        go_simp
        have hN := hHeld.setCell (p := ⟨g9, 0, none⟩) h97 (.slice (some ⟨gu, 0, none⟩) n cu)
        have hc9 := World.cell?_setCell_same _ _ (.slice (some ⟨gu, 0, none⟩) n cu) hcb
        have hUZ := texts_set hUT (p := ⟨g9, 0, none⟩) (fun q => hne (congrArg some q)) (.slice (some ⟨gu, 0, none⟩) n cu)
        have h9 : g9 < (wq.setCell ⟨g9, 0, none⟩ (.slice (some ⟨gu, 0, none⟩) n cu)).heap.size := by simpa using h9
        clear hHeld hcb hfb hbx
        refine hKK.out _ _ ?_ (fun hHeld => ?_)
        · exact hN
        clear hKK K
        try simp only [Act.put, List.setIfInBounds_toArray, List.set_cons_zero, List.set_cons_succ, List.getElem_toArray, List.getElem_cons_zero, List.getElem_cons_succ]
        clear hN
        refine wpAnyH_done (by kernel_rfl) ?_ _
        obtain ⟨wz, hwz⟩ : ∃ wz, wq.setCell ⟨g9, 0, none⟩ (.slice (some ⟨gu, 0, none⟩) n cu) = wz := ⟨_, rfl⟩
        rw [hwz] at hHeld hc9 hUZ h9 ⊢
        exact ⟨g9, gu, cu, _, _, _, _, _, _, _, _, _, hHeld, hc9, h9, hUZ, hcu, rfl⟩
      · refine AllReadyH.cons (o := _) rfl (fun K hKK => ?_) AllReadyH.nil
        go_simp
        obtain ⟨g9, hg9⟩ : ∃ g, (x1).heap.size = g := ⟨_, rfl⟩
        have hg8 := hg9
        try simp at hg8
        have hbx : ((x1).alloc (.cells #[.slice none 0 0] 54)).heap[g9]? = some (.cells #[.slice none 0 0] 54) := by rw [← hg9]; exact alloc_new _ _
        have h9 : g9 < ((x1).alloc (.cells #[.slice none 0 0] 54)).heap.size := by rw [← hg9]; simp
        have h97 : w7.heap.size ≤ g9 := by rw [← hg9]; exact hHeld.size
        have hne : some g9 ≠ (v1).ownBlock := fun q => by have := (World.ownsRow.lt hrow g9 q.symm).2; omega
        have hrow := World.ownsRow.alloc hrow (.cells #[.slice none 0 0] 54)
        have hN := hHeld.alloc hHeld.size (.cells #[.slice none 0 0] 54)
        clear hHeld
        refine hKK.out _ _ ?_ (fun hHeld => ?_)
        · exact hN
        clear hKK K
        try simp only [Act.put, List.setIfInBounds_toArray, List.set_cons_zero, List.set_cons_succ, List.getElem_toArray, List.getElem_cons_zero, List.getElem_cons_succ]
        clear hN
        skip
        refine wpAnyH_ready (rs := [8]) (by kernel_rfl) (by simp) ?_
        refine AllReadyH.cons (o := _) rfl (fun K hKK => ?_) AllReadyH.nil
        refine step_append_src rfl (.tmp 47) (.tmp 50) 54 rfl w7.heap.size 9 i0 (.string ⟨#[]⟩) 1 16 Tryz.underlying54 hi hz0 hz1 hz2 rfl (by decide) (v1) _ _ rfl hrow _ _ _ (((nmN n).take k).map Value.string) rfl (HTK.out.2) (fun q => by cases q) (fun ad had i u hu => by cases had; obtain ⟨y, q1, rfl⟩ := smap_take8 hu; rw [add_atX, Nat.zero_add]; exact HNM.out _ hHeld i y q1) (strs_one _) (by unfold maxLen; omega) (by omega) hHeld.size ?_
        intro v3 x3 hown9 hgrow hat
        have hN := hHeld.grown hgrow hHeld.size (fun r hr => (World.ownsRow.lt hrow r hr).1)
        have hbx := (hgrow.block g9 h9 hne).trans hbx
        have hne : some g9 ≠ (v3).ownBlock := fun q => by rcases hat with hat | hat <;> rw [hat] at q <;> first | exact hne q | (injection q with q; omega)
        have h9 : g9 < (x3).heap.size := Nat.lt_of_lt_of_le h9 hgrow.size
        clear hHeld hrow hat hgrow
        have hrow := hown9
        clear hown9
        refine hKK.out _ _ ?_ (fun hHeld => ?_)
        · exact hN
        clear hKK K
        try simp only [Act.put, List.setIfInBounds_toArray, List.set_cons_zero, List.set_cons_succ, List.getElem_toArray, List.getElem_cons_zero, List.getElem_cons_succ]
        clear hN
        refine wpAnyH_ready (rs := [10]) (by kernel_rfl) (by simp) ?_
        refine AllReadyH.cons (o := _) rfl (fun K hKK => ?_) AllReadyH.nil
        obtain ⟨gu, cu, hve, _, hgu⟩ := ownSome hrow (by omega)
        subst hve
        have hm9 : 0 + (n - k) + k = n := by omega
        obtain ⟨_, hUT, hcu⟩ := turn_texts n8 hkn hrow rfl
        rw [hm9] at hrow ⊢
        obtain ⟨wq, hwq⟩ : ∃ wq, x3 = wq := ⟨_, rfl⟩
        rw [hwq] at hrow hHeld hbx h9 hgu hUT ⊢
        have hcb : wq.cell? ⟨g9, 0, none⟩ = some (.slice none 0 0) := (cell_of_row _ g9 0 _ _ _ hbx).trans rfl
        have hfb : wq.frozen? ⟨g9, 0, none⟩ = false := frozen_of_row _ g9 0 _ _ hbx
        clear hwq
        go_simp
        have hN := hHeld.setCell (p := ⟨g9, 0, none⟩) h97 (.slice (some ⟨gu, 0, none⟩) n cu)
        have hc9 := World.cell?_setCell_same _ _ (.slice (some ⟨gu, 0, none⟩) n cu) hcb
        have hUZ := texts_set hUT (p := ⟨g9, 0, none⟩) (fun q => hne (congrArg some q)) (.slice (some ⟨gu, 0, none⟩) n cu)
        have h9 : g9 < (wq.setCell ⟨g9, 0, none⟩ (.slice (some ⟨gu, 0, none⟩) n cu)).heap.size := by simpa using h9
        clear hHeld hcb hfb hbx
        refine hKK.out _ _ ?_ (fun hHeld => ?_)
        · exact hN
        clear hKK K
        try simp only [Act.put, List.setIfInBounds_toArray, List.set_cons_zero, List.set_cons_succ, List.getElem_toArray, List.getElem_cons_zero, List.getElem_cons_succ]
        clear hN
        refine wpAnyH_done (by kernel_rfl) ?_ _
        obtain ⟨wz, hwz⟩ : ∃ wz, wq.setCell ⟨g9, 0, none⟩ (.slice (some ⟨gu, 0, none⟩) n cu) = wz := ⟨_, rfl⟩
        rw [hwz] at hHeld hc9 hUZ h9 ⊢
        exact ⟨g9, gu, cu, _, _, _, _, _, _, _, _, _, hHeld, hc9, h9, hUZ, hcu, rfl⟩
    · refine AllReadyH.cons (o := _) rfl (fun K hKK => ?_) AllReadyH.nil
      go_simp
      obtain ⟨g9, hg9⟩ : ∃ g, (((wd).alloc (.cells #[] 9))).heap.size = g := ⟨_, rfl⟩
      have hg8 := hg9
      try simp at hg8
      have hbx : ((((wd).alloc (.cells #[] 9))).alloc (.cells #[.slice none 0 0] 54)).heap[g9]? = some (.cells #[.slice none 0 0] 54) := by rw [← hg9]; exact alloc_new _ _
      have h9 : g9 < ((((wd).alloc (.cells #[] 9))).alloc (.cells #[.slice none 0 0] 54)).heap.size := by rw [← hg9]; simp
      have h97 : w7.heap.size ≤ g9 := by rw [← hg9]; exact hHeld.size
      have hne : some g9 ≠ (Value.slice (some ⟨wd.heap.size, 0, none⟩) 0 0).ownBlock := fun q => by have := (World.ownsRow.lt hrow g9 q.symm).2; omega
      have hrow := World.ownsRow.alloc hrow (.cells #[.slice none 0 0] 54)
      have hN := hHeld.alloc hHeld.size (.cells #[.slice none 0 0] 54)
      clear hHeld
      refine hKK.out _ _ ?_ (fun hHeld => ?_)
      · exact hN
      clear hKK K
      try simp only [Act.put, List.setIfInBounds_toArray, List.set_cons_zero, List.set_cons_succ, List.getElem_toArray, List.getElem_cons_zero, List.getElem_cons_succ]
      clear hN
      skip
      refine wpAnyH_ready (rs := [4]) (by kernel_rfl) (by simp) ?_
      refine AllReadyH.cons (o := _) rfl (fun K hKK => ?_) AllReadyH.nil
      refine step_append_src rfl (.tmp 43) (.tmp 46) 54 rfl w7.heap.size 9 i0 (.string ⟨#[]⟩) 1 16 Tryz.underlying54 hi hz0 hz1 hz2 rfl (by decide) (Value.slice (some ⟨wd.heap.size, 0, none⟩) 0 0) _ _ rfl hrow _ _ _ (((nmN n).drop k).map Value.string) rfl (HTK.out.1) (fun q => by cases q) (fun ad had i u hu => by cases had; obtain ⟨y, q1, rfl⟩ := smap_drop8 hu; rw [add_atX]; exact HNM.out _ hHeld _ y q1) (strs_one _) (by unfold maxLen; omega) (by omega) hHeld.size ?_
      intro v4 x4 hown9 hgrow hat
      have hN := hHeld.grown hgrow hHeld.size (fun r hr => (World.ownsRow.lt hrow r hr).1)
      have hbx := (hgrow.block g9 h9 hne).trans hbx
      have hne : some g9 ≠ (v4).ownBlock := fun q => by rcases hat with hat | hat <;> rw [hat] at q <;> first | exact hne q | (injection q with q; omega)
      have h9 : g9 < (x4).heap.size := Nat.lt_of_lt_of_le h9 hgrow.size
      clear hHeld hrow hat hgrow
      have hrow := hown9
      clear hown9
      refine hKK.out _ _ ?_ (fun hHeld => ?_)
      · exact hN
      clear hKK K
      try simp only [Act.put, List.setIfInBounds_toArray, List.set_cons_zero, List.set_cons_succ, List.getElem_toArray, List.getElem_cons_zero, List.getElem_cons_succ]
      clear hN
      refine wpAnyH_ready (rs := [8]) (by kernel_rfl) (by simp) ?_
      refine AllReadyH.cons (o := _) rfl (fun K hKK => ?_) AllReadyH.nil
      refine step_append_src rfl (.tmp 47) (.tmp 50) 54 rfl w7.heap.size 9 i0 (.string ⟨#[]⟩) 1 16 Tryz.underlying54 hi hz0 hz1 hz2 rfl (by decide) (v4) _ _ rfl hrow _ _ _ (((nmN n).take k).map Value.string) rfl (HTK.out.2) (fun q => by cases q) (fun ad had i u hu => by cases had; obtain ⟨y, q1, rfl⟩ := smap_take8 hu; rw [add_atX, Nat.zero_add]; exact HNM.out _ hHeld i y q1) (strs_one _) (by unfold maxLen; omega) (by omega) hHeld.size ?_
      intro v5 x5 hown9 hgrow hat
      have hN := hHeld.grown hgrow hHeld.size (fun r hr => (World.ownsRow.lt hrow r hr).1)
      have hbx := (hgrow.block g9 h9 hne).trans hbx
      have hne : some g9 ≠ (v5).ownBlock := fun q => by rcases hat with hat | hat <;> rw [hat] at q <;> first | exact hne q | (injection q with q; omega)
      have h9 : g9 < (x5).heap.size := Nat.lt_of_lt_of_le h9 hgrow.size
      clear hHeld hrow hat hgrow
      have hrow := hown9
      clear hown9
      refine hKK.out _ _ ?_ (fun hHeld => ?_)
      · exact hN
      clear hKK K
      try simp only [Act.put, List.setIfInBounds_toArray, List.set_cons_zero, List.set_cons_succ, List.getElem_toArray, List.getElem_cons_zero, List.getElem_cons_succ]
      clear hN
      refine wpAnyH_ready (rs := [10]) (by kernel_rfl) (by simp) ?_
      refine AllReadyH.cons (o := _) rfl (fun K hKK => ?_) AllReadyH.nil
      obtain ⟨gu, cu, hve, _, hgu⟩ := ownSome hrow (by omega)
      subst hve
      have hm9 : 0 + (n - k) + k = n := by omega
      obtain ⟨_, hUT, hcu⟩ := turn_texts n8 hkn hrow rfl
      rw [hm9] at hrow ⊢
      obtain ⟨wq, hwq⟩ : ∃ wq, x5 = wq := ⟨_, rfl⟩
      rw [hwq] at hrow hHeld hbx h9 hgu hUT ⊢
      have hcb : wq.cell? ⟨g9, 0, none⟩ = some (.slice none 0 0) := (cell_of_row _ g9 0 _ _ _ hbx).trans rfl
      have hfb : wq.frozen? ⟨g9, 0, none⟩ = false := frozen_of_row _ g9 0 _ _ hbx
      clear hwq
      go_simp
      have hN := hHeld.setCell (p := ⟨g9, 0, none⟩) h97 (.slice (some ⟨gu, 0, none⟩) n cu)
      have hc9 := World.cell?_setCell_same _ _ (.slice (some ⟨gu, 0, none⟩) n cu) hcb
      have hUZ := texts_set hUT (p := ⟨g9, 0, none⟩) (fun q => hne (congrArg some q)) (.slice (some ⟨gu, 0, none⟩) n cu)
      have h9 : g9 < (wq.setCell ⟨g9, 0, none⟩ (.slice (some ⟨gu, 0, none⟩) n cu)).heap.size := by simpa using h9
      clear hHeld hcb hfb hbx
      refine hKK.out _ _ ?_ (fun hHeld => ?_)
      · exact hN
      clear hKK K
      try simp only [Act.put, List.setIfInBounds_toArray, List.set_cons_zero, List.set_cons_succ, List.getElem_toArray, List.getElem_cons_zero, List.getElem_cons_succ]
      clear hN
      refine wpAnyH_done (by kernel_rfl) ?_ _
      obtain ⟨wz, hwz⟩ : ∃ wz, wq.setCell ⟨g9, 0, none⟩ (.slice (some ⟨gu, 0, none⟩) n cu) = wz := ⟨_, rfl⟩
      rw [hwz] at hHeld hc9 hUZ h9 ⊢
      exact ⟨g9, gu, cu, _, _, _, _, _, _, _, _, _, hHeld, hc9, h9, hUZ, hcu, rfl⟩
  · refine AllReadyH.cons (o := _) rfl (fun K hKK => ?_) AllReadyH.nil
    go_simp
    obtain ⟨g9, hg9⟩ : ∃ g, (wd).heap.size = g := ⟨_, rfl⟩
    have hg8 := hg9
    try simp at hg8
    have hbx : ((wd).alloc (.cells #[.slice none 0 0] 54)).heap[g9]? = some (.cells #[.slice none 0 0] 54) := by rw [← hg9]; exact alloc_new _ _
    have h9 : g9 < ((wd).alloc (.cells #[.slice none 0 0] 54)).heap.size := by rw [← hg9]; simp
    have h97 : w7.heap.size ≤ g9 := by rw [← hg9]; exact hHeld.size
    have hN := hHeld.alloc hHeld.size (.cells #[.slice none 0 0] 54)
    clear hHeld
    refine hKK.out _ _ ?_ (fun hHeld => ?_)
    · exact hN
    clear hKK K
    try simp only [Act.put, List.setIfInBounds_toArray, List.set_cons_zero, List.set_cons_succ, List.getElem_toArray, List.getElem_cons_zero, List.getElem_cons_succ]
    clear hN
    skip
    refine wpAnyH_ready (rs := [0]) (by kernel_rfl) (by simp) ?_
    refine AllReadyH.cons (o := _) rfl (fun K hKK => ?_) AllReadyH.nil
    go_simp
    have hrow := World.ownsRow_lit ((wd).alloc (.cells #[.slice none 0 0] 54)) #[] 0 (base := w7.heap.size) (e := 9) (size := 1) hHeld.size (by decide) rfl
    have hbx := (((Below.refl (((wd).alloc (.cells #[.slice none 0 0] 54))).heap.size (((wd).alloc (.cells #[.slice none 0 0] 54)))).alloc (Nat.le_refl _) (.cells #[] 9)).block g9 h9).trans hbx
    have hg1 : (((wd).alloc (.cells #[.slice none 0 0] 54))).heap.size = g9 + 1 := by rw [← hg9]; simp
    rw [hg1] at hrow
    have hne : some g9 ≠ (Value.slice (some ⟨g9 + 1, 0, none⟩) 0 0).ownBlock := fun q => by simp [Value.ownBlock] at q
    have h9 : g9 < ((((wd).alloc (.cells #[.slice none 0 0] 54))).alloc (.cells #[] 9)).heap.size := by simp; omega
    have hN := hHeld.alloc hHeld.size (.cells #[] 9)
    clear hHeld
    refine hKK.out _ _ ?_ (fun hHeld => ?_)
    · exact hN
    clear hKK K
    try simp only [Act.put, List.setIfInBounds_toArray, List.set_cons_zero, List.set_cons_succ, List.getElem_toArray, List.getElem_cons_zero, List.getElem_cons_succ]
    clear hN
    refine wpAnyH_ready (rs := [4]) (by kernel_rfl) (by simp) ?_
    refine AllReadyH.cons (o := _) rfl (fun K hKK => ?_) AllReadyH.nil
    refine step_append_src rfl (.tmp 43) (.tmp 46) 54 rfl w7.heap.size 9 i0 (.string ⟨#[]⟩) 1 16 Tryz.underlying54 hi hz0 hz1 hz2 rfl (by decide) (Value.slice (some ⟨g9 + 1, 0, none⟩) 0 0) _ _ rfl hrow _ _ _ (((nmN n).drop k).map Value.string) rfl (HTK.out.1) (fun q => by cases q) (fun ad had i u hu => by cases had; obtain ⟨y, q1, rfl⟩ := smap_drop8 hu; rw [add_atX]; exact HNM.out _ hHeld _ y q1) (strs_one _) (by unfold maxLen; omega) (by omega) hHeld.size ?_
    intro v6 x6 hown9 hgrow hat
    have hN := hHeld.grown hgrow hHeld.size (fun r hr => (World.ownsRow.lt hrow r hr).1)
    have hbx := (hgrow.block g9 h9 hne).trans hbx
    have hne : some g9 ≠ (v6).ownBlock := fun q => by rcases hat with hat | hat <;> rw [hat] at q <;> first | exact hne q | (injection q with q; omega)
    have h9 : g9 < (x6).heap.size := Nat.lt_of_lt_of_le h9 hgrow.size
    clear hHeld hrow hat hgrow
    have hrow := hown9
    clear hown9
    refine hKK.out _ _ ?_ (fun hHeld => ?_)
    · exact hN
    clear hKK K
    try simp only [Act.put, List.setIfInBounds_toArray, List.set_cons_zero, List.set_cons_succ, List.getElem_toArray, List.getElem_cons_zero, List.getElem_cons_succ]
    clear hN
    refine wpAnyH_ready (rs := [8]) (by kernel_rfl) (by simp) ?_
    refine AllReadyH.cons (o := _) rfl (fun K hKK => ?_) AllReadyH.nil
    refine step_append_src rfl (.tmp 47) (.tmp 50) 54 rfl w7.heap.size 9 i0 (.string ⟨#[]⟩) 1 16 Tryz.underlying54 hi hz0 hz1 hz2 rfl (by decide) (v6) _ _ rfl hrow _ _ _ (((nmN n).take k).map Value.string) rfl (HTK.out.2) (fun q => by cases q) (fun ad had i u hu => by cases had; obtain ⟨y, q1, rfl⟩ := smap_take8 hu; rw [add_atX, Nat.zero_add]; exact HNM.out _ hHeld i y q1) (strs_one _) (by unfold maxLen; omega) (by omega) hHeld.size ?_
    intro v7 x7 hown9 hgrow hat
    have hN := hHeld.grown hgrow hHeld.size (fun r hr => (World.ownsRow.lt hrow r hr).1)
    have hbx := (hgrow.block g9 h9 hne).trans hbx
    have hne : some g9 ≠ (v7).ownBlock := fun q => by rcases hat with hat | hat <;> rw [hat] at q <;> first | exact hne q | (injection q with q; omega)
    have h9 : g9 < (x7).heap.size := Nat.lt_of_lt_of_le h9 hgrow.size
    clear hHeld hrow hat hgrow
    have hrow := hown9
    clear hown9
    refine hKK.out _ _ ?_ (fun hHeld => ?_)
    · exact hN
    clear hKK K
    try simp only [Act.put, List.setIfInBounds_toArray, List.set_cons_zero, List.set_cons_succ, List.getElem_toArray, List.getElem_cons_zero, List.getElem_cons_succ]
    clear hN
    refine wpAnyH_ready (rs := [10]) (by kernel_rfl) (by simp) ?_
    refine AllReadyH.cons (o := _) rfl (fun K hKK => ?_) AllReadyH.nil
    obtain ⟨gu, cu, hve, _, hgu⟩ := ownSome hrow (by omega)
    subst hve
    have hm9 : 0 + (n - k) + k = n := by omega
    obtain ⟨_, hUT, hcu⟩ := turn_texts n8 hkn hrow rfl
    rw [hm9] at hrow ⊢
    obtain ⟨wq, hwq⟩ : ∃ wq, x7 = wq := ⟨_, rfl⟩
    rw [hwq] at hrow hHeld hbx h9 hgu hUT ⊢
    have hcb : wq.cell? ⟨g9, 0, none⟩ = some (.slice none 0 0) := (cell_of_row _ g9 0 _ _ _ hbx).trans rfl
    have hfb : wq.frozen? ⟨g9, 0, none⟩ = false := frozen_of_row _ g9 0 _ _ hbx
    clear hwq
    go_simp
    have hN := hHeld.setCell (p := ⟨g9, 0, none⟩) h97 (.slice (some ⟨gu, 0, none⟩) n cu)
    have hc9 := World.cell?_setCell_same _ _ (.slice (some ⟨gu, 0, none⟩) n cu) hcb
    have hUZ := texts_set hUT (p := ⟨g9, 0, none⟩) (fun q => hne (congrArg some q)) (.slice (some ⟨gu, 0, none⟩) n cu)
    have h9 : g9 < (wq.setCell ⟨g9, 0, none⟩ (.slice (some ⟨gu, 0, none⟩) n cu)).heap.size := by simpa using h9
    clear hHeld hcb hfb hbx
    refine hKK.out _ _ ?_ (fun hHeld => ?_)
    · exact hN
    clear hKK K
    try simp only [Act.put, List.setIfInBounds_toArray, List.set_cons_zero, List.set_cons_succ, List.getElem_toArray, List.getElem_cons_zero, List.getElem_cons_succ]
    clear hN
    refine wpAnyH_done (by kernel_rfl) ?_ _
    obtain ⟨wz, hwz⟩ : ∃ wz, wq.setCell ⟨g9, 0, none⟩ (.slice (some ⟨gu, 0, none⟩) n cu) = wz := ⟨_, rfl⟩
    rw [hwz] at hHeld hc9 hUZ h9 ⊢
    exact ⟨g9, gu, cu, _, _, _, _, _, _, _, _, _, hHeld, hc9, h9, hUZ, hcu, rfl⟩
theorem changes_any (A : Option Addr) (n cap : Nat) (z b : Int) (L : List Int) (p0 p1 p2 : Nat) (w : World)
    (hL : IntsZ w A n L) (hc : n ≤ cap) (hn : (n : Int) ≤ 9223372036854775807) (ht : Tabs w) (hp0 : p0 < 256) (hp1 : p1 < 256) (hp2 : p2 < 256) :
    Calls Tryz.prog 6 #[.agg #[.slice A n cap, .int .i64 z, .int .i64 b], .agg #[.int .u8 (p0 : Int), .int .u8 (p1 : Int), .int .u8 (p2 : Int)]] w (Yes w) := by
  by_cases h1 : n ≤ 11
  · by_cases h2 : relW L z b = 0
    · exact changes_main A n cap z b L p0 p1 p2 w hL hc hn ht h2 hp0 hp1 hp2
    · exact changes_ex2 A n cap z b L p0 p1 p2 w hL hc hn ht h1 h2
  · exact changes_ex1 A n cap z b L p0 p1 p2 w hL hc hn ht (by omega)
end Go.Mk
