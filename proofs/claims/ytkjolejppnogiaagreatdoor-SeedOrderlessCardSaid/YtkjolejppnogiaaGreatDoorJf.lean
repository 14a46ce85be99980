/-
  Proved: the function that seed.replace asks of a runner, and the library's IndexFunc with it. Conditions: the runners lie where the slice says; the runner that is put lies in a block of its own.
  Proved: seed.replace, as a plain function. Conditions: the runners lie where the slices say; at most 20 heats, each at most 1,000 long.
  Proved: what seed.Changed checks first. Conditions: the runners lie where the slices say; the texts are no longer than an int says; the heap holds the program's variables.
-/
import Derived.Test.YtkjolejppnogiaaGreatDoorJd
section
set_option linter.unusedVariables false
set_option linter.unusedSimpArgs false
open Go Go.Proofs Go.RowKit Go.Sort
set_option maxRecDepth 100000
namespace Go.Mk
theorem rep1_any (x : Run) (s : ByteArray) (Rb : Nat) (w : World) (hc : w.cell? ⟨Rb, 0, none⟩ = some (.string s)) (hlt : Rb < w.heap.size) :
    Calls Tryz.prog 120 #[x.agg, .pointer (some ⟨Rb, 0, none⟩)] w (RetPost (.bool (decide (x.name = s))) w) := by
  obtain ⟨nm, k, v, r⟩ := x
  unfold Run.agg
  have hb : Below w.heap.size w (w.alloc (.cells #[.string nm, .string k, .int .i64 v, .string r] 79)) := balloc _ (Below.refl _ _)
  have hc2 : (w.alloc (.cells #[.string nm, .string k, .int .i64 v, .string r] 79)).cell? ⟨Rb, 0, none⟩ = some (.string s) := (hb.cell (p := ⟨Rb, 0, none⟩) hlt).trans hc
  have hx : (nm.toList == s.toList) = decide (nm = s) := by
    by_cases h : nm = s
    · subst h; simp
    · rw [tl_ne h]; simp [h]
  simp only
  obtain ⟨b, hbb⟩ : ∃ b, decide (nm = s) = b := ⟨_, rfl⟩
  rw [hbb] at hx ⊢
  clear hbb hc hlt
  go_enter Tryz.func120, Tryz.ntmps120
  go_wp2
  go_ret
  exact ⟨rfl, hb⟩
/-- The place of the first runner of a name. -/
def fdx (s : ByteArray) : List Run → Nat
  | [] => 0
  | x :: l => if x.name = s then 0 else fdx s l + 1
theorem fdx_le (s : ByteArray) : ∀ L : List Run, fdx s L ≤ L.length
  | [] => Nat.le_refl _
  | x :: l => by
    have := fdx_le s l
    rw [fdx, List.length_cons]
    split <;> omega
theorem fdx_stop {s : ByteArray} : ∀ {L : List Run} {k : Nat} {x : Run}, L[k]? = some x → k ≤ fdx s L → (fdx s L = k ↔ x.name = s) ∧ (x.name ≠ s → k + 1 ≤ fdx s L)
  | [], k, x, h, _ => by simp at h
  | y :: l, 0, x, h, _ => by
    simp at h
    subst h
    rw [fdx]
    by_cases q : y.name = s
    · rw [if_pos q]; simp [q]
    · rw [if_neg q]; simp [q]
  | y :: l, k + 1, x, h, hk => by
    rw [fdx] at hk ⊢
    by_cases q : y.name = s
    · rw [if_pos q] at hk; omega
    · rw [if_neg q] at hk ⊢
      have ih := fdx_stop (s := s) (L := l) (k := k) (x := x) (by simpa using h) (by omega)
      refine ⟨?_, fun h2 => by have := ih.2 h2; omega⟩
      rw [← ih.1]
      omega
/-- What IndexFunc returns. -/
def idxE (s : ByteArray) (L : List Run) : Int := if fdx s L < L.length then (fdx s L : Int) else -1
set_option maxHeartbeats 2000000 in
theorem IndexFunc_any (L : List Run) (n cap : Nat) (A : Option Addr) (B : Nat) (s : ByteArray) (Rb : Nat) (w : World) (hZ : Runs w B A n L) (hn : n ≤ 1000) (hc : w.cell? ⟨Rb, 0, none⟩ = some (.string s)) (hlt : Rb < w.heap.size) :
    Calls Tryz.prog 119 #[.slice A n cap, .func (.func 120) #[] #[.pointer (some ⟨Rb, 0, none⟩)]] w (RetPost (.int .i64 (idxE s L)) w) := by
  have hni : (n : Int) ≤ 1000 := by omega
  have HM : Hid (∀ w', Below w.heap.size w w' → Runs w' B A n L) := fun w' hb => hZ.below hb hZ.2.1
  have Hlen : Hid (L.length = n) := hZ.1
  have HC : Hid (∀ w' (x : Run), Below w.heap.size w w' → Calls Tryz.prog 120 #[x.agg, .pointer (some ⟨Rb, 0, none⟩)] w' (RetPost (.bool (decide (x.name = s))) w')) := fun w' x hb => rep1_any x s Rb w' ((hb.cell (p := ⟨Rb, 0, none⟩) hlt).trans hc) (Nat.lt_of_lt_of_le hlt hb.size)
  have hfl := fdx_le s L
  obtain ⟨E, hE⟩ : ∃ E, idxE s L = E := ⟨_, rfl⟩
  have HE : Hid (idxE s L = E) := hE
  rw [hE]
  have HF := Lib.hid hfl
  clear hZ hc hlt hE hfl
  go_enter Tryz.func119, Tryz.ntmps119
  go_wp2
  go_loopw [8] (fun i wr => ∃ k : Nat, k ≤ n ∧ i = .int .i64 k ∧ Hid (k ≤ fdx s L) ∧ Below w.heap.size w wr) (fun i _ => n - (RowKit.intOf i).toNat)
  case atStart => exact ⟨0, by omega, rfl, Lib.hid (Nat.zero_le _), Below.refl _ _⟩
  case round =>
    obtain ⟨k, hk, rfl, hkf, hb⟩ := hrel
    by_cases hkn : k < n
    · obtain ⟨b, off, x, rfl, hbl, hL, c0, c1, c2, c3⟩ := (HM.out _ hb).at_ hkn
      have hR := HC.out wr x hb
      obtain ⟨f1, f2⟩ := fdx_stop (s := s) hL hkf.out
      have hki : (k : Int) < (n : Int) := by omega
      have hk0 : (0 : Int) ≤ (k : Int) := by omega
      have hkt : ((k : Int)).toNat = k := by omega
      obtain ⟨nm, kd, v, r⟩ := x
      unfold Run.agg at hR
      simp only at c0 c1 c2 c3 hR f1 f2
      clear hL
      by_cases g : nm = s
      · have hz : idxE s L = (k : Int) := by
          have h1 := f1.2 g
          unfold idxE
          rw [h1, if_pos (by rw [Hlen.out]; omega)]
        rw [decide_eq_true g] at hR
        rw [HE.out] at hz
        subst hz
        clear g f1 f2
        as_aux_lemma =>
          go_wp2_with fail
          refine hR.mono ?_
          rintro e w2 ⟨rfl, hb2⟩
          go_wp2
          go_ret
          exact ⟨rfl, hb.trans (hb2.mono hb.size)⟩
      · have hnx := Lib.hid (f2 g)
        rw [decide_eq_false g] at hR
        clear g f1 f2
        as_aux_lemma =>
          go_wp2_with fail
          refine hR.mono ?_
          rintro e w2 ⟨rfl, hb2⟩
          go_wp2
          go_roundw
          case rel => exact ⟨k + 1, by omega, by go_num, hnx, hb.trans (hb2.mono hb.size)⟩
          case measure => simp [RowKit.intOf]; omega
    · have hz : idxE s L = -1 := by
        have := hkf.out
        unfold idxE
        rw [if_neg (by rw [Hlen.out]; omega)]
      rw [HE.out] at hz
      subst hz
      go_wp2
      go_ret
      exact ⟨rfl, hb⟩
end Go.Mk
end
section
set_option linter.unusedVariables false
set_option linter.unusedSimpArgs false
open Go Go.Proofs Go.RowKit Go.Sort
set_option maxRecDepth 100000
namespace Go.Mk
/-- Is there a runner of a name? -/
def hasR (s : ByteArray) (L : List Run) : Bool := decide (fdx s L < L.length)
/-- Heats with another runner in the place of the first one of that name. -/
def replS (r : Run) : List (List Run) → Option (List (List Run))
  | [] => none
  | l :: LL => if hasR r.name l then some (l.set (fdx r.name l) r :: LL) else (replS r LL).map (l :: ·)
theorem replS_hit (r : Run) : ∀ (LL : List (List Run)) (k : Nat) (l : List Run), LL[k]? = some l → (∀ (j : Nat) (q : List Run), j < k → LL[j]? = some q → hasR r.name q = false) → hasR r.name l = true → replS r LL = some (LL.set k (l.set (fdx r.name l) r))
  | [], k, l, h, _, _ => by simp at h
  | q :: LL, 0, l, h, _, hh => by
    simp at h
    subst h
    rw [replS, if_pos hh]
    rfl
  | q :: LL, k + 1, l, h, hno, hh => by
    have h0 := hno 0 q (by omega) rfl
    rw [replS, if_neg (by rw [h0]; decide), replS_hit r LL k l (by simpa using h) (fun j q' hj hq => hno (j + 1) q' (by omega) (by simpa using hq)) hh]
    rfl
theorem replS_none (r : Run) : ∀ (LL : List (List Run)), (∀ (j : Nat) (q : List Run), LL[j]? = some q → hasR r.name q = false) → replS r LL = none
  | [], _ => rfl
  | q :: LL, h => by
    have h0 := h 0 q rfl
    rw [replS, if_neg (by rw [h0]; decide), replS_none r LL (fun j q' hq => h (j + 1) q' (by simpa using hq))]
    rfl
theorem flat_set (r : Run) : ∀ (L : List Run) (f : Nat), f < L.length →
    (((((L.flatMap runC).set (f * 4) (.string r.name)).set (f * 4 + 1) (.string r.kind)).set (f * 4 + 2) (.int .i64 r.value)).set (f * 4 + 3) (.string r.reason)) = (L.set f r).flatMap runC
  | [], f, h => by simp at h
  | x :: L, 0, _ => by simp [runC]
  | x :: L, f + 1, h => by
    have ih := flat_set r L f (by simpa using h)
    rw [List.set_cons_succ, List.flatMap_cons, List.flatMap_cons, ← ih]
    have e : ∀ j, (f + 1) * 4 + j = (runC x).length + (f * 4 + j) := fun j => by simp [runC]; omega
    rw [e 1, e 2, e 3, show (f + 1) * 4 = (runC x).length + (f * 4) from by simp [runC]; omega]
    simp only [List.set_append_right _ _ (Nat.le_add_right _ _), Nat.add_sub_cancel_left]
/-- Another runner in a heat. -/
theorem GrowH.put {w : World} {B G n : Nat} {R R' : Nat → List Run} {k f g' c' : Nat} {r : Run} (h : GrowH w B G n R) (hk : k < n) (hf : f < (R k).length) (hv : w.cell? ⟨G, k, none⟩ = some (.slice (some ⟨g', 0, none⟩) (R k).length c')) (h1 : R' k = (R k).set f r) (h2 : ∀ i, i ≠ k → R' i = R i) :
    GrowH ((((w.setCell ⟨g', f * 4, none⟩ (.string r.name)).setCell ⟨g', f * 4 + 1, none⟩ (.string r.kind)).setCell ⟨g', f * 4 + 2, none⟩ (.int .i64 r.value)).setCell ⟨g', f * 4 + 3, none⟩ (.string r.reason)) B G n R' := by
  obtain ⟨g1, g2, V, hV, hD⟩ := h
  obtain ⟨a, b, c, d⟩ := hV k hk
  have hVk : V k = .slice (some ⟨g', 0, none⟩) (R k).length c' := Option.some.inj (a.symm.trans hv)
  rw [hVk] at a c d
  have hne : g' ≠ G := fun e => d (by rw [e]; rfl)
  have hgr : w.grownBy ((((w.setCell ⟨g', f * 4, none⟩ (.string r.name)).setCell ⟨g', f * 4 + 1, none⟩ (.string r.kind)).setCell ⟨g', f * 4 + 2, none⟩ (.int .i64 r.value)).setCell ⟨g', f * 4 + 3, none⟩ (.string r.reason)) (some g') :=
    (((grown_set w g' _ _).trans (grown_set _ g' _ _)).trans (grown_set _ g' _ _)).trans (grown_set _ g' _ _)
  have hG : some G ≠ some g' := fun e => hne (Option.some.inj e).symm
  refine ⟨Nat.lt_of_lt_of_le g1 hgr.size, g2, V, fun i hi => ?_, hD⟩
  obtain ⟨a', b', c', d'⟩ := hV i hi
  refine ⟨(hgr.cell_far ⟨G, i, none⟩ g1 hG).trans a', (hgr.frozen_far ⟨G, i, none⟩ g1 hG).trans b', ?_, d'⟩
  by_cases e : i = k
  · subst e
    rw [h1, hVk]
    have s1 := World.ownsRow.stored c (f * 4) (.string r.name)
    have s2 := World.ownsRow.stored s1.1 (f * 4 + 1) (.string r.kind)
    have s3 := World.ownsRow.stored s2.1 (f * 4 + 2) (.int .i64 r.value)
    have s4 := World.ownsRow.stored s3.1 (f * 4 + 3) (.string r.reason)
    have s4 := s4.1
    rw [flat_set r (R i) f hf] at s4
    unfold OwnS
    rw [List.length_set]
    exact s4
  · rw [h2 i e]
    refine World.ownsRow.kept c' hgr ?_
    have := hD i k hi hk e
    rw [hVk] at this
    exact this
theorem GrowH.low {w : World} {B B' G n : Nat} {R : Nat → List Run} (h : GrowH w B G n R) (hB : B' ≤ B) : GrowH w B' G n R := by
  obtain ⟨g1, g2, V, hV, hD⟩ := h
  refine ⟨g1, Nat.le_trans hB g2, V, fun i hi => ?_, hD⟩
  obtain ⟨a, b, c, d⟩ := hV i hi
  exact ⟨a, b, OwnS.low c hB, d⟩
/-- What replace leaves. -/
def RepPost (r : Run) (LL : List (List Run)) (n : Nat) (w : World) (e : Ending) (w' : World) : Prop :=
  (∃ LL' g, replS r LL = some LL' ∧ e = .returned (.tuple #[.slice (some ⟨g, 0, none⟩) n n, .bool true]) ∧ GrowH w' w.heap.size g n (fun i => LL'.getD i []) ∧ LL'.length = n ∧ Below w.heap.size w w') ∨
  (replS r LL = none ∧ e = .returned (.tuple #[.slice none 0 0, .bool false]) ∧ Below w.heap.size w w')
set_option maxHeartbeats 4000000 in
theorem seedReplace_any (LL : List (List Run)) (n cap : Nat) (A : Option Addr) (B : Nat) (r : Run) (w : World) (hZ : RHeats w B A n LL) (hn : n ≤ 20) (hs : ∀ l ∈ LL, l.length ≤ 1000 ∧ ∀ x ∈ l, x.ok) :
    Calls Tryz.prog 87 #[.slice A n cap, r.agg] w (RepPost r LL n w) := by
  have hni : (n : Int) ≤ 20 := by omega
  have hlen := hZ.1
  have Hlen := Lib.hid hlen
  have HS := Lib.hid hs
  have hbA : Below w.heap.size w (w.alloc (.cells #[.string r.name, .string r.kind, .int .i64 r.value, .string r.reason] 79)) := balloc _ (Below.refl _ _)
  have hC := copyOf_any LL n cap A B (w.alloc (.cells #[.string r.name, .string r.kind, .int .i64 r.value, .string r.reason] 79)) (hZ.below hbA hZ.2.1) hn hs
  have hRb : ∀ w', Below (w.heap.size + 1) (w.alloc (.cells #[.string r.name, .string r.kind, .int .i64 r.value, .string r.reason] 79)) w' → w'.cell? ⟨w.heap.size, 0, none⟩ = some (.string r.name) ∧ w'.cell? ⟨w.heap.size, 1, none⟩ = some (.string r.kind) ∧ w'.cell? ⟨w.heap.size, 2, none⟩ = some (.int .i64 r.value) ∧ w'.cell? ⟨w.heap.size, 3, none⟩ = some (.string r.reason) := fun w' hb => by
    obtain ⟨a, b, c, d, _⟩ := boxKept (w := w) (w2 := w') (by simpa using hb)
    exact ⟨a, b, c, d⟩
  have HRB := Lib.hid hRb
  obtain ⟨rn, rk, rv, rr⟩ := r
  unfold Run.agg
  simp only at hbA hC HRB ⊢
  have HBA := Lib.hid hbA
  have hszA : (w.alloc (.cells #[.string rn, .string rk, .int .i64 rv, .string rr] 79)).heap.size = w.heap.size + 1 := by simp
  rw [hszA] at hC
  clear hZ hs hbA hRb hlen
  go_enter Tryz.func87, Tryz.ntmps87
  go_wp2_with fail
  refine hC.mono ?_
  rintro e w2 ⟨G, rfl, hGs, hG, hb2⟩
  have HG : Hid (∀ w', Below w2.heap.size w2 w' → GrowH w' (w.heap.size + 1) G n (fun i => LL.getD i [])) := fun w' hb => hG.below hb
  have hGl := hG.1
  have HB2 : Hid (∀ w', Below w2.heap.size w2 w' → Below (w.heap.size + 1) (w.alloc (.cells #[.string rn, .string rk, .int .i64 rv, .string rr] 79)) w') := fun w' hb => hb2.trans (hb.mono (by have := hb2.size; omega))
  have hsz2 := hb2.size
  rw [hszA] at hsz2
  clear hC hG hb2 hszA
  go_wp2
  go_loopw [14] (fun i wr => ∃ k : Nat, k ≤ n ∧ i = .int .i64 k ∧ Hid (∀ (j : Nat) (q : List Run), j < k → LL[j]? = some q → hasR rn q = false) ∧ Below w2.heap.size w2 wr) (fun i _ => n - (RowKit.intOf i).toNat)
  case atStart => exact ⟨0, by omega, rfl, Lib.hid (fun j q hj => absurd hj (by omega)), Below.refl _ _⟩
  case round =>
    obtain ⟨k, hk, rfl, hno, hb⟩ := hrel
    by_cases hkn : k < n
    · have hGr := HG.out _ hb
      obtain ⟨g1, g2, V, hV, hD⟩ := id hGr
      obtain ⟨vc, vf, vo, vg⟩ := hV k hkn
      obtain ⟨l, hL⟩ : ∃ l, LL[k]? = some l := ⟨LL[k]'(by rw [Hlen.out]; exact hkn), List.getElem?_eq_getElem _⟩
      have hLd : LL.getD k [] = l := by rw [List.getD_eq_getElem?_getD, hL]; rfl
      simp only [hLd] at vo
      obtain ⟨ls1, ls2⟩ := HS.out l (List.mem_of_getElem? hL)
      obtain ⟨A', c', hve, hZl⟩ := Runs.of_ownS vo
      rw [hve] at vc vo vg
      obtain ⟨q0, q1, q2, q3⟩ := HRB.out _ (HB2.out _ hb)
      have hI := IndexFunc_any l l.length c' A' _ rn w.heap.size wr hZl ls1 q0 (by have := hb.size; omega)
      have hki : (k : Int) < (n : Int) := by omega
      have hk0 : (0 : Int) ≤ (k : Int) := by omega
      have hkt : ((k : Int)).toNat = k := by omega
      obtain ⟨m, hm⟩ : ∃ m, l.length = m := ⟨_, rfl⟩
      have hfle := fdx_le rn l
      by_cases g : fdx rn l < l.length
      · have hE : idxE rn l = (fdx rn l : Int) := by unfold idxE; rw [if_pos g]
        rw [hE] at hI
        obtain ⟨f, hf⟩ : ∃ f, fdx rn l = f := ⟨_, rfl⟩
        rw [hf] at hI g
        rw [hm] at hI vc vo vg g ls1
        have hmi : (m : Int) ≤ 1000 := by omega
        have hfi : (f : Int) < (m : Int) := by omega
        have hf0 : (0 : Int) ≤ (f : Int) := by omega
        have hft : ((f : Int)).toNat = f := by omega
        go_wp2_with fail
        refine hI.mono ?_
        rintro e w3 ⟨rfl, hb3⟩
        obtain ⟨p0, p1, p2, p3⟩ := HRB.out _ (HB2.out _ (bstep hb hb3))
        have vo3 : OwnS w3 (w.heap.size + 1) (.slice A' m c') l := ownN vo hb3
        have vo4 : w3.ownsRow (w.heap.size + 1) 79 4 (.slice A' m c') m (l.flatMap runC) := by
          have h := vo3
          unfold OwnS at h
          rw [hm] at h
          exact h
        obtain ⟨g', cc, hge, hgb, hgl⟩ := ownSome vo4 (by omega)
        cases hge
        obtain ⟨x, hx⟩ : ∃ x, l[f]? = some x := ⟨l[f]'(by rw [hm]; exact g), List.getElem?_eq_getElem _⟩
        have u0 : w3.cell? ⟨g', f * 4, none⟩ = some (.string x.name) := (World.ownsRow.cellAt vo4 (f * 4) (by omega)).trans (runC_at l f x 0 hx (by decide))
        have u1 : w3.cell? ⟨g', f * 4 + 1, none⟩ = some (.string x.kind) := (World.ownsRow.cellAt vo4 (f * 4 + 1) (by omega)).trans (runC_at l f x 1 hx (by decide))
        have u2 : w3.cell? ⟨g', f * 4 + 2, none⟩ = some (.int .i64 x.value) := (World.ownsRow.cellAt vo4 (f * 4 + 2) (by omega)).trans (runC_at l f x 2 hx (by decide))
        have u3 : w3.cell? ⟨g', f * 4 + 3, none⟩ = some (.string x.reason) := (World.ownsRow.cellAt vo4 (f * 4 + 3) (by omega)).trans (runC_at l f x 3 hx (by decide))
        have z0 := World.ownsRow.frozenAt vo4 (f * 4)
        have z1 := World.ownsRow.frozenAt vo4 (f * 4 + 1)
        have z2 := World.ownsRow.frozenAt vo4 (f * 4 + 2)
        have z3 := World.ownsRow.frozenAt vo4 (f * 4 + 3)
        clear hI
        go_wp2
        have hG3 := HG.out _ (bstep hb hb3)
        have hgG : (w3.setCell ⟨g', f * 4, none⟩ (.string rn)).heap.size = w3.heap.size := by simp
        obtain ⟨LL', hLL'⟩ : ∃ LL', LL.set k (l.set f ⟨rn, rk, rv, rr⟩) = LL' := ⟨_, rfl⟩
        have hrep : replS ⟨rn, rk, rv, rr⟩ LL = some LL' := by
          rw [← hLL', ← hf]
          exact replS_hit ⟨rn, rk, rv, rr⟩ LL k l hL hno.out (by unfold hasR; rw [hf, hm]; exact decide_eq_true g)
        have vc3 : w3.cell? ⟨G, k, none⟩ = some (.slice (some ⟨g', 0, none⟩) m c') := (hb3.cell (p := ⟨G, k, none⟩) g1).trans vc
        have hput := GrowH.put (R' := fun i => LL'.getD i []) (r := ⟨rn, rk, rv, rr⟩) (f := f) (g' := g') (c' := c') hG3 hkn (by simp only [hLd]; omega) (by simp only [hLd]; rw [hm]; exact vc3) (by
            show LL'.getD k [] = (LL.getD k []).set f _
            rw [hLd, ← hLL', List.getD_eq_getElem?_getD, List.getElem?_set_self (by rw [Hlen.out]; exact hkn)]
            rfl) (fun i hi => by
            show LL'.getD i [] = LL.getD i []
            rw [← hLL', List.getD_eq_getElem?_getD, List.getD_eq_getElem?_getD, List.getElem?_set_ne (fun q => hi q.symm)])
        have hbF : Below w.heap.size w ((((w3.setCell ⟨g', f * 4, none⟩ (.string rn)).setCell ⟨g', f * 4 + 1, none⟩ (.string rk)).setCell ⟨g', f * 4 + 2, none⟩ (.int .i64 rv)).setCell ⟨g', f * 4 + 3, none⟩ (.string rr)) :=
          ((((HBA.out.trans ((HB2.out _ (bstep hb hb3)).mono (by omega))).setCell (p := ⟨g', f * 4, none⟩) (by show _ ≤ g'; omega) _).setCell (p := ⟨g', f * 4 + 1, none⟩) (by show _ ≤ g'; omega) _).setCell (p := ⟨g', f * 4 + 2, none⟩) (by show _ ≤ g'; omega) _).setCell (p := ⟨g', f * 4 + 3, none⟩) (by show _ ≤ g'; omega) _
        have hll : LL'.length = n := by rw [← hLL', List.length_set, Hlen.out]
        go_ret2
        exact .inl ⟨LL', G, hrep, rfl, GrowH.low hput (by omega), hll, hbF⟩
      · have hE : idxE rn l = -1 := by unfold idxE; rw [if_neg g]
        rw [hE] at hI
        have hno2 : Hid (∀ (j : Nat) (q : List Run), j < k + 1 → LL[j]? = some q → hasR rn q = false) := fun j q hj hq => by
          by_cases e : j = k
          · subst e
            cases hL.symm.trans hq
            unfold hasR
            exact decide_eq_false g
          · exact hno.out j q (by omega) hq
        rw [hm] at hI vc
        clear hno hL hLd vo vg vf hV hD hGr
        as_aux_lemma =>
          go_wp2_with fail
          refine hI.mono ?_
          rintro e w3 ⟨rfl, hb3⟩
          have hb4 := bstep hb hb3
          go_wp2
          go_roundw
          case rel => exact ⟨k + 1, by omega, by go_num, hno2, hb4⟩
          case measure => simp [RowKit.intOf]; omega
    · have hnone := replS_none ⟨rn, rk, rv, rr⟩ LL (fun j q hq => hno.out j q (by have := (List.getElem?_eq_some_iff.1 hq).1; rw [Hlen.out] at this; omega) hq)
      have hbF := HBA.out.trans ((HB2.out _ hb).mono (by omega))
      have HN := Lib.hid hnone
      clear hnone
      go_wp2
      go_ret2
      exact .inr ⟨HN.out, rfl, hbF⟩
end Go.Mk
end
section
set_option linter.unusedVariables false
set_option linter.unusedSimpArgs false
open Go Go.Proofs Go.RowKit Go.Sort Go.Maps Go.WideMaps
set_option maxRecDepth 100000
namespace Go.Mk
/-- The runner that is put lies in its box; the rest as it was. -/
def CS (w : World) (r : Run) (w' : World) : Prop :=
  w'.cell? ⟨w.heap.size, 0, none⟩ = some (.string r.name) ∧ w'.cell? ⟨w.heap.size, 1, none⟩ = some (.string r.kind) ∧ w'.cell? ⟨w.heap.size, 2, none⟩ = some (.int .i64 r.value) ∧ w'.cell? ⟨w.heap.size, 3, none⟩ = some (.string r.reason) ∧
    Below w.heap.size w w' ∧ w.heap.size < w'.heap.size
theorem CS.start (w : World) (r : Run) : CS w r (w.alloc (.cells #[.string r.name, .string r.kind, .int .i64 r.value, .string r.reason] 79)) := by
  obtain ⟨a, b, c, d, _⟩ := boxKept (Below.refl _ (w.alloc (.cells #[.string r.name, .string r.kind, .int .i64 r.value, .string r.reason] 79)))
  exact ⟨a, b, c, d, balloc _ (Below.refl _ _), by simp⟩
theorem CS.grown {w a b : World} {r : Run} {M : Nat} (h : CS w r a) (hg : a.grownBy b (some M)) (hM : w.heap.size < M) : CS w r b := by
  obtain ⟨c0, c1, c2, c3, hb, hl⟩ := h
  have q : some w.heap.size ≠ some M := fun e => by have := Option.some.inj e; omega
  have k := fun j => World.cell?_of_block (w := a) (w' := b) (a := ⟨w.heap.size, j, none⟩) (hg.block w.heap.size hl q)
  exact ⟨(k 0).trans c0, (k 1).trans c1, (k 2).trans c2, (k 3).trans c3, hb.grown hg (by omega) (fun k e => by have := Option.some.inj e; omega), Nat.lt_of_lt_of_le hl hg.size⟩
theorem CS.below {w a b : World} {r : Run} (h : CS w r a) (hb : Below a.heap.size a b) : CS w r b :=
  h.grown (grown_below hb (some a.heap.size)) h.2.2.2.2.2
theorem CS.alloc {w a : World} {r : Run} (h : CS w r a) (o : Obj) : CS w r (a.alloc o) := h.below (balloc o (Below.refl _ _))
theorem CS.drew {w a : World} {r : Run} (h : CS w r a) : CS w r a.drew := h.below (Below.refl _ _).drew
end Go.Mk
end
