/-
  Proved: mark.checkWeights and the reference's CheckWeights return the same error of weights. Conditions: the numbers lie where the slice says.
  Proved: plain facts on exact proportions: the integer parts of the proportions add up to at most the total, and what is left is less than the number of weights; rows of integers in a block. Conditions: the weights are not negative, and not all 0.
-/
import Derived.Test.YtapglbjojpkblaaGreatDoorSq
import Derived.Test.YtapglbjojpkblaaGreatDoorRow
section
set_option linter.unusedVariables false
set_option linter.unusedSimpArgs false
open Go Go.Proofs Go.RowKit
set_option maxRecDepth 100000
namespace Go.Mk
/-- The error of weights. -/
def ckW (L : List Int) : Int := if L.length = 0 then 12 else if 256 < L.length then 5 else if (L.any fun z => decide (z < 0) || decide (999999999 < z)) = true then 3 else if (L.all fun z => decide (z = 0)) = true then 6 else 0
theorem ckW_bad {L : List Int} (h0 : L.length ≠ 0) (h1 : ¬ 256 < L.length) {z : Int} (hz : z ∈ L) (h : z < 0 ∨ 999999999 < z) : ckW L = 3 := by
  unfold ckW
  rw [if_neg h0, if_neg h1, if_pos (List.any_eq_true.2 ⟨z, hz, by simpa using h⟩)]
theorem ckW_good {L : List Int} (h0 : L.length ≠ 0) (h1 : ¬ 256 < L.length) (h : ∀ z ∈ L, 0 ≤ z ∧ z ≤ 999999999) : ckW L = if (L.all fun z => decide (z = 0)) = true then 6 else 0 := by
  unfold ckW
  rw [if_neg h0, if_neg h1, if_neg (by
    rw [List.any_eq_true]
    rintro ⟨z, hz, hq⟩
    obtain ⟨a, b⟩ := h z hz
    simp at hq
    omega)]
theorem sum_take (L : List Int) (k : Nat) (z : Int) (h : L[k]? = some z) : (L.take (k + 1)).sum = (L.take k).sum + z := by
  obtain ⟨hk, e⟩ := List.getElem?_eq_some_iff.1 h
  rw [List.take_succ_eq_append_getElem hk, e, List.sum_append]
  simp
theorem sum_zero (L : List Int) (h : ∀ z ∈ L, 0 ≤ z) : 0 ≤ L.sum ∧ (L.sum = 0 ↔ ∀ z ∈ L, z = 0) := by
  induction L with
  | nil => simp
  | cons a l ih =>
    obtain ⟨i1, i2⟩ := ih fun z hz => h z (List.mem_cons_of_mem _ hz)
    have ha := h a List.mem_cons_self
    rw [List.sum_cons]
    refine ⟨by omega, ?_⟩
    constructor
    · intro e z hz
      rcases List.mem_cons.1 hz with rfl | hz
      · omega
      · exact i2.1 (by omega) z hz
    · intro e
      have h1 := e a List.mem_cons_self
      have h2 := i2.2 fun z hz => e z (List.mem_cons_of_mem _ hz)
      omega
set_option maxHeartbeats 1000000 in
theorem checkWeights_any (L : List Int) (n cap : Nat) (A : Option Addr) (B : Nat) (w : World) (hM : Zs w B A n L) (hsm : n ≤ 260) :
    Calls Tryz.prog 42 #[.slice A n cap] w (RetPost (.int .i64 (ckW L)) w) := by
  obtain ⟨y, hy⟩ : ∃ y, ckW L = y := ⟨_, rfl⟩
  rw [hy]
  have HY := Lib.hid hy
  have hlen := hM.1
  have Hlen := Lib.hid hlen
  clear hy hlen
  by_cases h0 : n = 0
  · have : y = 12 := by rw [← HY.out]; unfold ckW; rw [if_pos (by rw [Hlen.out]; exact h0)]
    subst this
    have hn : (n : Int) = 0 := by omega
    clear hM
    go_enter Tryz.func42, Tryz.ntmps42
    go_wp2
    go_ret
    exact ⟨rfl, Below.refl _ _⟩
  · have hnz : ((n : Int) == 0) = false := beq_eq_false_iff_ne.2 (by omega)
    by_cases h1 : 256 < n
    · have : y = 5 := by rw [← HY.out]; unfold ckW; rw [if_neg (by rw [Hlen.out]; exact h0), if_pos (by rw [Hlen.out]; exact h1)]
      subst this
      have hn : (256 : Int) < (n : Int) := by omega
      clear hM
      go_enter Tryz.func42, Tryz.ntmps42
      go_wp2
      go_ret
      exact ⟨rfl, Below.refl _ _⟩
    · have hn : (n : Int) ≤ 256 := by omega
      have hn1 : (1 : Int) ≤ (n : Int) := by omega
      have e0 : L.length ≠ 0 := by rw [Hlen.out]; exact h0
      have e1 : ¬ 256 < L.length := by rw [Hlen.out]; exact h1
      have HB : Hid (∀ z ∈ L, (z < 0 ∨ 999999999 < z) → y = 3) := fun z hz h => by rw [← HY.out]; exact ckW_bad e0 e1 hz h
      have HG : Hid ((∀ z ∈ L, 0 ≤ z ∧ z ≤ 999999999) → y = if (L.all fun z => decide (z = 0)) = true then 6 else 0) := fun h => by rw [← HY.out]; exact ckW_good e0 e1 h
      have hmn := fun w' (hb : Below w.heap.size w w') => min_any L n cap A B w' (hM.below hb hM.2.1) (by omega) (by omega)
      have hmx := fun w' (hb : Below w.heap.size w w') => max_any L n cap A B w' (hM.below hb hM.2.1) (by omega) (by omega)
      clear e0 e1 hM h1 HY
      go_enter Tryz.func42, Tryz.ntmps42
      go_wp2_with fail
      refine (hmn _ (Below.refl _ _)).mono ?_
      rintro e w1 ⟨m, rfl, hm1, hm2, hb1⟩
      have hmx1 := hmx _ hb1
      clear hmn
      by_cases g1 : m < 0
      · have : y = 3 := HB.out m hm1 (.inl g1)
        subst this
        clear hmx hmx1 hm1 hm2
        go_wp2
        go_ret
        exact ⟨rfl, hb1⟩
      · have Hm2 := Lib.hid hm2
        clear hm1 hm2
        go_wp2_with fail
        refine hmx1.mono ?_
        rintro e w2 ⟨M, rfl, hM1, hM2, hb2⟩
        replace hb2 := hb1.trans (hb2.mono hb1.size)
        clear hmx1 hb1
        by_cases g2 : 999999999 < M
        · have : y = 3 := HB.out M hM1 (.inr g2)
          subst this
          clear hmx hM1 hM2
          go_wp2
          go_ret
          exact ⟨rfl, hb2⟩
        · have hG := HG.out fun z hz => ⟨by have := Hm2.out z hz; omega, by have := hM2 z hz; omega⟩
          have HG2 := Lib.hid hG
          have hmx2 := hmx _ hb2
          clear hG hM1 hM2 hmx
          go_wp2_with fail
          refine hmx2.mono ?_
          rintro e w3 ⟨M2, rfl, hM1, hM2, hb3⟩
          replace hb3 := hb2.trans (hb3.mono hb2.size)
          clear hmx2 hb2
          by_cases g3 : M2 = 0
          · have : y = 6 := by
              rw [HG2.out, if_pos]
              rw [List.all_eq_true]
              intro z hz
              have a := Hm2.out z hz
              have b := hM2 z hz
              simp only [decide_eq_true_eq]
              omega
            subst this
            subst g3
            clear hM1 hM2
            go_wp2
            go_ret
            exact ⟨rfl, hb3⟩
          · have : y = 0 := by
              rw [HG2.out, if_neg]
              rw [List.all_eq_true]
              intro h
              have := h M2 hM1
              simp only [decide_eq_true_eq] at this
              exact g3 this
            subst this
            have g4 : (M2 == 0) = false := beq_eq_false_iff_ne.2 g3
            clear hM1 hM2 g3
            go_wp2
            go_ret
            exact ⟨rfl, hb3⟩

set_option maxHeartbeats 1000000 in
theorem refCheckWeights_any (L : List Int) (n cap : Nat) (A : Option Addr) (B : Nat) (w : World) (hM : Zs w B A n L) (hsm : n ≤ 260) :
    Calls Tryz.prog 18 #[.slice A n cap] w (RetPost (.int .i64 (ckW L)) w) := by
  obtain ⟨y, hy⟩ : ∃ y, ckW L = y := ⟨_, rfl⟩
  rw [hy]
  have HY := Lib.hid hy
  have hlen := hM.1
  have Hlen := Lib.hid hlen
  clear hy hlen
  by_cases h0 : n = 0
  · have : y = 12 := by rw [← HY.out]; unfold ckW; rw [if_pos (by rw [Hlen.out]; exact h0)]
    subst this
    have hn : (n : Int) = 0 := by omega
    clear hM
    go_enter Tryz.func18, Tryz.ntmps18
    go_wp2
    go_ret
    exact ⟨rfl, Below.refl _ _⟩
  · have hnz : ((n : Int) == 0) = false := beq_eq_false_iff_ne.2 (by omega)
    by_cases h1 : 256 < n
    · have : y = 5 := by rw [← HY.out]; unfold ckW; rw [if_neg (by rw [Hlen.out]; exact h0), if_pos (by rw [Hlen.out]; exact h1)]
      subst this
      have hn : (256 : Int) < (n : Int) := by omega
      clear hM
      go_enter Tryz.func18, Tryz.ntmps18
      go_wp2
      go_ret
      exact ⟨rfl, Below.refl _ _⟩
    · have hn : (n : Int) ≤ 256 := by omega
      have e0 : L.length ≠ 0 := by rw [Hlen.out]; exact h0
      have e1 : ¬ 256 < L.length := by rw [Hlen.out]; exact h1
      have HB : Hid (∀ z ∈ L, (z < 0 ∨ 999999999 < z) → y = 3) := fun z hz h => by rw [← HY.out]; exact ckW_bad e0 e1 hz h
      have HG : Hid ((∀ z ∈ L, 0 ≤ z ∧ z ≤ 999999999) → y = if (L.all fun z => decide (z = 0)) = true then 6 else 0) := fun h => by rw [← HY.out]; exact ckW_good e0 e1 h
      have HM : Hid (∀ w', Below w.heap.size w w' → Zs w' B A n L) := fun w' hb => hM.below hb hM.2.1
      clear e0 e1 hM h1 HY
      go_enter Tryz.func18, Tryz.ntmps18
      go_wp2
      go_loopw [3, 4] (fun s i wr => ∃ (k : Nat) (q : Int), k ≤ n ∧ i = .int .i64 k ∧ s = .int .i64 q ∧ 0 ≤ q ∧ q ≤ 999999999 * (k : Int) ∧ Hid (q = (L.take k).sum ∧ ∀ z ∈ L.take k, 0 ≤ z ∧ z ≤ 999999999) ∧ Below w.heap.size w wr) (fun _ i _ => n - (intOf i).toNat)
      case atStart => exact ⟨0, 0, by omega, rfl, rfl, by omega, by omega, ⟨by simp, fun z hz => by simp at hz⟩, Below.refl _ _⟩
      case round =>
        obtain ⟨k, q, hk, rfl, rfl, hq0, hq1, HQ, hb⟩ := hrel
        by_cases hlt : k < n
        · obtain ⟨b, off, z, rfl, _, hL, c1⟩ := (HM.out _ hb).at_ hlt
          have hki : (k : Int) < (n : Int) := by omega
          by_cases g1 : z < 0
          · have : y = 3 := HB.out z (List.mem_of_getElem? hL) (.inl g1)
            subst this
            clear hL
            go_wp2
            go_ret
            exact ⟨rfl, hb⟩
          · by_cases g2 : 999999999 < z
            · have : y = 3 := HB.out z (List.mem_of_getElem? hL) (.inr g2)
              subst this
              clear hL
              go_wp2
              go_ret
              exact ⟨rfl, hb⟩
            · have HN : Hid (q + z = (L.take (k + 1)).sum ∧ ∀ x ∈ L.take (k + 1), 0 ≤ x ∧ x ≤ 999999999) := ⟨by rw [sum_take L k z hL, ← HQ.out.1], fun x hx => by
                rcases (take_mem L k z hL x).1 hx with h | h
                · exact HQ.out.2 x h
                · omega⟩
              clear hL
              go_wp2
              exact ⟨⟨k + 1, q + z, by omega, by go_num, rfl, by omega, by omega, HN, hb⟩, by simp [intOf]; omega⟩
        · have hkn : k = n := by omega
          have hQ := HQ.out
          rw [hkn, List.take_of_length_le (by rw [Hlen.out]; omega)] at hQ
          obtain ⟨hs, hall⟩ := hQ
          have hG := HG.out hall
          have hz := (sum_zero L fun z hz => (hall z hz).1).2
          rw [← hs] at hz
          have HZ := Lib.hid hz
          have HG2 := Lib.hid hG
          clear hs hall hG hz hkn HQ
          by_cases g3 : q = 0
          · have : y = 6 := by
              rw [HG2.out, if_pos]
              rw [List.all_eq_true]
              intro z hz
              simp only [decide_eq_true_eq]
              exact HZ.out.1 g3 z hz
            subst this
            subst g3
            go_wp2
            go_ret
            exact ⟨rfl, hb⟩
          · have : y = 0 := by
              rw [HG2.out, if_neg]
              rw [List.all_eq_true]
              intro h
              exact g3 (HZ.out.2 fun z hz => by have := h z hz; simpa using this)
            subst this
            have g4 : (q == 0) = false := beq_eq_false_iff_ne.2 g3
            clear g3
            go_wp2
            go_ret
            exact ⟨rfl, hb⟩
end Go.Mk
end
section
open Go Go.RowKit
set_option linter.unusedSimpArgs false
set_option linter.unusedVariables false
namespace Sh
def bsum (T S : Int) (L : List Int) : Int := (L.map fun z => T * z / S).sum
def rsum (T S : Int) (L : List Int) : Int := (L.map fun z => T * z % S).sum
theorem bsum_nil (T S : Int) : bsum T S [] = 0 := rfl
theorem bsum_cons (T S a : Int) (l : List Int) : bsum T S (a :: l) = T * a / S + bsum T S l := by simp [bsum]
theorem rsum_cons (T S a : Int) (l : List Int) : rsum T S (a :: l) = T * a % S + rsum T S l := by simp [rsum]
theorem bsum_take (T S : Int) (L : List Int) (k : Nat) (z : Int) (h : L[k]? = some z) : bsum T S (L.take (k + 1)) = bsum T S (L.take k) + T * z / S := by
  obtain ⟨hk, e⟩ := List.getElem?_eq_some_iff.1 h
  unfold bsum
  rw [List.take_succ_eq_append_getElem hk, e, List.map_append, List.sum_append]
  simp
theorem split_sum (T S : Int) (L : List Int) : T * L.sum = S * bsum T S L + rsum T S L := by
  induction L with
  | nil => simp [bsum, rsum]
  | cons a l ih =>
    rw [List.sum_cons, bsum_cons, rsum_cons, Int.mul_add, ih, Int.mul_add]
    have := Int.mul_ediv_add_emod (T * a) S
    omega
theorem rsum_bound (T S : Int) (hS : 0 < S) (L : List Int) : 0 ≤ rsum T S L ∧ rsum T S L ≤ (S - 1) * L.length := by
  induction L with
  | nil => simp [rsum]
  | cons a l ih =>
    rw [rsum_cons]
    have h1 := Int.emod_nonneg (T * a) (show S ≠ 0 by omega)
    have h2 := Int.emod_lt_of_pos (T * a) hS
    rw [show ((a :: l).length : Int) = (l.length : Int) + 1 by simp, Int.mul_add]
    omega
theorem bsum_nonneg (T S : Int) (hT : 0 ≤ T) (hS : 0 < S) (L : List Int) (h : ∀ z ∈ L, 0 ≤ z) : 0 ≤ bsum T S L := by
  induction L with
  | nil => simp [bsum]
  | cons a l ih =>
    rw [bsum_cons]
    have := Int.ediv_nonneg (Int.mul_nonneg hT (h a List.mem_cons_self)) (by omega : 0 ≤ S)
    have := ih fun z hz => h z (List.mem_cons_of_mem _ hz)
    omega
theorem bsum_le (T : Int) (hT : 0 ≤ T) (L : List Int) (h : ∀ z ∈ L, 0 ≤ z) (k : Nat) (hS : 0 < L.sum) : bsum T L.sum (L.take k) ≤ T := by
  have e := split_sum T L.sum (L.take k)
  have hr := (rsum_bound T L.sum hS (L.take k)).1
  have hs : (L.take k).sum ≤ L.sum := by
    have hd : 0 ≤ (L.drop k).sum := by
      have : ∀ l : List Int, (∀ z ∈ l, 0 ≤ z) → 0 ≤ l.sum := by
        intro l
        induction l with
        | nil => intro _; simp
        | cons a l ih =>
          intro hl
          have := ih fun z hz => hl z (List.mem_cons_of_mem _ hz)
          have := hl a List.mem_cons_self
          rw [List.sum_cons]; omega
      exact this _ fun z hz => h z (List.mem_of_mem_drop hz)
    have := congrArg List.sum (List.take_append_drop k L)
    rw [List.sum_append] at this
    omega
  have h1 : T * (L.take k).sum ≤ T * L.sum := Int.mul_le_mul_of_nonneg_left hs hT
  have h2 : L.sum * bsum T L.sum (L.take k) ≤ L.sum * T := by rw [Int.mul_comm L.sum T]; omega
  exact Int.le_of_mul_le_mul_left h2 hS
theorem left_lt (T : Int) (hT : 0 ≤ T) (L : List Int) (h : ∀ z ∈ L, 0 ≤ z) (hS : 0 < L.sum) : 0 ≤ T - bsum T L.sum L ∧ T - bsum T L.sum L < L.length := by
  have h1 := bsum_le T hT L h L.length hS
  rw [List.take_length] at h1
  have e := split_sum T L.sum L
  have hr := (rsum_bound T L.sum hS L).2
  refine ⟨by omega, ?_⟩
  have hl : 0 < (L.length : Int) := by
    cases L with
    | nil => simp at hS
    | cons a l => simp
  refine Classical.byContradiction fun hc => ?_
  have hge : (L.length : Int) ≤ T - bsum T L.sum L := by omega
  have h2 : L.sum * (L.length : Int) ≤ L.sum * (T - bsum T L.sum L) := Int.mul_le_mul_of_nonneg_left hge (by omega)
  rw [Int.mul_sub, Int.mul_comm L.sum T, e, Int.sub_mul] at *
  omega
end Sh
namespace Go.Mk
/-- The integers of a list lie in the cells of a block from its head on. -/
def RowI (w : World) (g : Nat) (L : List Int) : Prop :=
  g < w.heap.size ∧ ∀ (j : Nat) (v : Int), L[j]? = some v → w.cell? ⟨g, j, none⟩ = some (.int .i64 v) ∧ w.frozen? ⟨g, j, none⟩ = false
section
variable {w w' : World} {g : Nat} {L : List Int}
theorem RowI.at_ (h : RowI w g L) {j : Nat} (hj : j < L.length) : w.cell? ⟨g, j, none⟩ = some (.int .i64 (L.getD j 0)) ∧ w.frozen? ⟨g, j, none⟩ = false := by
  have := h.2 j L[j] (List.getElem?_eq_getElem hj)
  simpa [List.getD_eq_getElem?_getD, List.getElem?_eq_getElem hj] using this
theorem RowI.set_ (h : RowI w g L) {i : Nat} (hi : i < L.length) (v : Int) : RowI (w.setCell ⟨g, i, none⟩ (.int .i64 v)) g (L.set i v) := by
  refine ⟨by simpa using h.1, fun j u hu => ?_⟩
  rw [List.getElem?_set] at hu
  by_cases e : i = j
  · subst e
    rw [if_pos rfl, if_pos hi] at hu
    injection hu with hu
    subst hu
    obtain ⟨h1, h2⟩ := h.at_ hi
    exact ⟨World.cell?_setCell_same w _ _ h1, by simpa using h2⟩
  · rw [if_neg e] at hu
    obtain ⟨h1, h2⟩ := h.2 j u hu
    refine ⟨?_, by simpa using h2⟩
    rw [World.cell?_setCell_other w _ _ _ (by intro e2; injection e2 with _ e3; exact e e3)]
    exact h1
theorem RowI.keep (h : RowI w g L) (hs : w.heap.size ≤ w'.heap.size) (hc : ∀ p : Addr, p.block = g → w'.cell? p = w.cell? p) (hf : ∀ p : Addr, p.block = g → w'.frozen? p = w.frozen? p) : RowI w' g L :=
  ⟨Nat.lt_of_lt_of_le h.1 hs, fun j v hv => by
    obtain ⟨h1, h2⟩ := h.2 j v hv
    exact ⟨(hc _ rfl).trans h1, (hf _ rfl).trans h2⟩⟩
theorem RowI.below {B : Nat} (h : RowI w g L) (hb : Below B w w') (hg : g < B) (hs : w.heap.size ≤ w'.heap.size) : RowI w' g L :=
  h.keep hs (fun p hp => hb.cell (by omega)) (fun p hp => hb.frozen (by omega))
theorem RowI.alloc (h : RowI w g L) (o : Obj) : RowI (w.alloc o) g L := h.below ((Below.refl w.heap.size w).alloc (Nat.le_refl _) o) h.1 (by simp)
theorem RowI.far (h : RowI w g L) {p : Addr} (hp : p.block ≠ g) (u : Value) : RowI (w.setCell p u) g L :=
  h.keep (by simp) (fun q hq => World.cell?_setCell_other w p q u (fun e => hp (by rw [e]; exact hq))) (fun q _ => by simp)
end
end Go.Mk
end
