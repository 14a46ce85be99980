/-
  Proved: plain facts on patterns of lanes and on charts: the lanes of a pattern without an error are different; those that are drawn are these lanes, group by group; the numbers of a chart fall. No condition but those that stand there.
-/
import Derived.Test.YtebehbojbdcclaaGreatDoorPf
set_option linter.unusedVariables false
set_option linter.unusedSimpArgs false
open Go Go.Proofs Go.RowKit
set_option maxRecDepth 100000
namespace Go.Mk
theorem lanesE_zero (l : List Int) : ∀ P Q : List Int, lanesE P l = (0, Q) → Q = P ++ l ∧ (∀ x ∈ l, 1 ≤ x ∧ x ≤ 10) ∧ (P.Nodup → Q.Nodup) := by
  induction l with
  | nil =>
    intro P Q h
    rw [lanesE] at h
    cases h
    exact ⟨by simp, fun x hx => (by cases hx), fun h => h⟩
  | cons x l ih =>
    intro P Q h
    rw [lanesE] at h
    split at h
    · cases h
    · rename_i hx
      obtain ⟨a, b, c⟩ := ih _ _ h
      refine ⟨by rw [a]; simp, fun y hy => ?_, fun hP => c ?_⟩
      · rcases List.mem_cons.1 hy with rfl | hy
        · constructor <;> refine Classical.byContradiction fun q => hx ?_ <;> omega
        · exact b y hy
      · rw [List.nodup_append]
        refine ⟨hP, by simp, fun u hu v hv e => ?_⟩
        simp at hv
        subst hv
        subst e
        exact hx (.inr (.inr hu))
theorem groupsE_zero (LL : List (List Int)) : ∀ P : List Int, P.Nodup → groupsE P LL = 0 → (P ++ LL.flatten).Nodup ∧ (∀ x ∈ LL.flatten, 1 ≤ x ∧ x ≤ 10) ∧ ∀ l ∈ LL, l ≠ [] := by
  induction LL with
  | nil => intro P hP _; exact ⟨by simpa using hP, fun x hx => (by simp at hx), fun l hl => (by cases hl)⟩
  | cons l LL ih =>
    intro P hP h
    rw [groupsE] at h
    split at h
    · rename_i hg
      unfold groupE at hg
      split at hg
      · omega
      · rename_i hl
        obtain ⟨Q, hQ⟩ : ∃ Q, lanesE P l = (0, Q) := ⟨(lanesE P l).2, by rw [← hg]⟩
        obtain ⟨a, b, c⟩ := lanesE_zero l P Q hQ
        rw [hQ] at h
        obtain ⟨d, e, f⟩ := ih Q (c hP) h
        refine ⟨by rw [List.flatten_cons, ← List.append_assoc, ← a]; exact d, fun x hx => ?_, fun y hy => ?_⟩
        · rw [List.flatten_cons, List.mem_append] at hx
          rcases hx with hx | hx
          · exact b x hx
          · exact e x hx
        · rcases List.mem_cons.1 hy with rfl | hy
          · exact hl
          · exact f y hy
    · rename_i hg
      exact absurd h hg
theorem filter_le (m : Int) (l : List Int) (h : l.Nodup) : l.length ≤ (l.filter fun x => x ≠ m).length + 1 := by
  induction l with
  | nil => simp
  | cons a l ih =>
    rw [List.nodup_cons] at h
    by_cases e : a = m
    · subst e
      have : l.filter (fun x => decide (x ≠ a)) = l := by
        rw [List.filter_eq_self]
        intro x hx
        simp
        intro q
        subst q
        exact h.1 hx
      rw [List.filter_cons_of_neg (by simp), this]
      simp
    · rw [List.filter_cons_of_pos (by simpa using e)]
      have := ih h.2
      simp only [List.length_cons]
      omega
theorem pigeon (m : Nat) : ∀ l : List Int, l.Nodup → (∀ x ∈ l, 1 ≤ x ∧ x ≤ (m : Int)) → l.length ≤ m := by
  induction m with
  | zero =>
    intro l _ h
    cases l with
    | nil => simp
    | cons a l => have := h a List.mem_cons_self; omega
  | succ m ih =>
    intro l hn h
    have h1 := filter_le ((m : Int) + 1) l hn
    have h2 := ih (l.filter fun x => x ≠ (m : Int) + 1) (hn.filter _) (fun x hx => by
      rw [List.mem_filter] at hx
      have a := h x hx.1
      have b : x ≠ (m : Int) + 1 := by simpa using hx.2
      omega)
    omega
theorem pat_flat {LL : List (List Int)} (h : patE LL = 0) : LL.flatten.Nodup ∧ (∀ l ∈ LL, l ≠ []) ∧ LL.flatten.length ≤ 10 ∧ 1 ≤ LL.flatten.length := by
  obtain ⟨_, l, L2, e, hl⟩ := pat_ok h
  unfold patE at h
  split at h
  · omega
  · split at h
    · omega
    · obtain ⟨a, b, c⟩ := groupsE_zero LL [] List.nodup_nil h
      rw [List.nil_append] at a
      refine ⟨a, c, pigeon 10 _ a b, ?_⟩
      have : 0 < l.length := List.length_pos_iff.2 hl
      rw [e, List.flatten_cons, List.length_append]
      omega
/-- The lanes of all groups in their drawn orders. -/
def drawnL : Int → List (List Int) → List Int
  | _, [] => []
  | key, l :: LL => picked key l ++ drawnL (key + 1) LL
theorem drawnE_ok (LL : List (List Int)) : ∀ key : Int, 1 ≤ key → key + LL.length ≤ 2147483646 → drawnE key LL = (drawnL key LL, 0) := by
  induction LL with
  | nil => intro k _ _; rfl
  | cons l LL ih =>
    intro k h1 h2
    simp only [List.length_cons] at h2
    rw [drawnE, if_neg (by omega), ih (k + 1) (by omega) (by omega), preL, if_pos rfl, drawnL]
theorem range_getD (l : List Int) : (List.range l.length).map (fun j => l.getD j 0) = l := by
  apply List.ext_getElem?
  intro i
  by_cases hi : i < l.length
  · rw [List.getElem?_map, List.getElem?_range hi, List.getElem?_eq_getElem hi]
    simp [List.getD_eq_getElem?_getD, List.getElem?_eq_getElem hi]
  · rw [List.getElem?_eq_none (by simp; omega), List.getElem?_eq_none (by omega)]
theorem picked_perm (key : Int) (l : List Int) : (picked key l).Perm l := by
  have h := (Sh.order_perm key.toNat l.length).map (fun j => l.getD j 0)
  rw [range_getD] at h
  exact h
theorem drawnL_perm (LL : List (List Int)) : ∀ key, (drawnL key LL).Perm LL.flatten := by
  induction LL with
  | nil => intro k; exact List.Perm.refl _
  | cons l LL ih =>
    intro k
    rw [drawnL, List.flatten_cons]
    exact (picked_perm k l).append (ih (k + 1))
theorem drawnL_at (LL : List (List Int)) : ∀ (key : Int) (i j : Nat) (l : List Int), LL[i]? = some l → j < l.length → ∃ x, (drawnL key LL)[(LL.take i).flatten.length + j]? = some x ∧ x ∈ l := by
  induction LL with
  | nil => intro k i j l h; simp at h
  | cons a LL ih =>
    intro k i j l h hj
    cases i with
    | zero =>
      simp at h
      subst h
      have hp : j < (picked k a).length := by rw [picked_len]; exact hj
      refine ⟨(picked k a)[j], ?_, (picked_perm k a).mem_iff.1 (List.getElem_mem hp)⟩
      rw [drawnL, List.take_zero, List.flatten_nil, List.length_nil, Nat.zero_add, List.getElem?_append_left hp, List.getElem?_eq_getElem hp]
    | succ i =>
      obtain ⟨x, h1, h2⟩ := ih (k + 1) i j l (by simpa using h) hj
      refine ⟨x, ?_, h2⟩
      rw [drawnL, List.take_succ_cons, List.flatten_cons, List.length_append, List.getElem?_append_right (by rw [picked_len]; omega), picked_len, ← h1]
      congr 1
      omega
theorem nodup_apart {l : List Int} (h : l.Nodup) {i j : Nat} {x y : Int} (hij : i < j) (hi : l[i]? = some x) (hj : l[j]? = some y) : x ≠ y := by
  intro e
  subst e
  obtain ⟨a, ea⟩ := List.getElem?_eq_some_iff.1 hi
  obtain ⟨b, eb⟩ := List.getElem?_eq_some_iff.1 hj
  have := List.pairwise_iff_getElem.1 h i j a b hij
  exact this (by rw [ea, eb])
/-- How many athletes there are in each round of a chart. -/
def numsN (lanes : Int) (a : Int) (h : Nat) : List Int :=
  if h ≤ 1 then [a] else a :: numsN lanes (lanes * (((h + 1) / 2 : Nat) : Int)) ((h + 1) / 2)
termination_by h
decreasing_by omega
theorem numsN_one (lanes a : Int) (h : Nat) (h1 : h ≤ 1) : numsN lanes a h = [a] := by rw [numsN, if_pos h1]
theorem numsN_more (lanes a : Int) (h : Nat) (h1 : 1 < h) : numsN lanes a h = a :: numsN lanes (lanes * (((h + 1) / 2 : Nat) : Int)) ((h + 1) / 2) := by rw [numsN, if_neg (by omega)]
theorem ceil_bounds {a lanes : Int} {h : Nat} (h2 : 1 ≤ lanes) (h4 : (a + lanes - 1) / lanes = h) : lanes * ((h : Int) - 1) < a ∧ a ≤ lanes * (h : Int) := by
  have e1 := Int.mul_ediv_add_emod (a + lanes - 1) lanes
  have e2 := Int.emod_lt_of_pos (a + lanes - 1) (show 0 < lanes by omega)
  have e3 := Int.emod_nonneg (a + lanes - 1) (show lanes ≠ 0 by omega)
  rw [h4] at e1
  rw [Int.mul_sub, Int.mul_one]
  omega
/-- What is shown of the numbers of a chart. -/
def Falls (lanes a : Int) (U : List Int) : Prop :=
  U.getD 0 0 = a ∧ 1 ≤ U.length ∧ U.getD (U.length - 1) 0 ≤ lanes ∧ ∀ i, i + 1 < U.length → U.getD (i + 1) 0 < U.getD i 0 ∧ 1 ≤ U.getD (i + 1) 0
theorem chart_nums (lanes : Int) (h2 : 1 ≤ lanes) (h3 : lanes ≤ 10) (h : Nat) : ∀ a : Int, 1 ≤ a → a ≤ 160 → (a + lanes - 1) / lanes = h → h ≤ 16 →
    numGo lanes a (chartN lanes h) = (numsN lanes a h, 0) ∧ (numsN lanes a h).length = (chartN lanes h).length ∧ Falls lanes a (numsN lanes a h) := by
  induction h using Nat.strongRecOn with
  | ind h ih =>
  intro a h0 h1 h4 h5
  obtain ⟨c1, c2⟩ := ceil_bounds h2 h4
  have h6 : 1 ≤ h := by
    refine Classical.byContradiction fun q => ?_
    have : h = 0 := by omega
    subst this
    simp at c2
    omega
  by_cases hlt : 1 < h
  · obtain ⟨m, hm⟩ : ∃ m : Nat, (h + 1) / 2 = m := ⟨_, rfl⟩
    have hml : 0 ≤ lanes * (m : Int) := Int.mul_nonneg (by omega) (by omega)
    have hm1 : 1 ≤ lanes * (m : Int) := by
      have : 1 * 1 ≤ lanes * (m : Int) := Int.mul_le_mul h2 (by omega) (by omega) (by omega)
      omega
    have hpa : lanes * (m : Int) < a := by
      have : lanes * (m : Int) ≤ lanes * ((h : Int) - 1) := Int.mul_le_mul_of_nonneg_left (by omega) (by omega)
      omega
    obtain ⟨g1, g2, g3⟩ := ih m (by omega) (lanes * (m : Int)) hm1 (by omega) (up_mul lanes m h2 (by omega)) (by omega)
    rw [chartN_more lanes h hlt, numsN_more lanes a h hlt, hm]
    have hp1 : 0 ≤ lanes * (m : Int) / h := Int.ediv_nonneg hml (by omega)
    have hp2 : lanes * (m : Int) / h ≤ 10 := by
      have e : lanes * (m : Int) ≤ 10 * (h : Int) := Int.mul_le_mul h3 (by omega) (by omega) (by omega)
      have := Int.ediv_le_ediv (show (0 : Int) < h by omega) e
      rwa [Int.mul_ediv_cancel _ (by omega)] at this
    have hp3 := Int.emod_nonneg (lanes * (m : Int)) (show (h : Int) ≠ 0 by omega)
    have hp4 := Int.emod_lt_of_pos (lanes * (m : Int)) (show (0 : Int) < h by omega)
    have hnx : (h : Int) * (lanes * (m : Int) / h) + lanes * (m : Int) % h = lanes * (m : Int) := Int.mul_ediv_add_emod _ _
    have hne : chartN lanes m ≠ [] := by intro q; have := chartN_pos lanes m; rw [q] at this; simp at this
    have he : rndE a lanes (h : Int) (lanes * (m : Int) / h) (lanes * (m : Int) % h) (chartN lanes m).isEmpty = 0 := by
      rw [show (chartN lanes m).isEmpty = false from by simpa using hne]
      obtain ⟨w1, _, _⟩ := wrap_small (h := (h : Int)) (by omega) (by omega) h2 h3
      rcases rndE_cases a lanes (h : Int) (lanes * (m : Int) / h) (lanes * (m : Int) % h) false with ⟨q, _⟩ | ⟨_, q, _⟩ | ⟨_, _, e⟩
      · omega
      · rw [w1, Int.mul_comm] at q; omega
      · rw [e]
        simp only [Bool.false_eq_true, if_false]
        rw [hnx, if_neg (by omega)]
    refine ⟨?_, by simp [g2], ?_⟩
    · rw [numGo, if_pos he, hnx, g1, pre, if_pos rfl]
    · obtain ⟨f1, f2, f3, f4⟩ := g3
      refine ⟨by simp, by simp, ?_, fun i hi => ?_⟩
      · have : (numsN lanes (lanes * (m : Int)) m).length + 1 - 1 = ((numsN lanes (lanes * (m : Int)) m).length - 1) + 1 := by omega
        rw [List.length_cons, this, List.getD_cons_succ]
        exact f3
      · simp only [List.length_cons] at hi
        cases i with
        | zero =>
          rw [List.getD_cons_succ, List.getD_cons_zero, f1]
          omega
        | succ i =>
          rw [List.getD_cons_succ, List.getD_cons_succ]
          exact f4 i (by omega)
  · have hh : h = 1 := by omega
    subst hh
    rw [chartN_one lanes 1 (by omega), numsN_one lanes a 1 (by omega)]
    have he : rndE a lanes 1 0 0 ([] : List (Int × Int × Int)).isEmpty = 0 := by
      obtain ⟨w1, _, _⟩ := wrap_small (h := 1) (by omega) (by omega) h2 h3
      rcases rndE_cases a lanes 1 0 0 true with ⟨q, _⟩ | ⟨_, q, _⟩ | ⟨_, _, e⟩
      · omega
      · rw [w1] at q; simp at c2; omega
      · rw [show ([] : List (Int × Int × Int)).isEmpty = true from rfl, e]; simp
    refine ⟨?_, by simp, by simp, by simp, ?_, fun i hi => (by simp at hi)⟩
    · rw [numGo, if_pos he, numGo, pre, if_pos rfl]
    · simp at c2 ⊢
      omega
end Go.Mk
