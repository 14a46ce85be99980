/-
  Proved: plain facts on the gaps of a run: each moment is the one before it and the gap between them. No condition.
-/
import Derived.Test.YtickjnahdeikfaaGreatDoorXaw
import Derived.Test.YtickjnahdeikfaaGreatDoorVl
set_option linter.unusedVariables false
set_option linter.unusedSimpArgs false
open Go Go.Proofs Go.RowKit
set_option maxRecDepth 100000
namespace Go.Mk
/-- All moments of a run lie in these bounds. -/
theorem runBds {L Z : List (Int × Int)} {m : Nat} {t d f : Int} (hZ : ZonesOK Z d) (hl : Z.length = m) (hR : RunOK L Z m t) (hd0 : 0 ≤ d) (hd : d ≤ 999999999) (htf : t < f) (hf0 : 0 ≤ f) (hf : f ≤ 863999999) :
    ∀ (k : Nat) (q : Int × Int), ((0, 0) :: (L ++ [(d, f)]))[k]? = some q → 0 ≤ q.1 ∧ q.1 ≤ 999999999 ∧ 0 ≤ q.2 ∧ q.2 ≤ 863999999 := by
  intro k q hq
  cases k with
  | zero => simp at hq; subst hq; decide
  | succ i =>
    rw [List.getElem?_cons_succ] at hq
    rcases Nat.lt_or_ge i L.length with h | h
    · rw [List.getElem?_append_left h] at hq
      have hzi : i < Z.length := by rw [hl, ← hR.1]; exact h
      have a := hR.2.1 i q Z[i] hq (List.getElem?_eq_getElem hzi)
      have b := hR.2.2.1 i q hq
      have c := hZ.1 i Z[i] (List.getElem?_eq_getElem hzi)
      omega
    · rw [List.getElem?_append_right h] at hq
      have h0 : i - L.length = 0 := by
        rcases Nat.eq_zero_or_pos (i - L.length) with h1 | h1
        · exact h1
        · rw [List.getElem?_eq_none (by simp only [List.length_singleton]; omega)] at hq; cases hq
      rw [h0] at hq
      simp at hq
      subst hq
      exact ⟨hd0, hd, hf0, hf⟩
/-- One step of the second loop: the gap is there, and adds up. -/
theorem gap_step {Q : List (Int × Int)} (hB : ∀ (k : Nat) (q : Int × Int), ((0, 0) :: Q)[k]? = some q → 0 ≤ q.1 ∧ q.1 ≤ 999999999 ∧ 0 ≤ q.2 ∧ q.2 ≤ 863999999) (hok : ∀ g ∈ gapF (0, 0) Q, okG g) {k : Nat} {a : Int × Int} (hk : k < Q.length) (ha : ((0, 0) :: Q)[k]? = some a) :
    ∃ c g, Q[k]? = some c ∧ ((0, 0) :: Q)[k + 1]? = some c ∧ (gapF (0, 0) Q)[k]? = some g ∧ okG g ∧ IntKind.i64.wrap (a.2 + g.2) = c.2 ∧ a.1.toNat + g.1.toNat = c.1.toNat ∧ 0 ≤ a.1 ∧ 0 ≤ g.1 ∧ c.1.toNat ≤ 999999999 ∧ g.2 = (g.2.toNat : Int) := by
  have hc : Q[k]? = some Q[k] := List.getElem?_eq_getElem hk
  have hc' : ((0, 0) :: Q)[k + 1]? = some Q[k] := by rw [List.getElem?_cons_succ]; exact hc
  obtain ⟨c, hce⟩ : ∃ c, Q[k] = c := ⟨_, rfl⟩
  rw [hce] at hc hc'
  have hg := gapF_at Q (0, 0) k a c ha hc
  obtain ⟨a1, a2, a3, a4⟩ := hB k a ha
  obtain ⟨c1, c2, c3, c4⟩ := hB (k + 1) c hc'
  have w1 : wrap64 (c.1 - a.1) = c.1 - a.1 := by unfold wrap64; omega
  have w2 : wrap64 (c.2 - a.2) = c.2 - a.2 := by unfold wrap64; omega
  rw [w1, w2] at hg
  have ho := hok _ (List.mem_of_getElem? hg)
  obtain ⟨o1, o2, o3, o4⟩ := ho
  have o1 : 0 ≤ c.1 - a.1 := o1
  have o3 : 0 < c.2 - a.2 := o3
  have e1 : a.2 + (c.2 - a.2) = c.2 := by omega
  refine ⟨c, (c.1 - a.1, c.2 - a.2), hc, hc', hg, ⟨o1, o2, o3, o4⟩, ?_, ?_, a1, o1, by omega, ?_⟩
  · show IntKind.i64.wrap (a.2 + (c.2 - a.2)) = c.2
    rw [e1]; exact IntWalk.i64_in _ (by omega)
  · show a.1.toNat + (c.1 - a.1).toNat = c.1.toNat
    omega
  · show c.2 - a.2 = ((c.2 - a.2).toNat : Int)
    omega
/-- Behind all gaps stands the finish. -/
theorem gap_last {L : List (Int × Int)} {d f : Int} {m : Nat} (hl : L.length = m) : ((0, 0) :: (L ++ [(d, f)]))[m + 1]? = some (d, f) := by
  rw [List.getElem?_cons_succ, List.getElem?_append_right (by omega), hl, Nat.sub_self]; rfl
end Go.Mk
