/-
  Proved: plain facts on a run without an error: what lies between two moments is a distance that is not negative and a time above 0, of at most nine digits. No condition.
-/
import Derived.Test.YtgimingahjmgdaaGreatDoorNz
import Derived.Test.YtgimingahjmgdaaGreatDoorYj
set_option linter.unusedVariables false
set_option linter.unusedSimpArgs false
open Go Go.Proofs Go.RowKit
set_option maxRecDepth 100000
namespace Go.Mk
theorem fstN_zero : ∀ {l : List Int}, fstN l = 0 → ∀ x ∈ l, x = 0
  | [], _, x, hx => by cases hx
  | y :: l, h, x, hx => by
    unfold fstN at h
    by_cases q : y = 0
    · rw [if_pos q] at h
      rcases List.mem_cons.1 hx with rfl | hx
      · exact q
      · exact fstN_zero h x hx
    · rw [if_neg q] at h; exact absurd h q
theorem rngE_in {n lo hi : Int} (h : rngE n lo hi = 0) : lo ≤ n ∧ n ≤ hi := by
  unfold rngE at h
  split at h
  · cases h
  · omega
theorem sumW_in : ∀ (G : List Int) (s : Int), (∀ x ∈ G, 1 ≤ x ∧ x ≤ 999999) → 0 ≤ s → s + 999999 * (G.length : Int) ≤ 999999999 → 0 ≤ sumW G s ∧ sumW G s ≤ 999999999
  | [], s, _, h0, h1 => ⟨h0, by simpa [sumW] using h1⟩
  | x :: G, s, hG, h0, h1 => by
    have hx := hG x (by simp)
    rw [List.length_cons] at h1
    have hw : wrap64 (s + x) = s + x := IntWalk.wrap64_in _ (by omega)
    rw [sumW, hw]
    exact sumW_in G (s + x) (fun y hy => hG y (by simp [hy])) (by omega) (by omega)
theorem relW_sum {G : List Int} {z b : Int} (h : relW G z b = 0) : 0 ≤ sumW G 0 ∧ sumW G 0 ≤ 999999999 := by
  obtain ⟨m, hl, h1, h7⟩ := relW_len h
  unfold relW at h
  rw [if_neg (by omega)] at h
  have h0 := fstN_zero h (fstN (G.map fun x => rngE x 1 999999)) (by simp)
  refine sumW_in G 0 (fun x hx => ?_) (by omega) (by omega)
  exact rngE_in (fstN_zero h0 _ (List.mem_map.2 ⟨x, hx, rfl⟩))
theorem relW_zones {G : List Int} {z b : Int} (h : relW G z b = 0) : zErr (zonesW z b (G.take (G.length - 1)) 0) (-1) (sumW G 0) = 0 := by
  obtain ⟨m, hl, h1, h7⟩ := relW_len h
  unfold relW at h
  rw [if_neg (by omega)] at h
  exact fstN_zero h _ (by simp)
theorem exE_in {k : Nat} {p q z : Int × Int} (h : exE k p q z = 0) : 0 ≤ q.1 ∧ q.1 ≤ 999999999 ∧ 1 ≤ q.2 ∧ q.2 ≤ 863999999 ∧ (0 < k → p.1 < q.1 ∧ p.2 < q.2) ∧ q.1 ≤ z.2 := by
  unfold exE at h
  have a := rngE_in (fstN_zero h (rngE q.1 0 999999999) (by simp))
  have b := rngE_in (fstN_zero h (rngE q.2 1 863999999) (by simp))
  have c := fstN_zero h (if 0 < k ∧ (q.1 ≤ p.1 ∨ q.2 ≤ p.2) then 11 else 0) (by simp)
  have d := fstN_zero h (if q.1 < z.1 ∨ z.2 < q.1 then 18 else 0) (by simp)
  refine ⟨a.1, a.2, b.1, b.2, fun hk => ?_, ?_⟩
  · by_cases q0 : 0 < k ∧ (q.1 ≤ p.1 ∨ q.2 ≤ p.2)
    · rw [if_pos q0] at c; cases c
    · constructor <;> (apply Int.lt_of_not_ge; intro hq; exact q0 ⟨hk, by first | exact .inl hq | exact .inr hq⟩)
  · by_cases q0 : q.1 < z.1 ∨ z.2 < q.1
    · rw [if_pos q0] at d; cases d
    · omega
theorem gaps_ok (d f : Int) (hd : 0 ≤ d ∧ d ≤ 999999999) (hf : f ≤ 863999999) : ∀ (l zs : List (Int × Int)) (p : Int × Int) (k : Nat) (last : Int), l.length = zs.length → (runG p k l zs).2 = 0 → zErr zs last d = 0 → (k = 0 → p = (0, 0)) → (0 < k → p.1 ≤ last) →
    (0 ≤ p.1 ∧ p.1 ≤ 999999999 ∧ 0 ≤ p.2 ∧ p.2 ≤ 863999999) → (l.getLastD p).2 < f → ∀ g ∈ gapF p (l ++ [(d, f)]), okG g
  | [], [], p, k, last, _, _, hz, hk0, hk1, hp, hl, g, hg => by
    have hz' : last ≤ d := by
      unfold zErr at hz
      by_cases q : d < last
      · simp [q] at hz
      · omega
    have hl' : p.2 < f := by simpa using hl
    have hpd : p.1 ≤ d := by
      by_cases q : k = 0
      · rw [hk0 q]; exact hd.1
      · exact Int.le_trans (hk1 (by omega)) hz'
    have w1 : wrap64 (d - p.1) = d - p.1 := IntWalk.wrap64_in _ (by omega)
    have w2 : wrap64 (f - p.2) = f - p.2 := IntWalk.wrap64_in _ (by omega)
    simp only [List.nil_append, gapF, List.mem_singleton] at hg
    subst hg
    show 0 ≤ wrap64 (d - p.1) ∧ wrap64 (d - p.1) ≤ 999999999 ∧ 0 < wrap64 (f - p.2) ∧ wrap64 (f - p.2) ≤ 999999999
    rw [w1, w2]
    omega
  | q :: l, z :: zs, p, k, last, hlen, hr, hz, hk0, hk1, hp, hl, g, hg => by
    have he : exE k p q z = 0 := by
      unfold runG at hr
      by_cases q0 : exE k p q z = 0
      · exact q0
      · rw [if_neg q0] at hr; exact hr
    have hr' : (runG q (k + 1) l zs).2 = 0 := by
      unfold runG at hr
      rwa [if_pos he] at hr
    obtain ⟨a1, a2, a3, a4, a5, a6⟩ := exE_in he
    have hz' : zErr zs z.2 d = 0 := by
      unfold zErr at hz
      by_cases q0 : z.1 ≤ last
      · rw [if_pos q0] at hz; cases hz
      · rwa [if_neg q0] at hz
    rw [List.cons_append, gapF] at hg
    rcases List.mem_cons.1 hg with rfl | hg
    · have hx : p.1 ≤ q.1 ∧ p.2 < q.2 := by
        by_cases q0 : k = 0
        · rw [hk0 q0]; exact ⟨a1, by show (0 : Int) < q.2; omega⟩
        · have := a5 (by omega); omega
      have w1 : wrap64 (q.1 - p.1) = q.1 - p.1 := IntWalk.wrap64_in _ (by omega)
      have w2 : wrap64 (q.2 - p.2) = q.2 - p.2 := IntWalk.wrap64_in _ (by omega)
      show 0 ≤ wrap64 (q.1 - p.1) ∧ wrap64 (q.1 - p.1) ≤ 999999999 ∧ 0 < wrap64 (q.2 - p.2) ∧ wrap64 (q.2 - p.2) ≤ 999999999
      rw [w1, w2]
      omega
    · exact gaps_ok d f hd hf l zs q (k + 1) z.2 (by simpa using hlen) hr' hz' (fun h => absurd h (by omega)) (fun _ => a6) ⟨a1, a2, by omega, a4⟩ (by rw [List.getLastD_cons] at hl; exact hl) g hg
theorem lastD_of {L : List (Int × Int)} (h : 0 < L.length) (x y : Int × Int) : L.getD (L.length - 1) x = L.getLastD y := by
  cases L with
  | nil => simp at h
  | cons q l => rw [List.getLastD_eq_getLast?, List.getLast?_eq_getElem?]; simp [List.getD]
/-- A run without an error: its gaps are whole, and there is an exchange less than legs. -/
theorem crW_ok {G : List Int} {z b : Int} {L : List (Int × Int)} {f : Int} (hrel : relW G z b = 0) (h : crW G z b L f = (0, 0)) : L.length + 1 = G.length ∧ ∀ g ∈ gapF (0, 0) (L ++ [(sumW G 0, f)]), okG g := by
  obtain ⟨m, hl, h1, h7⟩ := relW_len hrel
  unfold crW at h
  rw [if_neg (by simp [hrel])] at h
  unfold runW at h
  rw [zonesT_len] at h
  by_cases c1 : L.length ≠ G.length - 1
  · rw [if_pos c1] at h; cases h
  rw [if_neg c1] at h
  by_cases c2 : rngE f 1 863999999 ≠ 0
  · rw [if_pos c2] at h; cases h
  rw [if_neg c2] at h
  have hf := rngE_in (Decidable.not_not.1 c2)
  have hr : (runG (0, 0) 0 L (zonesW z b (G.take (G.length - 1)) 0)).2 = 0 := by
    by_cases c3 : (runG (0, 0) 0 L (zonesW z b (G.take (G.length - 1)) 0)).2 = 0
    · exact c3
    · simp only [ne_eq, c3, not_false_eq_true, if_true] at h
      rw [h]
  simp only [hr, ne_eq, not_true_eq_false, if_false] at h
  have hlast : (L.getD (L.length - 1) (0, 0)).2 < f := by
    by_cases c4 : f ≤ (L.getD (L.length - 1) (0, 0)).2
    · rw [if_pos c4] at h
      have := congrArg Prod.snd h
      cases this
    · omega
  refine ⟨by omega, gaps_ok _ _ (relW_sum hrel) hf.2 L _ (0, 0) 0 (-1) (by rw [zonesT_len]; omega) hr (relW_zones hrel) (fun _ => rfl) (fun h => absurd h (by omega)) (by decide) ?_⟩
  rw [← lastD_of (by omega) (0, 0)]
  exact hlast
end Go.Mk
