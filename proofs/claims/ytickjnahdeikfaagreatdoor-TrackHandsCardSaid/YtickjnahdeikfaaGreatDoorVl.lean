/-
  Proved: plain facts on the run that a law makes out of the zones: it has no error, and an exchange beyond its zone is told by its number. No condition.
  Proved: plain facts on the zones of a relay without an error, on the gaps between the moments of a run, and on the product of a speed and a time. No condition.
-/
import Derived.Test.YtickjnahdeikfaaGreatDoorVk
section
set_option linter.unusedVariables false
set_option linter.unusedSimpArgs false
open Go Go.Proofs Go.RowKit
set_option maxRecDepth 100000
namespace Go.Mk
/-- So many exchanges are in their zones, with ascending times up to t. -/
def RunOK (L Z : List (Int × Int)) (k : Nat) (t : Int) : Prop :=
  L.length = k ∧ (∀ (i : Nat) (q zz : Int × Int), L[i]? = some q → Z[i]? = some zz → zz.1 ≤ q.1 ∧ q.1 ≤ zz.2) ∧ (∀ (i : Nat) (q : Int × Int), L[i]? = some q → 1 ≤ q.2 ∧ q.2 ≤ t) ∧ (∀ (i : Nat) (p q : Int × Int), L[i]? = some p → L[i + 1]? = some q → p.2 < q.2)
theorem RunOK.nil (Z : List (Int × Int)) : RunOK [] Z 0 0 := ⟨rfl, fun i q zz h => by simp at h, fun i q h => by simp at h, fun i p q h => by simp at h⟩
theorem RunOK.step {L Z : List (Int × Int)} {k : Nat} {t x t' : Int} {zz : Int × Int} (h : RunOK L Z k t) (h0 : 0 ≤ t) (hz : Z[k]? = some zz) (h1 : zz.1 ≤ x) (h2 : x ≤ zz.2) (h3 : t < t') : RunOK (L ++ [(x, t')]) Z (k + 1) t' := by
  obtain ⟨hl, ha, hb, hc⟩ := h
  have at_ : ∀ (i : Nat) (q : Int × Int), (L ++ [(x, t')])[i]? = some q → (i < k ∧ L[i]? = some q) ∨ (i = k ∧ q = (x, t')) := by
    intro i q hq
    by_cases hi : i < k
    · rw [List.getElem?_append_left (by omega)] at hq; exact .inl ⟨hi, hq⟩
    · rw [List.getElem?_append_right (by omega)] at hq
      cases e : i - L.length with
      | zero => rw [e] at hq; simp at hq; exact .inr ⟨by omega, hq.symm⟩
      | succ j => rw [e] at hq; simp at hq
  refine ⟨by simp [hl], fun i q z2 hq hz2 => ?_, fun i q hq => ?_, fun i p q hp hq => ?_⟩
  · rcases at_ i q hq with ⟨_, hq⟩ | ⟨rfl, rfl⟩
    · exact ha i q z2 hq hz2
    · rw [hz] at hz2; cases hz2; exact ⟨h1, h2⟩
  · rcases at_ i q hq with ⟨_, hq⟩ | ⟨rfl, rfl⟩
    · have := hb i q hq; omega
    · exact ⟨by show 1 ≤ t'; omega, Int.le_refl _⟩
  · rcases at_ (i + 1) q hq with ⟨_, hq⟩ | ⟨hi, rfl⟩
    · rcases at_ i p hp with ⟨_, hp⟩ | ⟨rfl, rfl⟩
      · exact hc i p q hp hq
      · omega
    · rcases at_ i p hp with ⟨_, hp⟩ | ⟨rfl, rfl⟩
      · have := hb i p hp; show p.2 < t'; omega
      · omega
/-- Zones ascend, from 0 to a distance. -/
def ZonesOK (Z : List (Int × Int)) (d : Int) : Prop :=
  (∀ (i : Nat) (zz : Int × Int), Z[i]? = some zz → 0 ≤ zz.1 ∧ zz.1 ≤ zz.2 ∧ zz.2 ≤ d) ∧ (∀ (i : Nat) (a c : Int × Int), Z[i]? = some a → Z[i + 1]? = some c → a.2 < c.1)
theorem exE_zero {L Z : List (Int × Int)} {d t : Int} {m k : Nat} {p q zz : Int × Int} (hZ : ZonesOK Z d) (hd : d ≤ 999999999) (hR : RunOK L Z m t) (ht : t ≤ 863999999) (hq : L[k]? = some q) (hz : Z[k]? = some zz) (hp : 0 < k → L[k - 1]? = some p) : exE k p q zz = 0 := by
  obtain ⟨z0, z1, z2⟩ := hZ.1 k zz hz
  obtain ⟨a1, a2⟩ := hR.2.1 k q zz hq hz
  obtain ⟨b1, b2⟩ := hR.2.2.1 k q hq
  refine exE_ok ?_ ?_ ?_ ?_
  · unfold rngE; rw [if_neg (by omega)]
  · unfold rngE; rw [if_neg (by omega)]
  · rintro ⟨hk, h⟩
    have hp' := hp hk
    obtain ⟨j, rfl⟩ : ∃ j, k = j + 1 := ⟨k - 1, by omega⟩
    have hp2 : L[j]? = some p := hp'
    have ht2 := hR.2.2.2 j p q hp2 hq
    have hj : j < Z.length := by have := (List.getElem?_eq_some_iff.1 hz).1; omega
    have hc := hZ.2 j Z[j] zz (List.getElem?_eq_getElem hj) hz
    have hpz := hR.2.1 j p Z[j] hp2 (List.getElem?_eq_getElem hj)
    omega
  · omega
theorem runG_ok {L Z : List (Int × Int)} {d t : Int} {m : Nat} (hZ : ZonesOK Z d) (hd : d ≤ 999999999) (hR : RunOK L Z m t) (ht : t ≤ 863999999) (hl : Z.length = m) :
    ∀ (n k : Nat) (p : Int × Int), k + n = m → (0 < k → L[k - 1]? = some p) → runG p k (L.drop k) (Z.drop k) = (0, 0)
  | 0, k, p, hk, _ => runG_end p k (by rw [hR.1]; omega)
  | n + 1, k, p, hk, hp => by
    have hkL : k < L.length := by rw [hR.1]; omega
    have hkZ : k < Z.length := by omega
    have hq := List.getElem?_eq_getElem hkL
    have hz := List.getElem?_eq_getElem hkZ
    rw [runG_drop p hq hz, if_pos (exE_zero hZ hd hR ht hq hz hp)]
    exact runG_ok hZ hd hR ht hl n (k + 1) L[k] (by omega) (fun _ => hq)
theorem runG_late {L Z : List (Int × Int)} {d t : Int} {m k0 : Nat} {q zz : Int × Int} (hZ : ZonesOK Z d) (hd : d ≤ 999999998) (hR : RunOK L Z m t) (ht : t ≤ 863999999) (hl : Z.length = m) (hk0 : k0 < m) (hq0 : L[k0]? = some q) (hz0 : Z[k0]? = some zz) :
    ∀ (n k : Nat) (p : Int × Int), k + n = k0 → (0 < k → L[k - 1]? = some p) → runG p k ((L.set k0 (zz.2 + 1, q.2)).drop k) (Z.drop k) = ((k0 : Int), 18)
  | 0, k, p, hk, hp => by
    obtain rfl : k = k0 := by omega
    have hs : (L.set k (zz.2 + 1, q.2))[k]? = some (zz.2 + 1, q.2) := by rw [List.getElem?_set_self (by rw [hR.1]; exact hk0)]
    have he : exE k p (zz.2 + 1, q.2) zz = 18 := by
      obtain ⟨z0, z1, z2⟩ := hZ.1 k zz hz0
      obtain ⟨b1, b2⟩ := hR.2.2.1 k q hq0
      refine exE_zone ?_ ?_ ?_ ?_
      · show rngE (zz.2 + 1) 0 999999999 = 0
        unfold rngE; rw [if_neg (by omega)]
      · show rngE q.2 1 863999999 = 0
        unfold rngE; rw [if_neg (by omega)]
      · rintro ⟨hk1, h⟩
        have hp' := hp hk1
        obtain ⟨j, rfl⟩ : ∃ j, k = j + 1 := ⟨k - 1, by omega⟩
        have hp2 : L[j]? = some p := hp'
        have ht2 := hR.2.2.2 j p q hp2 hq0
        have hj : j < Z.length := by omega
        have hc := hZ.2 j Z[j] zz (List.getElem?_eq_getElem hj) hz0
        have hpz := hR.2.1 j p Z[j] hp2 (List.getElem?_eq_getElem hj)
        have h' : zz.2 + 1 ≤ p.1 ∨ q.2 ≤ p.2 := h
        omega
      · right; show zz.2 < zz.2 + 1; omega
    rw [runG_drop p hs hz0, he, if_neg (by decide)]
  | n + 1, k, p, hk, hp => by
    have hkL : k < L.length := by rw [hR.1]; omega
    have hkZ : k < Z.length := by omega
    have hq := List.getElem?_eq_getElem hkL
    have hz := List.getElem?_eq_getElem hkZ
    have hs : (L.set k0 (zz.2 + 1, q.2))[k]? = some L[k] := by rw [List.getElem?_set_ne (by omega)]; exact hq
    rw [runG_drop p hs hz, if_pos (exE_zero hZ (by omega) hR ht hq hz hp)]
    exact runG_late hZ hd hR ht hl hk0 hq0 hz0 n (k + 1) L[k] (by omega) (fun _ => hq)
theorem crW_made {G : List Int} {z b : Int} {L : List (Int × Int)} {d t f : Int} {m : Nat} (hrel : relW G z b = 0) (hm : G.length = m + 1) (h1 : 1 ≤ m) (hZ : ZonesOK (zonesW z b (G.take m) 0) d) (hd : d ≤ 999999999) (hR : RunOK L (zonesW z b (G.take m) 0) m t) (htf : t < f) (hf : f ≤ 863999999) :
    crW G z b L f = (0, 0) := by
  have hzl : (zonesW z b (G.take m) 0).length = m := by rw [zonesW_len, List.length_take]; omega
  have hG := runG_ok hZ hd hR (by omega) hzl m 0 (0, 0) (by omega) (fun h => absurd h (by omega))
  rw [List.drop_zero, List.drop_zero] at hG
  have hlast : (L.getD (L.length - 1) (0, 0)).2 ≤ t := by
    have hk : L.length - 1 < L.length := by rw [hR.1]; omega
    have := (hR.2.2.1 (L.length - 1) _ (List.getElem?_eq_getElem hk)).2
    simpa [List.getD, List.getElem?_eq_getElem hk] using this
  have ht1 : 1 ≤ t := by
    have hk : 0 < L.length := by rw [hR.1]; omega
    have := hR.2.2.1 0 _ (List.getElem?_eq_getElem hk)
    omega
  unfold crW
  rw [if_neg (by simp [hrel]), show G.length - 1 = m by omega]
  unfold runW
  rw [if_neg (by rw [hzl, hR.1]; simp), if_neg (by unfold rngE; rw [if_neg (by omega)]; simp), hG]
  simp only [ne_eq, not_true_eq_false, if_false]
  rw [if_neg (by omega)]
theorem crW_late {G : List Int} {z b : Int} {L : List (Int × Int)} {d t f : Int} {m k0 : Nat} {q zz : Int × Int} (hrel : relW G z b = 0) (hm : G.length = m + 1) (hZ : ZonesOK (zonesW z b (G.take m) 0) d) (hd : d ≤ 999999998) (hR : RunOK L (zonesW z b (G.take m) 0) m t) (ht : t ≤ 863999999) (hf1 : 1 ≤ f) (hf : f ≤ 863999999)
    (hk0 : k0 < m) (hq0 : L[k0]? = some q) (hz0 : (zonesW z b (G.take m) 0)[k0]? = some zz) : crW G z b (L.set k0 (zz.2 + 1, q.2)) f = ((k0 : Int), 18) := by
  have hzl : (zonesW z b (G.take m) 0).length = m := by rw [zonesW_len, List.length_take]; omega
  have hG := runG_late hZ hd hR ht hzl hk0 hq0 hz0 k0 0 (0, 0) (by omega) (fun h => absurd h (by omega))
  rw [List.drop_zero, List.drop_zero] at hG
  unfold crW
  rw [if_neg (by simp [hrel]), show G.length - 1 = m by omega]
  unfold runW
  rw [if_neg (by rw [hzl, List.length_set, hR.1]; simp), if_neg (by unfold rngE; rw [if_neg (by omega)]; simp), hG]
  simp
end Go.Mk
end
section
set_option linter.unusedVariables false
set_option linter.unusedSimpArgs false
open Go Go.Proofs Go.RowKit
set_option maxRecDepth 100000
namespace Go.Mk
theorem zErr_ok (d : Int) : ∀ (l : List (Int × Int)) (last : Int), (∀ zz ∈ l, zz.1 ≤ zz.2) → zErr l last d = 0 → last ≤ d ∧ (∀ (i : Nat) (zz : Int × Int), l[i]? = some zz → last < zz.1 ∧ zz.2 ≤ d) ∧ (∀ (i : Nat) (a c : Int × Int), l[i]? = some a → l[i + 1]? = some c → a.2 < c.1)
  | [], last, _, h => by
    unfold zErr at h
    refine ⟨?_, fun i zz q => by simp at q, fun i a c q => by simp at q⟩
    by_cases q : d < last
    · rw [if_pos q] at h; cases h
    · omega
  | p :: l, last, hl, h => by
    unfold zErr at h
    by_cases q : p.1 ≤ last
    · rw [if_pos q] at h; cases h
    rw [if_neg q] at h
    obtain ⟨h1, h2, h3⟩ := zErr_ok d l p.2 (fun zz hz => hl zz (by simp [hz])) h
    have hp := hl p (by simp)
    refine ⟨by omega, fun i zz hi => ?_, fun i a c ha hc => ?_⟩
    · cases i with
      | zero => simp at hi; subst hi; exact ⟨by omega, h1⟩
      | succ i => have := h2 i zz (by simpa using hi); exact ⟨by omega, this.2⟩
    · cases i with
      | zero =>
        simp at ha
        subst ha
        exact (h2 0 c (by simpa using hc)).1
      | succ i => exact h3 i a c (by simpa using ha) (by simpa using hc)
theorem zonesW_at (z b : Int) (hz : 0 ≤ z ∧ z ≤ 999999) (hb : 0 ≤ b ∧ b ≤ 999999) : ∀ (l : List Int) (s : Int), (∀ x ∈ l, 1 ≤ x ∧ x ≤ 999999) → 0 ≤ s → s + 999999 * (l.length : Int) ≤ 99999999 → ∀ k, k < l.length → (zonesW z b l s)[k]? = some (s + (l.take (k + 1)).sum - b, s + (l.take (k + 1)).sum - b + z)
  | [], s, _, _, _, k, hk => by simp at hk
  | x :: l, s, hl, h0, h1, k, hk => by
    have hx := hl x (by simp)
    rw [List.length_cons] at h1
    have w1 : wrap64 (s + x) = s + x := IntWalk.wrap64_in _ (by omega)
    have w2 : wrap64 (s + x - b) = s + x - b := IntWalk.wrap64_in _ (by omega)
    have w3 : wrap64 (s + x - b + z) = s + x - b + z := IntWalk.wrap64_in _ (by omega)
    rw [zonesW, w1, w2, w3]
    cases k with
    | zero => simp
    | succ k =>
      have := zonesW_at z b hz hb l (s + x) (fun y hy => hl y (by simp [hy])) (by omega) (by omega) k (by simpa using hk)
      rw [List.getElem?_cons_succ, this, List.take_succ_cons, List.sum_cons]
      simp only [Option.some.injEq, Prod.mk.injEq]
      constructor <;> omega
theorem sumW_sum : ∀ (G : List Int) (s : Int), (∀ x ∈ G, 1 ≤ x ∧ x ≤ 999999) → 0 ≤ s → s + 999999 * (G.length : Int) ≤ 99999999 → sumW G s = s + G.sum ∧ s + G.sum ≤ s + 999999 * (G.length : Int) ∧ 0 ≤ G.sum
  | [], s, _, h0, h1 => by simp [sumW]
  | x :: G, s, hG, h0, h1 => by
    have hx := hG x (by simp)
    rw [List.length_cons] at h1
    have hw : wrap64 (s + x) = s + x := IntWalk.wrap64_in _ (by omega)
    obtain ⟨a, b, c⟩ := sumW_sum G (s + x) (fun y hy => hG y (by simp [hy])) (by omega) (by omega)
    rw [sumW, hw, a, List.sum_cons, List.length_cons]
    refine ⟨by omega, by omega, by omega⟩
/-- What a relay without an error is like. -/
theorem relW_facts {G : List Int} {z b : Int} {m : Nat} (h : relW G z b = 0) (hm : G.length = m + 1) :
    (1 ≤ m ∧ m ≤ 7) ∧ (1 ≤ z ∧ z ≤ 999999) ∧ (0 ≤ b ∧ b ≤ z) ∧ (∀ x ∈ G, 1 ≤ x ∧ x ≤ 999999) ∧ sumW G 0 = G.sum ∧ 0 ≤ G.sum ∧ G.sum ≤ 7999992 ∧
      ZonesOK (zonesW z b (G.take m) 0) (sumW G 0) ∧ ∀ k, k < m → (zonesW z b (G.take m) 0)[k]? = some ((G.take (k + 1)).sum - b, (G.take (k + 1)).sum - b + z) := by
  obtain ⟨m', hl, h1, h7⟩ := relW_len h
  obtain rfl : m = m' := by omega
  have hz := relW_zones h
  rw [show G.length - 1 = m by omega] at hz
  have h' := h
  unfold relW at h'
  rw [if_neg (by omega)] at h'
  have hG0 := fstN_zero h' (fstN (G.map fun x => rngE x 1 999999)) (by simp)
  have hz0 := rngE_in (fstN_zero h' (rngE z 1 999999) (by simp))
  have hb0 := rngE_in (fstN_zero h' (rngE b 0 z) (by simp))
  have hG : ∀ x ∈ G, 1 ≤ x ∧ x ≤ 999999 := fun x hx => rngE_in (fstN_zero hG0 _ (List.mem_map.2 ⟨x, hx, rfl⟩))
  obtain ⟨s1, s2, s3⟩ := sumW_sum G 0 hG (by omega) (by omega)
  have hat : ∀ k, k < m → (zonesW z b (G.take m) 0)[k]? = some ((G.take (k + 1)).sum - b, (G.take (k + 1)).sum - b + z) := fun k hk => by
    have := zonesW_at z b ⟨by omega, by omega⟩ ⟨by omega, by omega⟩ (G.take m) 0 (fun x hx => hG x (List.mem_of_mem_take hx)) (by omega) (by rw [List.length_take]; omega) k (by rw [List.length_take]; omega)
    rw [List.take_take, Nat.min_eq_left (by omega), Int.zero_add] at this
    exact this
  have hzl : (zonesW z b (G.take m) 0).length = m := by rw [zonesW_len, List.length_take]; omega
  have hle : ∀ zz ∈ zonesW z b (G.take m) 0, zz.1 ≤ zz.2 := fun zz hm' => by
    obtain ⟨i, hi, e⟩ := List.mem_iff_getElem.1 hm'
    have := hat i (by omega)
    rw [List.getElem?_eq_getElem hi, e] at this
    injection this with q
    rw [q]
    show _ ≤ _ + z
    omega
  obtain ⟨z1, z2, z3⟩ := zErr_ok _ _ _ hle hz
  refine ⟨⟨h1, h7⟩, hz0, hb0, hG, by omega, s3, by omega, ⟨fun i zz hi => ?_, z3⟩, hat⟩
  have := z2 i zz hi
  have hzz := hle zz (List.mem_of_getElem? hi)
  omega
theorem take_sum {G : List Int} {k : Nat} {x : Int} (h : G[k]? = some x) : (G.take (k + 1)).sum = (G.take k).sum + x := by
  rw [List.take_add_one, h]; simp
/-- Between two moments lies what the list says. -/
theorem gapF_at : ∀ (M : List (Int × Int)) (p : Int × Int) (k : Nat) (a c : Int × Int), (p :: M)[k]? = some a → M[k]? = some c → (gapF p M)[k]? = some (wrap64 (c.1 - a.1), wrap64 (c.2 - a.2))
  | [], _, k, _, _, _, h => by simp at h
  | q :: M, p, 0, a, c, ha, hc => by
    simp at ha hc
    subst ha hc
    rfl
  | q :: M, p, k + 1, a, c, ha, hc => by
    rw [gapF, List.getElem?_cons_succ]
    exact gapF_at M q k a c (by simpa using ha) (by simpa using hc)
theorem mulG {g : Int × Int} (h : okG g) (w : World) : Calls Tryz.prog 33 #[.string (ratG g), .string (digT g.2.toNat)] w (RetPost (.string (digT g.1.toNat)) w) := by
  obtain ⟨a, b⟩ := g
  obtain ⟨h1, h2, h3, h4⟩ := h
  have h1 : 0 ≤ a := h1
  have h2 : a ≤ 999999999 := h2
  have h3 : 0 < b := h3
  have h4 : b ≤ 999999999 := h4
  obtain ⟨N, rfl⟩ := Int.eq_ofNat_of_zero_le h1
  obtain ⟨D, rfl⟩ := Int.eq_ofNat_of_zero_le (Int.le_of_lt h3)
  have hN : N ≤ 999999999 := by omega
  have hD : D ≤ 999999999 := by omega
  have hD0 : 0 < D := by omega
  show Calls Tryz.prog 33 #[.string (ratT (N / Nat.gcd D N) (D / Nat.gcd D N)), .string (digT D)] w (RetPost (.string (digT N)) w)
  have g0 : 0 < Nat.gcd D N := Nat.gcd_pos_of_pos_left _ hD0
  have eN : N / Nat.gcd D N * Nat.gcd D N = N := Nat.div_mul_cancel (Nat.gcd_dvd_right D N)
  have eD : D / Nat.gcd D N * Nat.gcd D N = D := Nat.div_mul_cancel (Nat.gcd_dvd_left D N)
  have hq0 : 0 < D / Nat.gcd D N := Nat.div_pos (Nat.gcd_le_left _ hD0) g0
  have hqD : D / Nat.gcd D N ≤ 999999999 := Nat.le_trans (Nat.div_le_self _ _) hD
  have hqN : N / Nat.gcd D N ≤ 999999999 := Nat.le_trans (Nat.div_le_self _ _) hN
  generalize Nat.gcd D N = K at *
  obtain ⟨P, hP⟩ : ∃ P, N / K = P := ⟨_, rfl⟩
  obtain ⟨Q, hQ⟩ : ∃ Q, D / K = Q := ⟨_, rfl⟩
  rw [hP] at eN hqN ⊢
  rw [hQ] at eD hq0 hqD ⊢
  have hg : Nat.gcd (Q * 1) (P * D) = Q := by
    rw [Nat.mul_one]
    exact Nat.gcd_eq_left ⟨P * K, by rw [← eD, Nat.mul_left_comm]⟩
  have hn : P * D / Q = N := by
    rw [← eD, Nat.mul_left_comm, Nat.mul_div_cancel_left _ hq0, eN]
  have := rfMul_any P Q D 1 w hqN hq0 hqD hD (by omega) (by omega) (by rw [hg, hn]; exact hN) (by rw [hg, Nat.mul_one, Nat.div_self hq0]; omega)
  rw [hg, hn, Nat.mul_one, Nat.div_self hq0, ratT_one, ratT_one] at this
  exact this
end Go.Mk
end
