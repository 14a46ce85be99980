/-
  Proved: plain facts on drawn orders as lists: a drawn order has each number once, its last place is the first draw, and the rest is the order of one element less behind the first exchange. No condition but a key between 1 and the modulus less 1 where it says so.
-/
set_option linter.unusedSimpArgs false
namespace Sh
def nx (x : Nat) : Nat := 69621 * x % 2147483647
def swp (l : List Nat) (i j : Nat) : List Nat := (l.set i (l.getD j 0)).set j (l.getD i 0)
def draws : Nat → Nat → List Nat → List Nat
  | 0, _, l => l
  | i + 1, x, l => draws i (nx x) (swp l (i + 1) (nx x % (i + 2)))
def order (key n : Nat) : List Nat := draws (n - 1) key (List.range n)

theorem nx_lt (x : Nat) : nx x < 2147483647 := Nat.mod_lt _ (by decide)
theorem nx_pos (x : Nat) (h0 : 0 < x) (h1 : x < 2147483647) : 0 < nx x := by
  rcases Nat.eq_zero_or_pos (nx x) with h | h
  · exfalso
    have hd : 2147483647 ∣ 69621 * x := Nat.dvd_of_mod_eq_zero h
    have hc : Nat.Coprime 2147483647 69621 := by decide
    have := Nat.le_of_dvd h0 (Nat.Coprime.dvd_of_dvd_mul_left hc hd)
    omega
  · exact h

theorem swp_length (l : List Nat) (i j : Nat) : (swp l i j).length = l.length := by simp [swp]
theorem draws_length (i x : Nat) (l : List Nat) : (draws i x l).length = l.length := by
  induction i generalizing x l with
  | zero => rfl
  | succ i ih => rw [draws, ih, swp_length]
theorem order_length (k n : Nat) : (order k n).length = n := by simp [order, draws_length]

theorem swp_perm (l : List Nat) (i j : Nat) (hi : i < l.length) (hj : j < l.length) : (swp l i j).Perm l := by
  have h := List.set_set_perm (as := l) hi hj
  simpa [swp, List.getD_eq_getElem?_getD, List.getElem?_eq_getElem hi, List.getElem?_eq_getElem hj] using h
theorem draws_perm (i x : Nat) (l : List Nat) (h : i < l.length ∨ i = 0) : (draws i x l).Perm l := by
  induction i generalizing x l with
  | zero => exact List.Perm.refl _
  | succ i ih =>
    have hl : i + 1 < l.length := by omega
    rw [draws]
    have hm : nx x % (i + 2) < i + 2 := Nat.mod_lt _ (by omega)
    exact (ih _ _ (by rw [swp_length]; omega)).trans (swp_perm l _ _ hl (by omega))
theorem order_perm (k n : Nat) : (order k n).Perm (List.range n) := draws_perm _ _ _ (by simp; omega)
theorem order_nodup (k n : Nat) : (order k n).Nodup := (order_perm k n).nodup_iff.2 List.nodup_range
theorem order_lt (k n : Nat) (v : Nat) (h : v ∈ order k n) : v < n := by
  have := (order_perm k n).mem_iff.1 h
  simpa using this

theorem swp_getD_far (l : List Nat) (i j k : Nat) (h1 : k ≠ i) (h2 : k ≠ j) : (swp l i j).getD k 0 = l.getD k 0 := by
  simp [swp, List.getD_eq_getElem?_getD, List.getElem?_set, Ne.symm h1, Ne.symm h2]
theorem draws_getD_far (i x : Nat) (l : List Nat) (k : Nat) (h : i < k) : (draws i x l).getD k 0 = l.getD k 0 := by
  induction i generalizing x l with
  | zero => rfl
  | succ i ih =>
    rw [draws, ih _ _ (by omega), swp_getD_far _ _ _ _ (by omega)]
    have hm : nx x % (i + 2) < i + 2 := Nat.mod_lt _ (by omega)
    omega

theorem order_last (k m : Nat) : (order k (m + 2)).getD (m + 1) 0 = nx k % (m + 2) := by
  show (draws (m + 1) k (List.range (m + 2))).getD (m + 1) 0 = _
  have hm : nx k % (m + 2) < m + 2 := Nat.mod_lt _ (by omega)
  rw [draws, draws_getD_far _ _ _ _ (by omega)]
  generalize nx k % (m + 2) = j at *
  by_cases hj : j = m + 1
  · subst hj; simp [swp, List.getD_eq_getElem?_getD, List.getElem?_set]
  · simp [swp, List.getD_eq_getElem?_getD, List.getElem?_set, hj, hm, List.getElem?_range]

def relabel (j m v : Nat) : Nat := if v = j then m + 1 else v
theorem swp_map (f : Nat → Nat) (t l : List Nat) (i j : Nat) (hi : i < l.length) (hj : j < l.length) : swp (l.map f ++ t) i j = (swp l i j).map f ++ t := by
  have e1 : (l.map f ++ t).getD i 0 = f (l.getD i 0) := by
    simp [List.getD_eq_getElem?_getD, List.getElem?_append, hi, List.getElem?_eq_getElem hi]
  have e2 : (l.map f ++ t).getD j 0 = f (l.getD j 0) := by
    simp [List.getD_eq_getElem?_getD, List.getElem?_append, hj, List.getElem?_eq_getElem hj]
  unfold swp
  rw [e1, e2, List.set_append_left _ _ (by simpa using hi), List.set_append_left _ _ (by simpa using hj), List.map_set, List.map_set]
theorem draws_map (f : Nat → Nat) (t : List Nat) (i x : Nat) (l : List Nat) (h : i < l.length) : draws i x (l.map f ++ t) = (draws i x l).map f ++ t := by
  induction i generalizing x l with
  | zero => rfl
  | succ i ih =>
    have hm : nx x % (i + 2) < i + 2 := Nat.mod_lt _ (by omega)
    rw [draws, draws, swp_map _ _ _ _ _ h (by omega), ih _ _ (by rw [swp_length]; omega)]
theorem first_swap (m j : Nat) (hj : j < m + 2) : swp (List.range (m + 2)) (m + 1) j = (List.range (m + 1)).map (relabel j m) ++ [j] := by
  apply List.ext_getElem?
  intro k
  by_cases h1 : k < m + 1
  · by_cases h2 : k = j
    · subst h2; simp [swp, List.getElem?_set, List.getElem?_append, h1, hj, relabel, List.getD_eq_getElem?_getD, List.getElem?_range]
    · have h3 : ¬ j = k := fun e => h2 e.symm
      have h4 : ¬ m + 1 = k := by omega
      have h5 : k < m + 2 := by omega
      simp [swp, List.getElem?_set, List.getElem?_append, h1, h2, h3, h4, h5, relabel, List.getElem?_range]
  · by_cases h2 : k = m + 1
    · subst h2
      by_cases h3 : j = m + 1
      · subst h3; simp [swp, List.getElem?_set, List.getElem?_append, List.getD_eq_getElem?_getD]
      · simp [swp, List.getElem?_set, List.getElem?_append, h3, hj, List.getD_eq_getElem?_getD, List.getElem?_range]
    · have h3 : m + 2 ≤ k := by omega
      rw [List.getElem?_eq_none (by simp [swp_length]; omega), List.getElem?_eq_none (by simp; omega)]
theorem order_rest (k m i : Nat) (h : i < m + 1) : (order k (m + 2)).getD i 0 = relabel (nx k % (m + 2)) m ((order (nx k) (m + 1)).getD i 0) := by
  have hm : nx k % (m + 2) < m + 2 := Nat.mod_lt _ (by omega)
  have e : order k (m + 2) = (order (nx k) (m + 1)).map (relabel (nx k % (m + 2)) m) ++ [nx k % (m + 2)] := by
    show draws (m + 1) k (List.range (m + 2)) = _
    rw [draws, first_swap m _ hm, draws_map _ _ _ _ _ (by simp)]
    rfl
  have hl : i < (order (nx k) (m + 1)).length := by rw [order_length]; exact h
  rw [e]
  simp [List.getD_eq_getElem?_getD, List.getElem?_append, hl, List.getElem?_eq_getElem hl]
end Sh
