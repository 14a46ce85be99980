/-
  Proved: plain facts on a zigzag: the ranks of each heat, in closed form; each rank is in just one heat; two heats with as many athletes, an even number, have the same sum. No condition.
-/
import Derived.WalkKit
namespace Go.Mk
/-- The heat of a rank. -/
def zHeat (h r : Nat) : Nat := if r / h % 2 = 1 then h - 1 - r % h else r % h
/-- The ranks below r of the heat i. -/
def rowsZ (h : Nat) : Nat → Nat → List Nat
  | 0, _ => []
  | r + 1, i => if i = zHeat h r then rowsZ h r i ++ [r] else rowsZ h r i
/-- The rank of the heat i in the group k. -/
def zz (h i k : Nat) : Nat := k * h + (if k % 2 = 1 then h - 1 - i else i)
/-- How many ranks below r the heat i has. -/
def zLen (h i r : Nat) : Nat := r / h + (if zz h i (r / h) < r then 1 else 0)
theorem zHeat_lt (h r : Nat) (hh : 1 ≤ h) : zHeat h r < h := by
  have := Nat.mod_lt r (show 0 < h by omega)
  unfold zHeat
  split <;> omega
theorem zz_heat (h r : Nat) (hh : 1 ≤ h) : zz h (zHeat h r) (r / h) = r := by
  have h1 := Nat.mod_lt r (show 0 < h by omega)
  have h2 := Nat.div_add_mod r h
  have h3 : h * (r / h) = r / h * h := Nat.mul_comm _ _
  unfold zz zHeat
  split
  · omega
  · omega
theorem zz_inj (h i r : Nat) (hh : 1 ≤ h) (hi : i < h) (e : zz h i (r / h) = r) : i = zHeat h r := by
  have h1 := Nat.mod_lt r (show 0 < h by omega)
  have h2 := Nat.div_add_mod r h
  have h3 : h * (r / h) = r / h * h := Nat.mul_comm _ _
  unfold zz at e
  unfold zHeat
  split
  · rename_i q; rw [if_pos q] at e; omega
  · rename_i q; rw [if_neg q] at e; omega
theorem zz_group (h i k : Nat) (hi : i < h) : zz h i k / h = k := by
  unfold zz
  have hr : (if k % 2 = 1 then h - 1 - i else i) < h := by split <;> omega
  rw [Nat.add_comm, Nat.add_mul_div_right _ _ (by omega), Nat.div_eq_of_lt hr]
  omega
theorem zz_bounds (h i k : Nat) (hi : i < h) : k * h ≤ zz h i k ∧ zz h i k < k * h + h := by
  unfold zz
  have hr : (if k % 2 = 1 then h - 1 - i else i) < h := by split <;> omega
  omega
theorem zLen_step (h i r : Nat) (hh : 1 ≤ h) (hi : i < h) : zLen h i (r + 1) = zLen h i r + (if i = zHeat h r then 1 else 0) := by
  have h1 := Nat.mod_lt r (show 0 < h by omega)
  have h2 := Nat.div_add_mod r h
  have h3 : h * (r / h) = r / h * h := Nat.mul_comm _ _
  have hb := zz_bounds h i (r / h) hi
  have heq : zz h i (r / h) = r ↔ i = zHeat h r := ⟨zz_inj h i r hh hi, fun e => by rw [e]; exact zz_heat h r hh⟩
  unfold zLen
  by_cases q : r % h + 1 < h
  · have hd : (r + 1) / h = r / h := by
      rw [show r + 1 = (r % h + 1) + r / h * h from by omega, Nat.add_mul_div_right _ _ (by omega), Nat.div_eq_of_lt q]
      omega
    rw [hd]
    by_cases e : i = zHeat h r
    · have := heq.2 e
      rw [if_pos (by omega), if_neg (by omega), if_pos e]
    · have : ¬ zz h i (r / h) = r := fun z => e (heq.1 z)
      rw [if_neg e]
      by_cases z : zz h i (r / h) < r
      · rw [if_pos (by omega), if_pos z]
      · rw [if_neg (by omega), if_neg z]
  · have hd : (r + 1) / h = r / h + 1 := by
      rw [show r + 1 = 0 + (r / h + 1) * h from by rw [Nat.add_mul]; omega, Nat.add_mul_div_right _ _ (by omega)]
      simp
    have hb2 := zz_bounds h i (r / h + 1) hi
    have hm : (r / h + 1) * h = r / h * h + h := by rw [Nat.add_mul]; omega
    rw [hd, if_neg (by omega)]
    by_cases e : i = zHeat h r
    · have := heq.2 e
      rw [if_neg (by omega), if_pos e]
    · have : ¬ zz h i (r / h) = r := fun z => e (heq.1 z)
      rw [if_neg e, if_pos (by omega)]
theorem rowsZ_closed (h i : Nat) (hh : 1 ≤ h) (hi : i < h) (r : Nat) : rowsZ h r i = (List.range (zLen h i r)).map (zz h i) := by
  induction r with
  | zero => simp [rowsZ, zLen, zz]
  | succ r ih =>
    rw [rowsZ, zLen_step h i r hh hi, ih]
    by_cases e : i = zHeat h r
    · rw [if_pos e, if_pos e, List.range_succ, List.map_append]
      congr 1
      have hz : zLen h i r = r / h := by
        have := zz_heat h r hh
        unfold zLen
        rw [if_neg (by rw [e]; omega)]
        omega
      simp only [List.map_cons, List.map_nil, hz]
      rw [e, zz_heat h r hh]
    · rw [if_neg e, if_neg e]
      rfl
theorem rowsZ_mem (h i x : Nat) (r : Nat) : x ∈ rowsZ h r i ↔ x < r ∧ zHeat h x = i := by
  induction r with
  | zero => simp [rowsZ]
  | succ r ih =>
    rw [rowsZ]
    by_cases e : i = zHeat h r
    · rw [if_pos e, List.mem_append, ih, List.mem_singleton]
      constructor
      · rintro (⟨a, b⟩ | rfl)
        · exact ⟨by omega, b⟩
        · exact ⟨by omega, e.symm⟩
      · rintro ⟨a, b⟩
        by_cases q : x = r
        · exact .inr q
        · exact .inl ⟨by omega, b⟩
    · rw [if_neg e, ih]
      constructor
      · rintro ⟨a, b⟩; exact ⟨by omega, b⟩
      · rintro ⟨a, b⟩
        refine ⟨?_, b⟩
        by_cases q : x = r
        · subst q; exact absurd b.symm e
        · omega
theorem rowsZ_nodup (h i : Nat) (r : Nat) : (rowsZ h r i).Nodup := by
  induction r with
  | zero => simp [rowsZ]
  | succ r ih =>
    rw [rowsZ]
    split
    · rw [List.nodup_append]
      refine ⟨ih, by simp, fun a ha b hb => ?_⟩
      have := ((rowsZ_mem h i a r).1 ha).1
      simp at hb
      omega
    · exact ih
/-- The ranks of all heats, one heat after another. -/
def flatZ (h n : Nat) : List Nat := (List.range h).flatMap (rowsZ h n)
theorem flatZ_mem (h n x : Nat) : x ∈ flatZ h n → x < n := by
  intro hx
  obtain ⟨i, _, hx⟩ := List.mem_flatMap.1 hx
  exact ((rowsZ_mem h i x n).1 hx).1
theorem flat_nodup {α : Type} (f : Nat → List α) (m : Nat) (h1 : ∀ i, (f i).Nodup) (h2 : ∀ i j x, x ∈ f i → x ∈ f j → i = j) : ((List.range m).flatMap f).Nodup := by
  induction m with
  | zero => simp
  | succ m ih =>
    rw [List.range_succ, List.flatMap_append, List.nodup_append]
    refine ⟨ih, by simpa using h1 m, fun a ha b hb e => ?_⟩
    subst e
    obtain ⟨i, hi, ha⟩ := List.mem_flatMap.1 ha
    simp at hb
    have := h2 i m a ha hb
    have := List.mem_range.1 hi
    omega
theorem flatZ_nodup (h n : Nat) : (flatZ h n).Nodup := by
  refine flat_nodup _ _ (fun i => rowsZ_nodup h i n) fun i j x hi hj => ?_
  have a := ((rowsZ_mem h i x n).1 hi).2
  have b := ((rowsZ_mem h j x n).1 hj).2
  omega
theorem sumLen_step (f g : Nat → List Nat) (m j : Nat) (hj : j < m) (h1 : (g j).length = (f j).length + 1) (h2 : ∀ i, i ≠ j → g i = f i) : ((List.range m).flatMap g).length = ((List.range m).flatMap f).length + 1 := by
  induction m with
  | zero => omega
  | succ m ih =>
    simp only [List.range_succ, List.flatMap_append, List.length_append, List.flatMap_cons, List.flatMap_nil, List.append_nil]
    by_cases e : m = j
    · subst e
      rw [h1]
      have : ∀ k, k ≤ m → ((List.range k).flatMap g) = ((List.range k).flatMap f) := by
        intro k hk
        induction k with
        | zero => rfl
        | succ k ihk =>
          simp only [List.range_succ, List.flatMap_append, List.flatMap_cons, List.flatMap_nil, List.append_nil]
          rw [ihk (by omega), h2 k (by omega)]
      rw [this m (Nat.le_refl _)]
      omega
    · rw [ih (by omega), h2 m e]
      omega
theorem flatZ_len (h n : Nat) (hh : 1 ≤ h) : (flatZ h n).length = n := by
  induction n with
  | zero =>
    unfold flatZ
    rw [List.length_eq_zero_iff, List.flatMap_eq_nil_iff]
    intro x _
    rfl
  | succ n ih =>
    have := sumLen_step (rowsZ h n) (rowsZ h (n + 1)) h (zHeat h n) (zHeat_lt h n hh) (by rw [rowsZ, if_pos rfl]; simp) (fun i hi => by rw [rowsZ, if_neg hi])
    unfold flatZ at ih ⊢
    rw [this, ih]
/-- The sum of the first c ranks of a heat. -/
def sumZ (h i c : Nat) : Nat := ((List.range c).map (zz h i)).sum
theorem sumZ_succ (h i c : Nat) : sumZ h i (c + 1) = sumZ h i c + zz h i c := by
  unfold sumZ
  rw [List.range_succ, List.map_append, List.sum_append]
  simp
theorem sumZ_even (h i j m : Nat) (hi : i < h) (hj : j < h) : sumZ h i (2 * m) = sumZ h j (2 * m) := by
  induction m with
  | zero => rfl
  | succ m ih =>
    rw [show 2 * (m + 1) = 2 * m + 1 + 1 from by omega, sumZ_succ, sumZ_succ, sumZ_succ, sumZ_succ, ih]
    unfold zz
    rw [if_neg (by omega), if_pos (by omega), if_neg (by omega), if_pos (by omega)]
    omega
end Go.Mk
