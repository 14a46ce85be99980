/-
  Proved: plain facts: a text put in its place among sorted texts, as the reference does, gives the sorted texts. No condition.
-/
import Derived.Test.YtnknmplepgmfmaaGreatDoorXn
set_option linter.unusedVariables false
set_option linter.unusedSimpArgs false
open Go Go.Proofs Go.RowKit Go.Maps Go.Sort Go.WideMaps
set_option maxRecDepth 100000
namespace Go.Mk
/-- Is a text greater than another one, as the walk leaves it? -/
def gtB (x y : ByteArray) : Bool := !(Op.bytesLess x.toList y.toList || x.toList == y.toList)
theorem gtB_iff (x y : ByteArray) : gtB x y = true ↔ y.data.toList < x.data.toList := by
  unfold gtB
  rw [ByteArray.toList_eq, ByteArray.toList_eq, bytesLess_eq]
  generalize x.data.toList = a
  generalize y.data.toList = b
  simp only [Bool.not_eq_true', Bool.or_eq_false_iff, decide_eq_false_iff_not, beq_eq_false_iff_ne]
  constructor
  · rintro ⟨h1, h2⟩
    rcases Classical.em (b < a) with h | h
    · exact h
    · exact absurd (List.le_antisymm h h1) h2
  · intro h
    refine ⟨fun q => List.lt_irrefl _ (List.lt_trans h q), fun q => ?_⟩
    subst q
    exact List.lt_irrefl _ h
theorem gtB_not (x y : ByteArray) : gtB x y = false ↔ x.data.toList ≤ y.data.toList := by
  have h := gtB_iff x y
  constructor
  · intro q
    rw [q] at h
    exact fun r => by have := h.2 r; cases this
  · intro q
    cases hb : gtB x y
    · rfl
    · exact absurd (h.1 hb) q
/-- Where a text belongs, looked for from a place downwards. -/
def posB (S : List ByteArray) (x : ByteArray) : Nat → Nat
  | 0 => 0
  | j + 1 => if gtB (S.getD j x) x then posB S x j else j + 1
theorem posB_le (S : List ByteArray) (x : ByteArray) (j : Nat) : posB S x j ≤ j := by
  induction j with
  | zero => exact Nat.le_refl _
  | succ j ih =>
    rw [posB]
    split
    · omega
    · omega
theorem posB_above (S : List ByteArray) (x : ByteArray) (j i : Nat) (h1 : posB S x j ≤ i) (h2 : i < j) : gtB (S.getD i x) x = true := by
  induction j with
  | zero => omega
  | succ j ih =>
    rw [posB] at h1
    by_cases q : gtB (S.getD j x) x = true
    · rw [if_pos q] at h1
      by_cases e : i = j
      · rw [e]; exact q
      · exact ih h1 (by omega)
    · rw [if_neg q] at h1
      omega
theorem posB_below (S : List ByteArray) (x : ByteArray) (j p : Nat) (h : posB S x j = p + 1) : gtB (S.getD p x) x = false := by
  induction j with
  | zero => rw [posB] at h; omega
  | succ j ih =>
    rw [posB] at h
    by_cases q : gtB (S.getD j x) x = true
    · rw [if_pos q] at h
      exact ih h
    · rw [if_neg q] at h
      have : p = j := by omega
      rw [this]
      simpa using q
/-- A text put in its place. -/
def insB (S : List ByteArray) (x : ByteArray) : List ByteArray := S.take (posB S x S.length) ++ x :: S.drop (posB S x S.length)
def SrtP (S : List ByteArray) : Prop := S.Pairwise fun a b => a.data.toList ≤ b.data.toList
theorem srtB_pair (P : List ByteArray) : SrtP (srtB P) := by
  have tr : ∀ a b c : List UInt8, decide (a ≤ b) = true → decide (b ≤ c) = true → decide (a ≤ c) = true := fun a b c h1 h2 => by simp only [decide_eq_true_eq] at *; exact List.le_trans h1 h2
  have tt : ∀ a b : List UInt8, (decide (a ≤ b) || decide (b ≤ a)) = true := fun a b => by simp only [Bool.or_eq_true, decide_eq_true_eq]; exact List.le_total a b
  unfold SrtP srtB
  refine List.pairwise_map.2 ((List.pairwise_mergeSort tr tt _).imp ?_)
  intro a b h
  simpa using h
theorem srtB_perm (P : List ByteArray) : (srtB P).Perm P := by
  unfold srtB
  refine ((List.mergeSort_perm (P.map fun s => s.data.toList) _).map _).trans ?_
  rw [List.map_map]
  rw [show ((fun l : List UInt8 => (⟨⟨l⟩⟩ : ByteArray)) ∘ fun s => s.data.toList) = id from rfl, List.map_id]
theorem srtB_unique {S P : List ByteArray} (h1 : SrtP S) (h2 : S.Perm P) : srtB P = S := by
  have q1 : (srtB P).Pairwise fun a b => a.data.toList ≤ b.data.toList := srtB_pair P
  have q2 : S.Pairwise fun a b => a.data.toList ≤ b.data.toList := h1
  refine List.Perm.eq_of_pairwise (le := fun a b : ByteArray => a.data.toList ≤ b.data.toList) (fun a b _ _ h1 h2 => ?_) q1 q2 ((srtB_perm P).trans h2.symm)
  exact ByteArray.ext (Array.toList_inj.1 (List.le_antisymm h1 h2))
theorem insB_perm (S : List ByteArray) (x : ByteArray) : (insB S x).Perm (S ++ [x]) := by
  unfold insB
  refine List.perm_middle.trans ?_
  rw [List.take_append_drop]
  exact (List.perm_append_comm (l₁ := [x]) (l₂ := S))
theorem insB_pair {S : List ByteArray} (x : ByteArray) (h : SrtP S) : SrtP (insB S x) := by
  have hp := posB_le S x S.length
  have hab := posB_above S x S.length
  have hbe := posB_below S x S.length
  unfold insB
  obtain ⟨p, hpe⟩ : ∃ p, posB S x S.length = p := ⟨_, rfl⟩
  rw [hpe] at hp hab ⊢
  have hx2 : ∀ y ∈ S.drop p, x.data.toList ≤ y.data.toList := by
    intro y hy
    obtain ⟨i, hi, rfl⟩ := List.getElem_of_mem hy
    rw [List.length_drop] at hi
    have := hab (p + i) (by omega) (by omega)
    rw [List.getD_eq_getElem?_getD, List.getElem?_eq_getElem (by omega), Option.getD_some] at this
    rw [List.getElem_drop]
    exact fun q => List.lt_irrefl _ (List.lt_trans q ((gtB_iff _ _).1 this))
  have hx1 : ∀ y ∈ S.take p, y.data.toList ≤ x.data.toList := by
    intro y hy
    obtain ⟨i, hi, rfl⟩ := List.getElem_of_mem hy
    rw [List.length_take] at hi
    rw [List.getElem_take]
    obtain ⟨q, rfl⟩ : ∃ q, p = q + 1 := ⟨p - 1, by omega⟩
    have h1 := hbe q hpe
    rw [List.getD_eq_getElem?_getD, List.getElem?_eq_getElem (by omega), Option.getD_some] at h1
    have h2 := (gtB_not _ _).1 h1
    by_cases e : i = q
    · subst e; exact h2
    · exact List.le_trans (List.pairwise_iff_getElem.1 h i q (by omega) (by omega) (by omega)) h2
  unfold SrtP at h ⊢
  rw [← List.take_append_drop p S] at h
  obtain ⟨ha, hb, hc⟩ := List.pairwise_append.1 h
  refine List.pairwise_append.2 ⟨ha, List.pairwise_cons.2 ⟨hx2, hb⟩, ?_⟩
  intro a ha' b hb'
  rcases List.mem_cons.1 hb' with rfl | hb'
  · exact hx1 a ha'
  · exact hc a ha' b hb'
theorem srtB_snoc (Q : List ByteArray) (x : ByteArray) : srtB (Q ++ [x]) = insB (srtB Q) x :=
  srtB_unique (insB_pair x (srtB_pair Q)) ((insB_perm _ _).trans ((srtB_perm Q).append_right _))
theorem srtB_nil : srtB [] = [] := by simp [srtB]
theorem isIn_srtB (Q : List ByteArray) (x : ByteArray) : isIn (srtB Q) x = isIn Q x := by
  cases h : isIn Q x with
  | true => exact isIn_mem.2 ((srtB_perm Q).mem_iff.2 (isIn_mem.1 h))
  | false =>
    cases h2 : isIn (srtB Q) x with
    | false => rfl
    | true => rw [isIn_mem.2 ((srtB_perm Q).mem_iff.1 (isIn_mem.1 h2))] at h; cases h
theorem insB_len (S : List ByteArray) (x : ByteArray) : (insB S x).length = S.length + 1 := by
  rw [(insB_perm S x).length_eq, List.length_append]; rfl
end Go.Mk
