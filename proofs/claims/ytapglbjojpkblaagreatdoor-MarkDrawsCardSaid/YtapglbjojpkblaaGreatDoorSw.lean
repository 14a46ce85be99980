/-
  Proved: mark.Shares deals what is left along an order of the remainders. Conditions: the total and the weights are in their range, not all weights are 0; the numbers lie where the slice says; the sort is as its contract says.
-/
import Derived.Test.YtapglbjojpkblaaGreatDoorSv
import Derived.Shelf.GgSortFunc.InsertionK
set_option linter.unusedVariables false
set_option linter.unusedSimpArgs false
open Go Go.Proofs Go.RowKit
set_option maxRecDepth 100000
namespace Go.Mk
/-- A remainder's two cells. -/
def encR (x : Int × Int) : List Value := [.int .i64 x.1, .int .i64 x.2]
theorem below_sort {w : World} {K blk off m : Nat} {d : Array (Int × Int)} {os : Array Obj} (hK : K ≤ blk) (hw : K ≤ w.heap.size) : Below K w (Go.Proofs.sortWorldK encR 2 w blk off m d os) := by
  refine ⟨rfl, rfl, rfl, ?_, fun k hk => ?_⟩
  · show w.heap.size ≤ (w.heap.modify blk _ ++ os).size
    simp
  · show (w.heap.modify blk _ ++ os)[k]? = _
    rw [Array.getElem?_append_left (by simp; omega), Array.getElem?_modify, if_neg (by omega)]
theorem cmpR_lt (x y : Int × Int) : cmpR x y < 0 ↔ y.2 < x.2 ∨ (y.2 = x.2 ∧ x.1 < y.1) := by
  unfold cmpR cpi
  rcases (show y.2 < x.2 ∨ y.2 = x.2 ∨ x.2 < y.2 by omega) with h | h | h
  · rw [if_neg (by rw [if_pos h]; omega), if_pos h]
    constructor
    · intro _; exact .inl h
    · intro _; omega
  · rw [if_pos (by rw [if_neg (by omega), if_neg (by omega)])]
    rcases (show x.1 < y.1 ∨ x.1 = y.1 ∨ y.1 < x.1 by omega) with k | k | k
    · rw [if_pos k]
      constructor
      · intro _; exact .inr ⟨h, k⟩
      · intro _; omega
    · rw [if_neg (by omega), if_neg (by omega)]
      constructor
      · intro q; omega
      · intro q; omega
    · rw [if_neg (by omega), if_pos k]
      constructor
      · intro q; omega
      · intro q; omega
  · rw [if_neg (by rw [if_neg (by omega), if_pos h]; omega), if_neg (by omega), if_pos h]
    constructor
    · intro q; omega
    · intro q; omega
theorem ord_of (r : Nat → Int) (n : Nat) (D : List (Int × Int)) (hp : D.Perm ((List.range n).map fun i => (((i : Nat) : Int), r i))) (hs : D.Pairwise fun x y => 0 ≤ cmpR y x) (h0 : ∀ i, i < n → 0 ≤ r i) : Sh.Ord r n (D.map fun x => x.1.toNat) := by
  have hmem : ∀ x ∈ D, ∃ i : Nat, i < n ∧ x = ((i : Int), r i) := fun x hx => by
    obtain ⟨i, hi, rfl⟩ := List.mem_map.1 (hp.mem_iff.1 hx)
    exact ⟨i, by simpa using hi, rfl⟩
  have hP : (D.map fun x => x.1.toNat).Perm (List.range n) := by
    have := hp.map fun x : Int × Int => x.1.toNat
    rw [List.map_map] at this
    have e : (List.range n).map ((fun x : Int × Int => x.1.toNat) ∘ fun i : Nat => ((i : Int), r i)) = List.range n := by
      rw [show ((fun x : Int × Int => x.1.toNat) ∘ fun i : Nat => ((i : Int), r i)) = id from funext fun i => by simp]
      simp
    rwa [e] at this
  refine ⟨hP, ?_, h0⟩
  rw [List.pairwise_map]
  have hnd : D.Pairwise fun x y => x.1.toNat ≠ y.1.toNat := by
    have := List.nodup_iff_pairwise_ne.1 (hP.nodup_iff.2 List.nodup_range)
    rwa [List.pairwise_map] at this
  refine (hs.and hnd).imp_of_mem fun {x y} hx hy h => ?_
  obtain ⟨i, hi, rfl⟩ := hmem x hx
  obtain ⟨j, hj, rfl⟩ := hmem y hy
  have hc : ¬ cmpR (((j : Nat) : Int), r j) (((i : Nat) : Int), r i) < 0 := by have := h.1; omega
  rw [cmpR_lt] at hc
  have hne := h.2
  simp only [Int.toNat_natCast] at hc hne ⊢
  unfold Sh.ahead
  omega
/-- The pairs of a list lie in the cells of a block. -/
def RowP (w : World) (g : Nat) (D : List (Int × Int)) : Prop :=
  g < w.heap.size ∧ ∀ (j : Nat) (x : Int × Int), D[j]? = some x → w.cell? ⟨g, j * 2, none⟩ = some (.int .i64 x.1) ∧ w.cell? ⟨g, j * 2 + 1, none⟩ = some (.int .i64 x.2) ∧ w.frozen? ⟨g, j * 2, none⟩ = false ∧ w.frozen? ⟨g, j * 2 + 1, none⟩ = false
theorem RowP.keep {w w' : World} {g : Nat} {D : List (Int × Int)} (h : RowP w g D) (hs : w.heap.size ≤ w'.heap.size) (hc : ∀ p : Addr, p.block = g → w'.cell? p = w.cell? p) (hf : ∀ p : Addr, p.block = g → w'.frozen? p = w.frozen? p) : RowP w' g D :=
  ⟨Nat.lt_of_lt_of_le h.1 hs, fun j x hx => by
    obtain ⟨h1, h2, h3, h4⟩ := h.2 j x hx
    exact ⟨(hc _ rfl).trans h1, (hc _ rfl).trans h2, (hf _ rfl).trans h3, (hf _ rfl).trans h4⟩⟩
theorem RowP.below {w w' : World} {B g : Nat} {D : List (Int × Int)} (h : RowP w g D) (hb : Below B w w') (hg : g < B) : RowP w' g D :=
  h.keep hb.size (fun p hp => hb.cell (by omega)) (fun p hp => hb.frozen (by omega))
theorem RowP.far {w : World} {g : Nat} {D : List (Int × Int)} (h : RowP w g D) {p : Addr} (hp : p.block ≠ g) (u : Value) : RowP (w.setCell p u) g D :=
  h.keep (by simp) (fun q hq => World.cell?_setCell_other w p q u (fun e => hp (by rw [e]; exact hq))) (fun q _ => by simp)
theorem RowP.set_ {w : World} {g : Nat} {D : List (Int × Int)} (h : RowP w g D) {i : Nat} (hi : i < D.length) (a b : Int) : RowP ((w.setCell ⟨g, i * 2, none⟩ (.int .i64 a)).setCell ⟨g, i * 2 + 1, none⟩ (.int .i64 b)) g (D.set i (a, b)) := by
  have hi' := h.2 i D[i] (List.getElem?_eq_getElem hi)
  refine ⟨by simpa using h.1, fun j x hx => ?_⟩
  rw [List.getElem?_set] at hx
  have ne : ∀ {p q : Nat}, p ≠ q → (⟨g, p, none⟩ : Addr) ≠ ⟨g, q, none⟩ := fun hpq e => hpq (by injection e)
  by_cases e : i = j
  · subst e
    rw [if_pos rfl, if_pos hi] at hx
    injection hx with hx
    subst hx
    refine ⟨?_, ?_, by simpa using hi'.2.2.1, by simpa using hi'.2.2.2⟩
    · rw [World.cell?_setCell_other _ _ _ _ (ne (by omega))]
      exact World.cell?_setCell_same w _ _ hi'.1
    · have hq : (w.setCell ⟨g, i * 2, none⟩ (.int .i64 a)).cell? ⟨g, i * 2 + 1, none⟩ = some (.int .i64 D[i].2) := by
        rw [World.cell?_setCell_other _ _ _ _ (ne (by omega))]
        exact hi'.2.1
      exact World.cell?_setCell_same _ _ _ hq
  · rw [if_neg e] at hx
    obtain ⟨h1, h2, h3, h4⟩ := h.2 j x hx
    refine ⟨?_, ?_, by simpa using h3, by simpa using h4⟩
    · rw [World.cell?_setCell_other _ _ _ _ (ne (by omega)), World.cell?_setCell_other _ _ _ _ (ne (by omega))]
      exact h1
    · rw [World.cell?_setCell_other _ _ _ _ (ne (by omega)), World.cell?_setCell_other _ _ _ _ (ne (by omega))]
      exact h2
end Go.Mk
