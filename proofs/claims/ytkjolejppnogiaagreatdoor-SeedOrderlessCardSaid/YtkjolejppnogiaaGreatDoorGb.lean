/-
  Proved: the library's sort of integers and its search in a sorted list, at this program. Conditions: the integers lie where the slices say; there are at most 100,000.
-/
import Derived.Test.YtkjolejppnogiaaGreatDoorGa
import Derived.Test.YtkjolejppnogiaaGreatDoorRow
import Derived.Shelf.Sort.Plain
import Derived.Shelf.Slices.In.SortNone
import Derived.Shelf.Slices.SearchI
import Derived.Shelf.Slices.Empties
import Derived.Sort.OwnSortedInts
set_option linter.unusedVariables false
set_option linter.unusedSimpArgs false
open Go Go.Proofs Go.RowKit Go.Sort
set_option maxRecDepth 100000
namespace Go.Mk
theorem sortInt_any (T : List Int) (v : Value) (B : Nat) (w : World) (h : OwnZ w B v T) (hn : T.length ≤ 100000) :
    Calls Tryz.prog 115 #[v] w fun e w' => e = .returned (.tuple #[]) ∧ OwnZ w' B v (sortZ T) ∧ Below B w w' := by
  obtain ⟨h1, h2⟩ := h
  rcases h2 with ⟨rfl, h0⟩ | ⟨g, cap, cur, rfl, hg, hb, hc, hm, hcs, ht⟩
  · have hT : T = [] := List.eq_nil_of_length_eq_zero h0
    subst hT
    have := Go.Proofs.Any.slices_Sort_int_none Tryz.sortInt none 0 w
    change Calls Tryz.prog 115 _ _ _ at this
    refine this.mono ?_
    rintro e w' ⟨rfl, rfl⟩
    refine ⟨rfl, ?_, Below.refl _ _⟩
    have e : sortZ [] = [] := List.eq_nil_of_length_eq_zero (by rw [sortZ_len]; rfl)
    rw [e]
    exact World.ownsRow_nil _ _ _ _
  · rw [Nat.mul_one] at ht hcs
    have hH := holds_of_blockI (ss := T) hb ht
    have hgs : g < w.heap.size := (Array.getElem?_eq_some_iff.1 hb).1
    have := Go.Proofs.Any.slices_Sort_int Tryz.sortInt g 0 cap T w hH hgs (by omega)
    change Calls Tryz.prog 115 _ _ _ at this
    refine this.mono ?_
    rintro e w' ⟨rfl, n, os, rfl⟩
    have ho := ownsRow_sortedI (n := n) (os := os) (e := 3) (sortZ_len T) hg hb hc hm (by omega)
    refine ⟨rfl, ?_, (Below.refl B w).grown (grownBy_sortedI _) (by omega) (fun k hk => by cases hk; exact hg)⟩
    unfold OwnZ
    rw [sortZ_len]
    exact ho
theorem bsInt_any (Z : List Int) (A : Option Addr) (n c : Nat) (x : Int) (w : World) (h : IntsZ w A n Z) (hs : Z.Pairwise (· ≤ ·)) (hn : n ≤ 100000) :
    Calls Tryz.prog 116 #[.slice A n c, .int .i64 x] w fun e w' => ∃ b, e = .returned (.tuple #[.int .i64 (Z.countP (fun y => decide (y < x)) : Nat), .bool b]) ∧ Below w.heap.size w w' := by
  obtain ⟨hl, h2⟩ := h
  by_cases h0 : 0 < n
  · obtain ⟨g, off, rfl, hg, hc⟩ := h2 h0
    have := Go.Proofs.Any.slices_BinarySearch_int Tryz.bsInt g off n c Z x w (by omega) (by omega) (fun j hj => by rw [hc j Z[j] (List.getElem?_eq_getElem hj)]; simp [List.getD, List.getElem?_eq_getElem hj]) (by rw [← hl, List.take_length]; exact hs)
    change Calls Tryz.prog 116 _ _ _ at this
    refine this.mono ?_
    rintro e w' ⟨rfl, q, rfl⟩
    rw [← hl, List.take_length]
    exact ⟨_, rfl, below_drewN (Below.refl _ _) _⟩
  · have hn0 : n = 0 := by omega
    subst hn0
    have hZ : Z = [] := List.eq_nil_of_length_eq_zero hl
    subst hZ
    have := Go.Proofs.Any.slices_BinarySearch_int_empty Tryz.bsInt A c x w
    change Calls Tryz.prog 116 _ _ _ at this
    refine this.mono ?_
    rintro e w' ⟨rfl, rfl⟩
    exact ⟨_, rfl, Below.refl _ _⟩
end Go.Mk
