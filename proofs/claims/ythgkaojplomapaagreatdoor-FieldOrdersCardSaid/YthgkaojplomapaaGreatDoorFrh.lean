/-
  Proved: the reference's unmarked and ordered: the places in the order of their ranks, in new memory. Conditions: at most 100 places, with ranks from 0 to their number, where the slice says.
  Proved: the reference's Ranking returns the places of rows in the order of their ranks, in new memory. Conditions: at most 100 rows, each with at most 12 trials, where the slices say.
-/
import Derived.Test.YthgkaojplomapaaGreatDoorFrc
set_option linter.unusedVariables false
set_option linter.unusedSimpArgs false
open Go Go.Proofs Go.RowKit
set_option maxRecDepth 100000
section
namespace Go.Mk
def OwnPlR (w : World) (B : Nat) (v : Value) (L : List Plc) : Prop := w.ownsRow B 126 5 v L.length (L.flatMap Plc.cells)
theorem OwnPlR.next {w1 : World} {B : Nat} {v' : Value} {L : List Plc} {p : Plc} (h : w1.ownsRow B 126 5 v' (L.length + 1) (L.flatMap Plc.cells ++ p.cells)) : OwnPlR w1 B v' (L ++ [p]) := by
 unfold OwnPlR
 rw [List.length_append, List.flatMap_append]
 simpa using h
theorem OwnPlR.low {w : World} {B B' : Nat} {v : Value} {L : List Plc} (h : OwnPlR w B v L) (hB : B' ≤ B) : OwnPlR w B' v L := by
 refine ⟨h.1, ?_⟩
 rcases h.2 with q | ⟨g, cap, cur, a, b, c⟩
 ·exact .inl q
 ·exact .inr ⟨g, cap, cur, a, Nat.le_trans hB b, c⟩
def byRk (L : List Plc) (r : Nat) : List Plc := L.filter fun p => decide (p.rk = (r : Int) + 1)
def noRk (L : List Plc) : List Plc := L.filter fun p => decide (p.rk = 0)
def ordP (n : Nat) (L : List Plc) : List Plc := (List.range n).flatMap (byRk L) ++ noRk L
end Go.Mk
end
section
namespace Go.Mk
theorem three_blk {w : World} {g : Nat} {a b c : Value} {t : TypeId} (k : w.heap[g]? = some (.cells #[a, b, c] t (0, 0))) : (w.cell? ⟨g, 0, none⟩ = some a ∧ w.cell? ⟨g, 1, none⟩ = some b ∧ w.cell? ⟨g, 2, none⟩ = some c) ∧ (w.frozen? ⟨g, 0, none⟩ = false ∧ w.frozen? ⟨g, 1, none⟩ = false ∧ w.frozen? ⟨g, 2, none⟩ = false) :=
 ⟨⟨Go.Joins.cell_of_block k 0, Go.Joins.cell_of_block k 1, Go.Joins.cell_of_block k 2⟩, Go.Joins.unfrozen_of_block k 0, Go.Joins.unfrozen_of_block k 1, Go.Joins.unfrozen_of_block k 2⟩
end Go.Mk
end
