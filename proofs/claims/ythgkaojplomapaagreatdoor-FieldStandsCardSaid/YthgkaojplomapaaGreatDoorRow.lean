/-
  Proved: small laws on a block whose cells hold the numbers of a list. Conditions: the places lie in the list.
-/
import Derived.WalkKit
import Derived.Below
import Derived.Laws.MakeOwn
import Derived.Deep.Draws
set_option maxHeartbeats 32000000
open Go Go.RowKit
namespace Go.Mk
def Row (w : World) (g : Nat) (L : List Nat) : Prop :=
 g < w.heap.size ∧ ∀ (j v : Nat), L[j]? = some v → w.cell? ⟨g, j, none⟩ = some (.int .i64 (v : Int)) ∧ w.frozen? ⟨g, j, none⟩ = false

section
variable {w w' : World} {g : Nat} {L : List Nat}
theorem Row.at_ (h : Row w g L) {j : Nat} (hj : j < L.length) : w.cell? ⟨g, j, none⟩ = some (.int .i64 (L.getD j 0 : Nat)) ∧ w.frozen? ⟨g, j, none⟩ = false := by
 have := h.2 j L[j] (List.getElem?_eq_getElem hj)
 simpa [List.getD_eq_getElem?_getD, List.getElem?_eq_getElem hj] using this
theorem Row.set_ (h : Row w g L) {i : Nat} (hi : i < L.length) (v : Nat) : Row (w.setCell ⟨g, i, none⟩ (.int .i64 (v : Int))) g (L.set i v) := by
 refine ⟨by simpa using h.1, fun j u hu => ?_⟩
 rw [List.getElem?_set] at hu
 by_cases e : i = j
 ·subst e
  rw [if_pos rfl, if_pos hi] at hu
  injection hu with hu
  subst hu
  obtain ⟨h1, h2⟩ := h.at_ hi
  exact ⟨World.cell?_setCell_same w _ _ h1, by simpa using h2⟩
 ·rw [if_neg e] at hu
  obtain ⟨h1, h2⟩ := h.2 j u hu
  refine ⟨?_, by simpa using h2⟩
  rw [World.cell?_setCell_other w _ _ _ (by intro e2; injection e2 with _ e3; exact e e3)]
  exact h1
theorem Row.keep (h : Row w g L) (hs : w.heap.size ≤ w'.heap.size) (hc : ∀ p : Addr, p.block = g → w'.cell? p = w.cell? p) (hf : ∀ p : Addr, p.block = g → w'.frozen? p = w.frozen? p) : Row w' g L :=
 ⟨Nat.lt_of_lt_of_le h.1 hs, fun j v hv => by
  obtain ⟨h1, h2⟩ := h.2 j v hv
  exact ⟨(hc _ rfl).trans h1, (hf _ rfl).trans h2⟩⟩
theorem Row.below {B : Nat} (h : Row w g L) (hb : Below B w w') (hg : g < B) (hs : w.heap.size ≤ w'.heap.size) : Row w' g L :=
 h.keep hs (fun p hp => hb.cell (by omega)) (fun p hp => hb.frozen (by omega))
end
end Go.Mk
