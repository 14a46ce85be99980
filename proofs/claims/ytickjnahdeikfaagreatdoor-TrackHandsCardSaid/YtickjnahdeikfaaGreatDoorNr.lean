/-
  Proved: plain facts on a run of a relay: the error of its exchanges one by one. No condition.
-/
import Derived.Test.YtickjnahdeikfaaGreatDoorNp
set_option linter.unusedVariables false
set_option linter.unusedSimpArgs false
open Go Go.Proofs Go.RowKit
set_option maxRecDepth 100000
namespace Go.Mk
/-- The error of an exchange: place and time, behind another one, in its zone. -/
def exE (k : Nat) (p q z : Int × Int) : Int := fstN [rngE q.1 0 999999999, rngE q.2 1 863999999, if 0 < k ∧ (q.1 ≤ p.1 ∨ q.2 ≤ p.2) then 11 else 0, if q.1 < z.1 ∨ z.2 < q.1 then 18 else 0]
theorem exE_ord {k : Nat} {p q z : Int × Int} (h1 : rngE q.1 0 999999999 = 0) (h2 : rngE q.2 1 863999999 = 0) (h3 : 0 < k ∧ (q.1 ≤ p.1 ∨ q.2 ≤ p.2)) : exE k p q z = 11 := by
  unfold exE
  rw [h1, h2, if_pos h3]
  rfl
theorem exE_zone {k : Nat} {p q z : Int × Int} (h1 : rngE q.1 0 999999999 = 0) (h2 : rngE q.2 1 863999999 = 0) (h3 : ¬ (0 < k ∧ (q.1 ≤ p.1 ∨ q.2 ≤ p.2))) (h4 : q.1 < z.1 ∨ z.2 < q.1) : exE k p q z = 18 := by
  unfold exE
  rw [h1, h2, if_neg h3, if_pos h4]
  rfl
theorem exE_ok {k : Nat} {p q z : Int × Int} (h1 : rngE q.1 0 999999999 = 0) (h2 : rngE q.2 1 863999999 = 0) (h3 : ¬ (0 < k ∧ (q.1 ≤ p.1 ∨ q.2 ≤ p.2))) (h4 : ¬ (q.1 < z.1 ∨ z.2 < q.1)) : exE k p q z = 0 := by
  unfold exE
  rw [h1, h2, if_neg h3, if_neg h4]
  rfl
/-- The first error of the exchanges behind k of them, and its place. -/
def runG (p : Int × Int) (k : Nat) : List (Int × Int) → List (Int × Int) → Int × Int
  | q :: l, z :: zs => if exE k p q z = 0 then runG q (k + 1) l zs else ((k : Int), exE k p q z)
  | _, _ => (0, 0)
theorem runG_drop {L Z : List (Int × Int)} {k : Nat} {q z : Int × Int} (p : Int × Int) (h : L[k]? = some q) (hz : Z[k]? = some z) :
    runG p k (L.drop k) (Z.drop k) = if exE k p q z = 0 then runG q (k + 1) (L.drop (k + 1)) (Z.drop (k + 1)) else ((k : Int), exE k p q z) := by
  obtain ⟨hk, e⟩ := List.getElem?_eq_some_iff.1 h
  obtain ⟨hk2, e2⟩ := List.getElem?_eq_some_iff.1 hz
  rw [List.drop_eq_getElem_cons hk, List.drop_eq_getElem_cons hk2, e, e2, runG]
theorem runG_end (p : Int × Int) (k : Nat) {L Z : List (Int × Int)} (h : L.length ≤ k) : runG p k (L.drop k) (Z.drop k) = (0, 0) := by
  rw [List.drop_of_length_le h]
  cases Z.drop k <;> rfl
/-- The first error of a run whose relay is whole, and its place. -/
def runW (L Z : List (Int × Int)) (f : Int) : Int × Int :=
  if L.length ≠ Z.length then (0, 2) else if rngE f 1 863999999 ≠ 0 then (0, 3) else
    let r := runG (0, 0) 0 L Z
    if r.2 ≠ 0 then r else if f ≤ (L.getD (L.length - 1) (0, 0)).2 then ((L.length : Int) - 1, 11) else (0, 0)
/-- The exchanges between the start and the finish. -/
def momW (L : List (Int × Int)) (d f : Int) : List (Int × Int) := (0, 0) :: L ++ [(d, f)]
/-- What lies between one moment and the next one. -/
def gapsW : List (Int × Int) → List (Int × Int)
  | a :: b :: l => (wrap64 (b.1 - a.1), wrap64 (b.2 - a.2)) :: gapsW (b :: l)
  | _ => []
end Go.Mk
