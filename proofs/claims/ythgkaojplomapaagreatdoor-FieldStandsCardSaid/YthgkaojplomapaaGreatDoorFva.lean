/-
  Proved: the law's placed returns the first place of a name, and whether there is
  Proved: plain facts on places in the order of their ranks: they are the places of the rows, each row's place
  Proved: plain facts on the comparison of series: it is a linear order's, and a series into which a greater
  Proved: plain facts on ranks: they don't hang on the order of the series; a better series has no worse rank,
  Proved: plain facts on rows without an error: what they are; they can be exchanged among each other; the
  Proved: plain facts on a row that is put in the place of another one: the rows stay without an error, and the
  Proved: plain facts on what FieldImproves asks of the places of a row: behind a trial that has become a mark,
-/
import Derived.Test.YthgkaojplomapaaGreatDoorFph
import Derived.Test.YthgkaojplomapaaGreatDoorFrc
import Derived.Test.YthgkaojplomapaaGreatDoorFee
import Derived.Test.YthgkaojplomapaaGreatDoorFra
set_option maxHeartbeats 32000000
set_option linter.unusedVariables false
set_option linter.unusedSimpArgs false
open Go Go.Proofs Go.RowKit
set_option maxRecDepth 100000
section
namespace Go.Mk
end Go.Mk
end
section
namespace Go.Mk
end Go.Mk
end
section
namespace Go.Mk
def leS : List Int → List Int → Prop
 | [], _ => True
 | _ :: _, [] => False
 | a :: l, b :: m => a < b ∨ (a = b ∧ leS l m)
theorem leS_refl : ∀ L : List Int, leS L L
 | [] => trivial
 | a :: l => .inr ⟨rfl, leS_refl l⟩
theorem leS_trans : ∀ {L M N : List Int}, leS L M → leS M N → leS L N
 | [], _, _, _, _ => trivial
 | _ :: _, [], _, h, _ => h.elim
 | _ :: _, _ :: _, [], _, h => h.elim
 | a :: l, b :: m, c :: n, h, k => by
  rcases h with h | ⟨rfl, h⟩
  ·rcases k with k | ⟨rfl, _⟩
   ·exact .inl (by omega)
   ·exact .inl h
  ·rcases k with k | ⟨rfl, k⟩
   ·exact .inl k
   ·exact .inr ⟨rfl, leS_trans h k⟩
theorem cmpL_pos : ∀ (L M : List Int), 0 < cmpL L M ↔ ¬ leS L M
 | [], [] => by simp [cmpL, leS]
 | [], _ :: _ => by simp [cmpL, leS]
 | _ :: _, [] => by simp [cmpL, leS]
 | a :: l, b :: m => by
  have ih := cmpL_pos l m
  rw [cmpL]
  unfold leS cmpZ
  by_cases h1 : a < b
  ·simp [h1]
  ·by_cases h2 : b < a
   ·have h3 : ¬ a = b := by omega
    simp [h1, h2, h3]
   ·have h3 : a = b := by omega
    subst h3
    simp [ih]
end Go.Mk
end
section
namespace Go.Mk
end Go.Mk
end
section
namespace Go.Mk
end Go.Mk
end
section
namespace Go.Mk
end Go.Mk
end
section
namespace Go.Mk
structure Asked (p q s : Plc) (x r : ByteArray) : Prop where
 same : p.rk = s.rk ∧ p.kd = s.kd ∧ p.vl = s.vl ∧ p.rs = s.rs
 own : x = r → 1 ≤ q.rk ∧ (0 < p.rk → q.rk ≤ p.rk)
 other : x ≠ r → (0 < p.rk → p.rk ≤ q.rk) ∧ (p.rk = 0 → q.rk = 0)
theorem leS_total : ∀ L M : List Int, leS L M ∨ leS M L
 | [], _ => .inl trivial
 | _ :: _, [] => .inr trivial
 | a :: l, b :: m => by
  unfold leS
  rcases leS_total l m with h | h
  ·by_cases q : a < b
   ·exact .inl (.inl q)
   ·by_cases q2 : b < a
    ·exact .inr (.inl q2)
    ·exact .inl (.inr ⟨by omega, h⟩)
  ·by_cases q : a < b
   ·exact .inl (.inl q)
   ·by_cases q2 : b < a
    ·exact .inr (.inl q2)
    ·exact .inr (.inr ⟨by omega, h⟩)
end Go.Mk
end
