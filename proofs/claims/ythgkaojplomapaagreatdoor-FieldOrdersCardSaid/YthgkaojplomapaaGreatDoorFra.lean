/-
  Proved: each of package field with series: the marks of each row in descending order, in new memory; and the ranks of rows. Conditions: at most 100 rows, each with at most 12 trials, each of them at most 999,999, where the slices say.
  Proved: rowRanks of package field: 0 for a row without a mark, else 1 and the number of rows whose marks in descending order are greater. Conditions: at most 100 rows, each with at most 12 trials, each of them at most 999,999, where the slices say.
-/
import Derived.Test.YthgkaojplomapaaGreatDoorFpl
import Derived.Test.YthgkaojplomapaaGreatDoorFeb
set_option linter.unusedVariables false
set_option linter.unusedSimpArgs false
open Go Go.Proofs Go.RowKit
set_option maxRecDepth 100000
section
namespace Go.Mk
theorem own_apart {w : World} {B B' s s' n n' e e' : Nat} {u v : Value} {xs ys : List Value} (he : e ≠ e') (h : w.ownsRow B e s u n xs) (h' : w.ownsRow B' e' s' v n' ys) : u.ownBlock = none ∨ u.ownBlock ≠ v.ownBlock := by
 rcases h.2 with ⟨a, b⟩ | ⟨g, cap, cur, a, b, c, d⟩
 ·exact .inl (by rw [a]; rfl)
 ·right
  rcases h'.2 with ⟨a', b'⟩ | ⟨g', cap', cur', a', b', c', d'⟩
  ·rw [a, a']; intro q; cases q
  ·rw [a, a']
   intro q
   have q : g = g' := by simpa [Value.ownBlock] using q
   subst q
   rw [c] at c'
   cases c'
   exact he rfl
def OwnSers (w : World) (B : Nat) (v : Value) (LL : List (List Int)) : Prop :=
 ∃ vs : List Value, vs.length = LL.length ∧ w.ownsRow B 23 1 v LL.length vs ∧ ∀ (i : Nat) (l : List Int), LL[i]? = some l → ∃ u, vs[i]? = some u ∧ OwnZ w B u l
theorem OwnSers.below {w w' : World} {B : Nat} {v : Value} {LL : List (List Int)} (h : OwnSers w B v LL) (hb : Below w.heap.size w w') : OwnSers w' B v LL := by
 obtain ⟨vs, h1, h2, h3⟩ := h
 exact ⟨vs, h1, ownN h2 hb, fun i l hl => by obtain ⟨u, a, b⟩ := h3 i l hl; exact ⟨u, a, ownN b hb⟩⟩
def SersZ (w : World) (A : Option Addr) (n : Nat) (LL : List (List Int)) : Prop :=
 LL.length = n ∧ (0 < n → ∃ b off, A = some ⟨b, off, none⟩ ∧ b < w.heap.size ∧ ∀ (j : Nat) (l : List Int), LL[j]? = some l → ∃ A' c', w.cell? ⟨b, off + j, none⟩ = some (.slice A' l.length c') ∧ IntsZ w A' l.length l)
theorem SersZ.below {w w' : World} {A : Option Addr} {n : Nat} {LL : List (List Int)} (h : SersZ w A n LL) (hb : Below w.heap.size w w') : SersZ w' A n LL := by
 refine ⟨h.1, fun h0 => ?_⟩
 obtain ⟨b, off, e, hlt, hc⟩ := h.2 h0
 refine ⟨b, off, e, Nat.lt_of_lt_of_le hlt hb.size, fun j l hl => ?_⟩
 obtain ⟨A', c', h1, h2⟩ := hc j l hl
 exact ⟨A', c', (hb.cell (p := ⟨b, _, none⟩) hlt).trans h1, h2.below hb⟩
theorem SersZ.of_own {w : World} {B : Nat} {v : Value} {LL : List (List Int)} (h : OwnSers w B v LL) : ∃ A c, v = .slice A LL.length c ∧ SersZ w A LL.length LL := by
 obtain ⟨vs, hl, ho, hi⟩ := h
 by_cases h0 : 0 < LL.length
 ·obtain ⟨g, c, rfl, hgb, hgl⟩ := ownSome ho h0
  refine ⟨_, _, rfl, rfl, fun _ => ⟨g, 0, rfl, hgl, fun i l hx => ?_⟩⟩
  obtain ⟨u, hu, hr⟩ := hi i l hx
  obtain ⟨A', c', rfl, hR⟩ := IntsZ.of_own hr
  have := World.ownsRow.cells ho (g := g) rfl i _ hu
  rw [show (⟨g, 0, none⟩ : Addr).add i = ⟨g, 0 + i, none⟩ from by unfold Addr.add; split <;> simp_all] at this
  exact ⟨A', c', this, hR⟩
 ·rcases ho.2 with ⟨hv, _⟩ | ⟨g, cap, cur, hv, _⟩
  ·exact ⟨none, 0, by rw [hv, show LL.length = 0 by omega], rfl, fun q => absurd q h0⟩
  ·exact ⟨_, _, hv, rfl, fun q => absurd q h0⟩
def sersOf (L : List RowR) : List (List Int) := L.map fun r => serD r.T
def rkR (S : List (List Int)) (i : Nat) : Bool := decide (0 < (S.getD i []).length)
def rkBt (S : List (List Int)) (j i : Nat) : Bool := decide (0 < cmpL (S.getD j []) (S.getD i []))
end Go.Mk
end
section
namespace Go.Mk
end Go.Mk
end
