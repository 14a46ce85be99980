/-
  Proved: the two closures of arranged of package field: the number behind which a place stands, and how two places compare. Conditions: the closures' boxes hold what arranged lays there.
  Proved: plain facts on places in the order of their ranks: the stable order, told by the numbers of the places, is the one that takes each rank in turn. No condition beside those named.
  Proved: slices.SortedStableFunc of slices.Values of places by arranged's comparison, and arranged of package field: the places in the order of their ranks, in new memory. Conditions: there are at most 40 places, with ranks from 0 to their number, in cells that lie where the slice says.
-/
import Derived.Test.YtclapdfkgafenaaGreatDoorFpa
import Derived.Test.YtclapdfkgafenaaGreatDoorFee
section
set_option linter.unusedVariables false
set_option linter.unusedSimpArgs false
open Go Go.Proofs Go.RowKit
set_option maxRecDepth 100000
namespace Go.Mk
def bhd (n : Nat) (p : Plc) : Int := if p.rk = 0 then (n : Int) + 1 else p.rk
def ArrH (w1 : World) (b2 b1 g : Nat) (p q : Plc) (w' : World) : Prop :=
  w'.cell? ⟨b2, 0, none⟩ = some (.func (.func 99) #[] #[.pointer (some ⟨b1, 0, none⟩)]) ∧
  w'.cell? ⟨g, 0, none⟩ = some (.string p.nm) ∧ w'.cell? ⟨g, 1, none⟩ = some (.int .i64 p.rk) ∧ w'.cell? ⟨g, 2, none⟩ = some (.string p.kd) ∧ w'.cell? ⟨g, 3, none⟩ = some (.int .i64 p.vl) ∧ w'.cell? ⟨g, 4, none⟩ = some (.string p.rs) ∧
  w'.cell? ⟨g + 1, 0, none⟩ = some (.string q.nm) ∧ w'.cell? ⟨g + 1, 1, none⟩ = some (.int .i64 q.rk) ∧ w'.cell? ⟨g + 1, 2, none⟩ = some (.string q.kd) ∧ w'.cell? ⟨g + 1, 3, none⟩ = some (.int .i64 q.vl) ∧ w'.cell? ⟨g + 1, 4, none⟩ = some (.string q.rs) ∧
  Below w1.heap.size w1 w'
end Go.Mk
end
section
set_option linter.unusedVariables false
set_option linter.unusedSimpArgs false
open Go Go.Proofs Go.RowKit
set_option maxRecDepth 100000
namespace Go.Mk
def toks (n : Nat) : List Int := (List.range n).map fun (i : Nat) => (i : Int)
def ltK (key : Int → Int) (x y : Int) : Prop := key x < key y ∨ (key x = key y ∧ x < y)
theorem ltK_ord (key : Int → Int) : Ord (ltK key) where
  trans := by intro x y z h k; unfold ltK at *; omega
  irr := by intro x h; unfold ltK at h; omega
  tri := by intro x y h; unfold ltK; omega
theorem toks_len (n : Nat) : (toks n).length = n := by simp [toks]
theorem toks_mem {n : Nat} {x : Int} : x ∈ toks n ↔ 0 ≤ x ∧ x < n := by
  unfold toks
  rw [List.mem_map]
  constructor
  · rintro ⟨i, hi, rfl⟩
    have := List.mem_range.1 hi
    omega
  · rintro ⟨h1, h2⟩
    exact ⟨x.toNat, List.mem_range.2 (by omega), by omega⟩
theorem toks_pw (n : Nat) : (toks n).Pairwise fun x y => x < y := by
  unfold toks
  rw [List.pairwise_map]
  exact List.pairwise_lt_range.imp (fun h => by omega)
theorem toks_nodup (n : Nat) : (toks n).Nodup := (toks_pw n).imp (fun h => by omega)
def byKey (key : Int → Int) (n m : Nat) : List Int := (List.range m).flatMap fun (r : Nat) => (toks n).filter fun i => decide (key i = (r : Int) + 1)
theorem byKey_pw (key : Int → Int) (n m : Nat) : (byKey key n m).Pairwise (ltK key) := by
  unfold byKey
  rw [List.pairwise_flatMap]
  refine ⟨fun r _ => ?_, ?_⟩
  · have h1 : ((toks n).filter fun i => decide (key i = (r : Int) + 1)).Pairwise (fun x y => x < y) := (toks_pw n).sublist List.filter_sublist
    refine List.Pairwise.imp_of_mem (fun {x y} hx hy h => ?_) h1
    have a := (List.mem_filter.1 hx).2
    have b := (List.mem_filter.1 hy).2
    simp at a b
    exact .inr ⟨by omega, h⟩
  · refine List.Pairwise.imp_of_mem (fun {a b} _ _ h x hx y hy => ?_) List.pairwise_lt_range
    have q1 := (List.mem_filter.1 hx).2
    have q2 := (List.mem_filter.1 hy).2
    simp at q1 q2
    exact .inl (by omega)
def arrL (n : Nat) (L : List Plc) : List Plc := (List.range (n + 1)).flatMap fun (r : Nat) => L.filter fun p => decide (bhd n p = (r : Int) + 1)
def plF (L : List Plc) (i : Int) : Plc := L.getD i.toNat ⟨⟨#[]⟩, 0, ⟨#[]⟩, 0, ⟨#[]⟩⟩
theorem plF_toks (L : List Plc) : (toks L.length).map (plF L) = L := by
  apply List.ext_getElem?
  intro i
  unfold toks
  rw [List.map_map, List.getElem?_map]
  by_cases h : i < L.length
  · rw [List.getElem?_range h]
    simp [plF, h]
  · rw [List.getElem?_eq_none (by simp; omega), List.getElem?_eq_none (by omega)]
    rfl
end Go.Mk
end
section
set_option linter.unusedVariables false
set_option linter.unusedSimpArgs false
open Go Go.Proofs Go.RowKit
set_option maxRecDepth 100000
namespace Go.Mk
theorem RowP.of_own {w : World} {B g cap : Nat} {L : List Plc} (h : OwnPlcs w B (.slice (some ⟨g, 0, none⟩) L.length cap) L) : RowP (plF L) w B g L.length cap (toks L.length) :=
  ⟨toks_len _, by rw [plF_toks]; exact h⟩
end Go.Mk
end
