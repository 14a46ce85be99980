/-
  Proved: awake returns true in any world in which the tables lie where they are laid. Condition: the tables that awake reads lie where the program lays them.
-/
import Derived.Test.YthpcmhcokblglaaGreatDoorAw
import Derived.Test.YthpcmhcokblglaaGreatDoorYa
set_option linter.unusedVariables false
set_option linter.unusedSimpArgs false
open Go Go.Proofs Go.RowKit
set_option maxRecDepth 100000
namespace Go.Mk
/-- The tables lie where they are laid. -/
def Tabs (w : World) : Prop := 15 ≤ w.heap.size ∧ ∀ y ∈ Snap.tabs, y.1 < 15 ∧ ∀ (i : Nat) (v : Value), y.2[i]? = some v → w.cell? ⟨y.1, i, none⟩ = some v ∧ Ev.plainN 0 v = true
theorem Tabs.below {w w' : World} {B : Nat} (h : Tabs w) (hb : Below B w w') (hB : 15 ≤ B) : Tabs w' :=
  ⟨by have := hb.size; have := h.1; omega, fun y hy => by
    obtain ⟨h1, h2⟩ := h.2 y hy
    refine ⟨h1, fun i v hv => ?_⟩
    obtain ⟨h3, h4⟩ := h2 i v hv
    exact ⟨(hb.cell (p := ⟨y.1, i, none⟩) (by show y.1 < B; omega)).trans h3, h4⟩⟩
theorem aw (w : World) (h : Tabs w) : Calls Tryz.prog 8 #[] w (RetPost (.bool true) w) := Snap.awake_any w h.1 h.2
def Yes (w : World) (e : Ending) (w' : World) : Prop := e = .returned (.bool true) ∧ Below w.heap.size w w'
/-- A world below which the law's own begins: what was there is there still. -/
theorem Tabs.grow {w w' : World} (h : Tabs w) (hb : Below w.heap.size w w') : Tabs w' := h.below hb h.1
end Go.Mk
