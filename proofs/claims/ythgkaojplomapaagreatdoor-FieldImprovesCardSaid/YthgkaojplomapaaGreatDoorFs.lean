/-
  Proved: arguments of the types of the two competitions of chapter 6 opened to their texts and integers in their cells, and shut again in any later world that has kept the cells below. Nothing is assumed beyond that the argument reads.
-/
import Derived.Test.YthgkaojplomapaaGreatDoorXa
import Derived.Deep.Slices
import Derived.Deep.Strs
import Derived.DataShut
import Derived.ChangeSlices
import Derived.Lib.SmallJoins
set_option linter.unusedVariables false
set_option linter.unusedSimpArgs false
open Go Go.Proofs Go.RowKit
set_option maxRecDepth 100000
namespace Go.Mk
open Go.ChangeShapes Go.WideShapes Go.Deep Go.Joins
theorem cIntX : Tryz.prog.cellsOf 3 = 1 := by kernel_rfl
theorem cStrX : Tryz.prog.cellsOf 9 = 1 := by kernel_rfl
theorem cell_someX {w : World} {a : Addr} {v : Value} (h : w.cell? a = some v) : a.spot = none ∧ a.block < w.heap.size := by
  unfold World.cell? at h
  split at h
  case h_1 c x y e =>
    split at h
    · cases h
    · rename_i hs
      exact ⟨by simpa using hs, (Array.getElem?_eq_some_iff.1 e).1⟩
  case h_2 => cases h
end Go.Mk
