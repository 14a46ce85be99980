/-
  Proved: awake returns true and leaves all that was there. Condition: the two tables that it reads lie where the program lays them.
-/
import Derived.Test.YthgkaojplomapaaGreatDoorEvC
import Derived.Test.YthgkaojplomapaaGreatDoorAwE
import Derived.Test.YthgkaojplomapaaGreatDoorPc0
import Derived.Test.YthgkaojplomapaaGreatDoorPc3
import Derived.Test.YthgkaojplomapaaGreatDoorPc6
open Go Go.Ev Go.Proofs
set_option maxRecDepth 100000
namespace Go.Snap
theorem last6 : ∃ C', goF E0 (regC E0) 10000000 F6 S6 C6 = some (.bool true, C') := by
  have h := piece6
  cases hg : goF E0 (regC E0) 10000000 F6 S6 C6 with
  | none => rw [hg] at h; cases h
  | some x =>
    obtain ⟨v, C'⟩ := x
    rw [hg] at h
    cases v <;> first | (cases h; done) | skip
    rename_i b
    cases b with
    | true => exact ⟨C', rfl⟩
    | false => cases h
theorem ends6 (w : World) : Go.Ev.Ends (withW E0 w) F6 S6 C6 (.bool true) := by
  obtain ⟨C', h⟩ := last6
  exact Go.Ev.Ends.out (StepS.last (envOK w) h)
theorem ends5 (w : World) : Go.Ev.Ends (withW E0 w) F5 S5 C5 (.bool true) := Go.Ev.Ends.step (StepS.piece (envOK w) piece5) (ends6 w)
theorem ends4 (w : World) : Go.Ev.Ends (withW E0 w) F4 S4 C4 (.bool true) := Go.Ev.Ends.step (StepS.piece (envOK w) piece4) (ends5 w)
theorem ends3 (w : World) : Go.Ev.Ends (withW E0 w) F3 S3 C3 (.bool true) := Go.Ev.Ends.step (StepS.piece (envOK w) piece3) (ends4 w)
theorem ends2 (w : World) : Go.Ev.Ends (withW E0 w) F2 S2 C2 (.bool true) := Go.Ev.Ends.step (StepS.piece (envOK w) piece2) (ends3 w)
theorem ends1 (w : World) : Go.Ev.Ends (withW E0 w) F1 S1 C1 (.bool true) := Go.Ev.Ends.step (StepS.piece (envOK w) piece1) (ends2 w)
theorem ends0 (w : World) : Go.Ev.Ends (withW E0 w) F0 S0 C0 (.bool true) := Go.Ev.Ends.step (StepS.piece (envOK w) piece0) (ends1 w)

theorem awake_any (w : World) (hg : 15 ≤ w.heap.size) (ht : ∀ y ∈ tabs, y.1 < 15 ∧ ∀ i v, y.2[i]? = some v → w.cell? ⟨y.1, i, none⟩ = some v ∧ plainN 0 v = true) :
    Calls Tryz.prog 7 #[] w fun e w' => e = .returned (.bool true) ∧ RowKit.Below w.heap.size w w' := by
  have hR := rel_start (E := withW E0 w) rfl (fun _ _ h => h) hg tabs ht
  refine (calls_of_ends (E := withW E0 w) (K := ⟨fun b => b, fun _ => 0, startW 15 tabs⟩) enter7 (ends0 w) hR (RA.empty _)).mono fun e w' hh => ?_
  obtain ⟨K', v', h2, h3, h4, h5⟩ := hh
  cases h5
  exact ⟨h2, h3.below⟩
end Go.Snap
