/-
  Proved: awake returns true and leaves all that was there. Condition: the two tables that it reads lie where the program lays them.
-/
import Derived.Test.YtclkcooomikiiaaGreatDoorAwE
import Derived.Test.YtclkcooomikiiaaGreatDoorPc0
import Derived.Test.YtclkcooomikiiaaGreatDoorPc1
import Derived.Test.YtclkcooomikiiaaGreatDoorPc2
import Derived.Test.YtclkcooomikiiaaGreatDoorPc3
import Derived.Test.YtclkcooomikiiaaGreatDoorPc4
import Derived.Test.YtclkcooomikiiaaGreatDoorPc5
import Derived.Test.YtclkcooomikiiaaGreatDoorPc6
import Derived.Test.YtclkcooomikiiaaGreatDoorPc7
open Go Go.Ev Go.Proofs
set_option maxRecDepth 100000
namespace Go.Snap

theorem last7 : ∃ C', goF E0 (regC E0) 10000000 F7 S7 C7 = some (.bool true, C') := by
  have h := piece7
  cases hg : goF E0 (regC E0) 10000000 F7 S7 C7 with
  | none => rw [hg] at h; cases h
  | some x =>
    obtain ⟨v, C'⟩ := x
    rw [hg] at h
    cases v <;> first | (cases h; done) | skip
    rename_i b
    cases b with
    | true => exact ⟨C', rfl⟩
    | false => cases h

/-- awake() returns true, in any world in which the two tables are laid; all that was there stays. -/
theorem awake_any (w : World) (hg : 15 ≤ w.heap.size) (ht : ∀ y ∈ tabs, y.1 < 15 ∧ ∀ i v, y.2[i]? = some v → w.cell? ⟨y.1, i, none⟩ = some v ∧ plainN 0 v = true) :
    Calls Tryz.prog 5 #[] w fun e w' => e = .returned (.bool true) ∧ RowKit.Below w.heap.size w w' := by
  have hE := envOK w
  have hR := rel_start (E := withW E0 w) rfl (fun _ _ h => h) hg tabs ht
  obtain ⟨C', h7⟩ := last7
  have hs : StepS (withW E0 w) F0 S0 C0 (.out (.bool true) C') :=
    (StepS.piece hE piece0).trans ((StepS.piece hE piece1).trans ((StepS.piece hE piece2).trans ((StepS.piece hE piece3).trans ((StepS.piece hE piece4).trans ((StepS.piece hE piece5).trans ((StepS.piece hE piece6).trans (StepS.last hE h7)))))))
  refine (calls_of_steps (E := withW E0 w) (K := ⟨fun b => b, fun _ => 0, startW 15 tabs⟩) enter5 hs hR (RA.empty _)).mono fun e w' hh => ?_
  obtain ⟨K', v', h1, h2, h3, h4, h5⟩ := hh
  cases h5
  exact ⟨h2, h3.below⟩
end Go.Snap
