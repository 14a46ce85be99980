/-
  Proved: awake returns true and leaves all that was there. Condition: the two tables that it reads lie where the program lays them.
-/
import Derived.Test.YtkjolejppnogiaaGreatDoorEvC
import Derived.Test.YtkjolejppnogiaaGreatDoorAwE
import Derived.Test.YtkjolejppnogiaaGreatDoorPc0
import Derived.Test.YtkjolejppnogiaaGreatDoorPc3
import Derived.Test.YtkjolejppnogiaaGreatDoorPc6
import Derived.Test.YtkjolejppnogiaaGreatDoorPc9
import Derived.Test.YtkjolejppnogiaaGreatDoorPc12
import Derived.Test.YtkjolejppnogiaaGreatDoorPc15
import Derived.Test.YtkjolejppnogiaaGreatDoorPc18
open Go Go.Ev Go.Proofs
set_option maxRecDepth 100000
namespace Go.Snap
theorem last11 : ∃ C', goF E0 (regC E0) 10000000 F11 S11 C11 = some (.bool true, C') := by
  have h := piece11
  cases hg : goF E0 (regC E0) 10000000 F11 S11 C11 with
  | none => rw [hg] at h; cases h
  | some x =>
    obtain ⟨v, C'⟩ := x
    rw [hg] at h
    cases v <;> first | (cases h; done) | skip
    rename_i b
    cases b with
    | true => exact ⟨C', rfl⟩
    | false => cases h
theorem ends11 (w : World) : Go.Ev.Ends (withW E0 w) F11 S11 C11 (.bool true) := by
  obtain ⟨C', h⟩ := last11
  exact Go.Ev.Ends.out (StepS.last (envOK w) h)
theorem ends10 (w : World) : Go.Ev.Ends (withW E0 w) F10 S10 C10 (.bool true) := Go.Ev.Ends.step (StepS.piece (envOK w) piece10) (ends11 w)
theorem ends9 (w : World) : Go.Ev.Ends (withW E0 w) F9 S9 C9 (.bool true) := Go.Ev.Ends.step (StepS.piece (envOK w) piece9) (ends10 w)
theorem ends8 (w : World) : Go.Ev.Ends (withW E0 w) F8 S8 C8 (.bool true) := Go.Ev.Ends.step (StepS.piece (envOK w) piece8) (ends9 w)
theorem ends7 (w : World) : Go.Ev.Ends (withW E0 w) F7 S7 C7 (.bool true) := by
  refine Go.Ev.Ends.next (E := withW E0 w) (f := F7) (o := O7) (x := .tmp 38) rfl at7 op7 rfl want7 ok7 br7 ?_
  intro y hy
  simp only [List.mem_cons, List.not_mem_nil, or_false] at hy
  rcases hy with rfl
  · exact Go.Ev.Ends.cast to7_8 (ends8 w)
theorem ends6 (w : World) : Go.Ev.Ends (withW E0 w) F6 S6 C6 (.bool true) := Go.Ev.Ends.step (StepS.piece (envOK w) piece6) (ends7 w)
theorem ends5 (w : World) : Go.Ev.Ends (withW E0 w) F5 S5 C5 (.bool true) := by
  refine Go.Ev.Ends.next (E := withW E0 w) (f := F5) (o := O5) (x := .tmp 38) rfl at5 op5 rfl want5 ok5 br5 ?_
  intro y hy
  simp only [List.mem_cons, List.not_mem_nil, or_false] at hy
  rcases hy with rfl
  · exact Go.Ev.Ends.cast to5_6 (ends6 w)
theorem ends3 (w : World) : Go.Ev.Ends (withW E0 w) F3 S3 C3 (.bool true) := Go.Ev.Ends.step (StepS.piece (envOK w) piece3) (ends5 w)
theorem last18 : ∃ C', goF E0 (regC E0) 10000000 F18 S18 C18 = some (.bool true, C') := by
  have h := piece18
  cases hg : goF E0 (regC E0) 10000000 F18 S18 C18 with
  | none => rw [hg] at h; cases h
  | some x =>
    obtain ⟨v, C'⟩ := x
    rw [hg] at h
    cases v <;> first | (cases h; done) | skip
    rename_i b
    cases b with
    | true => exact ⟨C', rfl⟩
    | false => cases h
theorem ends18 (w : World) : Go.Ev.Ends (withW E0 w) F18 S18 C18 (.bool true) := by
  obtain ⟨C', h⟩ := last18
  exact Go.Ev.Ends.out (StepS.last (envOK w) h)
theorem ends17 (w : World) : Go.Ev.Ends (withW E0 w) F17 S17 C17 (.bool true) := Go.Ev.Ends.step (StepS.piece (envOK w) piece17) (ends18 w)
theorem ends16 (w : World) : Go.Ev.Ends (withW E0 w) F16 S16 C16 (.bool true) := Go.Ev.Ends.step (StepS.piece (envOK w) piece16) (ends17 w)
theorem ends15 (w : World) : Go.Ev.Ends (withW E0 w) F15 S15 C15 (.bool true) := Go.Ev.Ends.step (StepS.piece (envOK w) piece15) (ends16 w)
theorem ends14 (w : World) : Go.Ev.Ends (withW E0 w) F14 S14 C14 (.bool true) := by
  refine Go.Ev.Ends.next (E := withW E0 w) (f := F14) (o := O14) (x := .tmp 38) rfl at14 op14 rfl want14 ok14 br14 ?_
  intro y hy
  simp only [List.mem_cons, List.not_mem_nil, or_false] at hy
  rcases hy with rfl
  · exact Go.Ev.Ends.cast to14_15 (ends15 w)
theorem ends13 (w : World) : Go.Ev.Ends (withW E0 w) F13 S13 C13 (.bool true) := Go.Ev.Ends.step (StepS.piece (envOK w) piece13) (ends14 w)
theorem ends12 (w : World) : Go.Ev.Ends (withW E0 w) F12 S12 C12 (.bool true) := by
  refine Go.Ev.Ends.next (E := withW E0 w) (f := F12) (o := O12) (x := .tmp 38) rfl at12 op12 rfl want12 ok12 br12 ?_
  intro y hy
  simp only [List.mem_cons, List.not_mem_nil, or_false] at hy
  rcases hy with rfl
  · exact Go.Ev.Ends.cast to12_13 (ends13 w)
theorem ends4 (w : World) : Go.Ev.Ends (withW E0 w) F4 S4 C4 (.bool true) := Go.Ev.Ends.step (StepS.piece (envOK w) piece4) (ends12 w)
theorem ends2 (w : World) : Go.Ev.Ends (withW E0 w) F2 S2 C2 (.bool true) := by
  refine Go.Ev.Ends.next (E := withW E0 w) (f := F2) (o := O2) (x := .tmp 38) rfl at2 op2 rfl want2 ok2 br2 ?_
  intro y hy
  simp only [List.mem_cons, List.not_mem_nil, or_false] at hy
  rcases hy with rfl | rfl
  · exact Go.Ev.Ends.cast to2_3 (ends3 w)
  · exact Go.Ev.Ends.cast to2_4 (ends4 w)
theorem ends1 (w : World) : Go.Ev.Ends (withW E0 w) F1 S1 C1 (.bool true) := Go.Ev.Ends.step (StepS.piece (envOK w) piece1) (ends2 w)
theorem ends0 (w : World) : Go.Ev.Ends (withW E0 w) F0 S0 C0 (.bool true) := Go.Ev.Ends.step (StepS.piece (envOK w) piece0) (ends1 w)

/-- awake() returns true, in any world in which the two tables are laid; all that was there stays. -/
theorem awake_any (w : World) (hg : 13 ≤ w.heap.size) (ht : ∀ y ∈ tabs, y.1 < 13 ∧ ∀ i v, y.2[i]? = some v → w.cell? ⟨y.1, i, none⟩ = some v ∧ plainN 0 v = true) :
    Calls Tryz.prog 10 #[] w fun e w' => e = .returned (.bool true) ∧ RowKit.Below w.heap.size w w' := by
  have hR := rel_start (E := withW E0 w) rfl (fun _ _ h => h) hg tabs ht
  refine (calls_of_ends (E := withW E0 w) (K := ⟨fun b => b, fun _ => 0, startW 13 tabs⟩) enter10 (ends0 w) hR (RA.empty _)).mono fun e w' hh => ?_
  obtain ⟨K', v', h2, h3, h4, h5⟩ := hh
  cases h5
  exact ⟨h2, h3.below⟩
end Go.Snap
