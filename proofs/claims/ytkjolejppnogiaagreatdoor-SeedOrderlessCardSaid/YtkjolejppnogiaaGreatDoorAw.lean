/-
  Proved: awake returns true and leaves all that was there. Condition: the two tables that it reads lie where the program lays them.
-/
import Derived.Test.YtkjolejppnogiaaGreatDoorEvC
import Derived.Test.YtkjolejppnogiaaGreatDoorAwE
import Derived.Test.YtkjolejppnogiaaGreatDoorPc0
import Derived.Test.YtkjolejppnogiaaGreatDoorPc2
import Derived.Test.YtkjolejppnogiaaGreatDoorPc4
import Derived.Test.YtkjolejppnogiaaGreatDoorPc6
import Derived.Test.YtkjolejppnogiaaGreatDoorPc8
import Derived.Test.YtkjolejppnogiaaGreatDoorPc10
import Derived.Test.YtkjolejppnogiaaGreatDoorPc12
import Derived.Test.YtkjolejppnogiaaGreatDoorPc14
open Go Go.Ev Go.Proofs
set_option maxRecDepth 100000
namespace Go.Snap
theorem last9 : ∃ C', goF E0 (regC E0) 10000000 F9 S9 C9 = some (.bool true, C') := by
  have h := piece9
  cases hg : goF E0 (regC E0) 10000000 F9 S9 C9 with
  | none => rw [hg] at h; cases h
  | some x =>
    obtain ⟨v, C'⟩ := x
    rw [hg] at h
    cases v <;> first | (cases h; done) | skip
    rename_i b
    cases b with
    | true => exact ⟨C', rfl⟩
    | false => cases h
theorem ends9 (w : World) : Go.Ev.Ends (withW E0 w) F9 S9 C9 (.bool true) := by
  obtain ⟨C', h⟩ := last9
  exact Go.Ev.Ends.out (StepS.last (envOK w) h)
theorem ends8 (w : World) : Go.Ev.Ends (withW E0 w) F8 S8 C8 (.bool true) := Go.Ev.Ends.step (StepS.piece (envOK w) piece8) (ends9 w)
theorem ends7 (w : World) : Go.Ev.Ends (withW E0 w) F7 S7 C7 (.bool true) := Go.Ev.Ends.step (StepS.piece (envOK w) piece7) (ends8 w)
theorem ends6 (w : World) : Go.Ev.Ends (withW E0 w) F6 S6 C6 (.bool true) := by
  refine Go.Ev.Ends.next (E := withW E0 w) (f := F6) (o := O6) (x := .tmp 38) rfl at6 op6 rfl want6 ok6 br6 ?_
  intro y hy
  simp only [List.mem_cons, List.not_mem_nil, or_false] at hy
  rcases hy with rfl
  · exact Go.Ev.Ends.cast to6_7 (ends7 w)
theorem ends5 (w : World) : Go.Ev.Ends (withW E0 w) F5 S5 C5 (.bool true) := Go.Ev.Ends.step (StepS.piece (envOK w) piece5) (ends6 w)
theorem ends4 (w : World) : Go.Ev.Ends (withW E0 w) F4 S4 C4 (.bool true) := by
  refine Go.Ev.Ends.next (E := withW E0 w) (f := F4) (o := O4) (x := .tmp 38) rfl at4 op4 rfl want4 ok4 br4 ?_
  intro y hy
  simp only [List.mem_cons, List.not_mem_nil, or_false] at hy
  rcases hy with rfl
  · exact Go.Ev.Ends.cast to4_5 (ends5 w)
theorem ends2 (w : World) : Go.Ev.Ends (withW E0 w) F2 S2 C2 (.bool true) := Go.Ev.Ends.step (StepS.piece (envOK w) piece2) (ends4 w)
theorem last15 : ∃ C', goF E0 (regC E0) 10000000 F15 S15 C15 = some (.bool true, C') := by
  have h := piece15
  cases hg : goF E0 (regC E0) 10000000 F15 S15 C15 with
  | none => rw [hg] at h; cases h
  | some x =>
    obtain ⟨v, C'⟩ := x
    rw [hg] at h
    cases v <;> first | (cases h; done) | skip
    rename_i b
    cases b with
    | true => exact ⟨C', rfl⟩
    | false => cases h
theorem ends15 (w : World) : Go.Ev.Ends (withW E0 w) F15 S15 C15 (.bool true) := by
  obtain ⟨C', h⟩ := last15
  exact Go.Ev.Ends.out (StepS.last (envOK w) h)
theorem ends14 (w : World) : Go.Ev.Ends (withW E0 w) F14 S14 C14 (.bool true) := Go.Ev.Ends.step (StepS.piece (envOK w) piece14) (ends15 w)
theorem ends13 (w : World) : Go.Ev.Ends (withW E0 w) F13 S13 C13 (.bool true) := Go.Ev.Ends.step (StepS.piece (envOK w) piece13) (ends14 w)
theorem ends12 (w : World) : Go.Ev.Ends (withW E0 w) F12 S12 C12 (.bool true) := by
  refine Go.Ev.Ends.next (E := withW E0 w) (f := F12) (o := O12) (x := .tmp 38) rfl at12 op12 rfl want12 ok12 br12 ?_
  intro y hy
  simp only [List.mem_cons, List.not_mem_nil, or_false] at hy
  rcases hy with rfl
  · exact Go.Ev.Ends.cast to12_13 (ends13 w)
theorem ends11 (w : World) : Go.Ev.Ends (withW E0 w) F11 S11 C11 (.bool true) := Go.Ev.Ends.step (StepS.piece (envOK w) piece11) (ends12 w)
theorem ends10 (w : World) : Go.Ev.Ends (withW E0 w) F10 S10 C10 (.bool true) := by
  refine Go.Ev.Ends.next (E := withW E0 w) (f := F10) (o := O10) (x := .tmp 38) rfl at10 op10 rfl want10 ok10 br10 ?_
  intro y hy
  simp only [List.mem_cons, List.not_mem_nil, or_false] at hy
  rcases hy with rfl
  · exact Go.Ev.Ends.cast to10_11 (ends11 w)
theorem ends3 (w : World) : Go.Ev.Ends (withW E0 w) F3 S3 C3 (.bool true) := Go.Ev.Ends.step (StepS.piece (envOK w) piece3) (ends10 w)
theorem ends1 (w : World) : Go.Ev.Ends (withW E0 w) F1 S1 C1 (.bool true) := by
  refine Go.Ev.Ends.next (E := withW E0 w) (f := F1) (o := O1) (x := .tmp 38) rfl at1 op1 rfl want1 ok1 br1 ?_
  intro y hy
  simp only [List.mem_cons, List.not_mem_nil, or_false] at hy
  rcases hy with rfl | rfl
  · exact Go.Ev.Ends.cast to1_2 (ends2 w)
  · exact Go.Ev.Ends.cast to1_3 (ends3 w)
theorem ends0 (w : World) : Go.Ev.Ends (withW E0 w) F0 S0 C0 (.bool true) := Go.Ev.Ends.step (StepS.piece (envOK w) piece0) (ends1 w)

/-- awake() returns true, in any world in which the two tables are laid; all that was there stays. -/
theorem awake_any (w : World) (hg : 13 ≤ w.heap.size) (ht : ∀ y ∈ tabs, y.1 < 13 ∧ ∀ i v, y.2[i]? = some v → w.cell? ⟨y.1, i, none⟩ = some v ∧ plainN 0 v = true) :
    Calls Tryz.prog 10 #[] w fun e w' => e = .returned (.bool true) ∧ RowKit.Below w.heap.size w w' := by
  have hR := rel_start (E := withW E0 w) rfl (fun _ _ h => h) hg tabs ht
  refine (calls_of_ends (E := withW E0 w) (K := ⟨fun b => b, fun _ => 0, startW 13 tabs⟩) enter10 (ends0 w) hR (RA.empty _)).mono fun e w' hh => ?_
  obtain ⟨K', v', h2, h3, h4, h5⟩ := hh
  cases h5
  exact ⟨h2, h3.below⟩
end Go.Snap
