/-
  Proved: awake returns true and leaves all that was there. Condition: the two tables that it reads lie where the program lays them.
-/
import Derived.Test.YtccgahkoekcefaaGreatDoorEvC
import Derived.Test.YtccgahkoekcefaaGreatDoorAwE
import Derived.Test.YtccgahkoekcefaaGreatDoorPc0
import Derived.Test.YtccgahkoekcefaaGreatDoorPc2
import Derived.Test.YtccgahkoekcefaaGreatDoorPc4
import Derived.Test.YtccgahkoekcefaaGreatDoorPc6
import Derived.Test.YtccgahkoekcefaaGreatDoorPc8
import Derived.Test.YtccgahkoekcefaaGreatDoorPc10
import Derived.Test.YtccgahkoekcefaaGreatDoorPc12
open Go Go.Ev Go.Proofs
set_option maxRecDepth 100000
namespace Go.Snap
theorem last8 : ∃ C', goF E0 (regC E0) 10000000 F8 S8 C8 = some (.bool true, C') := by
  have h := piece8
  cases hg : goF E0 (regC E0) 10000000 F8 S8 C8 with
  | none => rw [hg] at h; cases h
  | some x =>
    obtain ⟨v, C'⟩ := x
    rw [hg] at h
    cases v <;> first | (cases h; done) | skip
    rename_i b
    cases b with
    | true => exact ⟨C', rfl⟩
    | false => cases h
theorem ends8 (w : World) : Go.Ev.Ends (withW E0 w) F8 S8 C8 (.bool true) := by
  obtain ⟨C', h⟩ := last8
  exact Go.Ev.Ends.out (StepS.last (envOK w) h)
theorem ends7 (w : World) : Go.Ev.Ends (withW E0 w) F7 S7 C7 (.bool true) := Go.Ev.Ends.step (StepS.piece (envOK w) piece7) (ends8 w)
theorem ends6 (w : World) : Go.Ev.Ends (withW E0 w) F6 S6 C6 (.bool true) := by
  refine Go.Ev.Ends.next (E := withW E0 w) (f := F6) (o := O6) (x := .tmp 38) rfl at6 op6 rfl want6 ok6 br6 ?_
  intro y hy
  simp only [List.mem_cons, List.not_mem_nil, or_false] at hy
  rcases hy with rfl
  · exact Go.Ev.Ends.cast to6_7 (ends7 w)
theorem ends5 (w : World) : Go.Ev.Ends (withW E0 w) F5 S5 C5 (.bool true) := Go.Ev.Ends.step (StepS.piece (envOK w) piece5) (ends6 w)
theorem ends4 (w : World) : Go.Ev.Ends (withW E0 w) F4 S4 C4 (.bool true) := by
  refine Go.Ev.Ends.next (E := withW E0 w) (f := F4) (o := O4) (x := .tmp 38) rfl at4 op4 rfl want4 ok4 br4 ?_
  intro y hy
  simp only [List.mem_cons, List.not_mem_nil, or_false] at hy
  rcases hy with rfl
  · exact Go.Ev.Ends.cast to4_5 (ends5 w)
theorem ends2 (w : World) : Go.Ev.Ends (withW E0 w) F2 S2 C2 (.bool true) := Go.Ev.Ends.step (StepS.piece (envOK w) piece2) (ends4 w)
theorem last13 : ∃ C', goF E0 (regC E0) 10000000 F13 S13 C13 = some (.bool true, C') := by
  have h := piece13
  cases hg : goF E0 (regC E0) 10000000 F13 S13 C13 with
  | none => rw [hg] at h; cases h
  | some x =>
    obtain ⟨v, C'⟩ := x
    rw [hg] at h
    cases v <;> first | (cases h; done) | skip
    rename_i b
    cases b with
    | true => exact ⟨C', rfl⟩
    | false => cases h
theorem ends13 (w : World) : Go.Ev.Ends (withW E0 w) F13 S13 C13 (.bool true) := by
  obtain ⟨C', h⟩ := last13
  exact Go.Ev.Ends.out (StepS.last (envOK w) h)
theorem ends12 (w : World) : Go.Ev.Ends (withW E0 w) F12 S12 C12 (.bool true) := Go.Ev.Ends.step (StepS.piece (envOK w) piece12) (ends13 w)
theorem ends11 (w : World) : Go.Ev.Ends (withW E0 w) F11 S11 C11 (.bool true) := by
  refine Go.Ev.Ends.next (E := withW E0 w) (f := F11) (o := O11) (x := .tmp 38) rfl at11 op11 rfl want11 ok11 br11 ?_
  intro y hy
  simp only [List.mem_cons, List.not_mem_nil, or_false] at hy
  rcases hy with rfl
  · exact Go.Ev.Ends.cast to11_12 (ends12 w)
theorem ends10 (w : World) : Go.Ev.Ends (withW E0 w) F10 S10 C10 (.bool true) := Go.Ev.Ends.step (StepS.piece (envOK w) piece10) (ends11 w)
theorem ends9 (w : World) : Go.Ev.Ends (withW E0 w) F9 S9 C9 (.bool true) := by
  refine Go.Ev.Ends.next (E := withW E0 w) (f := F9) (o := O9) (x := .tmp 38) rfl at9 op9 rfl want9 ok9 br9 ?_
  intro y hy
  simp only [List.mem_cons, List.not_mem_nil, or_false] at hy
  rcases hy with rfl
  · exact Go.Ev.Ends.cast to9_10 (ends10 w)
theorem ends3 (w : World) : Go.Ev.Ends (withW E0 w) F3 S3 C3 (.bool true) := Go.Ev.Ends.step (StepS.piece (envOK w) piece3) (ends9 w)
theorem ends1 (w : World) : Go.Ev.Ends (withW E0 w) F1 S1 C1 (.bool true) := by
  refine Go.Ev.Ends.next (E := withW E0 w) (f := F1) (o := O1) (x := .tmp 38) rfl at1 op1 rfl want1 ok1 br1 ?_
  intro y hy
  simp only [List.mem_cons, List.not_mem_nil, or_false] at hy
  rcases hy with rfl | rfl
  · exact Go.Ev.Ends.cast to1_2 (ends2 w)
  · exact Go.Ev.Ends.cast to1_3 (ends3 w)
theorem ends0 (w : World) : Go.Ev.Ends (withW E0 w) F0 S0 C0 (.bool true) := Go.Ev.Ends.step (StepS.piece (envOK w) piece0) (ends1 w)

theorem awake_any (w : World) (hg : 13 ≤ w.heap.size) (ht : ∀ y ∈ tabs, y.1 < 13 ∧ ∀ i v, y.2[i]? = some v → w.cell? ⟨y.1, i, none⟩ = some v ∧ plainN 0 v = true) :
    Calls Tryz.prog 9 #[] w fun e w' => e = .returned (.bool true) ∧ RowKit.Below w.heap.size w w' := by
  have hR := rel_start (E := withW E0 w) rfl (fun _ _ h => h) hg tabs ht
  refine (calls_of_ends (E := withW E0 w) (K := ⟨fun b => b, fun _ => 0, startW 13 tabs⟩) enter9 (ends0 w) hR (RA.empty _)).mono fun e w' hh => ?_
  obtain ⟨K', v', h2, h3, h4, h5⟩ := hh
  cases h5
  exact ⟨h2, h3.below⟩
end Go.Snap
