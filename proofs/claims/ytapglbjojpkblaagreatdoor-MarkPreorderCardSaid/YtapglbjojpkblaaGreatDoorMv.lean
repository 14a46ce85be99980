/-
  Proved: pure facts on lists of marks of one kind (and none): the common kind, the number of better marks and the rank are the same in any order of the list; mark.Compare of two of them is one preorder. No assumption beyond those named.
-/
import Derived.Test.YtapglbjojpkblaaGreatDoorMu
set_option linter.unusedVariables false
set_option linter.unusedSimpArgs false
open Go Go.Proofs Go.RowKit
set_option maxRecDepth 100000
namespace Go.Mk
theorem comK_of_all (y : ByteArray) (L : List (ByteArray × Int × ByteArray)) : AllOf y L → ∀ c, (c = sNone ∨ c = y) → ∃ z, comK c L = (z, 0) ∧ (z = y ∨ (z = sNone ∧ c = sNone ∧ ∀ m ∈ L, m.1 = sNone)) := by
  induction L with
  | nil =>
    intro _ c hc
    refine ⟨c, rfl, ?_⟩
    rcases hc with rfl | rfl
    · exact .inr ⟨rfl, rfl, fun m hm => by cases hm⟩
    · exact .inl rfl
  | cons m l ih =>
    obtain ⟨s, v, r⟩ := m
    intro h c hc
    obtain ⟨h0, h1⟩ := h (s, v, r) List.mem_cons_self
    have hl : AllOf y l := fun m hm => h m (List.mem_cons_of_mem _ hm)
    unfold comK
    rw [if_neg (by simpa using h0)]
    by_cases hs : s = sNone
    · rw [if_pos hs]
      obtain ⟨z, e, hz⟩ := ih hl c hc
      refine ⟨z, e, ?_⟩
      rcases hz with hz | ⟨a, b, d⟩
      · exact .inl hz
      · refine .inr ⟨a, b, fun m hm => ?_⟩
        rcases List.mem_cons.1 hm with rfl | hm
        · exact hs
        · exact d m hm
    · rw [if_neg hs]
      have hsy : s = y := by
        rcases h1 with q | q
        · exact absurd q hs
        · exact q
      rw [if_neg (by
        rintro ⟨a, b⟩
        rcases hc with q | q
        · exact a q
        · exact b (q.trans hsy.symm))]
      obtain ⟨z, e, hz⟩ := ih hl s (.inr hsy)
      refine ⟨z, e, ?_⟩
      rcases hz with hz | ⟨_, b, _⟩
      · exact .inl hz
      · exact absurd b hs

theorem AllOf.perm {y : ByteArray} {L L' : List (ByteArray × Int × ByteArray)} (h : AllOf y L) (hp : L'.Perm L) : AllOf y L' := fun m hm => h m (hp.mem_iff.1 hm)

theorem comK_perm {y : ByteArray} {L L' : List (ByteArray × Int × ByteArray)} (h : comK sNone L = (y, 0)) (hp : L'.Perm L) : comK sNone L' = (y, 0) := by
  obtain ⟨z, e, hz⟩ := comK_of_all y L' ((comK_all L sNone y h).1.perm hp) sNone (.inl rfl)
  rcases hz with rfl | ⟨rfl, _, hn⟩
  · exact e
  · have hall : AllOf sNone L := fun m hm => ⟨((comK_all L sNone y h).1 m hm).1, .inl (hn m (hp.mem_iff.2 hm))⟩
    obtain ⟨z2, e2, hz2⟩ := comK_of_all sNone L hall sNone (.inl rfl)
    have hz3 : z2 = sNone := by
      rcases hz2 with q | ⟨q, _⟩ <;> exact q
    rw [h] at e2
    have hy : y = z2 := congrArg Prod.fst e2
    rw [e, hy, hz3]

theorem cntB_perm (b : Bool) (x : Int) {L L' : List (ByteArray × Int × ByteArray)} (hp : L'.Perm L) : cntB b x L' = cntB b x L := (hp.filter _).length_eq
theorem rankM_perm (b : Bool) {L L' : List (ByteArray × Int × ByteArray)} (hp : L'.Perm L) : rankM b L' = rankM b L := by
  funext m
  unfold rankM
  rw [cntB_perm b _ hp]
end Go.Mk
