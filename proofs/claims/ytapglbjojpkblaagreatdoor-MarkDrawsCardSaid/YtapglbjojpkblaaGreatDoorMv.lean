/-
  Proved: pure facts on lists of marks of one kind (and none): the common kind, the number of better marks and the rank are the same in any order of the list; mark.Compare of two of them is one preorder. No assumption beyond those named.
  Proved: mark.Compare of two marks of one list without error is one preorder `cm`, with those of the kind none behind all; ranks go with it. Conditions: all marks are valid, and of one kind or none.
-/
import Derived.Test.YtapglbjojpkblaaGreatDoorMu
section
set_option linter.unusedVariables false
set_option linter.unusedSimpArgs false
open Go Go.Proofs Go.RowKit
set_option maxRecDepth 100000
namespace Go.Mk
theorem comK_of_all (y : ByteArray) (L : List (ByteArray × Int × ByteArray)) : AllOf y L → ∀ c, (c = sNone ∨ c = y) → ∃ z, comK c L = (z, 0) ∧ (z = y ∨ (z = sNone ∧ c = sNone ∧ ∀ m ∈ L, m.1 = sNone)) := by
  induction L with
  | nil =>
    intro _ c hc
    refine ⟨c, rfl, ?_⟩
    rcases hc with rfl | rfl
    · exact .inr ⟨rfl, rfl, fun m hm => by cases hm⟩
    · exact .inl rfl
  | cons m l ih =>
    obtain ⟨s, v, r⟩ := m
    intro h c hc
    obtain ⟨h0, h1⟩ := h (s, v, r) List.mem_cons_self
    have hl : AllOf y l := fun m hm => h m (List.mem_cons_of_mem _ hm)
    unfold comK
    rw [if_neg (by simpa using h0)]
    by_cases hs : s = sNone
    · rw [if_pos hs]
      obtain ⟨z, e, hz⟩ := ih hl c hc
      refine ⟨z, e, ?_⟩
      rcases hz with hz | ⟨a, b, d⟩
      · exact .inl hz
      · refine .inr ⟨a, b, fun m hm => ?_⟩
        rcases List.mem_cons.1 hm with rfl | hm
        · exact hs
        · exact d m hm
    · rw [if_neg hs]
      have hsy : s = y := by
        rcases h1 with q | q
        · exact absurd q hs
        · exact q
      rw [if_neg (by
        rintro ⟨a, b⟩
        rcases hc with q | q
        · exact a q
        · exact b (q.trans hsy.symm))]
      obtain ⟨z, e, hz⟩ := ih hl s (.inr hsy)
      refine ⟨z, e, ?_⟩
      rcases hz with hz | ⟨_, b, _⟩
      · exact .inl hz
      · exact absurd b hs

theorem AllOf.perm {y : ByteArray} {L L' : List (ByteArray × Int × ByteArray)} (h : AllOf y L) (hp : L'.Perm L) : AllOf y L' := fun m hm => h m (hp.mem_iff.1 hm)

theorem comK_perm {y : ByteArray} {L L' : List (ByteArray × Int × ByteArray)} (h : comK sNone L = (y, 0)) (hp : L'.Perm L) : comK sNone L' = (y, 0) := by
  obtain ⟨z, e, hz⟩ := comK_of_all y L' ((comK_all L sNone y h).1.perm hp) sNone (.inl rfl)
  rcases hz with rfl | ⟨rfl, _, hn⟩
  · exact e
  · have hall : AllOf sNone L := fun m hm => ⟨((comK_all L sNone y h).1 m hm).1, .inl (hn m (hp.mem_iff.2 hm))⟩
    obtain ⟨z2, e2, hz2⟩ := comK_of_all sNone L hall sNone (.inl rfl)
    have hz3 : z2 = sNone := by
      rcases hz2 with q | ⟨q, _⟩ <;> exact q
    rw [h] at e2
    have hy : y = z2 := congrArg Prod.fst e2
    rw [e, hy, hz3]

theorem cntB_perm (b : Bool) (x : Int) {L L' : List (ByteArray × Int × ByteArray)} (hp : L'.Perm L) : cntB b x L' = cntB b x L := (hp.filter _).length_eq
theorem rankM_perm (b : Bool) {L L' : List (ByteArray × Int × ByteArray)} (hp : L'.Perm L) : rankM b L' = rankM b L := by
  funext m
  unfold rankM
  rw [cntB_perm b _ hp]
end Go.Mk
end
section
set_option linter.unusedVariables false
set_option linter.unusedSimpArgs false
open Go Go.Proofs Go.RowKit
set_option maxRecDepth 100000
namespace Go.Mk
abbrev M := ByteArray × Int × ByteArray
/-- How two marks of one list compare. -/
def cm (b : Bool) (m1 m2 : M) : Int := if m1.1 = sNone then (if m2.1 = sNone then 0 else 1) else if m2.1 = sNone then -1 else cmpv b m1.2.1 m2.2.1
theorem cmpv_self (b : Bool) (x : Int) : cmpv b x x = 0 := by unfold cmpv; rw [if_pos rfl]
theorem cmpM_all {y : ByteArray} {L : List M} (h : AllOf y L) {b : Bool} (hb : y ≠ sNone → decide (y = sTime) = b) {m1 m2 : M} (h1 : m1 ∈ L) (h2 : m2 ∈ L) :
    cmpM m1.1 m1.2.1 m1.2.2 m2.1 m2.2.1 m2.2.2 = (cm b m1 m2, 0) := by
  obtain ⟨a0, a1⟩ := h m1 h1
  obtain ⟨b0, b1⟩ := h m2 h2
  unfold cmpM cm
  rw [if_neg (by unfold fst2; simp [a0, b0])]
  by_cases n1 : m1.1 = sNone
  · rw [if_pos n1]
    by_cases n2 : m2.1 = sNone
    · rw [if_pos n2, if_pos (n1.trans n2.symm)]
      have v1 : m1.2.1 = 0 := by
        unfold chk at a0
        rw [if_pos n1] at a0
        split at a0
        · split at a0 <;> first | omega | (exact absurd a0 (by decide))
        · exact absurd a0 (by decide)
      have v2 : m2.2.1 = 0 := by
        unfold chk at b0
        rw [if_pos n2] at b0
        split at b0
        · split at b0 <;> first | omega | (exact absurd b0 (by decide))
        · exact absurd b0 (by decide)
      rw [v1, v2, cmpv_self, if_pos n1, if_pos n2]
    · rw [if_neg n2, if_neg (fun q => n2 (q.symm.trans n1)), if_neg n2, if_pos n1]
  · rw [if_neg n1]
    have e1 : m1.1 = y := by
      rcases a1 with q | q
      · exact absurd q n1
      · exact q
    by_cases n2 : m2.1 = sNone
    · rw [if_pos n2, if_neg (fun q => n1 (q.trans n2)), if_pos n2, if_neg n1, if_pos n2]
    · rw [if_neg n2]
      have e2 : m2.1 = y := by
        rcases b1 with q | q
        · exact absurd q n2
        · exact q
      have ny : y ≠ sNone := fun q => n1 (e1.trans q)
      rw [if_pos (e1.trans e2.symm), e1, hb ny, if_neg ny, if_neg n2]

theorem cmpv_cases (b : Bool) (x z : Int) : (betterB b x z = true ∧ betterB b z x = false ∧ cmpv b x z = -1) ∨ (x = z ∧ betterB b x z = false ∧ betterB b z x = false ∧ cmpv b x z = 0) ∨ (betterB b z x = true ∧ betterB b x z = false ∧ cmpv b x z = 1) := by
  cases b with
  | true =>
    rcases cmpv_t x z with ⟨h, e⟩ | ⟨h, e⟩ | ⟨h, e⟩
    · exact .inl ⟨by simp [betterB, h], by simp [betterB]; omega, e⟩
    · exact .inr (.inl ⟨h, by simp [betterB]; omega, by simp [betterB]; omega, e⟩)
    · exact .inr (.inr ⟨by simp [betterB, h], by simp [betterB]; omega, e⟩)
  | false =>
    rcases cmpv_f x z with ⟨h, e⟩ | ⟨h, e⟩ | ⟨h, e⟩
    · exact .inl ⟨by simp [betterB, h], by simp [betterB]; omega, e⟩
    · exact .inr (.inl ⟨h, by simp [betterB]; omega, by simp [betterB]; omega, e⟩)
    · exact .inr (.inr ⟨by simp [betterB, h], by simp [betterB]; omega, e⟩)

theorem cm_neg (b : Bool) (m1 m2 : M) : cm b m1 m2 = -cm b m2 m1 := by
  unfold cm
  by_cases h1 : m1.1 = sNone <;> by_cases h2 : m2.1 = sNone <;> simp only [h1, h2, if_true, if_false] <;> try rfl
  rcases cmpv_cases b m1.2.1 m2.2.1 with ⟨p, q, e⟩ | ⟨p, _, _, e⟩ | ⟨p, q, e⟩ <;> rcases cmpv_cases b m2.2.1 m1.2.1 with ⟨p', q', e'⟩ | ⟨p', u, v, e'⟩ | ⟨p', q', e'⟩ <;> rw [e, e'] <;> first | rfl | (exfalso; first | (rw [p] at q'; cases q') | (rw [p'] at q; cases q) | (rw [p] at v; cases v) | (rw [p] at u; cases u) | (rw [p'] at *; simp_all))
theorem cm_range (b : Bool) (m1 m2 : M) : cm b m1 m2 = -1 ∨ cm b m1 m2 = 0 ∨ cm b m1 m2 = 1 := by
  unfold cm
  split
  · split
    · exact .inr (.inl rfl)
    · exact .inr (.inr rfl)
  · split
    · exact .inl rfl
    · rcases cmpv_cases b m1.2.1 m2.2.1 with ⟨_, _, e⟩ | ⟨_, _, _, e⟩ | ⟨_, _, e⟩ <;> rw [e] <;> simp
theorem cm_trans (b : Bool) (m1 m2 m3 : M) (h : cm b m1 m2 ≤ 0) (k : cm b m2 m3 ≤ 0) : cm b m1 m3 ≤ 0 := by
  unfold cm at *
  by_cases h1 : m1.1 = sNone <;> by_cases h2 : m2.1 = sNone <;> by_cases h3 : m3.1 = sNone <;> simp only [h1, h2, h3, if_true, if_false] at h k ⊢ <;> try omega
  cases b with
  | true => rcases cmpv_t m1.2.1 m2.2.1 with a | a | a <;> rcases cmpv_t m2.2.1 m3.2.1 with c | c | c <;> rcases cmpv_t m1.2.1 m3.2.1 with d | d | d <;> omega
  | false => rcases cmpv_f m1.2.1 m2.2.1 with a | a | a <;> rcases cmpv_f m2.2.1 m3.2.1 with c | c | c <;> rcases cmpv_f m1.2.1 m3.2.1 with d | d | d <;> omega
/-- The better ones than a mark that is not of the kind none. -/
theorem isBetter_cm (b : Bool) (m1 m2 : M) (h : m2.1 ≠ sNone) : isBetter b m2.2.1 m1 = decide (cm b m1 m2 < 0) := by
  unfold isBetter cm
  rw [none_beq, if_neg h]
  by_cases h1 : m1.1 = sNone
  · rw [if_pos h1]; simp [h1]
  · rw [if_neg h1, if_neg h]
    rcases cmpv_cases b m1.2.1 m2.2.1 with ⟨p, _, e⟩ | ⟨_, p, _, e⟩ | ⟨_, p, e⟩ <;> rw [e, p] <;> simp [h1]
theorem cntB_mono (b : Bool) (x z : Int) (L : List M) (h : ∀ m ∈ L, isBetter b x m = true → isBetter b z m = true) : cntB b x L ≤ cntB b z L := by
  induction L with
  | nil => exact Nat.le_refl _
  | cons m l ih =>
    have := ih fun q hq => h q (List.mem_cons_of_mem _ hq)
    have hm := h m List.mem_cons_self
    unfold cntB at *
    simp only [List.filter_cons]
    by_cases h1 : isBetter b x m = true
    · rw [if_pos h1, if_pos (hm h1)]; simp only [List.length_cons]; omega
    · rw [if_neg h1]
      split
      · simp only [List.length_cons]; omega
      · exact this
theorem cntB_lt (b : Bool) (x z : Int) (L : List M) (h : ∀ m ∈ L, isBetter b x m = true → isBetter b z m = true) (q : M) (hq : q ∈ L) (h1 : isBetter b x q = false) (h2 : isBetter b z q = true) : cntB b x L < cntB b z L := by
  induction L with
  | nil => cases hq
  | cons m l ih =>
    have hm := h m List.mem_cons_self
    have hl := fun u hu => h u (List.mem_cons_of_mem _ hu)
    rcases List.mem_cons.1 hq with rfl | hq'
    · have := cntB_mono b x z l hl
      unfold cntB at *
      simp only [List.filter_cons, h1, h2, if_true, List.length_cons]
      simp
      omega
    · have := ih hl hq'
      unfold cntB at *
      simp only [List.filter_cons]
      by_cases g : isBetter b x m = true
      · rw [if_pos g, if_pos (hm g)]; simp only [List.length_cons]; omega
      · rw [if_neg g]
        split
        · simp only [List.length_cons]; omega
        · exact this
/-- Of two marks that are not of the kind none the better one has the lesser rank. -/
theorem rank_lt (b : Bool) (L : List M) (m1 m2 : M) (h1 : m1 ∈ L) (h2 : m2 ∈ L) (n1 : m1.1 ≠ sNone) (n2 : m2.1 ≠ sNone) : cm b m1 m2 < 0 ↔ rankM b L m1 < rankM b L m2 := by
  have r1 : rankM b L m1 = 1 + cntB b m1.2.1 L := by unfold rankM; rw [none_beq]; simp [n1]
  have r2 : rankM b L m2 = 1 + cntB b m2.2.1 L := by unfold rankM; rw [none_beq]; simp [n2]
  rw [r1, r2]
  constructor
  · intro h
    have := cntB_lt b m1.2.1 m2.2.1 L (fun m hm g => by
      rw [isBetter_cm b m m1 n1, decide_eq_true_eq] at g
      rw [isBetter_cm b m m2 n2, decide_eq_true_eq]
      have t := cm_trans b m m1 m2 (by omega) (by omega)
      refine Classical.byContradiction fun hc => ?_
      have t2 := cm_trans b m1 m2 m (by omega) (by rw [cm_neg]; omega)
      rw [cm_neg] at t2
      omega) m1 h1 (by rw [isBetter_cm b m1 m1 n1]; have := cm_neg b m1 m1; simp; omega) (by rw [isBetter_cm b m1 m2 n2]; simpa using h)
    omega
  · intro h
    refine Classical.byContradiction fun hc => ?_
    have hk : cm b m2 m1 ≤ 0 := by rw [cm_neg]; omega
    have := cntB_mono b m2.2.1 m1.2.1 L (fun m hm g => by
      rw [isBetter_cm b m m2 n2, decide_eq_true_eq] at g
      rw [isBetter_cm b m m1 n1, decide_eq_true_eq]
      refine Classical.byContradiction fun hc => ?_
      have t2 := cm_trans b m2 m1 m hk (by rw [cm_neg]; omega)
      rw [cm_neg] at t2
      omega)
    omega
end Go.Mk
end
