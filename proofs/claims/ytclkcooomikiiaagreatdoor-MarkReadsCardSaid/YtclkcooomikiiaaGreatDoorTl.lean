/-
  Proved: how the reference's numbers of texts hang together with whole texts of digits: digits is -1 unless all are digits and there are 1 to 9 of them, and then it is the library's Atoi; so for front, without zeros ahead. No condition.
-/
import Derived.Test.YtclkcooomikiiaaGreatDoorTj
import Derived.Lib.Atoi
set_option linter.unusedVariables false
set_option linter.unusedSimpArgs false
open Go Go.Proofs Go.RowKit
set_option maxRecDepth 100000
namespace Go.Mk
theorem digL_all (l : List UInt8) (m : Nat) : (l.all dgt = true ∧ ∃ r : Nat, Lib.decFrom m l = some r ∧ digL m l = r) ∨ (l.all dgt = false ∧ digL m l = -1) := by
  induction l generalizing m with
  | nil => exact .inl ⟨rfl, m, rfl, rfl⟩
  | cons b l ih =>
    rw [digL, List.all_cons]
    by_cases hb : b.toNat < 48 ∨ 57 < b.toNat
    · rw [if_pos hb]
      refine .inr ⟨?_, rfl⟩
      have : dgt b = false := by
        unfold dgt
        rcases hb with h | h
        · rw [decide_eq_false (by omega), Bool.false_and]
        · rw [decide_eq_false (show ¬ b.toNat ≤ 57 by omega), Bool.and_false]
      rw [this, Bool.false_and]
    · rw [if_neg hb]
      have hd : dgt b = true := by unfold dgt; rw [decide_eq_true (by omega), decide_eq_true (by omega)]; rfl
      rw [hd, Bool.true_and]
      have e : (10 * (m : Int) + ((b.toNat : Int) - 48)) = ((m * 10 + (b.toNat - 48) : Nat) : Int) := by omega
      rw [e]
      have := ih (m * 10 + (b.toNat - 48))
      rcases this with ⟨h1, r, h2, h3⟩ | h
      · refine .inl ⟨h1, r, ?_, h3⟩
        rw [← h2, Lib.decFrom, show Lib.digitVal b = some (b.toNat - 48) from if_pos (by omega)]
      · exact .inr h
theorem atoi_digits (l : List UInt8) (h : l.all dgt = true) (h0 : l ≠ []) : Lib.atoi l = (Lib.decFrom 0 l).map fun (m : Nat) => (m : Int) := by
  cases l with
  | nil => exact absurd rfl h0
  | cons b r =>
    rw [List.all_cons] at h
    have hb : dgt b = true := (Bool.and_eq_true _ _ ▸ h).1
    have hb1 : 48 ≤ b.toNat := of_decide_eq_true (Bool.and_eq_true _ _ ▸ hb).1
    have n1 : (b == 45) = false := by
      rw [beq_eq_false_iff_ne]; intro e; rw [e] at hb1; exact absurd hb1 (by decide)
    have n2 : (b == 43) = false := by
      rw [beq_eq_false_iff_ne]; intro e; rw [e] at hb1; exact absurd hb1 (by decide)
    rw [Lib.atoi, n1, n2]
    rfl
/-- The reference's number of a text: -1 unless it is 1 to 9 digits; then it is what Atoi reads. -/
theorem digits_is (s : ByteArray) : (isDig s = true ∧ s.size ≤ 9 ∧ ∃ r : Nat, digits s = r ∧ Lib.atoi s.data.toList = some (r : Int)) ∨ ((isDig s = false ∨ 9 < s.size) ∧ digits s = -1) := by
  have hl : s.data.toList.length = s.size := Array.length_toList
  unfold digits
  by_cases hb : s.size = 0 ∨ 9 < s.size
  · rw [if_pos hb]
    refine .inr ⟨?_, rfl⟩
    rcases hb with h | h
    · left; unfold isDig; rw [h]; simp
    · exact .inr h
  · rw [if_neg hb]
    rcases digL_all s.data.toList 0 with ⟨h1, r, h2, h3⟩ | ⟨h1, h2⟩
    · refine .inl ⟨?_, by omega, r, h3, ?_⟩
      · unfold isDig; rw [h1, decide_eq_true (by omega)]; rfl
      · rw [atoi_digits _ h1 (fun e => by rw [e] at hl; simp at hl; omega), h2]; rfl
    · refine .inr ⟨.inl ?_, h2⟩
      unfold isDig; rw [h1, Bool.false_and]
theorem toList_is (s : ByteArray) : s.toList = s.data.toList := ByteArray.toList_eq ..
/-- The same for a number without zeros ahead. -/
theorem front_is (s : ByteArray) : (isInt s = true ∧ s.size ≤ 9 ∧ ∃ r : Nat, front s = r ∧ Lib.atoi s.data.toList = some (r : Int)) ∨ ((isInt s = false ∨ 9 < s.size) ∧ front s = -1) := by
  have hl : s.data.toList.length = s.size := Array.length_toList
  unfold front isInt
  rw [toList_is]
  by_cases hz : s.data.toList.head? = some 48
  · by_cases h1 : 1 < s.size
    · rw [if_pos ⟨h1, hz⟩]
      refine .inr ⟨.inl ?_, rfl⟩
      have : (s.data.toList == [48]) = false := by
        rw [beq_eq_false_iff_ne]; intro e; rw [e] at hl; simp at hl; omega
      rw [this, hz]
      simp
    · rw [if_neg (fun h => h1 h.1)]
      have h48 : s.data.toList = [48] := by
        cases hs : s.data.toList with
        | nil => rw [hs] at hz; cases hz
        | cons a l =>
          rw [hs] at hz hl
          simp at hz hl
          have : l = [] := List.eq_nil_of_length_eq_zero (by omega)
          rw [this, hz]
      have : (s.data.toList == [48]) = true := by rw [h48]; rfl
      rw [this, Bool.true_or, Bool.and_true]
      exact digits_is s
  · rw [if_neg (fun h => hz h.2)]
    have : (s.data.toList.head? == some 48) = false := by rw [beq_eq_false_iff_ne]; exact hz
    rw [this]
    simp only [Bool.not_false, Bool.or_true, Bool.and_true]
    exact digits_is s
end Go.Mk
