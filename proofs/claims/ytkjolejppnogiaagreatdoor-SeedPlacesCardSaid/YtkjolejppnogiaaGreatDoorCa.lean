/-
  Proved: mark.Compare returns what the plain function cmpM says, for all marks. Condition: the heap holds the program's variables.
-/
import Derived.Test.YtkjolejppnogiaaGreatDoorCq
set_option linter.unusedVariables false
set_option linter.unusedSimpArgs false
open Go Go.Proofs Go.RowKit
set_option maxRecDepth 100000
namespace Go.Mk
theorem none_beq (s : ByteArray) : (s.toList == [110, 111, 110, 101]) = decide (s = sNone) := by
  have e : sNone.toList = [110, 111, 110, 101] := by rw [ByteArray.toList_eq]; rfl
  rw [← e]
  by_cases h : s = sNone
  · subst h; simp
  · rw [tl_ne h]; simp [h]
theorem chk_kind (s : ByteArray) (v : Int) (r : ByteArray) (h : chk s v r = 0) : s = sNone ∨ s = sTime ∨ s = sLength ∨ s = sPoints := by
  unfold chk at h
  by_cases h1 : s = sNone
  · exact .inl h1
  · by_cases h2 : s = sTime
    · exact .inr (.inl h2)
    · by_cases h3 : s = sLength
      · exact .inr (.inr (.inl h3))
      · by_cases h4 : s = sPoints
        · exact .inr (.inr (.inr h4))
        · simp [h1, h2, h3, h4] at h

/-- The order of two marks, and the first error. -/
def cmpM (s1 : ByteArray) (v1 : Int) (r1 s2 : ByteArray) (v2 : Int) (r2 : ByteArray) : Int × Int :=
  if fst2 (chk s1 v1 r1) (chk s2 v2 r2) ≠ 0 then (0, fst2 (chk s1 v1 r1) (chk s2 v2 r2))
  else if s1 = s2 then (cmpv (decide (s1 = sTime)) v1 v2, 0)
  else if s2 = sNone then (-1, 0)
  else if s1 = sNone then (1, 0)
  else (0, 13)

theorem Compare_any (s1 r1 s2 r2 : ByteArray) (v1 v2 : Int) (w : World) (hg : 13 ≤ w.heap.size) :
    Calls Tryz.prog 69 #[.agg #[.string s1, .int .i64 v1, .string r1], .agg #[.string s2, .int .i64 v2, .string r2]] w (RetPost (.tuple #[.int .i64 (cmpM s1 v1 r1 s2 v2 r2).1, .int .i64 (cmpM s1 v1 r1 s2 v2 r2).2]) w) := by
  unfold cmpM
  by_cases he : fst2 (chk s1 v1 r1) (chk s2 v2 r2) = 0
  · rw [if_neg (by simp [he])]
    by_cases hs : s1 = s2
    · subst hs
      rw [if_pos rfl]
      have h1 : chk s1 v1 r1 = 0 := by
        unfold fst2 at he
        split at he
        · assumption
        · contradiction
      rcases chk_kind s1 v1 r1 h1 with rfl | rfl | rfl | rfl
      · rw [show decide (sNone = sTime) = false by decide]
        exact Compare_greater sNone r1 r2 v1 v2 w hg he _ _ _ _ _ _ entryNone
      · rw [show decide (sTime = sTime) = true by decide]
        exact Compare_less sTime r1 r2 v1 v2 w hg he _ _ _ _ _ _ entryTime
      · rw [show decide (sLength = sTime) = false by decide]
        exact Compare_greater sLength r1 r2 v1 v2 w hg he _ _ _ _ _ _ entryLength
      · rw [show decide (sPoints = sTime) = false by decide]
        exact Compare_greater sPoints r1 r2 v1 v2 w hg he _ _ _ _ _ _ entryPoints
    · rw [if_neg hs]
      by_cases h2 : s2 = sNone
      · rw [if_pos h2]
        exact Compare_second s1 r1 s2 r2 v1 v2 w hg he (tl_ne hs) (by rw [none_beq]; simp [h2])
      · rw [if_neg h2]
        by_cases h3 : s1 = sNone
        · rw [if_pos h3]
          exact Compare_first s1 r1 s2 r2 v1 v2 w hg he (tl_ne hs) (by rw [none_beq]; simp [h2]) (by rw [none_beq]; simp [h3])
        · rw [if_neg h3]
          exact Compare_apart s1 r1 s2 r2 v1 v2 w hg he (tl_ne hs) (by rw [none_beq]; simp [h2]) (by rw [none_beq]; simp [h3])
  · rw [if_pos he]
    exact Compare_bad s1 r1 s2 r2 v1 v2 _ w hg rfl he
end Go.Mk
