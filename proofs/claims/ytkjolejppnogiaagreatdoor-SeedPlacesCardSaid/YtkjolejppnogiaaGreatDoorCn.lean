/-
  Proved: mark.CheckMark returns the first error of a mark, for every mark. Condition: the heap holds the program's variables.
-/
import Derived.Test.YtkjolejppnogiaaGreatDoorCm
import Derived.Deep.RegionWith
import Derived.StillTailTactics
import Derived.Deep.RegionHeld3
set_option linter.unusedVariables false
set_option linter.unusedSimpArgs false
open Go Go.Proofs Go.RowKit
set_option maxRecDepth 100000
namespace Go.Mk
/-- The first error of a mark. -/
def chk (s : ByteArray) (v : Int) (r : ByteArray) : Int :=
  if s = sNone then (if isR r then (if v < 0 ∨ 0 < v then 3 else 0) else 1)
  else if s = sTime then (if r.toList.isEmpty then (if v < 1 ∨ 863999999 < v then 3 else 0) else 1)
  else if s = sLength then (if r.toList.isEmpty then (if v < 0 ∨ 999999 < v then 3 else 0) else 1)
  else if s = sPoints then (if r.toList.isEmpty then (if v < 0 ∨ 99999 < v then 3 else 0) else 1)
  else 13

theorem sTN : sTime ≠ sNone := by decide
theorem sLN : sLength ≠ sNone := by decide
theorem sPN : sPoints ≠ sNone := by decide
theorem sLT : sLength ≠ sTime := by decide
theorem sPT : sPoints ≠ sTime := by decide
theorem sPL : sPoints ≠ sLength := by decide

theorem checkMark_any (s r : ByteArray) (v : Int) (B : Nat) (w : World) (hK : Kinds w B) :
    Calls Tryz.prog 108 #[.map (some B), .agg #[.string s, .int .i64 v, .string r]] w (CkPost (chk s v r) w) := by
  unfold chk
  by_cases h1 : s = sNone
  · rw [if_pos h1]; subst h1
    exact checkMark_reason sNone r v B w hK _ _ _ _ _ _ entryNone (isR r) rfl _ rfl
  · rw [if_neg h1]
    by_cases h2 : s = sTime
    · rw [if_pos h2]; subst h2
      exact checkMark_empty sTime r v B w hK _ _ _ _ _ _ entryTime r.toList.isEmpty rfl _ rfl
    · rw [if_neg h2]
      by_cases h3 : s = sLength
      · rw [if_pos h3]; subst h3
        exact checkMark_empty sLength r v B w hK _ _ _ _ _ _ entryLength r.toList.isEmpty rfl _ rfl
      · rw [if_neg h3]
        by_cases h4 : s = sPoints
        · rw [if_pos h4]; subst h4
          exact checkMark_empty sPoints r v B w hK _ _ _ _ _ _ entryPoints r.toList.isEmpty rfl _ rfl
        · rw [if_neg h4]
          exact checkMark_other s r v B w hK (entryOther s h2 h3 h4 h1)

set_option maxHeartbeats 400000 in
theorem CheckMark_any (s r : ByteArray) (v : Int) (w : World) (hg : 13 ≤ w.heap.size) :
    Calls Tryz.prog 104 #[.agg #[.string s, .int .i64 v, .string r]] w (CkPost (chk s v r) w) := by
  obtain ⟨n, hn⟩ : ∃ n, chk s v r = n := ⟨_, rfl⟩
  have hc : ∀ B w, Kinds w B → Calls Tryz.prog 108 #[.map (some B), .agg #[.string s, .int .i64 v, .string r]] w (CkPost n w) := fun B w hK => by rw [← hn]; exact checkMark_any s r v B w hK
  rw [hn]
  clear hn
  go_enter Tryz.func104, Tryz.ntmps104
  go_wp2_with fail
  go_region_with (first | (go_at_call 106; refine (kinds_any _ (by simp; omega)).mono ?_; rintro e w1 ⟨B, rfl, hB, hK, hb1⟩; obtain ⟨hcl, hfr⟩ := bcell hb1) | (go_at_call 108; refine (hc _ _ (by assumption)).mono ?_; rintro e w2 ⟨rfl, hb2⟩))
  all_goals
    have hs1 := hb1.size
    have hb3 := ((((Below.refl w.heap.size w).alloc (Nat.le_refl _) _).drew).trans (hb1.mono (by simp))).trans (hb2.mono (by simp at hs1; omega))
    clear hcl hfr hK hb1 hb2 hc
    go_wp2
    go_ret
    exact ⟨rfl, hb3⟩
end Go.Mk
