/-
  Proved: the law MarkChecks returns true and leaves all that was there, for any two marks and any name. Conditions: the tables that awake reads lie where the program lays them; the texts are no longer than an int says.
-/
import Derived.Test.YtgcofpejbjfhaaaGreatDoorMc0
import Derived.Test.YtgcofpejbjfhaaaGreatDoorMc1
import Derived.Test.YtgcofpejbjfhaaaGreatDoorMc2
import Derived.Test.YtgcofpejbjfhaaaGreatDoorMc3
import Derived.Test.YtgcofpejbjfhaaaGreatDoorMc4
import Derived.Test.YtgcofpejbjfhaaaGreatDoorMc5
import Derived.Test.YtgcofpejbjfhaaaGreatDoorMc6
set_option linter.unusedVariables false
set_option linter.unusedSimpArgs false
open Go Go.Proofs Go.RowKit
set_option maxRecDepth 100000
namespace Go.Mk
theorem checks_any (s1 r1 s2 r2 n : ByteArray) (v1 v2 : Int) (w : World) (ht : Tabs w) (z1 : s1.size ≤ maxLen) (z2 : r1.size ≤ maxLen) (z3 : s2.size ≤ maxLen) (z4 : r2.size ≤ maxLen) (z5 : n.size ≤ maxLen) :
    Calls Tryz.prog 4 #[.agg #[.string s1, .int .i64 v1, .string r1], .agg #[.string s2, .int .i64 v2, .string r2], .string n] w (Yes w) := by
  have hB1 := fun w => Brief_any s1 r1 v1 w z1 z2
  have hB2 := fun w => Brief_any s2 r2 v2 w z3 z4
  have hC1 := refCheckMark_any s1 r1 v1
  have hC2 := refCheckMark_any s2 r2 v2
  cases x1 : brief s1 r1 with
  | false => rw [x1] at hB1; exact checks_exit s1 r1 s2 r2 n v1 v2 w ht z5 _ _ hB1 hB2 (.inl rfl)
  | true =>
  cases x2 : brief s2 r2 with
  | false => rw [x1] at hB1; rw [x2] at hB2; exact checks_exit s1 r1 s2 r2 n v1 v2 w ht z5 _ _ hB1 hB2 (.inr (.inl ⟨rfl, rfl⟩))
  | true =>
  rw [x1] at hB1
  rw [x2] at hB2
  by_cases h3 : 40 < (n.size : Int)
  · exact checks_exit s1 r1 s2 r2 n v1 v2 w ht z5 _ _ hB1 hB2 (.inr (.inr ⟨rfl, rfl, h3⟩))
  have hn40 : n.size ≤ 40 := by omega
  have hM := fun w (hg : 15 ≤ w.heap.size) => CheckMark_any s1 r1 v1 w hg
  have hP := fun w (hg : 15 ≤ w.heap.size) => Compare_any s1 r1 s2 r2 v1 v2 w hg
  have hR := fun w (hg : 15 ≤ w.heap.size) => Round_any s1 r1 n v1 w hg
  -- the wind
  obtain ⟨wv, we, hWd, hwind⟩ : ∃ wv we : Int, (∀ w, Calls Tryz.prog 26 #[.int .i64 v2] w (RetPost (.tuple #[.int .i64 wv, .int .i64 we]) w)) ∧
      ((v2 < -9999 ∧ wv = 0 ∧ we = 3) ∨ (¬ v2 < -9999 ∧ 9999 < v2 ∧ wv = 0 ∧ we = 3) ∨ (¬ v2 < -9999 ∧ ¬ 9999 < v2 ∧ we = 0 ∧ ∀ w, Calls Tryz.prog 27 #[.int .i64 v2] w (RetPost (.int .i64 wv) w))) := by
    by_cases q1 : v2 < -9999
    · exact ⟨0, 3, fun w => wind_bad v2 w (.inl q1), .inl ⟨q1, rfl, rfl⟩⟩
    · by_cases q2 : 9999 < v2
      · exact ⟨0, 3, fun w => wind_bad v2 w (.inr q2), .inr (.inl ⟨q1, q2, rfl, rfl⟩)⟩
      · exact ⟨_, 0, fun w => wind_ok v2 w (by omega) (by omega), .inr (.inr ⟨q1, q2, rfl, fun w => refWind_any v2 w (by omega) (by omega)⟩)⟩
  by_cases h4 : chk s1 v1 r1 = 0
  case neg =>
    have e1 : cmpM s1 v1 r1 s2 v2 r2 = (0, chk s1 v1 r1) := by
      have : fst2 (chk s1 v1 r1) (chk s2 v2 r2) = chk s1 v1 r1 := if_neg h4
      unfold cmpM
      rw [this, if_pos h4]
    have e2 : rndM s1 v1 r1 n = ((⟨#[]⟩, 0, ⟨#[]⟩), chk s1 v1 r1) := by unfold rndM; rw [if_pos h4]
    rw [e1] at hP
    rw [e2] at hR
    exact checks_a s1 r1 s2 r2 n v1 v2 wv we w ht hn40 hB1 hB2 _ _ h4 hC1 hC2 hM hP hR hWd hwind
  have hRR := fun w => refRound_any s1 r1 n v1 w h4
  rw [h4] at hC1 hM
  by_cases h5 : chk s2 v2 r2 = 0
  case neg =>
    have e1 : cmpM s1 v1 r1 s2 v2 r2 = (0, chk s2 v2 r2) := by
      have : fst2 (chk s1 v1 r1) (chk s2 v2 r2) = chk s2 v2 r2 := if_pos h4
      unfold cmpM
      rw [this, if_pos h5]
    rw [e1] at hP
    exact checks_b s1 r1 s2 r2 n _ _ v1 v2 _ _ wv we w ht hn40 hB1 hB2 _ h5 hC1 hC2 hM hP hR hRR hWd hwind
  rw [h5] at hC2
  by_cases h : s1 = s2 ∨ s1 = sNone ∨ s2 = sNone
  · have hCmp := fun w => refCompare_any s1 r1 s2 r2 v1 v2 w h4 h5 h
    have e2 : (cmpM s1 v1 r1 s2 v2 r2).2 = 0 := by
      unfold cmpM
      rw [if_neg (by simp [fst2_nil h4 h5])]
      by_cases q1 : s1 = s2
      · rw [if_pos q1]
      · rw [if_neg q1]
        by_cases q2 : s2 = sNone
        · rw [if_pos q2]
        · rw [if_neg q2]
          by_cases q3 : s1 = sNone
          · rw [if_pos q3]
          · rcases h with h | h | h <;> contradiction
    rw [e2] at hP
    by_cases q1 : s1 = s2
    · exact checks_d s1 r1 s2 r2 n _ _ v1 v2 _ _ wv we w ht hn40 hB1 hB2 _ (by rw [q1]; simp) hCmp hC1 hC2 hM hP hR hRR hWd hwind
    · by_cases q3 : s1 = sNone
      · exact checks_e s1 r1 s2 r2 n _ _ v1 v2 _ _ wv we w ht hn40 hB1 hB2 _ (tl_ne q1) (by rw [none_beq]; simp [q3]) hCmp hC1 hC2 hM hP hR hRR hWd hwind
      · have q2 : s2 = sNone := by
          rcases h with h | h | h
          · exact absurd h q1
          · exact absurd h q3
          · exact h
        exact checks_f s1 r1 s2 r2 n _ _ v1 v2 _ _ wv we w ht hn40 hB1 hB2 _ (tl_ne q1) (by rw [none_beq]; simp [q3]) (by rw [none_beq]; simp [q2]) hCmp hC1 hC2 hM hP hR hRR hWd hwind
  · simp only [not_or] at h
    obtain ⟨q1, q2, q3⟩ := h
    have e1 : cmpM s1 v1 r1 s2 v2 r2 = (0, 13) := by
      unfold cmpM
      rw [if_neg (by simp [fst2_nil h4 h5]), if_neg q1, if_neg q3, if_neg q2]
    rw [e1] at hP
    exact checks_c s1 r1 s2 r2 n _ _ v1 v2 _ _ wv we w ht hn40 hB1 hB2 (tl_ne q1) (by rw [none_beq]; simp [q2]) (by rw [none_beq]; simp [q3]) hC1 hC2 hM hP hR hRR hWd hwind
end Go.Mk
