/-
  Proved: mark.Compare returns what the plain function cmpM says, for all marks. Condition: the heap holds the program's variables.
  Proved: what the reference's functions on marks return (IsReason, least, most, CheckMark, Brief, Step). No condition.
-/
import Derived.Test.YtccgahkoekcefaaGreatDoorCq
section
set_option linter.unusedVariables false
set_option linter.unusedSimpArgs false
open Go Go.Proofs Go.RowKit
set_option maxRecDepth 100000
namespace Go.Mk
theorem none_beq (s : ByteArray) : (s.toList == [110, 111, 110, 101]) = decide (s = sNone) := by
  have e : sNone.toList = [110, 111, 110, 101] := by rw [ByteArray.toList_eq]; rfl
  rw [← e]
  by_cases h : s = sNone
  · subst h; simp
  · rw [tl_ne h]; simp [h]
theorem chk_kind (s : ByteArray) (v : Int) (r : ByteArray) (h : chk s v r = 0) : s = sNone ∨ s = sTime ∨ s = sLength ∨ s = sPoints := by
  unfold chk at h
  by_cases h1 : s = sNone
  · exact .inl h1
  · by_cases h2 : s = sTime
    · exact .inr (.inl h2)
    · by_cases h3 : s = sLength
      · exact .inr (.inr (.inl h3))
      · by_cases h4 : s = sPoints
        · exact .inr (.inr (.inr h4))
        · simp [h1, h2, h3, h4] at h

def cmpM (s1 : ByteArray) (v1 : Int) (r1 s2 : ByteArray) (v2 : Int) (r2 : ByteArray) : Int × Int :=
  if fst2 (chk s1 v1 r1) (chk s2 v2 r2) ≠ 0 then (0, fst2 (chk s1 v1 r1) (chk s2 v2 r2))
  else if s1 = s2 then (cmpv (decide (s1 = sTime)) v1 v2, 0)
  else if s2 = sNone then (-1, 0)
  else if s1 = sNone then (1, 0)
  else (0, 13)

theorem Compare_any (s1 r1 s2 r2 : ByteArray) (v1 v2 : Int) (w : World) (hg : 13 ≤ w.heap.size) :
    Calls Tryz.prog 56 #[.agg #[.string s1, .int .i64 v1, .string r1], .agg #[.string s2, .int .i64 v2, .string r2]] w (RetPost (.tuple #[.int .i64 (cmpM s1 v1 r1 s2 v2 r2).1, .int .i64 (cmpM s1 v1 r1 s2 v2 r2).2]) w) := by
  unfold cmpM
  by_cases he : fst2 (chk s1 v1 r1) (chk s2 v2 r2) = 0
  · rw [if_neg (by simp [he])]
    by_cases hs : s1 = s2
    · subst hs
      rw [if_pos rfl]
      have h1 : chk s1 v1 r1 = 0 := by
        unfold fst2 at he
        split at he
        · assumption
        · contradiction
      rcases chk_kind s1 v1 r1 h1 with rfl | rfl | rfl | rfl
      · rw [show decide (sNone = sTime) = false by decide]
        exact Compare_greater sNone r1 r2 v1 v2 w hg he _ _ _ _ _ _ entryNone
      · rw [show decide (sTime = sTime) = true by decide]
        exact Compare_less sTime r1 r2 v1 v2 w hg he _ _ _ _ _ _ entryTime
      · rw [show decide (sLength = sTime) = false by decide]
        exact Compare_greater sLength r1 r2 v1 v2 w hg he _ _ _ _ _ _ entryLength
      · rw [show decide (sPoints = sTime) = false by decide]
        exact Compare_greater sPoints r1 r2 v1 v2 w hg he _ _ _ _ _ _ entryPoints
    · rw [if_neg hs]
      by_cases h2 : s2 = sNone
      · rw [if_pos h2]
        exact Compare_second s1 r1 s2 r2 v1 v2 w hg he (tl_ne hs) (by rw [none_beq]; simp [h2])
      · rw [if_neg h2]
        by_cases h3 : s1 = sNone
        · rw [if_pos h3]
          exact Compare_first s1 r1 s2 r2 v1 v2 w hg he (tl_ne hs) (by rw [none_beq]; simp [h2]) (by rw [none_beq]; simp [h3])
        · rw [if_neg h3]
          exact Compare_apart s1 r1 s2 r2 v1 v2 w hg he (tl_ne hs) (by rw [none_beq]; simp [h2]) (by rw [none_beq]; simp [h3])
  · rw [if_pos he]
    exact Compare_bad s1 r1 s2 r2 v1 v2 _ w hg rfl he
end Go.Mk
end
section
set_option linter.unusedVariables false
set_option linter.unusedSimpArgs false
open Go Go.Proofs Go.RowKit
set_option maxRecDepth 100000
namespace Go.Mk
theorem lit_beq (s c : ByteArray) (l : List UInt8) (hc : c.data.toList = l) : (s.toList == l) = decide (s = c) := by
  have e : c.toList = l := by rw [ByteArray.toList_eq]; exact hc
  rw [← e]
  by_cases h : s = c
  · subst h; simp
  · rw [tl_ne h]; simp [h]
theorem time_beq (s : ByteArray) : (s.toList == [116, 105, 109, 101]) = decide (s = sTime) := lit_beq s sTime _ rfl
theorem length_beq (s : ByteArray) : (s.toList == [108, 101, 110, 103, 116, 104]) = decide (s = sLength) := lit_beq s sLength _ rfl
theorem points_beq (s : ByteArray) : (s.toList == [112, 111, 105, 110, 116, 115]) = decide (s = sPoints) := lit_beq s sPoints _ rfl
theorem isR_lists (r : ByteArray) : isR r = ((r.toList == [68, 78, 83]) || (r.toList == [68, 78, 70]) || (r.toList == [68, 81]) || (r.toList == [78, 77])) := by
  rw [lit_beq r ⟨#[68, 78, 83]⟩ _ rfl, lit_beq r ⟨#[68, 78, 70]⟩ _ rfl, lit_beq r ⟨#[68, 81]⟩ _ rfl, lit_beq r ⟨#[78, 77]⟩ _ rfl]
  unfold isR reasons
  simp only [List.any_cons, List.any_nil, ba_beq, Bool.or_false, Bool.or_assoc]
  simp only [eq_comm]

set_option maxHeartbeats 400000 in
theorem refIsReason_any (r : ByteArray) (w : World) : Calls Tryz.prog 83 #[.string r] w fun e w' => e = .returned (.bool (isR r)) ∧ w' = w := by
  rw [isR_lists]
  cases h1 : (r.toList == [68, 78, 83]) with
  | true =>
    go_enter Tryz.func83, Tryz.ntmps83
    go_wp2
    go_ret
    exact ⟨rfl, rfl⟩
  | false =>
    cases h2 : (r.toList == [68, 78, 70]) with
    | true =>
      go_enter Tryz.func83, Tryz.ntmps83
      go_wp2
      go_ret
      exact ⟨rfl, rfl⟩
    | false =>
      cases h3 : (r.toList == [68, 81]) with
      | true =>
        go_enter Tryz.func83, Tryz.ntmps83
        go_wp2
        go_ret
        exact ⟨rfl, rfl⟩
      | false =>
        go_enter Tryz.func83, Tryz.ntmps83
        go_wp2
        go_ret
        exact ⟨by simp, rfl⟩

def low (s : ByteArray) : Int := if s = sTime then 1 else 0
def high (s : ByteArray) : Int := if s = sTime then 863999999 else if s = sLength then 999999 else 99999
set_option maxHeartbeats 400000 in
theorem least_any (s : ByteArray) (w : World) : Calls Tryz.prog 84 #[.string s] w fun e w' => e = .returned (.int .i64 (low s)) ∧ w' = w := by
  obtain ⟨n, hn⟩ : ∃ n, low s = n := ⟨_, rfl⟩
  rw [hn]
  unfold low at hn
  by_cases h : s = sTime
  · rw [if_pos h] at hn
    have hb : (s.toList == [116, 105, 109, 101]) = true := by rw [time_beq]; simp [h]
    subst hn
    clear h
    go_enter Tryz.func84, Tryz.ntmps84
    go_wp2
    go_ret
    exact ⟨rfl, rfl⟩
  · rw [if_neg h] at hn
    have hb : (s.toList == [116, 105, 109, 101]) = false := by rw [time_beq]; simp [h]
    subst hn
    clear h
    go_enter Tryz.func84, Tryz.ntmps84
    go_wp2
    go_ret
    exact ⟨rfl, rfl⟩
set_option maxHeartbeats 400000 in
theorem most_any (s : ByteArray) (w : World) : Calls Tryz.prog 85 #[.string s] w fun e w' => e = .returned (.int .i64 (high s)) ∧ w' = w := by
  obtain ⟨n, hn⟩ : ∃ n, high s = n := ⟨_, rfl⟩
  rw [hn]
  unfold high at hn
  by_cases h : s = sTime
  · rw [if_pos h] at hn
    have hb : (s.toList == [116, 105, 109, 101]) = true := by rw [time_beq]; simp [h]
    subst hn
    clear h
    go_enter Tryz.func85, Tryz.ntmps85
    go_wp2
    go_ret
    exact ⟨rfl, rfl⟩
  · rw [if_neg h] at hn
    have hb : (s.toList == [116, 105, 109, 101]) = false := by rw [time_beq]; simp [h]
    clear h
    by_cases h : s = sLength
    · rw [if_pos h] at hn
      have hb2 : (s.toList == [108, 101, 110, 103, 116, 104]) = true := by rw [length_beq]; simp [h]
      subst hn
      clear h
      go_enter Tryz.func85, Tryz.ntmps85
      go_wp2
      go_ret
      exact ⟨rfl, rfl⟩
    · rw [if_neg h] at hn
      have hb2 : (s.toList == [108, 101, 110, 103, 116, 104]) = false := by rw [length_beq]; simp [h]
      subst hn
      clear h
      go_enter Tryz.func85, Tryz.ntmps85
      go_wp2
      go_ret
      exact ⟨rfl, rfl⟩

set_option maxHeartbeats 1000000 in
theorem refCheckMark_none (s r : ByteArray) (v : Int) (n : Int) (hs : (s.toList == [110, 111, 110, 101]) = true) (hn : n = if isR r then (if v = 0 then 0 else 3) else 1) (w : World) :
    Calls Tryz.prog 48 #[.agg #[.string s, .int .i64 v, .string r]] w (RetPost (.int .i64 n) w) := by
  have hc := refIsReason_any r
  cases hr : isR r with
  | false =>
    rw [hr] at hc
    obtain rfl : n = 1 := by simpa [hr] using hn
    clear hn hr
    go_enter Tryz.func48, Tryz.ntmps48
    go_wp2_with fail
    refine (hc _).mono ?_
    rintro e w' ⟨rfl, rfl⟩
    go_wp2
    go_ret
    exact ⟨rfl, (Below.refl _ _).alloc (Nat.le_refl _) _⟩
  | true =>
    rw [hr] at hc
    have hn' : n = if v = 0 then 0 else 3 := by simpa [hr] using hn
    clear hn hr
    by_cases hv : v = 0
    · subst hv
      obtain rfl : n = 0 := by simpa using hn'
      clear hn'
      go_enter Tryz.func48, Tryz.ntmps48
      go_wp2_with fail
      refine (hc _).mono ?_
      rintro e w' ⟨rfl, rfl⟩
      go_wp2
      go_ret
      exact ⟨rfl, (Below.refl _ _).alloc (Nat.le_refl _) _⟩
    · obtain rfl : n = 3 := by simpa [hv] using hn'
      have hv2 : (v != 0) = true := by rw [bne_iff_ne]; exact hv
      clear hn' hv
      go_enter Tryz.func48, Tryz.ntmps48
      go_wp2_with fail
      refine (hc _).mono ?_
      rintro e w' ⟨rfl, rfl⟩
      go_wp2
      go_ret
      exact ⟨rfl, (Below.refl _ _).alloc (Nat.le_refl _) _⟩

set_option maxHeartbeats 1000000 in
theorem refCheckMark_kind (s r : ByteArray) (v lo hi n : Int) (h0 : (s.toList == [110, 111, 110, 101]) = false) (b1 b2 b3 : Bool) (h1 : (s.toList == [116, 105, 109, 101]) = b1) (h2 : (s.toList == [108, 101, 110, 103, 116, 104]) = b2) (h3 : (s.toList == [112, 111, 105, 110, 116, 115]) = b3)
    (hb : (b1 || b2 || b3) = true) (hlo : low s = lo) (hhi : high s = hi) (hn : n = if r.toList.isEmpty then (if v < lo ∨ hi < v then 3 else 0) else 1) (w : World) :
    Calls Tryz.prog 48 #[.agg #[.string s, .int .i64 v, .string r]] w (RetPost (.int .i64 n) w) := by
  have hl := least_any s
  have hm := most_any s
  rw [hlo] at hl
  rw [hhi] at hm
  clear hlo hhi
  have Hn := Lib.hid hn
  clear hn
  have step : (r.toList.isEmpty = false ∧ n = 1) ∨ (r.toList.isEmpty = true ∧ v < lo ∧ n = 3) ∨ (r.toList.isEmpty = true ∧ ¬ v < lo ∧ hi < v ∧ n = 3) ∨ (r.toList.isEmpty = true ∧ ¬ v < lo ∧ ¬ hi < v ∧ n = 0) := by
    have := Hn.out
    cases hr : r.toList.isEmpty with
    | false => exact .inl ⟨rfl, by simpa [hr] using this⟩
    | true =>
      by_cases q1 : v < lo
      · exact .inr (.inl ⟨rfl, q1, by simpa [hr, q1] using this⟩)
      · by_cases q2 : hi < v
        · exact .inr (.inr (.inl ⟨rfl, q1, q2, by simpa [hr, q2] using this⟩))
        · exact .inr (.inr (.inr ⟨rfl, q1, q2, by simpa [hr, q1, q2] using this⟩))
  clear Hn
  rcases step with ⟨hr, rfl⟩ | ⟨hr, q1, rfl⟩ | ⟨hr, q1, q2, rfl⟩ | ⟨hr, q1, q2, rfl⟩
  · have hr2 : (!r.toList.isEmpty) = true := by simp [hr]
    rcases b1 with _ | _ <;> rcases b2 with _ | _ <;> rcases b3 with _ | _ <;> first | (cases hb; done) | skip
    all_goals
      go_enter Tryz.func48, Tryz.ntmps48
      go_wp2
      go_ret
      exact ⟨rfl, (Below.refl _ _).alloc (Nat.le_refl _) _⟩
  · rcases b1 with _ | _ <;> rcases b2 with _ | _ <;> rcases b3 with _ | _ <;> first | (cases hb; done) | skip
    all_goals
      go_enter Tryz.func48, Tryz.ntmps48
      go_wp2_with fail
      go_quiet ((first | (go_at_call 84; exact Calls.quiet_of_same (hl _)) | (go_at_call 85; exact Calls.quiet_of_same (hm _))))
      go_wp2
      go_ret
      exact ⟨rfl, below_drewN ((Below.refl _ _).alloc (Nat.le_refl _) _) _⟩
  · have q3 : decide (v < lo) = false := decide_eq_false q1
    rcases b1 with _ | _ <;> rcases b2 with _ | _ <;> rcases b3 with _ | _ <;> first | (cases hb; done) | skip
    all_goals
      go_enter Tryz.func48, Tryz.ntmps48
      go_wp2_with fail
      go_quiet ((first | (go_at_call 84; exact Calls.quiet_of_same (hl _)) | (go_at_call 85; exact Calls.quiet_of_same (hm _))))
      go_wp2
      go_ret
      exact ⟨rfl, below_drewN ((Below.refl _ _).alloc (Nat.le_refl _) _) _⟩
  · have q3 : decide (v < lo) = false := decide_eq_false q1
    rcases b1 with _ | _ <;> rcases b2 with _ | _ <;> rcases b3 with _ | _ <;> first | (cases hb; done) | skip
    all_goals
      go_enter Tryz.func48, Tryz.ntmps48
      go_wp2_with fail
      go_quiet ((first | (go_at_call 84; exact Calls.quiet_of_same (hl _)) | (go_at_call 85; exact Calls.quiet_of_same (hm _))))
      go_wp2
      go_ret
      exact ⟨rfl, below_drewN ((Below.refl _ _).alloc (Nat.le_refl _) _) _⟩

theorem refCheckMark_any (s r : ByteArray) (v : Int) (w : World) :
    Calls Tryz.prog 48 #[.agg #[.string s, .int .i64 v, .string r]] w (RetPost (.int .i64 (chk s v r)) w) := by
  by_cases h0 : s = sNone
  · refine refCheckMark_none s r v _ (by rw [none_beq]; simp [h0]) ?_ w
    unfold chk
    rw [if_pos h0]
    by_cases hv : v = 0
    · subst hv; simp
    · have : v < 0 ∨ 0 < v := by omega
      simp [hv, this]
  · by_cases h1 : s = sTime
    · refine refCheckMark_kind s r v 1 863999999 _ (by rw [none_beq]; simp [h0]) true false false (by rw [time_beq]; simp [h1]) (by rw [length_beq]; subst h1; decide) (by rw [points_beq]; subst h1; decide) rfl (by simp [low, h1]) (by simp [high, h1]) ?_ w
      unfold chk
      rw [if_neg h0, if_pos h1]
    · by_cases h2 : s = sLength
      · refine refCheckMark_kind s r v 0 999999 _ (by rw [none_beq]; simp [h0]) false true false (by rw [time_beq]; simp [h1]) (by rw [length_beq]; simp [h2]) (by rw [points_beq]; subst h2; decide) rfl (by subst h2; decide) (by subst h2; decide) ?_ w
        unfold chk
        rw [if_neg h0, if_neg h1, if_pos h2]
      · by_cases h3 : s = sPoints
        · refine refCheckMark_kind s r v 0 99999 _ (by rw [none_beq]; simp [h0]) false false true (by rw [time_beq]; simp [h1]) (by rw [length_beq]; simp [h2]) (by rw [points_beq]; simp [h3]) rfl (by simp [low, h1]) (by simp [high, h1, h2]) ?_ w
          unfold chk
          rw [if_neg h0, if_neg h1, if_neg h2, if_pos h3]
        · have e : chk s v r = 13 := by unfold chk; simp [h0, h1, h2, h3]
          rw [e]
          have k0 : (s.toList == [110, 111, 110, 101]) = false := by rw [none_beq]; simp [h0]
          have k1 : (s.toList == [116, 105, 109, 101]) = false := by rw [time_beq]; simp [h1]
          have k2 : (s.toList == [108, 101, 110, 103, 116, 104]) = false := by rw [length_beq]; simp [h2]
          have k3 : (s.toList == [112, 111, 105, 110, 116, 115]) = false := by rw [points_beq]; simp [h3]
          clear e h0 h1 h2 h3
          go_enter Tryz.func48, Tryz.ntmps48
          go_wp2
          go_ret
          exact ⟨rfl, (Below.refl _ _).alloc (Nat.le_refl _) _⟩

end Go.Mk
end
