/-
  Proved: the reference's Round is rndM, its Compare is cmpM, for marks without an error. Conditions: the marks have no error (and, for Compare, can be compared).
-/
import Derived.Test.YtgcofpejbjfhaaaGreatDoorRi
set_option linter.unusedVariables false
set_option linter.unusedSimpArgs false
open Go Go.Proofs Go.RowKit
set_option maxRecDepth 100000
namespace Go.Mk
theorem fst2_nil {a b : Int} (h1 : a = 0) (h2 : b = 0) : fst2 a b = 0 := by subst h1; subst h2; rfl
theorem cmpM_alike (s : ByteArray) (v1 : Int) (r1 : ByteArray) (v2 : Int) (r2 : ByteArray) (h1 : chk s v1 r1 = 0) (h2 : chk s v2 r2 = 0) : cmpM s v1 r1 s v2 r2 = (cmpv (decide (s = sTime)) v1 v2, 0) := by
  unfold cmpM
  rw [if_neg (by simp [fst2_nil h1 h2]), if_pos rfl]

theorem cls_false (n : ByteArray) (h : (cls n).2 = false) : (cls n).1.2 = 0 := by
  unfold cls at h ⊢
  repeat' split at h
  all_goals first | (simp_all; done) | (simp at h)
theorem chk_none (v : Int) (r : ByteArray) (h : chk sNone v r = 0) : v = 0 := by
  unfold chk at h
  rw [if_pos rfl] at h
  repeat' split at h
  all_goals first | omega | (simp at h)
theorem floor_mul (v st : Int) (h : st = 1 ∨ st = 10 ∨ st = 100 ∨ st = 1000) (hv : 0 ≤ v) : v / st * st = v - v % st ∧ 0 ≤ v / st * st ∧ v / st * st ≤ v := by
  rcases h with rfl | rfl | rfl | rfl <;> omega
theorem up_floor (v st : Int) (h : st = 1 ∨ st = 10 ∨ st = 100 ∨ st = 1000) (hv : 0 ≤ v) :
    (v / st * st < v ∧ v + st - 1 - (v + st - 1) % st = v / st * st + st) ∨ (¬ v / st * st < v ∧ v + st - 1 - (v + st - 1) % st = v / st * st) := by
  rcases h with rfl | rfl | rfl | rfl <;> omega
theorem high_top (s : ByteArray) (v : Int) (r : ByteArray) (h : chk s v r = 0) (hn : s ≠ sNone) : high s = top s := by
  rcases chk_kind s v r h with rfl | rfl | rfl | rfl
  · exact absurd rfl hn
  · decide
  · decide
  · decide

theorem refRound_any (s r n : ByteArray) (v : Int) (w : World) (hchk : chk s v r = 0) :
    Calls Tryz.prog 25 #[.agg #[.string s, .int .i64 v, .string r], .string n] w (RetPost (MarkErr (rndM s v r n)) w) := by
  unfold rndM
  rw [if_neg (by simp [hchk])]
  cases hb : (cls n).2 with
  | false =>
    rw [if_pos rfl]
    exact refRound_noclass s r n (cls n).1.1 v (cls n).1.2 (cls n).2 w rfl (by rw [cls_false n hb]; rfl)
  | true =>
    rw [if_neg (by simp)]
    have hst := cls_range n hb
    have hst0 : ((cls n).1.2 == 0) = false := beq_eq_false_iff_ne.2 (by omega)
    have hcl : cls n = (((cls n).1.1, (cls n).1.2), (cls n).2) := rfl
    cases hf : fitsB (cls n).1.1 s with
    | false =>
      rw [if_pos rfl]
      unfold fitsB at hf
      simp only [Bool.or_eq_false_iff] at hf
      obtain ⟨⟨f1, f2⟩, f3⟩ := hf
      exact refRound_nofit s r n (cls n).1.1 v (cls n).1.2 (cls n).2 w rfl hst0 f2 f1 (by rw [Bool.beq_comm]; exact f3)
    | true =>
      rw [if_neg (by simp)]
      have hfit : (cls n).1.1.toList.isEmpty = true ∨ ((cls n).1.1.toList.isEmpty = false ∧ (s.toList == [110, 111, 110, 101]) = true) ∨ ((cls n).1.1.toList.isEmpty = false ∧ (s.toList == [110, 111, 110, 101]) = false ∧ (s.toList == (cls n).1.1.toList) = true) := by
        unfold fitsB at hf
        cases g1 : (cls n).1.1.toList.isEmpty with
        | true => exact .inl rfl
        | false =>
          cases g2 : (s.toList == [110, 111, 110, 101]) with
          | true => exact .inr (.inl ⟨rfl, rfl⟩)
          | false => exact .inr (.inr ⟨rfl, rfl, by rw [g1, g2] at hf; rw [Bool.beq_comm]; simpa using hf⟩)
      obtain ⟨hv0, hv1⟩ := chk_range s v r hchk
      obtain ⟨st, hse⟩ : ∃ st, (cls n).1.2 = st := ⟨_, rfl⟩
      have hcl2 : cls n = (((cls n).1.1, st), (cls n).2) := by rw [← hse]
      rw [hse] at hst hst0
      obtain ⟨y1, y2, y3⟩ := floor_mul v st hst hv0
      have hup : ∃ bt, (s.toList == [116, 105, 109, 101]) = bt ∧ ((bt = true ∧ v / st * st < v ∧ rnd s v st = v / st * st + st) ∨ (bt = true ∧ ¬ v / st * st < v ∧ rnd s v st = v / st * st) ∨ (bt = false ∧ rnd s v st = v / st * st)) := by
        by_cases h : s = sTime
        · refine ⟨true, by rw [time_beq]; simp [h], ?_⟩
          unfold rnd
          rw [if_pos h]
          rcases up_floor v st hst hv0 with ⟨q1, q2⟩ | ⟨q1, q2⟩
          · exact .inl ⟨rfl, q1, q2⟩
          · exact .inr (.inl ⟨rfl, q1, q2⟩)
        · refine ⟨false, by rw [time_beq]; simp [h], .inr (.inr ⟨rfl, ?_⟩)⟩
          unfold rnd
          rw [if_neg h]
          exact y1.symm
      obtain ⟨bt, hbt, hup⟩ := hup
      rw [hse]
      by_cases hn : s = sNone
      · have hv := hn ▸ hchk
        have hv := chk_none v r hv
        have e0 : rnd s v st = 0 := by
          unfold rnd
          rw [if_neg (by rw [hn]; decide), hv]
          simp
        have et : top s = 0 := by rw [hn]; decide
        have eh : high s = 99999 := by rw [hn]; decide
        rw [if_neg (by omega)]
        exact refRound_ok s r n (cls n).1.1 v st (rnd s v st) (v / st * st) 99999 (cls n).2 bt w hcl2 hst0 (by omega) (by omega) hv0 (by omega) hfit rfl y2 y3 hbt hup eh (by omega)
      · have eh := high_top s v r hchk hn
        by_cases hl : top s < rnd s v st
        · rw [if_pos hl]
          exact refRound_large s r n (cls n).1.1 v st (rnd s v st) (v / st * st) (top s) (cls n).2 bt w hcl2 hst0 (by omega) (by omega) hv0 (by omega) hfit rfl y2 y3 hbt hup eh hl
        · rw [if_neg hl]
          exact refRound_ok s r n (cls n).1.1 v st (rnd s v st) (v / st * st) (top s) (cls n).2 bt w hcl2 hst0 (by omega) (by omega) hv0 (by omega) hfit rfl y2 y3 hbt hup eh hl

/-- The reference's Compare is cmpM, for marks that can be compared. -/
theorem refCompare_any (s1 r1 s2 r2 : ByteArray) (v1 v2 : Int) (w : World) (h1 : chk s1 v1 r1 = 0) (h2 : chk s2 v2 r2 = 0) (h : s1 = s2 ∨ s1 = sNone ∨ s2 = sNone) :
    Calls Tryz.prog 23 #[.agg #[.string s1, .int .i64 v1, .string r1], .agg #[.string s2, .int .i64 v2, .string r2]] w (RetPost (.int .i64 (cmpM s1 v1 r1 s2 v2 r2).1) w) := by
  by_cases a : s1 = sNone
  · by_cases b : s2 = sNone
    · have e : (cmpM s1 v1 r1 s2 v2 r2).1 = cmpn true true := by
        have z1 := chk_none v1 r1 (a ▸ h1)
        have z2 := chk_none v2 r2 (b ▸ h2)
        unfold cmpM
        rw [if_neg (by simp [fst2_nil h1 h2]), if_pos (by rw [a, b]), z1, z2]
        simp [cmpv, cmpn]
      rw [e]
      exact refCompare_none s1 r1 s2 r2 v1 v2 true true (by rw [none_beq]; simp [a]) (by rw [none_beq]; simp [b]) rfl w
    · have e : (cmpM s1 v1 r1 s2 v2 r2).1 = cmpn true false := by
        unfold cmpM
        rw [if_neg (by simp [fst2_nil h1 h2]), if_neg (fun q => b (by rw [← q, a])), if_neg b, if_pos a]
        simp [cmpn]
      rw [e]
      exact refCompare_none s1 r1 s2 r2 v1 v2 true false (by rw [none_beq]; simp [a]) (by rw [none_beq]; simp [b]) rfl w
  · by_cases b : s2 = sNone
    · have e : (cmpM s1 v1 r1 s2 v2 r2).1 = cmpn false true := by
        unfold cmpM
        rw [if_neg (by simp [fst2_nil h1 h2]), if_neg (fun q => a (by rw [q, b])), if_pos b]
        simp [cmpn]
      rw [e]
      exact refCompare_none s1 r1 s2 r2 v1 v2 false true (by rw [none_beq]; simp [a]) (by rw [none_beq]; simp [b]) rfl w
    · have hs : s1 = s2 := by rcases h with h | h | h <;> first | exact h | exact absurd h a | exact absurd h b
      subst hs
      refine refCompare_val s1 r1 s1 r2 v1 v2 _ (decide (s1 = sTime)) (by rw [none_beq]; simp [a]) (by rw [none_beq]; simp [a]) (by rw [time_beq]) ?_ w
      rw [cmpM_alike s1 v1 r1 v2 r2 h1 h2]
end Go.Mk
