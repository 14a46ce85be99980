/-
  Proved: the reference's Parse of a text that ends in p, and of a length. Condition: the text has at most 24 bytes.
-/
import Derived.Test.YtclkcooomikiiaaGreatDoorUc
set_option linter.unusedVariables false
set_option linter.unusedSimpArgs false
open Go Go.Proofs Go.RowKit Go.Sort
set_option maxRecDepth 100000
namespace Go.Mk
theorem refRangedAt (s r : ByteArray) (v : Int) : ∃ ms mv mr me, ranged s v r = ⟨ms, mv, mr, me⟩ ∧ ∀ w, Calls Tryz.prog 37 #[.agg #[.string s, .int .i64 v, .string r]] w (RetPost (.tuple #[.agg #[.string ms, .int .i64 mv, .string mr], .int .i64 me]) w) := by
  obtain ⟨⟨ms, mv, mr, me⟩, hm⟩ : ∃ m, ranged s v r = m := ⟨_, rfl⟩
  refine ⟨ms, mv, mr, me, hm, fun w => ?_⟩
  have := refRanged_any s r v w
  rw [hm] at this
  exact this
theorem front_bound (s : ByteArray) : -1 ≤ front s ∧ front s ≤ 999999999 := by
  rcases front_is s with ⟨_, h9, r, h3, h4⟩ | ⟨_, h⟩
  · rw [h3]
    rcases digits_range s with h | ⟨q, h, hq⟩
    · unfold front at h3
      split at h3
      · omega
      · omega
    · unfold front at h3
      split at h3
      · omega
      · have : q < 10 ^ 9 := Nat.lt_of_lt_of_le hq (Nat.pow_le_pow_right (by decide) h9)
        omega
  · rw [h]; omega
set_option maxHeartbeats 1000000 in
theorem refParse_points_bad (s : ByteArray) (h0 : 0 < s.size) (h1 : ¬ (24 : Int) < s.size) (h2 : isR s = false) (h3 : lastB s = 112) (h4 : front (chop s) < 0) (w : World) : Calls Tryz.prog 11 #[.string s] w (RetPost (ME.out (ME.bad 25)) w) := by
  have hI := refIsReason_any s
  rw [h2] at hI
  have he : ((s.size : Int) == 0) = false := by rw [beq_eq_false_iff_ne]; omega
  have hix := index_last s h0
  have hsl := slice_chop s h0
  rw [h3] at hix
  have hF := fun w => refFront_any (chop s) w (by have := chop_size s; have : maxLen = 9223372036854775807 := rfl; omega)
  have hfb := (front_bound (chop s)).1
  generalize front (chop s) = x at *
  generalize chop s = t at *
  have hs1 : (1 : Int) ≤ s.size := by omega
  have hs2 : (s.size : Int) ≤ 24 := by omega
  clear h0 h2 h3 h1
  go_enter Tryz.func11, Tryz.ntmps11
  go_wp2_with fail
  refine (hI _).mono ?_
  rintro e w2 ⟨rfl, rfl⟩
  go_wp2_with fail
  refine (hF _).mono ?_
  rintro e w2 ⟨rfl, rfl⟩
  go_wp2
  exact bodyPost_ret (v := .tuple #[.agg #[.string ⟨#[]⟩, .int .i64 0, .string ⟨#[]⟩], .int .i64 25]) (by simp [results, Tryz.results11, go_sem]) rfl ⟨rfl, (((Below.refl w.heap.size w).alloc (Nat.le_refl _) _).alloc (by simp) _).alloc (by simp; omega) _⟩
set_option maxHeartbeats 1000000 in
theorem refParse_points_ok (s : ByteArray) (h0 : 0 < s.size) (h1 : ¬ (24 : Int) < s.size) (h2 : isR s = false) (h3 : lastB s = 112) (h4 : ¬ front (chop s) < 0) (w : World) : Calls Tryz.prog 11 #[.string s] w (RetPost (ME.out (ranged sPoints (front (chop s)) ⟨#[]⟩)) w) := by
  have hI := refIsReason_any s
  rw [h2] at hI
  have he : ((s.size : Int) == 0) = false := by rw [beq_eq_false_iff_ne]; omega
  have hix := index_last s h0
  have hsl := slice_chop s h0
  rw [h3] at hix
  have hF := fun w => refFront_any (chop s) w (by have := chop_size s; have : maxLen = 9223372036854775807 := rfl; omega)
  obtain ⟨ms, mv, mr, me, hm, hR⟩ := refRangedAt sPoints ⟨#[]⟩ (front (chop s))
  rw [hm]
  show Calls _ _ _ _ (RetPost (.tuple #[.agg #[.string ms, .int .i64 mv, .string mr], .int .i64 me]) w)
  have hfb := (front_bound (chop s)).2
  clear hm
  generalize front (chop s) = x at *
  generalize chop s = t at *
  have hs1 : (1 : Int) ≤ s.size := by omega
  have hs2 : (s.size : Int) ≤ 24 := by omega
  clear h0 h2 h3 h1
  unfold sPoints at hR
  go_enter Tryz.func11, Tryz.ntmps11
  go_wp2_with fail
  refine (hI _).mono ?_
  rintro e w2 ⟨rfl, rfl⟩
  go_wp2_with fail
  refine (hF _).mono ?_
  rintro e w2 ⟨rfl, rfl⟩
  go_wp2_with fail
  refine (hR _).mono ?_
  rintro e w3 ⟨rfl, hb3⟩
  have hB1 : Below (w.heap.size + 1) (w.alloc (.cells #[.string ⟨#[]⟩, .int .i64 0, .string ⟨#[]⟩] 23)) w3 := (((Below.refl _ _).alloc (by simp) _).alloc (by simp) _).trans (hb3.mono (by simp))
  obtain ⟨a0, a1, a2⟩ : Box w3 w.heap.size ⟨#[]⟩ 0 ⟨#[]⟩ := (Box.new w ⟨#[]⟩ 0 ⟨#[]⟩).below hB1 (by omega)
  have f0 : ∀ o, w3.frozen? ⟨w.heap.size, o, none⟩ = false := fun o => by rw [hB1.frozen (p := ⟨w.heap.size, o, none⟩) (by show w.heap.size < _; omega)]; simp
  have hbw : Below w.heap.size w w3 := ((((Below.refl w.heap.size w).alloc (Nat.le_refl _) _).alloc (by simp) _).alloc (by simp; omega) _).trans (hb3.mono (by simp; omega))
  clear hb3 hR hF hI hB1
  go_wp2
  obtain ⟨q0, q1, q2⟩ : Box _ w.heap.size ms mv mr := Box.put3 ⟨a0, a1, a2⟩
  exact bodyPost_ret (v := .tuple #[.agg #[.string ms, .int .i64 mv, .string mr], .int .i64 me]) (by simp [results, Tryz.results11, go_sem, q0, q1, q2]) rfl ⟨rfl, (((hbw.setCell (Nat.le_refl _) _).setCell (Nat.le_refl _) _).setCell (Nat.le_refl _) _)⟩
end Go.Mk
