/-
  Proved: the reference's Parse of a time. Condition: the text has at most 24 bytes.
-/
import Derived.Test.YtclkcooomikiiaaGreatDoorUf
set_option linter.unusedVariables false
set_option linter.unusedSimpArgs false
open Go Go.Proofs Go.RowKit Go.Sort
set_option maxRecDepth 100000
namespace Go.Mk
/-- How large the seconds may be behind k parts. -/
def bnd : Nat → Int
  | 0 => 0
  | k + 1 => 60 * bnd k + 999999999
theorem bnd_le (k : Nat) (h : k ≤ 3) : bnd k ≤ 4000000000000 := by
  have : ∀ k, k ≤ 3 → bnd k ≤ 4000000000000 := by decide
  exact this k h
theorem timeGo_bad {n k : Nat} {t : Int} {wd : Bool} {F : List ByteArray} {f : ByteArray} (hf : F[k]? = some f) (hb : fv k f < 0) : timeGo n k t wd (F.drop k) = none := by
  have hk := (List.getElem?_eq_some_iff.1 hf)
  rw [List.drop_eq_getElem_cons hk.1, timeGo, hk.2, if_pos hb]
theorem timeGo_step {n k : Nat} {t : Int} {wd : Bool} {F : List ByteArray} {f : ByteArray} (hf : F[k]? = some f) (hb : ¬ fv k f < 0) : timeGo n k t wd (F.drop k) = timeGo n (k + 1) (60 * t + fv k f) (wd || (decide (59 < fv k f) && (decide (0 < k) || decide (n < 3)))) (F.drop (k + 1)) := by
  have hk := (List.getElem?_eq_some_iff.1 hf)
  rw [List.drop_eq_getElem_cons hk.1, timeGo, hk.2, if_neg hb]
theorem timeGo_end {n k : Nat} {t : Int} {wd : Bool} {F : List ByteArray} (hk : F.length ≤ k) : timeGo n k t wd (F.drop k) = some (t, wd) := by
  rw [List.drop_eq_nil_of_le hk, timeGo]
theorem digits_bound (s : ByteArray) : -1 ≤ digits s ∧ digits s ≤ 999999999 := by
  rcases digits_range s with h | ⟨r, h, hr⟩
  · omega
  · have : digits s = -1 ∨ s.size ≤ 9 := by
      unfold digits
      by_cases hs : s.size = 0 ∨ 9 < s.size
      · exact .inl (if_pos hs)
      · exact .inr (by omega)
    rcases this with e | h9
    · omega
    · have : r < 10 ^ 9 := Nat.lt_of_lt_of_le hr (Nat.pow_le_pow_right (by decide) h9)
      omega
set_option maxHeartbeats 1000000 in
theorem refParse_time_parts (s : ByteArray) (h0 : 0 < s.size) (h1 : ¬ (24 : Int) < s.size) (h2 : isR s = false) (h3 : lastB s ≠ 112) (h3' : lastB s ≠ 109) (h4 : (split 46 s).length ≠ 2) (w : World) : Calls Tryz.prog 11 #[.string s] w (RetPost (ME.out (ME.bad 25)) w) := by
  have hI := refIsReason_any s
  rw [h2] at hI
  have he : ((s.size : Int) == 0) = false := by rw [beq_eq_false_iff_ne]; omega
  have hix := index_last s h0
  have h3a : (lastB s == 112) = false := beq_eq_false_iff_ne.2 h3
  have h3b : (lastB s == 109) = false := beq_eq_false_iff_ne.2 h3'
  generalize lastB s = l at *
  have hS := fun w => refSplit_any s 46 (by omega) w
  have hs1 : (1 : Int) ≤ s.size := by omega
  have hs2 : (s.size : Int) ≤ 24 := by omega
  have h4' : (((split 46 s).length : Int) != 2) = true := by rw [bne_iff_ne]; omega
  generalize split 46 s = L at *
  clear h0 h2 h3 h1 h4 h3'
  go_enter Tryz.func11, Tryz.ntmps11
  go_wp2_with fail
  refine (hI _).mono ?_
  rintro e w2 ⟨rfl, rfl⟩
  go_wp2_with fail
  refine (hS _).mono ?_
  rintro e w3 ⟨v, rfl, hown, hb3⟩
  obtain ⟨a, cap, rfl⟩ := hown.sl
  have hB1 : Below (w.heap.size + 3) (((w.alloc (.cells #[.string ⟨#[]⟩, .int .i64 0, .string ⟨#[]⟩] 23)).alloc (.cells #[.string ⟨#[]⟩, .int .i64 0, .string ⟨#[]⟩] 23)).alloc (.cells #[.string ⟨#[116, 105, 109, 101]⟩, .int .i64 0, .string ⟨#[]⟩] 23)) w3 := hb3.mono (by simp)
  obtain ⟨a0, a1, a2⟩ : Box w3 w.heap.size ⟨#[]⟩ 0 ⟨#[]⟩ := ((Box.new w ⟨#[]⟩ 0 ⟨#[]⟩).below (((Below.refl (w.heap.size + 1) _).alloc (by simp) _).alloc (by simp) _) (by omega)).below hB1 (by omega)
  obtain ⟨z0, z1, z2⟩ : Box w3 (w.heap.size + 1) ⟨#[]⟩ 0 ⟨#[]⟩ := ((Box.new' _ _ ⟨#[]⟩ 0 ⟨#[]⟩ (by simp)).below ((Below.refl (w.heap.size + 2) _).alloc (by simp) _) (by omega)).below hB1 (by omega)
  obtain ⟨o0, o1, o2⟩ : Box w3 (w.heap.size + 2) ⟨#[116, 105, 109, 101]⟩ 0 ⟨#[]⟩ := (Box.new' _ _ ⟨#[116, 105, 109, 101]⟩ 0 ⟨#[]⟩ (by simp)).below hB1 (by omega)
  have hB0 : Below (w.heap.size + 1) (w.alloc (.cells #[.string ⟨#[]⟩, .int .i64 0, .string ⟨#[]⟩] 23)) w3 := (((Below.refl _ _).alloc (by simp) _).alloc (by simp) _).trans (hB1.mono (by omega))
  have f0 : ∀ o, w3.frozen? ⟨w.heap.size, o, none⟩ = false := fun o => (hB0.frozen (p := ⟨w.heap.size, o, none⟩) (by show w.heap.size < _; omega)).trans (fz_new w _ rfl _ _ o)
  have f2 : ∀ o, w3.frozen? ⟨w.heap.size + 2, o, none⟩ = false := fun o => (hB1.frozen (p := ⟨w.heap.size + 2, o, none⟩) (by show w.heap.size + 2 < _; omega)).trans (fz_new _ _ (by simp) _ _ o)
  have hbw : Below w.heap.size w w3 := ((((Below.refl w.heap.size w).alloc (Nat.le_refl _) _).alloc (by simp) _).alloc (by simp; omega) _).trans (hB1.mono (by omega))
  have hz3 : w.heap.size + 3 ≤ w3.heap.size := by have := hB1.size; simpa using this
  clear hb3 hS hI hB1 hB0 hown
  go_wp2
  obtain ⟨q0, q1, q2⟩ : Box _ w.heap.size ⟨#[]⟩ 0 ⟨#[]⟩ := Box.put3 (w := w3) ⟨a0, a1, a2⟩
  exact bodyPost_ret (v := .tuple #[.agg #[.string ⟨#[]⟩, .int .i64 0, .string ⟨#[]⟩], .int .i64 25]) (by simp [results, Tryz.results11, go_sem, q0, q1, q2]) rfl ⟨rfl, (((hbw.setCell (Nat.le_refl _) _).setCell (Nat.le_refl _) _).setCell (Nat.le_refl _) _)⟩
set_option maxHeartbeats 1000000 in
theorem refParse_time_many (s x y : ByteArray) (h0 : 0 < s.size) (h1 : ¬ (24 : Int) < s.size) (h2 : isR s = false) (h3 : lastB s ≠ 112) (h3' : lastB s ≠ 109) (h4 : split 46 s = [x, y]) (hx : x.size ≤ 60) (hy : y.size ≤ 60) (h5 : 3 < (split 58 x).length ∨ scaled y 1 4 < 0) (w : World) : Calls Tryz.prog 11 #[.string s] w (RetPost (ME.out (ME.bad 25)) w) := by
  have hI := refIsReason_any s
  rw [h2] at hI
  have he : ((s.size : Int) == 0) = false := by rw [beq_eq_false_iff_ne]; omega
  have hix := index_last s h0
  have h3a : (lastB s == 112) = false := beq_eq_false_iff_ne.2 h3
  have h3b : (lastB s == 109) = false := beq_eq_false_iff_ne.2 h3'
  generalize lastB s = l at *
  have hS := fun w => refSplit_any s 46 (by omega) w
  have hs1 : (1 : Int) ≤ s.size := by omega
  have hs2 : (s.size : Int) ≤ 24 := by omega
  rw [h4] at hS
  have hS2 := fun w => refSplit_any x 58 (by omega) w
  have hD := fun w => refScaled_any y 1 4 (by decide) (by decide) w (by have : maxLen = 9223372036854775807 := rfl; omega)
  have h5' : (3 : Int) < ((split 58 x).length : Int) ∨ ¬ (3 : Int) < ((split 58 x).length : Int) ∧ scaled y 1 4 < 0 := by omega
  generalize split 58 x = F at *
  generalize scaled y 1 4 = b at *
  have hW : ∀ w3 v, OwnTexts w3 (w.heap.size + 3) v [x, y] → ∃ g cap, v = .slice (some ⟨g, 0, none⟩) 2 cap ∧ w.heap.size + 3 ≤ g ∧ g < w3.heap.size ∧ w3.cell? ⟨g, 0, none⟩ = some (.string x) ∧ w3.cell? ⟨g, 1, none⟩ = some (.string y) := by
    intro w3 v h
    rcases h.open_ with ⟨_, h⟩ | ⟨g, cap, h1, h2, h22, h3⟩
    · cases h
    · exact ⟨g, cap, h1, h2, h22, h3 0 x rfl, h3 1 y rfl⟩
  clear h0 h2 h3 h1 h4 h3' hx hy h5
  rcases h5' with h5 | ⟨h5, h6⟩
  · as_aux_lemma =>
      go_enter Tryz.func11, Tryz.ntmps11
      go_wp2_with fail
      refine (hI _).mono ?_
      rintro e w2 ⟨rfl, rfl⟩
      go_wp2_with fail
      refine (hS _).mono ?_
      rintro e w3 ⟨v, rfl, hown, hb3⟩
      obtain ⟨g, cap, rfl, hg, hgl, c0, c1⟩ := hW w3 v (by simpa using hown)
      have hB1 : Below (w.heap.size + 3) (((w.alloc (.cells #[.string ⟨#[]⟩, .int .i64 0, .string ⟨#[]⟩] 23)).alloc (.cells #[.string ⟨#[]⟩, .int .i64 0, .string ⟨#[]⟩] 23)).alloc (.cells #[.string ⟨#[116, 105, 109, 101]⟩, .int .i64 0, .string ⟨#[]⟩] 23)) w3 := hb3.mono (by simp)
      obtain ⟨a0, a1, a2⟩ : Box w3 w.heap.size ⟨#[]⟩ 0 ⟨#[]⟩ := ((Box.new w ⟨#[]⟩ 0 ⟨#[]⟩).below (((Below.refl (w.heap.size + 1) _).alloc (by simp) _).alloc (by simp) _) (by omega)).below hB1 (by omega)
      obtain ⟨z0, z1, z2⟩ : Box w3 (w.heap.size + 1) ⟨#[]⟩ 0 ⟨#[]⟩ := ((Box.new' _ _ ⟨#[]⟩ 0 ⟨#[]⟩ (by simp)).below ((Below.refl (w.heap.size + 2) _).alloc (by simp) _) (by omega)).below hB1 (by omega)
      obtain ⟨o0, o1, o2⟩ : Box w3 (w.heap.size + 2) ⟨#[116, 105, 109, 101]⟩ 0 ⟨#[]⟩ := (Box.new' _ _ ⟨#[116, 105, 109, 101]⟩ 0 ⟨#[]⟩ (by simp)).below hB1 (by omega)
      have hB0 : Below (w.heap.size + 1) (w.alloc (.cells #[.string ⟨#[]⟩, .int .i64 0, .string ⟨#[]⟩] 23)) w3 := (((Below.refl _ _).alloc (by simp) _).alloc (by simp) _).trans (hB1.mono (by omega))
      have f0 : ∀ o, w3.frozen? ⟨w.heap.size, o, none⟩ = false := fun o => (hB0.frozen (p := ⟨w.heap.size, o, none⟩) (by show w.heap.size < _; omega)).trans (fz_new w _ rfl _ _ o)
      have f2 : ∀ o, w3.frozen? ⟨w.heap.size + 2, o, none⟩ = false := fun o => (hB1.frozen (p := ⟨w.heap.size + 2, o, none⟩) (by show w.heap.size + 2 < _; omega)).trans (fz_new _ _ (by simp) _ _ o)
      have hbw : Below w.heap.size w w3 := ((((Below.refl w.heap.size w).alloc (Nat.le_refl _) _).alloc (by simp) _).alloc (by simp; omega) _).trans (hB1.mono (by omega))
      have hz3 : w.heap.size + 3 ≤ w3.heap.size := by have := hB1.size; simpa using this
      clear hb3 hS hI hB1 hB0 hown hW
      go_wp2_with fail
      refine (hS2 _).mono ?_
      rintro e w4 ⟨v2, rfl, hown2, hb4⟩
      obtain ⟨p0, p1, p2⟩ : Box w4 w.heap.size ⟨#[]⟩ 0 ⟨#[]⟩ := Box.below ⟨a0, a1, a2⟩ hb4 (by omega)
      obtain ⟨y0, y1, y2⟩ : Box w4 (w.heap.size + 1) ⟨#[]⟩ 0 ⟨#[]⟩ := Box.below ⟨z0, z1, z2⟩ hb4 (by omega)
      obtain ⟨r0, r1, r2⟩ : Box w4 (w.heap.size + 2) ⟨#[116, 105, 109, 101]⟩ 0 ⟨#[]⟩ := Box.below ⟨o0, o1, o2⟩ hb4 (by omega)
      have g0 : ∀ o, w4.frozen? ⟨w.heap.size, o, none⟩ = false := fun o => (hb4.frozen (p := ⟨w.heap.size, o, none⟩) (by show w.heap.size < _; omega)).trans (f0 o)
      have g2 : ∀ o, w4.frozen? ⟨w.heap.size + 2, o, none⟩ = false := fun o => (hb4.frozen (p := ⟨w.heap.size + 2, o, none⟩) (by show w.heap.size + 2 < _; omega)).trans (f2 o)
      have d0 := (hb4.cell (p := ⟨g, 0, none⟩) hgl).trans c0
      have d1 := (hb4.cell (p := ⟨g, 1, none⟩) hgl).trans c1
      have hbw4 : Below w.heap.size w w4 := hbw.trans (hb4.mono hbw.size)
      have hz4 : w.heap.size + 3 ≤ w4.heap.size := by have := hb4.size; omega
      clear a0 a1 a2 z0 z1 z2 o0 o1 o2 f0 f2 hbw c0 c1 hb4
      obtain ⟨a, cap2, rfl⟩ := hown2.sl
      clear hS2 hown2
      go_wp2_with fail
      refine (hD _).mono ?_
      rintro e w4 ⟨rfl, rfl⟩
      go_wp2
      obtain ⟨q0, q1, q2⟩ : Box _ w.heap.size ⟨#[]⟩ 0 ⟨#[]⟩ := Box.put3 (w := w4) ⟨p0, p1, p2⟩
      exact bodyPost_ret (v := .tuple #[.agg #[.string ⟨#[]⟩, .int .i64 0, .string ⟨#[]⟩], .int .i64 25]) (by simp [results, Tryz.results11, go_sem, q0, q1, q2]) rfl ⟨rfl, (((hbw4.setCell (Nat.le_refl _) _).setCell (Nat.le_refl _) _).setCell (Nat.le_refl _) _)⟩
  · as_aux_lemma =>
      go_enter Tryz.func11, Tryz.ntmps11
      go_wp2_with fail
      refine (hI _).mono ?_
      rintro e w2 ⟨rfl, rfl⟩
      go_wp2_with fail
      refine (hS _).mono ?_
      rintro e w3 ⟨v, rfl, hown, hb3⟩
      obtain ⟨g, cap, rfl, hg, hgl, c0, c1⟩ := hW w3 v (by simpa using hown)
      have hB1 : Below (w.heap.size + 3) (((w.alloc (.cells #[.string ⟨#[]⟩, .int .i64 0, .string ⟨#[]⟩] 23)).alloc (.cells #[.string ⟨#[]⟩, .int .i64 0, .string ⟨#[]⟩] 23)).alloc (.cells #[.string ⟨#[116, 105, 109, 101]⟩, .int .i64 0, .string ⟨#[]⟩] 23)) w3 := hb3.mono (by simp)
      obtain ⟨a0, a1, a2⟩ : Box w3 w.heap.size ⟨#[]⟩ 0 ⟨#[]⟩ := ((Box.new w ⟨#[]⟩ 0 ⟨#[]⟩).below (((Below.refl (w.heap.size + 1) _).alloc (by simp) _).alloc (by simp) _) (by omega)).below hB1 (by omega)
      obtain ⟨z0, z1, z2⟩ : Box w3 (w.heap.size + 1) ⟨#[]⟩ 0 ⟨#[]⟩ := ((Box.new' _ _ ⟨#[]⟩ 0 ⟨#[]⟩ (by simp)).below ((Below.refl (w.heap.size + 2) _).alloc (by simp) _) (by omega)).below hB1 (by omega)
      obtain ⟨o0, o1, o2⟩ : Box w3 (w.heap.size + 2) ⟨#[116, 105, 109, 101]⟩ 0 ⟨#[]⟩ := (Box.new' _ _ ⟨#[116, 105, 109, 101]⟩ 0 ⟨#[]⟩ (by simp)).below hB1 (by omega)
      have hB0 : Below (w.heap.size + 1) (w.alloc (.cells #[.string ⟨#[]⟩, .int .i64 0, .string ⟨#[]⟩] 23)) w3 := (((Below.refl _ _).alloc (by simp) _).alloc (by simp) _).trans (hB1.mono (by omega))
      have f0 : ∀ o, w3.frozen? ⟨w.heap.size, o, none⟩ = false := fun o => (hB0.frozen (p := ⟨w.heap.size, o, none⟩) (by show w.heap.size < _; omega)).trans (fz_new w _ rfl _ _ o)
      have f2 : ∀ o, w3.frozen? ⟨w.heap.size + 2, o, none⟩ = false := fun o => (hB1.frozen (p := ⟨w.heap.size + 2, o, none⟩) (by show w.heap.size + 2 < _; omega)).trans (fz_new _ _ (by simp) _ _ o)
      have hbw : Below w.heap.size w w3 := ((((Below.refl w.heap.size w).alloc (Nat.le_refl _) _).alloc (by simp) _).alloc (by simp; omega) _).trans (hB1.mono (by omega))
      have hz3 : w.heap.size + 3 ≤ w3.heap.size := by have := hB1.size; simpa using this
      clear hb3 hS hI hB1 hB0 hown hW
      go_wp2_with fail
      refine (hS2 _).mono ?_
      rintro e w4 ⟨v2, rfl, hown2, hb4⟩
      obtain ⟨p0, p1, p2⟩ : Box w4 w.heap.size ⟨#[]⟩ 0 ⟨#[]⟩ := Box.below ⟨a0, a1, a2⟩ hb4 (by omega)
      obtain ⟨y0, y1, y2⟩ : Box w4 (w.heap.size + 1) ⟨#[]⟩ 0 ⟨#[]⟩ := Box.below ⟨z0, z1, z2⟩ hb4 (by omega)
      obtain ⟨r0, r1, r2⟩ : Box w4 (w.heap.size + 2) ⟨#[116, 105, 109, 101]⟩ 0 ⟨#[]⟩ := Box.below ⟨o0, o1, o2⟩ hb4 (by omega)
      have g0 : ∀ o, w4.frozen? ⟨w.heap.size, o, none⟩ = false := fun o => (hb4.frozen (p := ⟨w.heap.size, o, none⟩) (by show w.heap.size < _; omega)).trans (f0 o)
      have g2 : ∀ o, w4.frozen? ⟨w.heap.size + 2, o, none⟩ = false := fun o => (hb4.frozen (p := ⟨w.heap.size + 2, o, none⟩) (by show w.heap.size + 2 < _; omega)).trans (f2 o)
      have d0 := (hb4.cell (p := ⟨g, 0, none⟩) hgl).trans c0
      have d1 := (hb4.cell (p := ⟨g, 1, none⟩) hgl).trans c1
      have hbw4 : Below w.heap.size w w4 := hbw.trans (hb4.mono hbw.size)
      have hz4 : w.heap.size + 3 ≤ w4.heap.size := by have := hb4.size; omega
      clear a0 a1 a2 z0 z1 z2 o0 o1 o2 f0 f2 hbw c0 c1 hb4
      obtain ⟨a, cap2, rfl⟩ := hown2.sl
      clear hS2 hown2
      go_wp2_with fail
      refine (hD _).mono ?_
      rintro e w4 ⟨rfl, rfl⟩
      go_wp2
      obtain ⟨q0, q1, q2⟩ : Box _ w.heap.size ⟨#[]⟩ 0 ⟨#[]⟩ := Box.put3 (w := w4) ⟨p0, p1, p2⟩
      exact bodyPost_ret (v := .tuple #[.agg #[.string ⟨#[]⟩, .int .i64 0, .string ⟨#[]⟩], .int .i64 25]) (by simp [results, Tryz.results11, go_sem, q0, q1, q2]) rfl ⟨rfl, (((hbw4.setCell (Nat.le_refl _) _).setCell (Nat.le_refl _) _).setCell (Nat.le_refl _) _)⟩
set_option maxHeartbeats 4000000 in
theorem refParse_time_go (s x y : ByteArray) (h0 : 0 < s.size) (h1 : ¬ (24 : Int) < s.size) (h2 : isR s = false) (h3 : lastB s ≠ 112) (h3' : lastB s ≠ 109) (h4 : split 46 s = [x, y]) (hx : x.size ≤ 60) (hy : y.size ≤ 60) (F : List ByteArray) (hF : split 58 x = F) (n : Nat) (hnF : F.length = n) (hne : 0 < n) (h5 : n ≤ 3) (h6 : 0 ≤ scaled y 1 4) (hFs : ∀ (k : Nat) (f : ByteArray), F[k]? = some f → f.size ≤ 60)
    (rv : Value) (hrv : ME.out (timeEnd (scaled y 1 4) (timeGo n 0 0 false F)) = rv) (w : World) : Calls Tryz.prog 11 #[.string s] w (RetPost rv w) := by
  have hI := refIsReason_any s
  rw [h2] at hI
  have he : ((s.size : Int) == 0) = false := by rw [beq_eq_false_iff_ne]; omega
  have hix := index_last s h0
  have h3a : (lastB s == 112) = false := beq_eq_false_iff_ne.2 h3
  have h3b : (lastB s == 109) = false := beq_eq_false_iff_ne.2 h3'
  generalize lastB s = l at *
  have hS := fun w => refSplit_any s 46 (by omega) w
  have hs1 : (1 : Int) ≤ s.size := by omega
  have hs2 : (s.size : Int) ≤ 24 := by omega
  rw [h4] at hS
  have hS2 := fun w => refSplit_any x 58 (by omega) w
  have hm : maxLen = 9223372036854775807 := rfl
  have hD := fun w => refScaled_any y 1 4 (by decide) (by decide) w (by omega)
  have hb2 := (scaled_bound y 1 4 (by decide)).2
  rw [hF] at hS2
  generalize scaled y 1 4 = b at *
  have HRV := Lib.hid hrv
  have HFs := Lib.hid hFs
  have hW : ∀ w3 v, OwnTexts w3 (w.heap.size + 3) v [x, y] → ∃ g cap, v = .slice (some ⟨g, 0, none⟩) 2 cap ∧ w.heap.size + 3 ≤ g ∧ g < w3.heap.size ∧ w3.cell? ⟨g, 0, none⟩ = some (.string x) ∧ w3.cell? ⟨g, 1, none⟩ = some (.string y) := by
    intro w3 v h
    rcases h.open_ with ⟨_, h⟩ | ⟨g, cap, h1, h2, h22, h3⟩
    · cases h
    · exact ⟨g, cap, h1, h2, h22, h3 0 x rfl, h3 1 y rfl⟩
  have hW2 : ∀ w4 v B, OwnTexts w4 B v F → ∃ g cap, v = .slice (some ⟨g, 0, none⟩) n cap ∧ B ≤ g ∧ ∀ (j : Nat) (t : ByteArray), F[j]? = some t → w4.cell? ⟨g, j, none⟩ = some (.string t) := by
    intro w4 v B h
    rcases h.open_ with ⟨_, h⟩ | ⟨g, cap, h1, h2, h22, h3⟩
    · rw [h] at hnF; exact absurd hne (by rw [← hnF]; decide)
    · rw [hnF] at h1; exact ⟨g, cap, h1, h2, h3⟩
  have hni : (n : Int) ≤ 3 := by omega
  have hni0 : (1 : Int) ≤ n := by omega
  have HT0 : Hid (timeGo n 0 0 false (F.drop 0) = timeGo n 0 0 false F) := Lib.hid rfl
  generalize timeGo n 0 0 false F = R at *
  have hf0 : ∃ f, F[0]? = some f := ⟨F[0], List.getElem?_eq_getElem (by omega)⟩
  obtain ⟨fst, hfst⟩ := hf0
  have hfr := fun w => refFront_any fst w (by have := hFs 0 fst hfst; omega)
  have HF0 := Lib.hid hfst
  have HN := Lib.hid hnF
  clear h0 h2 h3 h1 h4 h3' hx hy hrv hFs hF hfst hnF
  go_enter Tryz.func11, Tryz.ntmps11
  go_wp2_with fail
  refine (hI _).mono ?_
  rintro e w2 ⟨rfl, rfl⟩
  go_wp2_with fail
  refine (hS _).mono ?_
  rintro e w3 ⟨v, rfl, hown, hb3⟩
  obtain ⟨g, cap, rfl, hg, hgl, c0, c1⟩ := hW w3 v (by simpa using hown)
  have hB1 : Below (w.heap.size + 3) (((w.alloc (.cells #[.string ⟨#[]⟩, .int .i64 0, .string ⟨#[]⟩] 23)).alloc (.cells #[.string ⟨#[]⟩, .int .i64 0, .string ⟨#[]⟩] 23)).alloc (.cells #[.string ⟨#[116, 105, 109, 101]⟩, .int .i64 0, .string ⟨#[]⟩] 23)) w3 := hb3.mono (by simp)
  obtain ⟨a0, a1, a2⟩ : Box w3 w.heap.size ⟨#[]⟩ 0 ⟨#[]⟩ := ((Box.new w ⟨#[]⟩ 0 ⟨#[]⟩).below (((Below.refl (w.heap.size + 1) _).alloc (by simp) _).alloc (by simp) _) (by omega)).below hB1 (by omega)
  obtain ⟨z0, z1, z2⟩ : Box w3 (w.heap.size + 1) ⟨#[]⟩ 0 ⟨#[]⟩ := ((Box.new' _ _ ⟨#[]⟩ 0 ⟨#[]⟩ (by simp)).below ((Below.refl (w.heap.size + 2) _).alloc (by simp) _) (by omega)).below hB1 (by omega)
  obtain ⟨o0, o1, o2⟩ : Box w3 (w.heap.size + 2) ⟨#[116, 105, 109, 101]⟩ 0 ⟨#[]⟩ := (Box.new' _ _ ⟨#[116, 105, 109, 101]⟩ 0 ⟨#[]⟩ (by simp)).below hB1 (by omega)
  have hB0 : Below (w.heap.size + 1) (w.alloc (.cells #[.string ⟨#[]⟩, .int .i64 0, .string ⟨#[]⟩] 23)) w3 := (((Below.refl _ _).alloc (by simp) _).alloc (by simp) _).trans (hB1.mono (by omega))
  have f0 : ∀ o, w3.frozen? ⟨w.heap.size, o, none⟩ = false := fun o => (hB0.frozen (p := ⟨w.heap.size, o, none⟩) (by show w.heap.size < _; omega)).trans (fz_new w _ rfl _ _ o)
  have f2 : ∀ o, w3.frozen? ⟨w.heap.size + 2, o, none⟩ = false := fun o => (hB1.frozen (p := ⟨w.heap.size + 2, o, none⟩) (by show w.heap.size + 2 < _; omega)).trans (fz_new _ _ (by simp) _ _ o)
  have hbw : Below w.heap.size w w3 := ((((Below.refl w.heap.size w).alloc (Nat.le_refl _) _).alloc (by simp) _).alloc (by simp; omega) _).trans (hB1.mono (by omega))
  have hz3 : w.heap.size + 3 ≤ w3.heap.size := by have := hB1.size; simpa using this
  clear hb3 hS hI hB1 hB0 hown hW
  go_wp2_with fail
  refine (hS2 _).mono ?_
  rintro e w4 ⟨v2, rfl, hown2, hb4⟩
  obtain ⟨p0, p1, p2⟩ : Box w4 w.heap.size ⟨#[]⟩ 0 ⟨#[]⟩ := Box.below ⟨a0, a1, a2⟩ hb4 (by omega)
  obtain ⟨y0, y1, y2⟩ : Box w4 (w.heap.size + 1) ⟨#[]⟩ 0 ⟨#[]⟩ := Box.below ⟨z0, z1, z2⟩ hb4 (by omega)
  obtain ⟨r0, r1, r2⟩ : Box w4 (w.heap.size + 2) ⟨#[116, 105, 109, 101]⟩ 0 ⟨#[]⟩ := Box.below ⟨o0, o1, o2⟩ hb4 (by omega)
  have g0 : ∀ o, w4.frozen? ⟨w.heap.size, o, none⟩ = false := fun o => (hb4.frozen (p := ⟨w.heap.size, o, none⟩) (by show w.heap.size < _; omega)).trans (f0 o)
  have g2 : ∀ o, w4.frozen? ⟨w.heap.size + 2, o, none⟩ = false := fun o => (hb4.frozen (p := ⟨w.heap.size + 2, o, none⟩) (by show w.heap.size + 2 < _; omega)).trans (f2 o)
  have d0 := (hb4.cell (p := ⟨g, 0, none⟩) hgl).trans c0
  have d1 := (hb4.cell (p := ⟨g, 1, none⟩) hgl).trans c1
  have hbw4 : Below w.heap.size w w4 := hbw.trans (hb4.mono hbw.size)
  have hz4 : w.heap.size + 3 ≤ w4.heap.size := by have := hb4.size; omega
  clear a0 a1 a2 z0 z1 z2 o0 o1 o2 f0 f2 hbw c0 c1 hb4
  obtain ⟨g5, cap2, rfl, hg5, e5⟩ := hW2 w4 v2 _ hown2
  have E5 := Lib.hid e5
  have e50 := E5.out 0 fst HF0.out
  clear hS2 hown2 hW2 e5
  go_wp2_with fail
  refine (hD _).mono ?_
  rintro e w4 ⟨rfl, rfl⟩
  clear hD
  go_wp2
  go_loop [12, 13, 14] (fun t wd i => ∃ (k : Nat) (tt : Int) (wb : Bool), i = .int .i64 k ∧ t = .int .i64 tt ∧ wd = .bool wb ∧ k ≤ n ∧ 0 ≤ tt ∧ Hid (tt ≤ bnd k) ∧ Hid (timeGo n k tt wb (F.drop k) = R)) (fun _ _ i => n - (intOf i).toNat)
  case atStart => exact ⟨0, 0, false, rfl, rfl, rfl, by omega, Int.le_refl _, Lib.hid (Int.le_refl _), HT0⟩
  case round =>
    obtain ⟨k, tt, wb, rfl, rfl, rfl, hk, ht0, Ht1, HT⟩ := hrel
    have ht1 : tt ≤ 4000000000000 := Int.le_trans Ht1.out (bnd_le k (by omega))
    by_cases hlt : k < n
    · obtain ⟨f, hf⟩ : ∃ f, F[k]? = some f := ⟨_, List.getElem?_eq_getElem (by rw [HN.out]; exact hlt)⟩
      have ek := E5.out k f hf
      have HFk := Lib.hid hf
      have hsz := HFs.out k f hf
      clear hf
      rcases Nat.eq_zero_or_pos k with hk0 | hk0
      · subst hk0
        obtain rfl : fst = f := Option.some.inj (HF0.out.symm.trans HFk.out)
        have hvv : fv 0 fst = front fst := if_pos rfl
        obtain ⟨hv1, hv2⟩ := front_bound fst
        by_cases hneg : front fst < 0
        · have HR : Hid (R = none) := Lib.hid (by have := HT.out; rw [timeGo_bad HFk.out (by rw [hvv]; exact hneg)] at this; exact this.symm)
          generalize front fst = v at *
          clear HT hvv
          as_aux_lemma =>
            go_wp2_with fail
            refine (hfr _).mono ?_
            rintro e w4 ⟨rfl, rfl⟩
            go_wp2
            obtain ⟨q0, q1, q2⟩ : Box _ w.heap.size ⟨#[]⟩ 0 ⟨#[]⟩ := Box.put3 (w := w4) ⟨p0, p1, p2⟩
            exact bodyPost_ret (v := .tuple #[.agg #[.string ⟨#[]⟩, .int .i64 0, .string ⟨#[]⟩], .int .i64 25]) (by simp [results, Tryz.results11, go_sem, q0, q1, q2]) rfl ⟨by rw [← HRV.out, HR.out]; rfl, (((hbw4.setCell (Nat.le_refl _) _).setCell (Nat.le_refl _) _).setCell (Nat.le_refl _) _)⟩
        · have HS : Hid (∀ wb, timeGo n 0 tt wb (F.drop 0) = timeGo n (0 + 1) (60 * tt + front fst) (wb || (decide (59 < front fst) && (decide (0 < 0) || decide (n < 3)))) (F.drop (0 + 1))) := Lib.hid (fun wb => by rw [timeGo_step HFk.out (by rw [hvv]; exact hneg), hvv])
          generalize front fst = v at *
          clear hvv
          cases wb with
          | true =>
            have HTn : Hid (timeGo n (0 + 1) (60 * tt + v) true (F.drop (0 + 1)) = R) := Lib.hid (by have := HT.out; rwa [HS.out, Bool.true_or] at this)
            clear HT HS
            as_aux_lemma =>
              go_wp2_with fail
              refine (hfr _).mono ?_
              rintro e w4 ⟨rfl, rfl⟩
              go_wp2
              exact ⟨⟨0 + 1, 60 * tt + v, true, by go_num, rfl, (by first | rfl | (congr 1; exact decide_eq_false (by omega))), by omega, by omega, Lib.hid (by rw [bnd]; have := Ht1.out; omega), HTn⟩, by simp [intOf]; omega⟩
          | false =>
            by_cases h59 : (59 : Int) < v
            · by_cases hn3 : (n : Int) < 3
              · have HTn : Hid (timeGo n (0 + 1) (60 * tt + v) true (F.drop (0 + 1)) = R) := Lib.hid (by have := HT.out; rw [HS.out, decide_eq_true h59, decide_eq_true (show n < 3 by omega)] at this; exact this)
                clear HT HS
                as_aux_lemma =>
                  go_wp2_with fail
                  refine (hfr _).mono ?_
                  rintro e w4 ⟨rfl, rfl⟩
                  go_wp2
                  exact ⟨⟨0 + 1, 60 * tt + v, true, by go_num, rfl, (by first | rfl | (congr 1; exact decide_eq_false (by omega))), by omega, by omega, Lib.hid (by rw [bnd]; have := Ht1.out; omega), HTn⟩, by simp [intOf]; omega⟩
              · have HTn : Hid (timeGo n (0 + 1) (60 * tt + v) false (F.drop (0 + 1)) = R) := Lib.hid (by have := HT.out; rw [HS.out, decide_eq_true h59, decide_eq_false (show ¬ n < 3 by omega)] at this; exact this)
                clear HT HS
                as_aux_lemma =>
                  go_wp2_with fail
                  refine (hfr _).mono ?_
                  rintro e w4 ⟨rfl, rfl⟩
                  go_wp2
                  exact ⟨⟨0 + 1, 60 * tt + v, false, by go_num, rfl, (by first | rfl | (congr 1; exact decide_eq_false (by omega))), by omega, by omega, Lib.hid (by rw [bnd]; have := Ht1.out; omega), HTn⟩, by simp [intOf]; omega⟩
            · have HTn : Hid (timeGo n (0 + 1) (60 * tt + v) false (F.drop (0 + 1)) = R) := Lib.hid (by have := HT.out; rw [HS.out, decide_eq_false h59] at this; exact this)
              clear HT HS
              as_aux_lemma =>
                go_wp2_with fail
                refine (hfr _).mono ?_
                rintro e w4 ⟨rfl, rfl⟩
                go_wp2
                exact ⟨⟨0 + 1, 60 * tt + v, false, by go_num, rfl, (by first | rfl | (congr 1; exact decide_eq_false (by omega))), by omega, by omega, Lib.hid (by rw [bnd]; have := Ht1.out; omega), HTn⟩, by simp [intOf]; omega⟩
      · have hdg := fun w => refDigits_any f w (by omega)
        obtain ⟨hv1, hv2⟩ := digits_bound f
        have hki : (0 : Int) < k := by omega
        have hvv : fv k f = if f.size = 2 then digits f else -1 := if_neg (by omega)
        obtain ⟨fv1, _⟩ := front_bound fst
        generalize front fst = v at *
        by_cases hs2' : f.size = 2
        · rw [if_pos hs2'] at hvv
          have hs3 : ((f.size : Int) != 2) = false := by rw [bne_eq_false_iff_eq]; omega
          clear hs2'
          by_cases hneg : digits f < 0
          · have HR : Hid (R = none) := Lib.hid (by have := HT.out; rw [timeGo_bad HFk.out (by rw [hvv]; exact hneg)] at this; exact this.symm)
            generalize digits f = d at *
            clear HT hvv
            as_aux_lemma =>
              go_wp2_with fail
              refine (hfr _).mono ?_
              rintro e w4 ⟨rfl, rfl⟩
              go_wp2_with fail
              refine (hdg _).mono ?_
              rintro e w4 ⟨rfl, rfl⟩
              go_wp2
              obtain ⟨q0, q1, q2⟩ : Box _ w.heap.size ⟨#[]⟩ 0 ⟨#[]⟩ := Box.put3 (w := w4) ⟨p0, p1, p2⟩
              exact bodyPost_ret (v := .tuple #[.agg #[.string ⟨#[]⟩, .int .i64 0, .string ⟨#[]⟩], .int .i64 25]) (by simp [results, Tryz.results11, go_sem, q0, q1, q2]) rfl ⟨by rw [← HRV.out, HR.out]; rfl, (((hbw4.setCell (Nat.le_refl _) _).setCell (Nat.le_refl _) _).setCell (Nat.le_refl _) _)⟩
          · have HS : Hid (∀ wb, timeGo n k tt wb (F.drop k) = timeGo n (k + 1) (60 * tt + digits f) (wb || (decide (59 < digits f) && (decide (0 < k) || decide (n < 3)))) (F.drop (k + 1))) := Lib.hid (fun wb => by rw [timeGo_step HFk.out (by rw [hvv]; exact hneg), hvv])
            generalize digits f = d at *
            clear hvv
            cases wb with
            | true =>
              have HTn : Hid (timeGo n (k + 1) (60 * tt + d) true (F.drop (k + 1)) = R) := Lib.hid (by have := HT.out; rwa [HS.out, Bool.true_or] at this)
              clear HT HS
              as_aux_lemma =>
                go_wp2_with fail
                refine (hfr _).mono ?_
                rintro e w4 ⟨rfl, rfl⟩
                go_wp2_with fail
                refine (hdg _).mono ?_
                rintro e w4 ⟨rfl, rfl⟩
                go_wp2
                exact ⟨⟨k + 1, 60 * tt + d, true, by go_num, rfl, (by first | rfl | (congr 1; exact decide_eq_false (by omega))), by omega, by omega, Lib.hid (by rw [bnd]; have := Ht1.out; omega), HTn⟩, by simp [intOf]; omega⟩
            | false =>
              by_cases h59 : (59 : Int) < d
              · have HTn : Hid (timeGo n (k + 1) (60 * tt + d) true (F.drop (k + 1)) = R) := Lib.hid (by have := HT.out; rw [HS.out, decide_eq_true h59, decide_eq_true (show 0 < k by omega)] at this; exact this)
                clear HT HS
                as_aux_lemma =>
                  go_wp2_with fail
                  refine (hfr _).mono ?_
                  rintro e w4 ⟨rfl, rfl⟩
                  go_wp2_with fail
                  refine (hdg _).mono ?_
                  rintro e w4 ⟨rfl, rfl⟩
                  go_wp2
                  exact ⟨⟨k + 1, 60 * tt + d, true, by go_num, rfl, (by first | rfl | (congr 1; exact decide_eq_false (by omega))), by omega, by omega, Lib.hid (by rw [bnd]; have := Ht1.out; omega), HTn⟩, by simp [intOf]; omega⟩
              · have HTn : Hid (timeGo n (k + 1) (60 * tt + d) false (F.drop (k + 1)) = R) := Lib.hid (by have := HT.out; rw [HS.out, decide_eq_false h59] at this; exact this)
                clear HT HS
                as_aux_lemma =>
                  go_wp2_with fail
                  refine (hfr _).mono ?_
                  rintro e w4 ⟨rfl, rfl⟩
                  go_wp2_with fail
                  refine (hdg _).mono ?_
                  rintro e w4 ⟨rfl, rfl⟩
                  go_wp2
                  exact ⟨⟨k + 1, 60 * tt + d, false, by go_num, rfl, (by first | rfl | (congr 1; exact decide_eq_false (by omega))), by omega, by omega, Lib.hid (by rw [bnd]; have := Ht1.out; omega), HTn⟩, by simp [intOf]; omega⟩
        · rw [if_neg hs2'] at hvv
          have hs3 : ((f.size : Int) != 2) = true := by rw [bne_iff_ne]; omega
          have HR : Hid (R = none) := Lib.hid (by have := HT.out; rw [timeGo_bad HFk.out (by rw [hvv]; decide)] at this; exact this.symm)
          generalize digits f = d at *
          clear hs2' HT hvv
          as_aux_lemma =>
            go_wp2_with fail
            refine (hfr _).mono ?_
            rintro e w4 ⟨rfl, rfl⟩
            go_wp2_with fail
            refine (hdg _).mono ?_
            rintro e w4 ⟨rfl, rfl⟩
            go_wp2
            obtain ⟨q0, q1, q2⟩ : Box _ w.heap.size ⟨#[]⟩ 0 ⟨#[]⟩ := Box.put3 (w := w4) ⟨p0, p1, p2⟩
            exact bodyPost_ret (v := .tuple #[.agg #[.string ⟨#[]⟩, .int .i64 0, .string ⟨#[]⟩], .int .i64 25]) (by simp [results, Tryz.results11, go_sem, q0, q1, q2]) rfl ⟨by rw [← HRV.out, HR.out]; rfl, (((hbw4.setCell (Nat.le_refl _) _).setCell (Nat.le_refl _) _).setCell (Nat.le_refl _) _)⟩
    · have HR : Hid (R = some (tt, wb)) := Lib.hid (by have := HT.out; rw [timeGo_end (by rw [HN.out]; omega)] at this; exact this.symm)
      cases wb with
      | true =>
        clear HT
        as_aux_lemma =>
          go_wp2
          obtain ⟨q0, q1, q2⟩ : Box _ w.heap.size ⟨#[]⟩ 0 ⟨#[]⟩ := Box.put3 (w := w4) ⟨p0, p1, p2⟩
          exact bodyPost_ret (v := .tuple #[.agg #[.string ⟨#[]⟩, .int .i64 0, .string ⟨#[]⟩], .int .i64 3]) (by simp [results, Tryz.results11, go_sem, q0, q1, q2]) rfl ⟨by rw [← HRV.out, HR.out]; rfl, (((hbw4.setCell (Nat.le_refl _) _).setCell (Nat.le_refl _) _).setCell (Nat.le_refl _) _)⟩
      | false =>
        clear HT
        obtain ⟨ms, mv, mr, me, hm2, hR⟩ := refRangedAt sTime ⟨#[]⟩ (10000 * tt + b)
        have HV : Hid (rv = .tuple #[.agg #[.string ms, .int .i64 mv, .string mr], .int .i64 me]) := Lib.hid (by rw [← HRV.out, HR.out]; show ME.out (ranged _ _ _) = _; rw [hm2]; rfl)
        unfold sTime at hR
        clear hm2
        as_aux_lemma =>
          go_wp2_with fail
          refine (hR _).mono ?_
          rintro e w6 ⟨rfl, hb6⟩
          have hC : Below (w.heap.size + 2) w4 w6 := ((Below.refl _ w4).setCell (by show _ ≤ w.heap.size + 1 + 1; omega) _).trans (hb6.mono (by simp; omega))
          obtain ⟨d0, d1, d2⟩ : Box w6 w.heap.size ⟨#[]⟩ 0 ⟨#[]⟩ := Box.below ⟨p0, p1, p2⟩ hC (by omega)
          have k0 : ∀ o, w6.frozen? ⟨w.heap.size, o, none⟩ = false := fun o => (hC.frozen (p := ⟨w.heap.size, o, none⟩) (by show w.heap.size < _; omega)).trans (g0 o)
          have hbw6 : Below w.heap.size w w6 := hbw4.trans (hC.mono (by omega))
          clear hC hb6 hR p0 p1 p2 g0 g2 y0 y1 y2 r0 r1 r2 hbw4
          go_wp2
          obtain ⟨q0, q1, q2⟩ : Box _ w.heap.size ms mv mr := Box.put3 (w := w6) ⟨d0, d1, d2⟩
          exact bodyPost_ret (v := .tuple #[.agg #[.string ms, .int .i64 mv, .string mr], .int .i64 me]) (by simp [results, Tryz.results11, go_sem, q0, q1, q2]) rfl ⟨by rw [HV.out], (((hbw6.setCell (Nat.le_refl _) _).setCell (Nat.le_refl _) _).setCell (Nat.le_refl _) _)⟩
end Go.Mk
