/-
  Proved: the reference's Parse of a length. Condition: the text has at most 24 bytes.
-/
import Derived.Test.YtclkcooomikiiaaGreatDoorUe
set_option linter.unusedVariables false
set_option linter.unusedSimpArgs false
open Go Go.Proofs Go.RowKit Go.Sort
set_option maxRecDepth 100000
namespace Go.Mk
theorem scaled_bound (s : ByteArray) (lo hi : Nat) (hh : hi ≤ 9) : -1 ≤ scaled s lo hi ∧ scaled s lo hi ≤ 999999999 := by
  unfold scaled
  split
  · omega
  · rename_i h
    have h2 : s.size ≤ hi := by omega
    rcases digits_range s with e | ⟨r, e, hr⟩
    · exact absurd (by right; right; rw [e]; decide) h
    · rw [e]
      have h1 : r * 10 ^ (hi - s.size) < 10 ^ hi := by
        calc r * 10 ^ (hi - s.size) < 10 ^ s.size * 10 ^ (hi - s.size) := Nat.mul_lt_mul_of_pos_right hr (Nat.pow_pos (by decide))
          _ = 10 ^ hi := by rw [← Nat.pow_add]; congr 1; omega
      have h3 : 10 ^ hi ≤ 10 ^ 9 := Nat.pow_le_pow_right (by decide) hh
      have h4 : ((r : Int) * 10 ^ (hi - s.size)) = ((r * 10 ^ (hi - s.size) : Nat) : Int) := by push_cast; rfl
      rw [h4]
      omega
/-- A list of texts in new memory, laid open. -/
theorem OwnTexts.open_ {w : World} {B : Nat} {v : Value} {L : List ByteArray} (h : OwnTexts w B v L) : (v = .slice none 0 0 ∧ L = []) ∨ ∃ g cap, v = .slice (some ⟨g, 0, none⟩) L.length cap ∧ B ≤ g ∧ g < w.heap.size ∧ ∀ (j : Nat) (t : ByteArray), L[j]? = some t → w.cell? ⟨g, j, none⟩ = some (.string t) := by
  rcases Joins.ownsRow_forms h with ⟨h1, h2⟩ | ⟨g, cap, h1⟩
  · exact .inl ⟨h1, List.length_eq_zero_iff.1 h2⟩
  · subst h1
    have hl := World.ownsRow.lt h g rfl
    refine .inr ⟨g, cap, rfl, hl.1, hl.2, fun j t ht => ?_⟩
    have hj : j < L.length := (List.getElem?_eq_some_iff.1 ht).1
    rw [World.ownsRow.cellAt h j (by omega), List.getElem?_map, ht]
    rfl
def sl (v : Value) (n : Nat) : Prop := ∃ a cap, v = .slice a n cap
theorem OwnTexts.sl {w : World} {B : Nat} {v : Value} {L : List ByteArray} (h : OwnTexts w B v L) : ∃ a cap, v = .slice a L.length cap := by
  rcases h.open_ with ⟨rfl, rfl⟩ | ⟨g, cap, rfl, _⟩
  · exact ⟨none, 0, rfl⟩
  · exact ⟨_, _, rfl⟩
theorem fz_new (w : World) (p : Nat) (hp : p = w.heap.size) (c : Array Value) (t : TypeId) (o : Nat) : (w.alloc (.cells c t)).frozen? ⟨p, o, none⟩ = false := by subst hp; simp
set_option maxHeartbeats 1000000 in
theorem refParse_len_parts (s : ByteArray) (h0 : 0 < s.size) (h1 : ¬ (24 : Int) < s.size) (h2 : isR s = false) (h3 : lastB s = 109) (h4 : (split 46 (chop s)).length ≠ 2) (w : World) : Calls Tryz.prog 11 #[.string s] w (RetPost (ME.out (ME.bad 25)) w) := by
  have hI := refIsReason_any s
  rw [h2] at hI
  have he : ((s.size : Int) == 0) = false := by rw [beq_eq_false_iff_ne]; omega
  have hix := index_last s h0
  have hsl := slice_chop s h0
  rw [h3] at hix
  have hS := fun w => refSplit_any (chop s) 46 (by have := chop_size s; omega) w
  generalize chop s = t at *
  have hs1 : (1 : Int) ≤ s.size := by omega
  have hs2 : (s.size : Int) ≤ 24 := by omega
  have h4' : (((split 46 t).length : Int) != 2) = true := by rw [bne_iff_ne]; omega
  generalize split 46 t = L at *
  clear h0 h2 h3 h1 h4
  go_enter Tryz.func11, Tryz.ntmps11
  go_wp2_with fail
  refine (hI _).mono ?_
  rintro e w2 ⟨rfl, rfl⟩
  go_wp2_with fail
  refine (hS _).mono ?_
  rintro e w3 ⟨v, rfl, hown, hb3⟩
  obtain ⟨a, cap, rfl⟩ := hown.sl
  have hB1 : Below (w.heap.size + 2) ((w.alloc (.cells #[.string ⟨#[]⟩, .int .i64 0, .string ⟨#[]⟩] 23)).alloc (.cells #[.string ⟨#[]⟩, .int .i64 0, .string ⟨#[]⟩] 23)) w3 := ((Below.refl _ _).alloc (by simp) _).trans (hb3.mono (by simp))
  obtain ⟨a0, a1, a2⟩ : Box w3 w.heap.size ⟨#[]⟩ 0 ⟨#[]⟩ := ((Box.new w ⟨#[]⟩ 0 ⟨#[]⟩).below ((Below.refl (w.heap.size + 1) _).alloc (by simp) _) (by omega)).below hB1 (by omega)
  obtain ⟨z0, z1, z2⟩ : Box w3 (w.heap.size + 1) ⟨#[]⟩ 0 ⟨#[]⟩ := (Box.new' _ _ ⟨#[]⟩ 0 ⟨#[]⟩ (by simp)).below hB1 (by omega)
  have f0 : ∀ o, w3.frozen? ⟨w.heap.size, o, none⟩ = false := fun o => by rw [hB1.frozen (p := ⟨w.heap.size, o, none⟩) (by show w.heap.size < _; omega)]; simp
  have hbw : Below w.heap.size w w3 := (((Below.refl w.heap.size w).alloc (Nat.le_refl _) _).alloc (by simp) _).trans (hB1.mono (by omega))
  clear hb3 hS hI hB1 hown
  go_wp2
  obtain ⟨q0, q1, q2⟩ : Box _ w.heap.size ⟨#[]⟩ 0 ⟨#[]⟩ := Box.put3 ⟨a0, a1, a2⟩
  exact bodyPost_ret (v := .tuple #[.agg #[.string ⟨#[]⟩, .int .i64 0, .string ⟨#[]⟩], .int .i64 25]) (by simp [results, Tryz.results11, go_sem, q0, q1, q2]) rfl ⟨rfl, (((hbw.setCell (Nat.le_refl _) _).setCell (Nat.le_refl _) _).setCell (Nat.le_refl _) _)⟩
set_option maxHeartbeats 2000000 in
theorem refParse_len (s x y : ByteArray) (h0 : 0 < s.size) (h1 : ¬ (24 : Int) < s.size) (h2 : isR s = false) (h3 : lastB s = 109) (h4 : split 46 (chop s) = [x, y]) (hx : x.size ≤ 60) (hy : y.size ≤ 60) (w : World) : Calls Tryz.prog 11 #[.string s] w (RetPost (ME.out (lenOf (front x) (scaled y 2 3))) w) := by
  have hI := refIsReason_any s
  rw [h2] at hI
  have he : ((s.size : Int) == 0) = false := by rw [beq_eq_false_iff_ne]; omega
  have hix := index_last s h0
  have hsl := slice_chop s h0
  rw [h3] at hix
  have hS := fun w => refSplit_any (chop s) 46 (by have := chop_size s; omega) w
  rw [h4] at hS
  have hm : maxLen = 9223372036854775807 := rfl
  have hF := fun w => refFront_any x w (by omega)
  have hD := fun w => refScaled_any y 2 3 (by decide) (by decide) w (by omega)
  obtain ⟨b1, b2⟩ := front_bound x
  obtain ⟨b3, b4⟩ := scaled_bound y 2 3 (by decide)
  generalize front x = a at *
  generalize scaled y 2 3 = b at *
  generalize chop s = t at *
  have hs1 : (1 : Int) ≤ s.size := by omega
  have hs2 : (s.size : Int) ≤ 24 := by omega
  clear h0 h2 h3 h1 h4 hx hy hm
  have hW : ∀ w3 v, OwnTexts w3 (w.heap.size + 3) v [x, y] → ∃ g cap, v = .slice (some ⟨g, 0, none⟩) 2 cap ∧ w.heap.size + 3 ≤ g ∧ w3.cell? ⟨g, 0, none⟩ = some (.string x) ∧ w3.cell? ⟨g, 1, none⟩ = some (.string y) := by
    intro w3 v h
    rcases h.open_ with ⟨_, h⟩ | ⟨g, cap, h1, h2, _, h3⟩
    · cases h
    · exact ⟨g, cap, h1, h2, h3 0 x rfl, h3 1 y rfl⟩
  unfold lenOf
  by_cases hab : a < 0 ∨ b < 0
  · rw [if_pos hab]
    rcases Decidable.em (a < 0) with ha | ha
    · clear hab
      as_aux_lemma =>
        go_enter Tryz.func11, Tryz.ntmps11
        go_wp2_with fail
        refine (hI _).mono ?_
        rintro e w2 ⟨rfl, rfl⟩
        go_wp2_with fail
        refine (hS _).mono ?_
        rintro e w3 ⟨v, rfl, hown, hb3⟩
        obtain ⟨g, cap, rfl, hg, c0, c1⟩ := hW w3 v (by simpa using hown)
        have hB1 : Below (w.heap.size + 3) (((w.alloc (.cells #[.string ⟨#[]⟩, .int .i64 0, .string ⟨#[]⟩] 23)).alloc (.cells #[.string ⟨#[]⟩, .int .i64 0, .string ⟨#[]⟩] 23)).alloc (.cells #[.string ⟨#[108, 101, 110, 103, 116, 104]⟩, .int .i64 0, .string ⟨#[]⟩] 23)) w3 := hb3.mono (by simp)
        obtain ⟨a0, a1, a2⟩ : Box w3 w.heap.size ⟨#[]⟩ 0 ⟨#[]⟩ := ((Box.new w ⟨#[]⟩ 0 ⟨#[]⟩).below (((Below.refl (w.heap.size + 1) _).alloc (by simp) _).alloc (by simp) _) (by omega)).below hB1 (by omega)
        obtain ⟨z0, z1, z2⟩ : Box w3 (w.heap.size + 1) ⟨#[]⟩ 0 ⟨#[]⟩ := ((Box.new' _ _ ⟨#[]⟩ 0 ⟨#[]⟩ (by simp)).below ((Below.refl (w.heap.size + 2) _).alloc (by simp) _) (by omega)).below hB1 (by omega)
        obtain ⟨o0, o1, o2⟩ : Box w3 (w.heap.size + 2) ⟨#[108, 101, 110, 103, 116, 104]⟩ 0 ⟨#[]⟩ := (Box.new' _ _ ⟨#[108, 101, 110, 103, 116, 104]⟩ 0 ⟨#[]⟩ (by simp)).below hB1 (by omega)
        have hB0 : Below (w.heap.size + 1) (w.alloc (.cells #[.string ⟨#[]⟩, .int .i64 0, .string ⟨#[]⟩] 23)) w3 := (((Below.refl _ _).alloc (by simp) _).alloc (by simp) _).trans (hB1.mono (by omega))
        have f0 : ∀ o, w3.frozen? ⟨w.heap.size, o, none⟩ = false := fun o => (hB0.frozen (p := ⟨w.heap.size, o, none⟩) (by show w.heap.size < _; omega)).trans (fz_new w _ rfl _ _ o)
        have f2 : ∀ o, w3.frozen? ⟨w.heap.size + 2, o, none⟩ = false := fun o => (hB1.frozen (p := ⟨w.heap.size + 2, o, none⟩) (by show w.heap.size + 2 < _; omega)).trans (fz_new _ _ (by simp) _ _ o)
        clear hB0
        have hbw : Below w.heap.size w w3 := ((((Below.refl w.heap.size w).alloc (Nat.le_refl _) _).alloc (by simp) _).alloc (by simp; omega) _).trans (hB1.mono (by omega))
        have hz3 : w.heap.size + 3 ≤ w3.heap.size := by have := hB1.size; simpa using this
        clear hb3 hS hI hB1 hown hW
        go_wp2
        go_quiet ((first | (go_at_call 36; exact Calls.quiet_of_same (hF _)) | (go_at_call 39; exact Calls.quiet_of_same (hD _))))
        go_wp2
        obtain ⟨q0, q1, q2⟩ : Box _ w.heap.size ⟨#[]⟩ 0 ⟨#[]⟩ := Box.put3 (w := w3.drewN nq) ⟨a0, a1, a2⟩
        exact bodyPost_ret (v := .tuple #[.agg #[.string ⟨#[]⟩, .int .i64 0, .string ⟨#[]⟩], .int .i64 25]) (by simp [results, Tryz.results11, go_sem, q0, q1, q2]) rfl ⟨rfl, ((((below_drewN hbw _).setCell (Nat.le_refl _) _).setCell (Nat.le_refl _) _).setCell (Nat.le_refl _) _)⟩
    · have hb : b < 0 := by omega
      clear hab
      as_aux_lemma =>
        go_enter Tryz.func11, Tryz.ntmps11
        go_wp2_with fail
        refine (hI _).mono ?_
        rintro e w2 ⟨rfl, rfl⟩
        go_wp2_with fail
        refine (hS _).mono ?_
        rintro e w3 ⟨v, rfl, hown, hb3⟩
        obtain ⟨g, cap, rfl, hg, c0, c1⟩ := hW w3 v (by simpa using hown)
        have hB1 : Below (w.heap.size + 3) (((w.alloc (.cells #[.string ⟨#[]⟩, .int .i64 0, .string ⟨#[]⟩] 23)).alloc (.cells #[.string ⟨#[]⟩, .int .i64 0, .string ⟨#[]⟩] 23)).alloc (.cells #[.string ⟨#[108, 101, 110, 103, 116, 104]⟩, .int .i64 0, .string ⟨#[]⟩] 23)) w3 := hb3.mono (by simp)
        obtain ⟨a0, a1, a2⟩ : Box w3 w.heap.size ⟨#[]⟩ 0 ⟨#[]⟩ := ((Box.new w ⟨#[]⟩ 0 ⟨#[]⟩).below (((Below.refl (w.heap.size + 1) _).alloc (by simp) _).alloc (by simp) _) (by omega)).below hB1 (by omega)
        obtain ⟨z0, z1, z2⟩ : Box w3 (w.heap.size + 1) ⟨#[]⟩ 0 ⟨#[]⟩ := ((Box.new' _ _ ⟨#[]⟩ 0 ⟨#[]⟩ (by simp)).below ((Below.refl (w.heap.size + 2) _).alloc (by simp) _) (by omega)).below hB1 (by omega)
        obtain ⟨o0, o1, o2⟩ : Box w3 (w.heap.size + 2) ⟨#[108, 101, 110, 103, 116, 104]⟩ 0 ⟨#[]⟩ := (Box.new' _ _ ⟨#[108, 101, 110, 103, 116, 104]⟩ 0 ⟨#[]⟩ (by simp)).below hB1 (by omega)
        have hB0 : Below (w.heap.size + 1) (w.alloc (.cells #[.string ⟨#[]⟩, .int .i64 0, .string ⟨#[]⟩] 23)) w3 := (((Below.refl _ _).alloc (by simp) _).alloc (by simp) _).trans (hB1.mono (by omega))
        have f0 : ∀ o, w3.frozen? ⟨w.heap.size, o, none⟩ = false := fun o => (hB0.frozen (p := ⟨w.heap.size, o, none⟩) (by show w.heap.size < _; omega)).trans (fz_new w _ rfl _ _ o)
        have f2 : ∀ o, w3.frozen? ⟨w.heap.size + 2, o, none⟩ = false := fun o => (hB1.frozen (p := ⟨w.heap.size + 2, o, none⟩) (by show w.heap.size + 2 < _; omega)).trans (fz_new _ _ (by simp) _ _ o)
        clear hB0
        have hbw : Below w.heap.size w w3 := ((((Below.refl w.heap.size w).alloc (Nat.le_refl _) _).alloc (by simp) _).alloc (by simp; omega) _).trans (hB1.mono (by omega))
        have hz3 : w.heap.size + 3 ≤ w3.heap.size := by have := hB1.size; simpa using this
        clear hb3 hS hI hB1 hown hW
        go_wp2
        go_quiet ((first | (go_at_call 36; exact Calls.quiet_of_same (hF _)) | (go_at_call 39; exact Calls.quiet_of_same (hD _))))
        go_wp2
        obtain ⟨q0, q1, q2⟩ : Box _ w.heap.size ⟨#[]⟩ 0 ⟨#[]⟩ := Box.put3 (w := w3.drewN nq) ⟨a0, a1, a2⟩
        exact bodyPost_ret (v := .tuple #[.agg #[.string ⟨#[]⟩, .int .i64 0, .string ⟨#[]⟩], .int .i64 25]) (by simp [results, Tryz.results11, go_sem, q0, q1, q2]) rfl ⟨rfl, ((((below_drewN hbw _).setCell (Nat.le_refl _) _).setCell (Nat.le_refl _) _).setCell (Nat.le_refl _) _)⟩
  · rw [if_neg hab]
    have ha : ¬ a < 0 := by omega
    have hb : ¬ b < 0 := by omega
    obtain ⟨ms, mv, mr, me, hm, hR⟩ := refRangedAt sLength ⟨#[]⟩ (1000 * a + b)
    rw [hm]
    show Calls _ _ _ _ (RetPost (.tuple #[.agg #[.string ms, .int .i64 mv, .string mr], .int .i64 me]) w)
    unfold sLength at hR
    clear hm hab
    as_aux_lemma =>
      go_enter Tryz.func11, Tryz.ntmps11
      go_wp2_with fail
      refine (hI _).mono ?_
      rintro e w2 ⟨rfl, rfl⟩
      go_wp2_with fail
      refine (hS _).mono ?_
      rintro e w3 ⟨v, rfl, hown, hb3⟩
      obtain ⟨g, cap, rfl, hg, c0, c1⟩ := hW w3 v (by simpa using hown)
      have hB1 : Below (w.heap.size + 3) (((w.alloc (.cells #[.string ⟨#[]⟩, .int .i64 0, .string ⟨#[]⟩] 23)).alloc (.cells #[.string ⟨#[]⟩, .int .i64 0, .string ⟨#[]⟩] 23)).alloc (.cells #[.string ⟨#[108, 101, 110, 103, 116, 104]⟩, .int .i64 0, .string ⟨#[]⟩] 23)) w3 := hb3.mono (by simp)
      obtain ⟨a0, a1, a2⟩ : Box w3 w.heap.size ⟨#[]⟩ 0 ⟨#[]⟩ := ((Box.new w ⟨#[]⟩ 0 ⟨#[]⟩).below (((Below.refl (w.heap.size + 1) _).alloc (by simp) _).alloc (by simp) _) (by omega)).below hB1 (by omega)
      obtain ⟨z0, z1, z2⟩ : Box w3 (w.heap.size + 1) ⟨#[]⟩ 0 ⟨#[]⟩ := ((Box.new' _ _ ⟨#[]⟩ 0 ⟨#[]⟩ (by simp)).below ((Below.refl (w.heap.size + 2) _).alloc (by simp) _) (by omega)).below hB1 (by omega)
      obtain ⟨o0, o1, o2⟩ : Box w3 (w.heap.size + 2) ⟨#[108, 101, 110, 103, 116, 104]⟩ 0 ⟨#[]⟩ := (Box.new' _ _ ⟨#[108, 101, 110, 103, 116, 104]⟩ 0 ⟨#[]⟩ (by simp)).below hB1 (by omega)
      have hB0 : Below (w.heap.size + 1) (w.alloc (.cells #[.string ⟨#[]⟩, .int .i64 0, .string ⟨#[]⟩] 23)) w3 := (((Below.refl _ _).alloc (by simp) _).alloc (by simp) _).trans (hB1.mono (by omega))
      have f0 : ∀ o, w3.frozen? ⟨w.heap.size, o, none⟩ = false := fun o => (hB0.frozen (p := ⟨w.heap.size, o, none⟩) (by show w.heap.size < _; omega)).trans (fz_new w _ rfl _ _ o)
      have f2 : ∀ o, w3.frozen? ⟨w.heap.size + 2, o, none⟩ = false := fun o => (hB1.frozen (p := ⟨w.heap.size + 2, o, none⟩) (by show w.heap.size + 2 < _; omega)).trans (fz_new _ _ (by simp) _ _ o)
      clear hB0
      have hbw : Below w.heap.size w w3 := ((((Below.refl w.heap.size w).alloc (Nat.le_refl _) _).alloc (by simp) _).alloc (by simp; omega) _).trans (hB1.mono (by omega))
      have hz3 : w.heap.size + 3 ≤ w3.heap.size := by have := hB1.size; simpa using this
      clear hb3 hS hI hB1 hown hW
      go_wp2
      go_quiet ((first | (go_at_call 36; exact Calls.quiet_of_same (hF _)) | (go_at_call 39; exact Calls.quiet_of_same (hD _))))
      go_wp2_with fail
      refine (hR _).mono ?_
      rintro e w4 ⟨rfl, hb4⟩
      have hC : Below (w.heap.size + 2) w3 w4 := ((below_drewN (Below.refl _ w3) nq).setCell (by show _ ≤ w.heap.size + 1 + 1; omega) _).trans (hb4.mono (by simp; omega))
      obtain ⟨d0, d1, d2⟩ : Box w4 w.heap.size ⟨#[]⟩ 0 ⟨#[]⟩ := Box.below ⟨a0, a1, a2⟩ hC (by omega)
      have g0 : ∀ o, w4.frozen? ⟨w.heap.size, o, none⟩ = false := fun o => (hC.frozen (p := ⟨w.heap.size, o, none⟩) (by show w.heap.size < _; omega)).trans (f0 o)
      have hbw4 : Below w.heap.size w w4 := hbw.trans (hC.mono (by omega))
      clear hC hb4 hR a0 a1 a2 f0 f2 o0 o1 o2 z0 z1 z2 c0 c1 hbw
      go_wp2
      obtain ⟨q0, q1, q2⟩ : Box _ w.heap.size ms mv mr := Box.put3 (w := w4) ⟨d0, d1, d2⟩
      exact bodyPost_ret (v := .tuple #[.agg #[.string ms, .int .i64 mv, .string mr], .int .i64 me]) (by simp [results, Tryz.results11, go_sem, q0, q1, q2]) rfl ⟨rfl, (((hbw4.setCell (Nat.le_refl _) _).setCell (Nat.le_refl _) _).setCell (Nat.le_refl _) _)⟩
end Go.Mk
