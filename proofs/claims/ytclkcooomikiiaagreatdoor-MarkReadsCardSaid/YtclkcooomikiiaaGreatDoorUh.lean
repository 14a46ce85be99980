/-
  Proved: the reference's Parse returns what the plain function refP says. Condition: the text has at most 60 bytes.
  Proved: strings.Cut at one byte, and what a cut has to do with the parts of a text; mark.parseLength. Conditions: the text has at most 100 bytes; the heap holds the program's tables.
-/
import Derived.Test.YtclkcooomikiiaaGreatDoorUg
import Derived.Test.YtclkcooomikiiaaGreatDoorTp
import Derived.Shelf.Strings.Cut
section
set_option linter.unusedVariables false
set_option linter.unusedSimpArgs false
open Go Go.Proofs Go.RowKit Go.Sort
set_option maxRecDepth 100000
namespace Go.Mk
theorem splitGo_len (c : UInt8) (l : List UInt8) : ∀ cur, ∀ f ∈ splitGo c cur l, f.length ≤ cur.length + l.length := by
  induction l with
  | nil => intro cur f hf; simp [splitGo] at hf; subst hf; simp
  | cons x l ih =>
    intro cur f hf
    rw [splitGo] at hf
    split at hf
    · rcases List.mem_cons.1 hf with rfl | h
      · simp
      · have := ih [] f h; simp at this ⊢; omega
    · have := ih _ f hf; simp at this ⊢; omega
theorem splitGo_ne (c : UInt8) (l cur : List UInt8) : 0 < (splitGo c cur l).length := by
  induction l generalizing cur with
  | nil => simp [splitGo]
  | cons x l ih => rw [splitGo]; split; · simp
                   · exact ih _
theorem split_sizes (c : UInt8) (s : ByteArray) : ∀ f ∈ split c s, f.size ≤ s.size := by
  intro f hf
  obtain ⟨l, hl, rfl⟩ := List.mem_map.1 hf
  have h := splitGo_len c s.data.toList [] l hl
  have h2 : s.data.toList.length = s.size := Array.length_toList
  have h3 : (mkB l).size = l.length := by show l.toArray.size = _; simp
  simp only [List.length_nil] at h
  omega
theorem split_ne (c : UInt8) (s : ByteArray) : 0 < (split c s).length := by
  unfold split
  rw [List.length_map]
  exact splitGo_ne _ _ _
theorem two_of_length (L : List ByteArray) (h : L.length = 2) : ∃ x y, L = [x, y] := by
  match L, h with
  | [x, y], _ => exact ⟨x, y, rfl⟩
theorem refLen_bad (t : ByteArray) (h : (split 46 t).length ≠ 2) : refLen t = ME.bad 25 := by
  unfold refLen
  split
  · rename_i e; rw [e] at h; exact absurd rfl h
  · rfl
theorem refLen_ok (t x y : ByteArray) (h : split 46 t = [x, y]) : refLen t = lenOf (front x) (scaled y 2 3) := by
  unfold refLen
  rw [h]
theorem refTime_bad (t : ByteArray) (h : (split 46 t).length ≠ 2) : refTime t = ME.bad 25 := by
  unfold refTime
  split
  · rename_i e; rw [e] at h; exact absurd rfl h
  · rfl
theorem refTime_ok (t x y : ByteArray) (h : split 46 t = [x, y]) : refTime t = timeOf (split 58 x) (scaled y 1 4) := by
  unfold refTime
  rw [h]
theorem refParse_any (s : ByteArray) (hz : s.size ≤ 60) (w : World) : Calls Tryz.prog 11 #[.string s] w (RetPost (ME.out (refP s)) w) := by
  unfold refP
  by_cases h1 : 24 < s.size
  · rw [if_pos h1]; exact refParse_long s (by omega) (by omega) w
  rw [if_neg h1]
  cases h2 : isR s with
  | true => rw [if_pos rfl]; exact refParse_reason s (by omega) (by omega) h2 w
  | false =>
    rw [if_neg (by decide)]
    by_cases h0 : s.size = 0
    · rw [if_pos h0]; exact refParse_empty s (by omega) h2 w
    rw [if_neg h0]
    by_cases h3 : lastB s = 112
    · rw [if_pos h3]
      by_cases h4 : front (chop s) < 0
      · rw [if_pos h4]; exact refParse_points_bad s (by omega) (by omega) h2 h3 h4 w
      · rw [if_neg h4]; exact refParse_points_ok s (by omega) (by omega) h2 h3 h4 w
    rw [if_neg h3]
    by_cases h3' : lastB s = 109
    · rw [if_pos h3']
      by_cases hl : (split 46 (chop s)).length = 2
      · obtain ⟨x, y, h4⟩ := two_of_length _ hl
        have hs := split_sizes 46 (chop s)
        have hc := chop_size s
        rw [refLen_ok _ x y h4]
        rw [h4] at hs
        have hx := hs x (by simp)
        have hy := hs y (by simp)
        exact refParse_len s x y (by omega) (by omega) h2 h3' h4 (by omega) (by omega) w
      · rw [refLen_bad _ hl]
        exact refParse_len_parts s (by omega) (by omega) h2 h3' hl w
    rw [if_neg h3']
    by_cases hl : (split 46 s).length = 2
    · obtain ⟨x, y, h4⟩ := two_of_length _ hl
      have hs := split_sizes 46 s
      rw [refTime_ok _ x y h4]
      rw [h4] at hs
      have hx := hs x (by simp)
      have hy := hs y (by simp)
      unfold timeOf
      by_cases h5 : 3 < (split 58 x).length ∨ scaled y 1 4 < 0
      · rw [if_pos h5]
        exact refParse_time_many s x y (by omega) (by omega) h2 h3 h3' h4 (by omega) (by omega) h5 w
      · rw [if_neg h5]
        refine refParse_time_go s x y (by omega) (by omega) h2 h3 h3' h4 (by omega) (by omega) (split 58 x) rfl _ rfl (split_ne _ _) (by omega) (by omega) (fun k f hf => ?_) _ rfl w
        have := split_sizes 58 x f (List.mem_of_getElem? hf)
        omega
    · rw [refTime_bad _ hl]
      exact refParse_time_parts s (by omega) (by omega) h2 h3 h3' hl w
end Go.Mk
end
section
set_option linter.unusedVariables false
set_option linter.unusedSimpArgs false
open Go Go.Proofs Go.RowKit Go.Sort
set_option maxRecDepth 100000
namespace Go.Mk
theorem idx_none (b : UInt8) (l : List UInt8) (h : b ∉ l) : Lib.index l [b] = -1 := by
  induction l with
  | nil => rfl
  | cons a l ih =>
    have h1 : b ≠ a := fun e => h (by rw [e]; exact List.mem_cons_self ..)
    have h2 := ih (fun e => h (List.mem_cons_of_mem _ e))
    rw [Lib.index, if_neg (by simp [List.isPrefixOf, h1]), h2]
    rfl
theorem idx_some (b : UInt8) (x y : List UInt8) (h : b ∉ x) : Lib.index (x ++ b :: y) [b] = x.length := by
  induction x with
  | nil => rw [List.nil_append, Lib.index, if_pos (by simp [List.isPrefixOf])]; rfl
  | cons a l ih =>
    have h1 : b ≠ a := fun e => h (by rw [e]; exact List.mem_cons_self ..)
    have h2 := ih (fun e => h (List.mem_cons_of_mem _ e))
    rw [List.cons_append, Lib.index, if_neg (by simp [List.isPrefixOf, h1]), h2, if_neg (by rw [beq_iff_eq]; omega), List.length_cons]
    push_cast
    rfl
theorem cut_none (b : UInt8) (l : List UInt8) (h : b ∉ l) : Lib.cut l [b] = (l, [], false) := by
  unfold Lib.cut
  rw [idx_none b l h, if_neg (by decide)]
theorem cut_some (b : UInt8) (x y : List UInt8) (h : b ∉ x) : Lib.cut (x ++ b :: y) [b] = (x, y, true) := by
  unfold Lib.cut
  rw [idx_some b x y h, if_pos (by omega)]
  simp
theorem splitGo_none (c : UInt8) (l cur : List UInt8) (h : c ∉ l) : splitGo c cur l = [cur ++ l] := by
  induction l generalizing cur with
  | nil => simp [splitGo]
  | cons a l ih =>
    have h1 : a ≠ c := fun e => h (by rw [e]; exact List.mem_cons_self ..)
    rw [splitGo, if_neg h1, ih _ (fun e => h (List.mem_cons_of_mem _ e))]
    simp
theorem splitGo_some (c : UInt8) (x y cur : List UInt8) (h : c ∉ x) : splitGo c cur (x ++ c :: y) = (cur ++ x) :: splitGo c [] y := by
  induction x generalizing cur with
  | nil => rw [List.nil_append, splitGo, if_pos rfl, List.append_nil]
  | cons a l ih =>
    have h1 : a ≠ c := fun e => h (by rw [e]; exact List.mem_cons_self ..)
    rw [List.cons_append, splitGo, if_neg h1, ih _ (fun e => h (List.mem_cons_of_mem _ e))]
    simp
/-- What lies ahead of the first place of a byte, and behind it. -/
def cutA (s : ByteArray) (b : UInt8) : ByteArray := mkB (Lib.cut s.data.toList [b]).1
def cutB (s : ByteArray) (b : UInt8) : ByteArray := mkB (Lib.cut s.data.toList [b]).2.1
def cutF (s : ByteArray) (b : UInt8) : Bool := (Lib.cut s.data.toList [b]).2.2
theorem mkB_list (l : List UInt8) : (mkB l).data.toList = l := by show l.toArray.toList = l; simp
theorem list_mkB (s : ByteArray) : mkB s.data.toList = s := (ba_of_list rfl).symm
/-- Either the byte does not come in the text, or the cut is at its first place. -/
theorem cut_cases (s : ByteArray) (b : UInt8) : (b ∉ s.data.toList ∧ cutA s b = s ∧ cutB s b = mkB [] ∧ cutF s b = false ∧ split b s = [s]) ∨
    (∃ y : List UInt8, cutF s b = true ∧ cutB s b = mkB y ∧ split b s = cutA s b :: split b (mkB y) ∧ (mkB y).size < s.size) := by
  by_cases h : b ∈ s.data.toList
  · obtain ⟨x, y, e, hx⟩ := List.eq_append_cons_of_mem h
    right
    have hc : Lib.cut s.data.toList [b] = (x, y, true) := by rw [e]; exact cut_some b x y hx
    refine ⟨y, ?_, ?_, ?_, ?_⟩
    · unfold cutF; rw [hc]
    · unfold cutB; rw [hc]
    · unfold split cutA
      rw [hc, mkB_list, e, splitGo_some b x y [] hx]
      rfl
    · have h1 : (mkB y).size = y.length := by show y.toArray.size = _; simp
      have h2 : s.size = (x ++ b :: y).length := by rw [← e]; exact Array.length_toList.symm
      rw [h1, h2]
      simp
      omega
  · left
    have hc := cut_none b _ h
    refine ⟨h, ?_, ?_, ?_, ?_⟩
    · unfold cutA; rw [hc]; exact list_mkB s
    · unfold cutB; rw [hc]
    · unfold cutF; rw [hc]
    · unfold split; rw [splitGo_none b _ [] h, List.nil_append, List.map_singleton, list_mkB]
theorem cutA_size (s : ByteArray) (b : UInt8) : (cutA s b).size ≤ s.size := by
  have h1 : (cutA s b).size = (Lib.cut s.data.toList [b]).1.length := by show (List.toArray _).size = _; simp
  have h2 : s.data.toList.length = s.size := Array.length_toList
  rw [h1, ← h2]
  unfold Lib.cut
  split
  · simp; omega
  · exact Nat.le_refl _
theorem cutB_size (s : ByteArray) (b : UInt8) : (cutB s b).size ≤ s.size := by
  have h1 : (cutB s b).size = (Lib.cut s.data.toList [b]).2.1.length := by show (List.toArray _).size = _; simp
  have h2 : s.data.toList.length = s.size := Array.length_toList
  rw [h1, ← h2]
  unfold Lib.cut
  split
  · simp
  · simp
theorem Cut_any (s : ByteArray) (b : UInt8) (hz : s.size ≤ 100) (w : World) (hG : Gd w) : Calls Tryz.prog 86 #[.string s, .string ⟨#[b]⟩] w (RetPost (.tuple #[.string (cutA s b), .string (cutB s b), .bool (cutF s b)]) w) := by
  obtain ⟨m, hm⟩ := hG.len
  refine (Any.strings_Cut { Tryz.cut with } s ⟨#[b]⟩ m w (by omega) hm).mono ?_
  rintro e w' ⟨rfl, n, rfl⟩
  exact ⟨rfl, below_drewN (Below.refl _ _) n⟩
theorem scaled_empty (lo hi : Nat) (h : 0 < lo) : scaled (mkB []) lo hi = -1 := scaled_bad _ _ _ (.inr (.inl (by show 0 < lo; exact h)))
theorem dig_no (b : UInt8) (hb : dgt b = false) (s : ByteArray) (h : b ∈ s.data.toList) : isDig s = false := by
  unfold isDig
  rw [Bool.and_eq_false_iff]
  left
  rw [List.all_eq_false]
  exact ⟨b, h, by rw [hb]; decide⟩
/-- The mark of a length, or the error of its text. -/
def lenM (a b : Int) : ME := if a < 0 ∨ b < 0 then ME.bad 25 else ⟨sLength, 1000 * a + b, ⟨#[]⟩, 0⟩
/-- A mark behind the check of its range. -/
def fin (m : ME) : ME := if m.e = 0 then ranged m.s m.v m.r else ME.bad m.e
theorem split_one_three (b : UInt8) (s : ByteArray) (h : b ∈ s.data.toList) : 2 ≤ (split b s).length := by
  rcases cut_cases s b with ⟨h', _⟩ | ⟨y, _, _, h3, _⟩
  · exact absurd h h'
  · rw [h3, List.length_cons]
    have := split_ne b (mkB y)
    omega
theorem fin_len (t : ByteArray) : fin (lenM (front (cutA t 46)) (scaled (cutB t 46) 2 3)) = refLen t := by
  rcases cut_cases t 46 with ⟨_, h2, h3, _, h5⟩ | ⟨y, _, h2, h3, _⟩
  · rw [h3, scaled_empty 2 3 (by decide), refLen_bad t (by rw [h5]; simp)]
    unfold lenM
    rw [if_pos (.inr (by decide))]
    rfl
  · by_cases hy : (46 : UInt8) ∈ y
    · rw [refLen_bad t (by have := split_one_three 46 (mkB y) (by rw [mkB_list]; exact hy); rw [h3, List.length_cons]; omega), h2, scaled_bad (mkB y) 2 3 (.inl (dig_no 46 (by decide) _ (by rw [mkB_list]; exact hy)))]
      unfold lenM
      rw [if_pos (.inr (by decide))]
      rfl
    · have e : split 46 (mkB y) = [mkB y] := by
        unfold split; rw [mkB_list, splitGo_none 46 _ [] hy, List.nil_append]; rfl
      rw [e] at h3
      rw [refLen_ok t _ _ h3, h2]
      unfold lenM lenOf
      split
      · rfl
      · rfl
set_option maxHeartbeats 1000000 in
theorem parseLength_any (s : ByteArray) (hz : s.size ≤ 60) (w : World) (hG : Gd w) : Calls Tryz.prog 74 #[.string s] w (RetPost (ME.out (lenM (front (cutA (trim1 s 109) 46)) (scaled (cutB (trim1 s 109) 46) 2 3))) w) := by
  have hm : maxLen = 9223372036854775807 := rfl
  have hT : ∀ w, Calls Tryz.prog 124 #[.string s, .string ⟨#[109]⟩] w fun e w' => e = .returned (.string (trim1 s 109)) ∧ w' = w := fun w => Any.strings_TrimSuffix Tryz.trimSuffix s ⟨#[109]⟩ w (by omega)
  have ht := trim1_size s 109
  generalize trim1 s 109 = t at *
  have hC := fun W (hb : Below w.heap.size w W) => Cut_any t 46 (by omega) W (hG.below hb (Nat.le_refl _))
  have ha := cutA_size t 46
  have hb := cutB_size t 46
  generalize cutA t 46 = x at *
  generalize cutB t 46 = y at *
  generalize cutF t 46 = f at *
  have hI := fun w => parseInteger_any x (by omega) w
  have hD := fun w => parseDigits_any y 2 3 (by decide) (by decide) (by omega) w
  have hf := front_bound x
  have hs := scaled_bound y 2 3 (by decide)
  generalize front x = a at *
  generalize scaled y 2 3 = b at *
  have hb0 := (Below.refl w.heap.size w).alloc (Nat.le_refl _) (.cells #[.string ⟨#[]⟩, .int .i64 0, .string ⟨#[]⟩] 23)
  clear hz ht ha hb hm hG
  have hab : (a < 0) ∨ (¬ a < 0 ∧ b < 0) ∨ (¬ a < 0 ∧ ¬ b < 0) := by omega
  unfold lenM
  obtain ⟨hf1, hf2⟩ := hf
  obtain ⟨hs1, hs2⟩ := hs
  rcases hab with h | ⟨h, h'⟩ | ⟨h, h'⟩
  · rw [if_pos (.inl h)]
    rw [if_pos h, decide_eq_false (by omega)] at hI
    generalize (if b < 0 then (0 : Int) else b) = b2 at hD
    generalize decide (0 ≤ b) = b3 at hD
    as_aux_lemma =>
      go_enter Tryz.func74, Tryz.ntmps74
      go_wp2_with fail
      refine (hT _).mono ?_
      rintro e w2 ⟨rfl, rfl⟩
      go_wp2_with fail
      refine (hC _ hb0).mono ?_
      rintro e w3 ⟨rfl, hb3⟩
      have hB1 := (Below.refl (w.heap.size + 1) _).trans (hb3.mono (B' := w.heap.size + 1) (by simp))
      clear hC hb3
      go_wp2_with fail
      refine (hI _).mono ?_
      rintro e w4 ⟨rfl, hb4⟩
      replace hB1 := hB1.trans (hb4.mono (B' := w.heap.size + 1) (by have := hB1.size; simp at this; omega))
      clear hI hb4
      go_wp2_with fail
      refine (hD _).mono ?_
      rintro e w5 ⟨rfl, hb5⟩
      replace hB1 := hB1.trans (hb5.mono (B' := w.heap.size + 1) (by have := hB1.size; simp at this; omega))
      clear hD hb5
      obtain ⟨a0, a1, a2⟩ : Box w5 w.heap.size ⟨#[]⟩ 0 ⟨#[]⟩ := (Box.new w ⟨#[]⟩ 0 ⟨#[]⟩).below hB1 (by omega)
      have f0 : ∀ o, w5.frozen? ⟨w.heap.size, o, none⟩ = false := fun o => (hB1.frozen (p := ⟨w.heap.size, o, none⟩) (by show w.heap.size < _; omega)).trans (fz_new w _ rfl _ _ o)
      have hbw : Below w.heap.size w w5 := hb0.trans (hB1.mono (by omega))
      clear hB1 hT hb0
      go_wp2
      obtain ⟨q0, q1, q2⟩ : Box _ w.heap.size ⟨#[]⟩ (0) ⟨#[]⟩ := Box.put3 (w := w5) ⟨a0, a1, a2⟩
      exact bodyPost_ret (v := .tuple #[.agg #[.string ⟨#[]⟩, .int .i64 (0), .string ⟨#[]⟩], .int .i64 25]) (by simp [results, Tryz.results74, go_sem, q0, q1, q2]) rfl ⟨rfl, (((hbw.setCell (Nat.le_refl _) _).setCell (Nat.le_refl _) _).setCell (Nat.le_refl _) _)⟩
  · rw [if_pos (.inr h')]
    rw [if_neg h, decide_eq_true (by omega)] at hI
    rw [if_pos h', decide_eq_false (by omega)] at hD
    as_aux_lemma =>
      go_enter Tryz.func74, Tryz.ntmps74
      go_wp2_with fail
      refine (hT _).mono ?_
      rintro e w2 ⟨rfl, rfl⟩
      go_wp2_with fail
      refine (hC _ hb0).mono ?_
      rintro e w3 ⟨rfl, hb3⟩
      have hB1 := (Below.refl (w.heap.size + 1) _).trans (hb3.mono (B' := w.heap.size + 1) (by simp))
      clear hC hb3
      go_wp2_with fail
      refine (hI _).mono ?_
      rintro e w4 ⟨rfl, hb4⟩
      replace hB1 := hB1.trans (hb4.mono (B' := w.heap.size + 1) (by have := hB1.size; simp at this; omega))
      clear hI hb4
      go_wp2_with fail
      refine (hD _).mono ?_
      rintro e w5 ⟨rfl, hb5⟩
      replace hB1 := hB1.trans (hb5.mono (B' := w.heap.size + 1) (by have := hB1.size; simp at this; omega))
      clear hD hb5
      obtain ⟨a0, a1, a2⟩ : Box w5 w.heap.size ⟨#[]⟩ 0 ⟨#[]⟩ := (Box.new w ⟨#[]⟩ 0 ⟨#[]⟩).below hB1 (by omega)
      have f0 : ∀ o, w5.frozen? ⟨w.heap.size, o, none⟩ = false := fun o => (hB1.frozen (p := ⟨w.heap.size, o, none⟩) (by show w.heap.size < _; omega)).trans (fz_new w _ rfl _ _ o)
      have hbw : Below w.heap.size w w5 := hb0.trans (hB1.mono (by omega))
      clear hB1 hT hb0
      go_wp2
      obtain ⟨q0, q1, q2⟩ : Box _ w.heap.size ⟨#[]⟩ (0) ⟨#[]⟩ := Box.put3 (w := w5) ⟨a0, a1, a2⟩
      exact bodyPost_ret (v := .tuple #[.agg #[.string ⟨#[]⟩, .int .i64 (0), .string ⟨#[]⟩], .int .i64 25]) (by simp [results, Tryz.results74, go_sem, q0, q1, q2]) rfl ⟨rfl, (((hbw.setCell (Nat.le_refl _) _).setCell (Nat.le_refl _) _).setCell (Nat.le_refl _) _)⟩
  · rw [if_neg (by omega), show 1000 * a + b = a * 1000 + b from by omega]
    rw [if_neg h, decide_eq_true (by omega)] at hI
    rw [if_neg h', decide_eq_true (by omega)] at hD
    as_aux_lemma =>
      go_enter Tryz.func74, Tryz.ntmps74
      go_wp2_with fail
      refine (hT _).mono ?_
      rintro e w2 ⟨rfl, rfl⟩
      go_wp2_with fail
      refine (hC _ hb0).mono ?_
      rintro e w3 ⟨rfl, hb3⟩
      have hB1 := (Below.refl (w.heap.size + 1) _).trans (hb3.mono (B' := w.heap.size + 1) (by simp))
      clear hC hb3
      go_wp2_with fail
      refine (hI _).mono ?_
      rintro e w4 ⟨rfl, hb4⟩
      replace hB1 := hB1.trans (hb4.mono (B' := w.heap.size + 1) (by have := hB1.size; simp at this; omega))
      clear hI hb4
      go_wp2_with fail
      refine (hD _).mono ?_
      rintro e w5 ⟨rfl, hb5⟩
      replace hB1 := hB1.trans (hb5.mono (B' := w.heap.size + 1) (by have := hB1.size; simp at this; omega))
      clear hD hb5
      obtain ⟨a0, a1, a2⟩ : Box w5 w.heap.size ⟨#[]⟩ 0 ⟨#[]⟩ := (Box.new w ⟨#[]⟩ 0 ⟨#[]⟩).below hB1 (by omega)
      have f0 : ∀ o, w5.frozen? ⟨w.heap.size, o, none⟩ = false := fun o => (hB1.frozen (p := ⟨w.heap.size, o, none⟩) (by show w.heap.size < _; omega)).trans (fz_new w _ rfl _ _ o)
      have hbw : Below w.heap.size w w5 := hb0.trans (hB1.mono (by omega))
      clear hB1 hT hb0
      go_wp2
      obtain ⟨q0, q1, q2⟩ : Box _ w.heap.size ⟨#[108, 101, 110, 103, 116, 104]⟩ (a * 1000 + b) ⟨#[]⟩ := Box.put3 (w := w5) ⟨a0, a1, a2⟩
      exact bodyPost_ret (v := .tuple #[.agg #[.string ⟨#[108, 101, 110, 103, 116, 104]⟩, .int .i64 (a * 1000 + b), .string ⟨#[]⟩], .int .i64 0]) (by simp [results, Tryz.results74, go_sem, q0, q1, q2]) rfl ⟨rfl, (((hbw.setCell (Nat.le_refl _) _).setCell (Nat.le_refl _) _).setCell (Nat.le_refl _) _)⟩
end Go.Mk
end
