/-
  Proved: mark.Print returns the text of a mark, or the first error. Conditions: the heap holds the program's tables.
-/
import Derived.Test.YtclkcooomikiiaaGreatDoorTv
import Derived.Test.YtclkcooomikiiaaGreatDoorCn
set_option linter.unusedVariables false
set_option linter.unusedSimpArgs false
open Go Go.Proofs Go.RowKit Go.Sort
set_option maxRecDepth 100000
namespace Go.Mk
set_option maxHeartbeats 1000000 in
theorem Print_bad (s r : ByteArray) (v e0 : Int) (w : World) (hG : Gd w) (he : chk s v r = e0) (hne : e0 ≠ 0) :
    Calls Tryz.prog 7 #[.agg #[.string s, .int .i64 v, .string r]] w (RetPost (.tuple #[.string ⟨#[]⟩, .int .i64 e0]) w) := by
  have hg := hG.size
  clear hG
  go_enter Tryz.func7, Tryz.ntmps7
  go_wp2_with fail
  refine (kinds_any _ (by simp; omega)).mono ?_
  rintro e w1 ⟨B, rfl, hB, hK, hb1⟩
  have hbw : Below w.heap.size w w1 := ((Below.refl w.heap.size w).alloc (Nat.le_refl _) _).trans (hb1.mono (by simp))
  obtain ⟨a0, a1, a2⟩ : Box w1 w.heap.size s v r := (Box.new w s v r).below hb1 (by simp)
  have hcA : Calls Tryz.prog 27 #[.map (some B), .agg #[.string s, .int .i64 v, .string r]] w1 (CkPost e0 w1) := by rw [← he]; exact checkMark_any s r v B w1 hK
  clear hb1 hK hB
  go_wp2_with fail
  refine hcA.mono ?_
  rintro e w2 ⟨rfl, hb2⟩
  have hbw2 : Below w.heap.size w w2 := hbw.trans (hb2.mono hbw.size)
  have hne' : (e0 != 0) = true := by rw [bne_iff_ne]; exact hne
  clear hcA hb2 hbw
  go_wp2
  go_ret2
  exact ⟨rfl, hbw2⟩
theorem field5 (x0 x1 x2 x3 x4 x5 x6 : Value) (w : World) : (Instr.field 69 (.agg #[x0, x1, x2, x3, x4, x5, x6]) 5).run Tryz.prog w = .ok x5 w := by kernel_rfl
theorem field6 (x0 x1 x2 x3 x4 x5 x6 : Value) (w : World) : (Instr.field 69 (.agg #[x0, x1, x2, x3, x4, x5, x6]) 6).run Tryz.prog w = .ok x6 w := by kernel_rfl
set_option maxHeartbeats 2000000 in
theorem Print_ok (s r t : ByteArray) (v lo hi : Int) (f2 f3 f4 f5 f6 : Nat) (w : World) (hG : Gd w) (he : chk s v r = 0)
    (hE : Entry s (.agg #[.int .i64 lo, .int .i64 hi, .func (.func f2) #[] #[], .func (.func f3) #[] #[], .func (.func f4) #[] #[], .func (.func f5) #[] #[], .func (.func f6) #[] #[]]) true)
    (e5 : ∀ args w, (callFunc f5 args).run Tryz.prog w = .ok (.enter f5 args) w)
    (hc : ∀ W, Gd W → Calls Tryz.prog f5 #[.agg #[.string s, .int .i64 v, .string r]] W (RetPost (.string t) W)) :
    Calls Tryz.prog 7 #[.agg #[.string s, .int .i64 v, .string r]] w (RetPost (.tuple #[.string t, .int .i64 0]) w) := by
  have hfd := fun w => field5 (.int .i64 lo) (.int .i64 hi) (.func (.func f2) #[] #[]) (.func (.func f3) #[] #[]) (.func (.func f4) #[] #[]) (.func (.func f5) #[] #[]) (.func (.func f6) #[] #[]) w
  have hg := hG.size
  have HG : Hid (∀ W, Below w.heap.size w W → Gd W) := Lib.hid fun W hb => hG.below hb (Nat.le_refl _)
  clear hG
  go_enter Tryz.func7, Tryz.ntmps7
  go_wp2_with fail
  refine (kinds_any _ (by simp; omega)).mono ?_
  rintro e w1 ⟨B, rfl, hB, hK, hb1⟩
  have hbw : Below w.heap.size w w1 := ((Below.refl w.heap.size w).alloc (Nat.le_refl _) _).trans (hb1.mono (by simp))
  obtain ⟨a0, a1, a2⟩ : Box w1 w.heap.size s v r := (Box.new w s v r).below hb1 (by simp)
  have HK : Hid (∀ w', Below w1.heap.size w1 w' → Kinds w' B) := fun w' h => hK.grow h
  have hcA : Calls Tryz.prog 27 #[.map (some B), .agg #[.string s, .int .i64 v, .string r]] w1 (CkPost 0 w1) := by rw [← he]; exact checkMark_any s r v B w1 hK
  have hz1 : w.heap.size < w1.heap.size := by have := hb1.size; simp at this; omega
  clear hb1 hK hB
  go_wp2_with fail
  refine hcA.mono ?_
  rintro e w2 ⟨rfl, hb2⟩
  have hK2 : Kinds w2 B := HK.out _ hb2
  obtain ⟨c0, c1, c2⟩ : Box w2 w.heap.size s v r := Box.below ⟨a0, a1, a2⟩ hb2 (by omega)
  have hbw2 : Below w.heap.size w w2 := hbw.trans (hb2.mono hbw.size)
  clear hcA hb2 hbw a0 a1 a2
  go_wp2_with (first | (at_lookup; refine wpList_look _ rfl _ _ false rfl B s _ _ rfl rfl hK2 hE ?_) | fail)
  refine (hc _ (HG.out _ hbw2)).mono ?_
  rintro e w3 ⟨rfl, hb3⟩
  go_wp2
  go_ret2
  exact ⟨rfl, hbw2.trans (hb3.mono hbw2.size)⟩
theorem printReason_any (s r : ByteArray) (v : Int) (w : World) : Calls Tryz.prog 78 #[.agg #[.string s, .int .i64 v, .string r]] w (RetPost (.string r) w) := by
  go_enter Tryz.func78, Tryz.ntmps78
  go_wp2
  go_ret
  exact ⟨rfl, (Below.refl _ _).alloc (Nat.le_refl _) _⟩
/-- The text of a valid mark. -/
def textOf (s : ByteArray) (v : Int) (r : ByteArray) : ByteArray :=
  if s = sNone then r else if s = sTime then timeText v.toNat else if s = sLength then lenText v.toNat else dec v.toNat 1 ++ ⟨#[112]⟩
/-- The text of a mark, empty if it is not valid. -/
def printT (s : ByteArray) (v : Int) (r : ByteArray) : ByteArray := if chk s v r = 0 then textOf s v r else ⟨#[]⟩
theorem chk_cases (s r : ByteArray) (v : Int) (h : chk s v r = 0) : (s = sNone ∧ v = 0 ∧ isR r = true) ∨ (s ≠ sNone ∧ s = sTime ∧ 1 ≤ v ∧ v ≤ 863999999) ∨ (s ≠ sNone ∧ s ≠ sTime ∧ s = sLength ∧ 0 ≤ v ∧ v ≤ 999999) ∨ (s ≠ sNone ∧ s ≠ sTime ∧ s ≠ sLength ∧ s = sPoints ∧ 0 ≤ v ∧ v ≤ 99999) := by
  unfold chk at h
  by_cases h0 : s = sNone
  · rw [if_pos h0] at h
    cases hr : isR r with
    | false => rw [hr] at h; cases h
    | true =>
      rw [hr, if_pos rfl] at h
      split at h
      · cases h
      · exact .inl ⟨h0, by omega, rfl⟩
  · rw [if_neg h0] at h
    by_cases h1 : s = sTime
    · rw [if_pos h1] at h
      split at h
      · split at h
        · cases h
        · exact .inr (.inl ⟨h0, h1, by omega, by omega⟩)
      · cases h
    · rw [if_neg h1] at h
      by_cases h2 : s = sLength
      · rw [if_pos h2] at h
        split at h
        · split at h
          · cases h
          · exact .inr (.inr (.inl ⟨h0, h1, h2, by omega, by omega⟩))
        · cases h
      · rw [if_neg h2] at h
        by_cases h3 : s = sPoints
        · rw [if_pos h3] at h
          split at h
          · split at h
            · cases h
            · exact .inr (.inr (.inr ⟨h0, h1, h2, h3, by omega, by omega⟩))
          · cases h
        · rw [if_neg h3] at h; cases h
theorem Print_any (s r : ByteArray) (v : Int) (w : World) (hG : Gd w) : Calls Tryz.prog 7 #[.agg #[.string s, .int .i64 v, .string r]] w (RetPost (.tuple #[.string (printT s v r), .int .i64 (chk s v r)]) w) := by
  by_cases he : chk s v r = 0
  · rw [show printT s v r = textOf s v r from if_pos he, he]
    unfold textOf
    rcases chk_cases s r v he with ⟨h0, hv, hr⟩ | ⟨h0, h1, hv0, hv1⟩ | ⟨h0, h1, h2, hv0, hv1⟩ | ⟨h0, h1, h2, h3, hv0, hv1⟩
    · rw [if_pos h0]
      subst h0
      exact Print_ok sNone r r v _ _ _ _ _ _ _ w hG he entryNone (enters_of Tryz.func78 (by kernel_rfl) rfl) fun W _ => printReason_any sNone r v W
    · rw [if_neg h0, if_pos h1]
      subst h1
      refine Print_ok sTime r _ v _ _ _ _ _ _ _ w hG he entryTime (enters_of Tryz.func69 (by kernel_rfl) rfl) fun W hW => ?_
      have := printTime_any sTime r v.toNat (by omega) W hW
      rwa [show ((v.toNat : Nat) : Int) = v from by omega] at this
    · rw [if_neg h0, if_neg h1, if_pos h2]
      subst h2
      refine Print_ok sLength r _ v _ _ _ _ _ _ _ w hG he entryLength (enters_of Tryz.func73 (by kernel_rfl) rfl) fun W hW => ?_
      have := printLength_any sLength r v.toNat (by omega) W hW
      rwa [show ((v.toNat : Nat) : Int) = v from by omega] at this
    · rw [if_neg h0, if_neg h1, if_neg h2]
      subst h3
      refine Print_ok sPoints r _ v _ _ _ _ _ _ _ w hG he entryPoints (enters_of Tryz.func75 (by kernel_rfl) rfl) fun W hW => ?_
      have := printPoints_any sPoints r v.toNat (by omega) W hW
      rwa [show ((v.toNat : Nat) : Int) = v from by omega] at this
  · rw [show printT s v r = ⟨#[]⟩ from if_neg he]
    exact Print_bad s r v _ w hG rfl he
/-- The reference prints the same text of a valid mark. -/
theorem refPrint_any (s r : ByteArray) (v : Int) (he : chk s v r = 0) (w : World) : Calls Tryz.prog 9 #[.agg #[.string s, .int .i64 v, .string r]] w (RetPost (.string (printT s v r)) w) := by
  rw [show printT s v r = textOf s v r from if_pos he]
  unfold textOf
  rcases chk_cases s r v he with ⟨h0, hv, hr⟩ | ⟨h0, h1, hv0, hv1⟩ | ⟨h0, h1, h2, hv0, hv1⟩ | ⟨h0, h1, h2, h3, hv0, hv1⟩
  · rw [if_pos h0]
    exact refPrint_none s r v (by rw [none_beq]; simp [h0]) w
  · rw [if_neg h0, if_pos h1]
    have := refPrint_time s r v.toNat (by rw [none_beq]; simp [h0]) (by rw [points_beq]; subst h1; decide) (by rw [length_beq]; subst h1; decide) (by omega) w
    rwa [show ((v.toNat : Nat) : Int) = v from by omega] at this
  · rw [if_neg h0, if_neg h1, if_pos h2]
    have := refPrint_length s r v.toNat (by rw [none_beq]; simp [h0]) (by rw [points_beq]; subst h2; decide) (by rw [length_beq]; simp [h2]) (by omega) w
    rwa [show ((v.toNat : Nat) : Int) = v from by omega] at this
  · rw [if_neg h0, if_neg h1, if_neg h2]
    have := refPrint_points s r v.toNat (by rw [none_beq]; simp [h0]) (by rw [points_beq]; simp [h3]) (by omega) w
    rwa [show ((v.toNat : Nat) : Int) = v from by omega] at this
end Go.Mk
