/-
  Proved: mark.parsePoints returns the mark with the number ahead of the last p, or the error 25. No condition.
  Proved: mark.kindOfText returns the only kind whose marks may have a text. No condition.
-/
import Derived.Test.YtclkcooomikiiaaGreatDoorTm
import Derived.Test.YtclkcooomikiiaaGreatDoorCp
import Derived.Shelf.Strings.Prefix
import Derived.Test.YtclkcooomikiiaaGreatDoorLk
section
set_option linter.unusedVariables false
set_option linter.unusedSimpArgs false
open Go Go.Proofs Go.RowKit
set_option maxRecDepth 100000
namespace Go.Mk
/-- The text without the suffix of one byte. -/
def trim1 (s : ByteArray) (b : UInt8) : ByteArray := ⟨(Lib.trimSuffix s.data.toList [b]).toArray⟩
theorem trim1_size (s : ByteArray) (b : UInt8) : (trim1 s b).size ≤ s.size := by
  have hl : s.data.toList.length = s.size := Array.length_toList
  show (Lib.trimSuffix s.data.toList [b]).toArray.size ≤ s.size
  rw [List.size_toArray, ← hl]
  unfold Lib.trimSuffix
  split
  · rw [List.length_take]; omega
  · exact Nat.le_refl _
theorem Box.put3 {w : World} {p : Nat} {s r s' r' : ByteArray} {v v' : Int} (h : Box w p s' v' r') : Box (((w.setCell ⟨p, 0, none⟩ (.string s)).setCell ⟨p, 1, none⟩ (.int .i64 v)).setCell ⟨p, 2, none⟩ (.string r)) p s v r := by
  obtain ⟨h0, h1, h2⟩ := h
  have n1 : (⟨p, 1, none⟩ : Addr) ≠ ⟨p, 0, none⟩ := by simp
  have n2 : (⟨p, 2, none⟩ : Addr) ≠ ⟨p, 0, none⟩ := by simp
  have n3 : (⟨p, 2, none⟩ : Addr) ≠ ⟨p, 1, none⟩ := by simp
  refine ⟨?_, ?_, ?_⟩
  · rw [World.cell?_setCell_other _ _ _ _ n2, World.cell?_setCell_other _ _ _ _ n1]; exact World.cell?_setCell_same _ _ _ h0
  · rw [World.cell?_setCell_other _ _ _ _ n3]; exact World.cell?_setCell_same _ _ _ (by rw [World.cell?_setCell_other _ _ _ _ (Ne.symm n1)]; exact h1)
  · exact World.cell?_setCell_same _ _ _ (by rw [World.cell?_setCell_other _ _ _ _ (Ne.symm n3), World.cell?_setCell_other _ _ _ _ (Ne.symm n2)]; exact h2)

def zeroMark : Value := .agg #[.string ⟨#[]⟩, .int .i64 0, .string ⟨#[]⟩]
set_option maxHeartbeats 1000000 in
theorem parsePoints_any (s : ByteArray) (hz : s.size ≤ maxLen) (w : World) : Calls Tryz.prog 76 #[.string s] w (RetPost (.tuple (if front (trim1 s 112) < 0 then #[zeroMark, .int .i64 25] else #[.agg #[.string sPoints, .int .i64 (front (trim1 s 112)), .string ⟨#[]⟩], .int .i64 0])) w) := by
  have hT : ∀ w, Calls Tryz.prog 124 #[.string s, .string ⟨#[112]⟩] w fun e w' => e = .returned (.string (trim1 s 112)) ∧ w' = w := fun w => Any.strings_TrimSuffix Tryz.trimSuffix s ⟨#[112]⟩ w (by have : maxLen = 9223372036854775807 := rfl; omega)
  have hP := fun w => parseInteger_any (trim1 s 112) (Nat.le_trans (trim1_size s 112) hz) w
  obtain ⟨u, hu⟩ : ∃ u, trim1 s 112 = u := ⟨_, rfl⟩
  rw [hu] at hT hP ⊢
  obtain ⟨r, hr⟩ : ∃ r, front u = r := ⟨_, rfl⟩
  rw [hr] at hP ⊢
  clear hu hr
  unfold zeroMark
  by_cases h : r < 0
  · rw [if_pos h]
    rw [if_pos h, decide_eq_false (by omega)] at hP
    go_enter Tryz.func76, Tryz.ntmps76
    go_wp2_with fail
    refine (hT _).mono ?_
    rintro e w2 ⟨rfl, rfl⟩
    go_wp2_with fail
    refine (hP _).mono ?_
    rintro e w2 ⟨rfl, hb⟩
    obtain ⟨a0, a1, a2⟩ : Box w2 w.heap.size ⟨#[]⟩ 0 ⟨#[]⟩ := (Box.new w ⟨#[]⟩ 0 ⟨#[]⟩).below hb (by simp)
    have f0 : ∀ o, w2.frozen? ⟨w.heap.size, o, none⟩ = false := fun o => by rw [hb.frozen (p := ⟨w.heap.size, o, none⟩) (by simp)]; simp
    have hbw : Below w.heap.size w w2 := ((Below.refl w.heap.size w).alloc (Nat.le_refl _) _).trans (hb.mono (by simp))
    clear hb
    go_wp2
    obtain ⟨q0, q1, q2⟩ : Box _ w.heap.size ⟨#[]⟩ 0 ⟨#[]⟩ := Box.put3 ⟨a0, a1, a2⟩
    exact bodyPost_ret (v := .tuple #[.agg #[.string ⟨#[]⟩, .int .i64 0, .string ⟨#[]⟩], .int .i64 25]) (by simp [results, Tryz.results76, go_sem, q0, q1, q2]) rfl ⟨rfl, ((hbw.setCell (Nat.le_refl _) _).setCell (Nat.le_refl _) _).setCell (Nat.le_refl _) _⟩
  · rw [if_neg h]
    rw [if_neg h, decide_eq_true (by omega)] at hP
    go_enter Tryz.func76, Tryz.ntmps76
    go_wp2_with fail
    refine (hT _).mono ?_
    rintro e w2 ⟨rfl, rfl⟩
    go_wp2_with fail
    refine (hP _).mono ?_
    rintro e w2 ⟨rfl, hb⟩
    obtain ⟨a0, a1, a2⟩ : Box w2 w.heap.size ⟨#[]⟩ 0 ⟨#[]⟩ := (Box.new w ⟨#[]⟩ 0 ⟨#[]⟩).below hb (by simp)
    have f0 : ∀ o, w2.frozen? ⟨w.heap.size, o, none⟩ = false := fun o => by rw [hb.frozen (p := ⟨w.heap.size, o, none⟩) (by simp)]; simp
    have hbw : Below w.heap.size w w2 := ((Below.refl w.heap.size w).alloc (Nat.le_refl _) _).trans (hb.mono (by simp))
    clear hb
    go_wp2
    obtain ⟨q0, q1, q2⟩ : Box _ w.heap.size ⟨#[112, 111, 105, 110, 116, 115]⟩ r ⟨#[]⟩ := Box.put3 ⟨a0, a1, a2⟩
    exact bodyPost_ret (v := .tuple #[.agg #[.string ⟨#[112, 111, 105, 110, 116, 115]⟩, .int .i64 r, .string ⟨#[]⟩], .int .i64 0]) (by simp [results, Tryz.results76, go_sem, q0, q1, q2]) rfl ⟨rfl, ((hbw.setCell (Nat.le_refl _) _).setCell (Nat.le_refl _) _).setCell (Nat.le_refl _) _⟩
end Go.Mk
end
section
set_option linter.unusedVariables false
set_option linter.unusedSimpArgs false
open Go Go.Proofs Go.RowKit
set_option maxRecDepth 100000
namespace Go.Mk
/-- The text ends in the byte. -/
def endsIn (s : ByteArray) (b : UInt8) : Bool := Lib.hasSuffix s.data.toList [b]
/-- The only kind whose marks may have the text. -/
def kindT (s : ByteArray) : ByteArray := if isR s then sNone else if endsIn s 109 then sLength else if endsIn s 112 then sPoints else sTime
set_option maxHeartbeats 1000000 in
theorem kindOfText_any (s : ByteArray) (hz : s.size ≤ maxLen) (w : World) : Calls Tryz.prog 34 #[.string s] w (RetPost (.string (kindT s)) w) := by
  have hS : ∀ (b : UInt8) w, Calls Tryz.prog 80 #[.string s, .string ⟨#[b]⟩] w fun e w' => e = .returned (.bool (endsIn s b)) ∧ w' = w := fun b w => Any.strings_HasSuffix Tryz.hasSuffix s ⟨#[b]⟩ w (by have : maxLen = 9223372036854775807 := rfl; omega)
  have hM := hS 109
  have hP := hS 112
  have hI := isReason_any s w
  unfold kindT
  generalize isR s = b0 at hI ⊢
  generalize endsIn s 109 = b1 at hM ⊢
  generalize endsIn s 112 = b2 at hP ⊢
  clear hS hz
  cases b0
  · rw [if_neg (by decide)]
    cases b1
    · rw [if_neg (by decide)]
      cases b2
      · rw [if_neg (by decide)]
        go_enter Tryz.func34, Tryz.ntmps34
        go_wp2_with fail
        refine hI.mono ?_
        rintro e w2 ⟨rfl, hb⟩
        go_wp2_with fail
        refine (hM _).mono ?_
        rintro e w3 ⟨rfl, rfl⟩
        go_wp2_with fail
        refine (hP _).mono ?_
        rintro e w3 ⟨rfl, rfl⟩
        go_wp2
        go_ret
        exact ⟨rfl, hb⟩
      · rw [if_pos rfl]
        go_enter Tryz.func34, Tryz.ntmps34
        go_wp2_with fail
        refine hI.mono ?_
        rintro e w2 ⟨rfl, hb⟩
        go_wp2_with fail
        refine (hM _).mono ?_
        rintro e w3 ⟨rfl, rfl⟩
        go_wp2_with fail
        refine (hP _).mono ?_
        rintro e w3 ⟨rfl, rfl⟩
        go_wp2
        go_ret
        exact ⟨rfl, hb⟩
    · rw [if_pos rfl]
      go_enter Tryz.func34, Tryz.ntmps34
      go_wp2_with fail
      refine hI.mono ?_
      rintro e w2 ⟨rfl, hb⟩
      go_wp2_with fail
      refine (hM _).mono ?_
      rintro e w3 ⟨rfl, rfl⟩
      go_wp2
      go_ret
      exact ⟨rfl, hb⟩
  · rw [if_pos rfl]
    go_enter Tryz.func34, Tryz.ntmps34
    go_wp2_with fail
    refine hI.mono ?_
    rintro e w2 ⟨rfl, hb⟩
    go_wp2
    go_ret
    exact ⟨rfl, hb⟩
end Go.Mk
end
