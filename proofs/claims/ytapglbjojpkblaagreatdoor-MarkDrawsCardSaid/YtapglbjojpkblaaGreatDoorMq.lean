/-
  Proved: the reference's Ranks returns the ranks of a list of marks without an error. Conditions: the list lies where the slice says, its marks have no error and are of one kind or none.
-/
import Derived.Test.YtapglbjojpkblaaGreatDoorMp
import Derived.OwnWalk
import Derived.Deep.DeepCutAuto
set_option linter.unusedVariables false
set_option linter.unusedSimpArgs false
open Go Go.Proofs Go.RowKit
set_option maxRecDepth 100000
namespace Go.Mk
theorem own_below {w w' : World} {base e size n : Nat} {v : Value} {xs : List Value} (h : w.ownsRow base e size v n xs) (hb : Below w.heap.size w w') : w'.ownsRow base e size v n xs := by
  refine ⟨h.1, ?_⟩
  rcases h.2 with ⟨a, b⟩ | ⟨g, cap, cur, a, b, c, d⟩
  · exact .inl ⟨a, b⟩
  · refine .inr ⟨g, cap, cur, a, b, ?_, d⟩
    have hg : g < w.heap.size := by
      rcases Nat.lt_or_ge g w.heap.size with hl | hl
      · exact hl
      · rw [Array.getElem?_eq_none hl] at c; cases c
    exact (hb.block g hg).trans c
/-- All marks have no error, and are of a kind or none. -/
def AllOf (c : ByteArray) (L : List (ByteArray × Int × ByteArray)) : Prop := ∀ m ∈ L, chk m.1 m.2.1 m.2.2 = 0 ∧ (m.1 = sNone ∨ m.1 = c)
theorem comK_all (L : List (ByteArray × Int × ByteArray)) : ∀ c y : ByteArray, comK c L = (y, 0) → AllOf y L ∧ (c = sNone ∨ c = y) := by
  induction L with
  | nil =>
    intro c y h
    have : c = y := by simpa [comK] using h
    exact ⟨fun m hm => (by cases hm), .inr this⟩
  | cons m l ih =>
    obtain ⟨s, v, r⟩ := m
    intro c y h
    unfold comK at h
    by_cases h0 : chk s v r = 0
    · rw [if_neg (by simp [h0])] at h
      by_cases h1 : s = sNone
      · rw [if_pos h1] at h
        obtain ⟨a, b⟩ := ih c y h
        refine ⟨fun m hm => ?_, b⟩
        rcases List.mem_cons.1 hm with rfl | hm
        · exact ⟨h0, .inl h1⟩
        · exact a m hm
      · rw [if_neg h1] at h
        by_cases h2 : c ≠ sNone ∧ c ≠ s
        · rw [if_pos h2] at h; simp at h
        · rw [if_neg h2] at h
          obtain ⟨a, b⟩ := ih s y h
          have hsy : s = y := by rcases b with b | b; exact absurd b h1; exact b
          refine ⟨fun m hm => ?_, ?_⟩
          · rcases List.mem_cons.1 hm with rfl | hm
            · exact ⟨h0, .inr hsy⟩
            · exact a m hm
          · by_cases hc : c = sNone
            · exact .inl hc
            · exact .inr ((Classical.byContradiction fun q => h2 ⟨hc, q⟩ : c = s).trans hsy)
    · rw [if_pos h0] at h
      have := congrArg Prod.snd h
      exact absurd this h0
theorem cmpv_t (a b : Int) : (a < b ∧ cmpv true a b = -1) ∨ (a = b ∧ cmpv true a b = 0) ∨ (b < a ∧ cmpv true a b = 1) := by
  unfold cmpv
  rcases (show a < b ∨ a = b ∨ b < a by omega) with h | h | h
  · exact .inl ⟨h, by rw [if_neg (by omega), if_pos (by simp [h])]⟩
  · exact .inr (.inl ⟨h, by rw [if_pos h]⟩)
  · exact .inr (.inr ⟨h, by rw [if_neg (by omega), if_neg (by simp; omega)]⟩)
theorem cmpv_f (a b : Int) : (b < a ∧ cmpv false a b = -1) ∨ (a = b ∧ cmpv false a b = 0) ∨ (a < b ∧ cmpv false a b = 1) := by
  unfold cmpv
  rcases (show a < b ∨ a = b ∨ b < a by omega) with h | h | h
  · exact .inr (.inr ⟨h, by rw [if_neg (by omega), if_neg (by simp [h])]⟩)
  · exact .inr (.inl ⟨h, by rw [if_pos h]⟩)
  · exact .inl ⟨h, by rw [if_neg (by omega), if_pos (by simp; omega)]⟩
theorem Marks.cells {w : World} {B n b off k : Nat} {L : List (ByteArray × Int × ByteArray)} {s r : ByteArray} {v : Int} (h : Marks w B (some ⟨b, off, none⟩) n L) (hL : L[k]? = some (s, v, r)) :
    w.cell? ⟨b, off + k * 3, none⟩ = some (.string s) ∧ w.cell? ⟨b, off + k * 3 + 1, none⟩ = some (.int .i64 v) ∧ w.cell? ⟨b, off + k * 3 + 2, none⟩ = some (.string r) := by
  have hk := (List.getElem?_eq_some_iff.1 hL).1
  rw [h.1] at hk
  obtain ⟨b', off', s', v', r', e1, _, e2, q0, q1, q2⟩ := h.at_ hk
  obtain ⟨rfl, rfl⟩ : b = b' ∧ off = off' := by simpa using e1
  have e3 : (s, v, r) = (s', v', r') := by simpa using hL.symm.trans e2
  obtain ⟨rfl, rfl, rfl⟩ : s = s' ∧ v = v' ∧ r = r' := by simpa using e3
  exact ⟨q0, q1, q2⟩
theorem take_map (f : (ByteArray × Int × ByteArray) → Nat) (L : List (ByteArray × Int × ByteArray)) (k : Nat) (m : ByteArray × Int × ByteArray) (h : L[k]? = some m) : (L.take (k + 1)).map f = (L.take k).map f ++ [f m] := by
  obtain ⟨hk, e⟩ := List.getElem?_eq_some_iff.1 h
  rw [List.take_succ_eq_append_getElem hk, e]
  simp

/-- What the reference's Ranks leaves. -/
def Ranked2 (b : Bool) (L : List (ByteArray × Int × ByteArray)) (n : Nat) (w : World) (e : Ending) (w' : World) : Prop :=
  ∃ v, e = .returned v ∧ w'.ownsRow w.heap.size 3 1 v n ((L.map (rankM b L)).map fun x => Value.int .i64 ((x : Nat) : Int)) ∧ Below w.heap.size w w'

end Go.Mk
