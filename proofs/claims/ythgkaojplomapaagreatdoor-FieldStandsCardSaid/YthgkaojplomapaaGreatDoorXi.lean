/-
  Proved: mark.IsName and the reference's IsName say of every text whether it is a name, as one plain function.
-/
import Derived.Test.YthgkaojplomapaaGreatDoorYa
import Derived.Laws.RangeAny
set_option maxHeartbeats 32000000
set_option linter.unusedVariables false
set_option linter.unusedSimpArgs false
open Go Go.Proofs Go.RowKit
set_option maxRecDepth 100000
namespace Go.Mk
def letterZ (r : Int) : Bool := (decide (65 ≤ r) && decide (r ≤ 90)) || (decide (97 ≤ r) && decide (r ≤ 122))
def charOk (i : Nat) (r : Int) : Bool := letterZ r || (!decide (i = 0) && (decide (r = 95) || (decide (48 ≤ r) && decide (r ≤ 57))))
def charsOk (s : ByteArray) (k : Nat) : Bool := if h : k < s.size then charOk k (s[k].toNat : Int) && charsOk s (k + 1) else true
termination_by s.size - k
def isNm (s : ByteArray) : Bool := decide (1 ≤ s.size) && decide (s.size ≤ 24) && charsOk s 0
theorem isEmpty_size (s : ByteArray) : s.toList.isEmpty = decide (s.size = 0) := by
 rw [ByteArray.toList_eq]
 have h : s.data.toList.length = s.size := Array.length_toList
 cases hq : s.data.toList with
 | nil =>
  rw [hq] at h
  have : s.size = 0 := h.symm
  rw [decide_eq_true this]
  rfl
 | cons a l =>
  rw [hq] at h
  have : ¬ s.size = 0 := by rw [← h]; simp
  rw [decide_eq_false this]
  rfl
theorem charsOk_at (s : ByteArray) (k : Nat) (h : k < s.size) : charsOk s k = (charOk k (s[k].toNat : Int) && charsOk s (k + 1)) := by
 rw [charsOk, dif_pos h]
theorem charsOk_end (s : ByteArray) (k : Nat) (h : ¬ k < s.size) : charsOk s k = true := by
 rw [charsOk, dif_neg h]
theorem charOk_high (i : Nat) (r : Int) (h : 128 ≤ r) : charOk i r = false := by
 unfold charOk letterZ
 simp
 omega
theorem isLetter_any (r : Int) (w : World) : Calls Tryz.prog 231 #[.int .i32 r] w (RetSame (.bool (letterZ r)) w) := by
 by_cases h1 : 65 ≤ r
 ·by_cases h2 : r ≤ 90
  ·have hv : letterZ r = true := by unfold letterZ; simp; omega
   rw [hv]
   go_enter Tryz.func231, Tryz.ntmps231
   go_wp2
   go_ret
   exact ⟨rfl, rfl⟩
  ·by_cases h3 : 97 ≤ r
   ·have hv : letterZ r = decide (r ≤ 122) := by unfold letterZ; rw [show decide (r ≤ 90) = false from decide_eq_false h2, show decide (97 ≤ r) = true from decide_eq_true h3]; simp
    rw [hv]
    go_enter Tryz.func231, Tryz.ntmps231
    go_wp2
    go_ret
    exact ⟨rfl, rfl⟩
   ·have hv : letterZ r = false := by unfold letterZ; simp; omega
    rw [hv]
    go_enter Tryz.func231, Tryz.ntmps231
    go_wp2
    go_ret
    exact ⟨rfl, rfl⟩
 ·have h3 : ¬ 97 ≤ r := by omega
  have hv : letterZ r = false := by unfold letterZ; simp; omega
  rw [hv]
  go_enter Tryz.func231, Tryz.ntmps231
  go_wp2
  go_ret
  exact ⟨rfl, rfl⟩
theorem charOk_cases (k : Nat) (r : Int) :
  (letterZ r = true ∧ charOk k r = true) ∨
  (letterZ r = false ∧ ((k : Int) == 0) = true ∧ charOk k r = false) ∨
  (letterZ r = false ∧ ((k : Int) == 0) = false ∧ (r != 95) = false ∧ charOk k r = true) ∨
  (letterZ r = false ∧ ((k : Int) == 0) = false ∧ (r != 95) = true ∧ decide (r < 48) = true ∧ charOk k r = false) ∨
  (letterZ r = false ∧ ((k : Int) == 0) = false ∧ (r != 95) = true ∧ decide (r < 48) = false ∧ decide (57 < r) = true ∧ charOk k r = false) ∨
  (letterZ r = false ∧ ((k : Int) == 0) = false ∧ (r != 95) = true ∧ decide (r < 48) = false ∧ decide (57 < r) = false ∧ charOk k r = true) := by
 unfold charOk
 cases hL : letterZ r with
 | true => exact .inl ⟨rfl, rfl⟩
 | false =>
  right
  by_cases hk : k = 0
  ·subst hk; exact .inl ⟨rfl, rfl, rfl⟩
  ·right
   have hkb : ((k : Int) == 0) = false := by rw [beq_eq_false_iff_ne]; omega
   have hkd : decide (k = 0) = false := decide_eq_false hk
   rw [hkb, hkd]
   by_cases h95 : r = 95
   ·subst h95; exact .inl ⟨rfl, rfl, rfl, by decide⟩
   ·right
    have h95b : (r != 95) = true := by rw [bne_iff_ne]; exact h95
    have h95d : decide (r = 95) = false := decide_eq_false h95
    rw [h95b, h95d]
    by_cases h1 : r < 48
    ·exact .inl ⟨rfl, rfl, rfl, decide_eq_true h1, by simp; omega⟩
    ·right
     by_cases h2 : 57 < r
     ·exact .inl ⟨rfl, rfl, rfl, decide_eq_false h1, decide_eq_true h2, by simp; omega⟩
     ·exact .inr ⟨rfl, rfl, rfl, decide_eq_false h1, decide_eq_false h2, by simp; omega⟩
theorem IsName_any (s : ByteArray) (w : World) (hz : s.size ≤ maxLen) : Calls Tryz.prog 196 #[.string s] w (RetPost (.bool (isNm s)) w) := by
  have hml : maxLen = 9223372036854775807 := rfl
  obtain ⟨X, hX⟩ : ∃ X, isNm s = X := ⟨_, rfl⟩
  rw [hX]
  have HX : Hid (isNm s = X) := hX
  have hsz : (s.size : Int) ≤ 9223372036854775807 := by omega
  have hbel : ∀ k, Below w.heap.size w (w.iter s k) := fun k => (Below.refl _ _).alloc (Nat.le_refl _) _
  have HB := Lib.hid hbel
  clear hX hbel
  go_enter Tryz.func196, Tryz.ntmps196
  go_wp2_with fail
  go_loopw [] (fun wr => ∃ k, wr = w.iter s k ∧ k ≤ s.size ∧ Hid (charsOk s 0 = charsOk s k)) (fun wr => s.size - wr.iterPos w.heap.size)
  case atStart => exact ⟨0, rfl, by omega, (show _ = _ from rfl)⟩
  case round =>
    obtain ⟨k, rfl, hk, HK⟩ := hrel
    by_cases hlt : k < s.size
    · have hst := charsOk_at s k hlt
      rw [← HK.out] at hst
      by_cases hb : s[k].toNat < 128
      · have hnx := fun ty => run_next_ascii (P := Tryz.prog) w s k ty hlt hb
        have hL := isLetter_any (s[k].toNat : Int)
        have hcs := charOk_cases k (s[k].toNat : Int)
        generalize (s[k].toNat : Int) = r at *
        have bad : charOk k r = false → false = X := fun q => by
          rw [q, Bool.false_and] at hst
          rw [← HX.out, isNm, hst]
          simp
        have good : charOk k r = true → charsOk s 0 = charsOk s (k + 1) := fun q => by
          rw [hst, q, Bool.true_and]
        have BAD := Lib.hid bad
        have GOOD := Lib.hid good
        clear hst bad good
        rcases hcs with ⟨a1, c⟩ | ⟨a1, a2, c⟩ | ⟨a1, a2, a3, c⟩ | ⟨a1, a2, a3, a4, c⟩ | ⟨a1, a2, a3, a4, a5, c⟩ | ⟨a1, a2, a3, a4, a5, c⟩
        all_goals
          rw [a1] at hL
          first
            | (have G : Hid (charsOk s 0 = charsOk s (k + 1)) := GOOD.out c
               clear c GOOD BAD
               go_wp2_with fail
               refine (hL _).mono ?_
               rintro e wv ⟨rfl, rfl⟩
               go_wp2
               go_roundw
               case rel => exact ⟨k + 1, rfl, by omega, G⟩
               case measure => (simp; omega))
            | (have G := BAD.out c
               clear c GOOD BAD
               subst G
               go_wp2_with fail
               refine (hL _).mono ?_
               rintro e wv ⟨rfl, rfl⟩
               go_wp2
               go_ret
               exact ⟨rfl, HB.out _⟩)
      · have hnx := fun ty => run_next_any (P := Tryz.prog) w s k ty hlt
        obtain ⟨hh1, hh2⟩ := decode_high s k hlt (by omega)
        have hh3 := decode_le s k
        have hf := charOk_high k (s[k].toNat : Int) (by omega)
        have hX : false = X := by
          rw [hf, Bool.false_and] at hst
          rw [← HX.out, isNm, hst]
          simp
        have hf2 := charOk_high k ((Utf8.decode s k).1 : Int) (by omega)
        have hL := isLetter_any ((Utf8.decode s k).1 : Int)
        have hcs := charOk_cases k ((Utf8.decode s k).1 : Int)
        generalize ((Utf8.decode s k).1 : Int) = r at *
        clear hst hf
        subst hX
        rcases hcs with ⟨a1, c⟩ | ⟨a1, a2, c⟩ | ⟨a1, a2, a3, c⟩ | ⟨a1, a2, a3, a4, c⟩ | ⟨a1, a2, a3, a4, a5, c⟩ | ⟨a1, a2, a3, a4, a5, c⟩
        all_goals
          first
            | (exact absurd (c.symm.trans hf2) (by decide))
            | (rw [a1] at hL
               clear c hf2
               go_wp2_with fail
               refine (hL _).mono ?_
               rintro e wv ⟨rfl, rfl⟩
               go_wp2
               go_ret
               exact ⟨rfl, HB.out _⟩)
    · have hnx := fun ty => run_next_end (P := Tryz.prog) w s k ty hlt
      have hX : (decide (1 ≤ s.size) && decide (s.size ≤ 24)) = X := by
        rw [← HX.out, isNm, HK.out, charsOk_end s k hlt, Bool.and_true]
      clear HK HX
      by_cases h0 : s.size = 0
      · have he : s.toList.isEmpty = true := by rw [isEmpty_size]; exact decide_eq_true h0
        rw [decide_eq_false (by omega), Bool.false_and] at hX
        subst hX
        go_wp2
        go_ret
        exact ⟨rfl, HB.out _⟩
      · have he : s.toList.isEmpty = false := by rw [isEmpty_size]; exact decide_eq_false h0
        rw [decide_eq_true (by omega), Bool.true_and] at hX
        by_cases h24 : s.size ≤ 24
        · rw [decide_eq_true h24] at hX
          subst hX
          have hi : (s.size : Int) ≤ 24 := by omega
          go_wp2
          go_ret
          exact ⟨rfl, HB.out _⟩
        · rw [decide_eq_false h24] at hX
          subst hX
          have hi : ¬ (s.size : Int) ≤ 24 := by omega
          go_wp2
          go_ret
          exact ⟨rfl, HB.out _⟩
theorem refIsName_any (s : ByteArray) (w : World) (hz : s.size ≤ maxLen) : Calls Tryz.prog 110 #[.string s] w (RetSame (.bool (isNm s)) w) := by
  have hml : maxLen = 9223372036854775807 := rfl
  obtain ⟨X, hX⟩ : ∃ X, isNm s = X := ⟨_, rfl⟩
  rw [hX]
  have hsz : (s.size : Int) ≤ 9223372036854775807 := by omega
  by_cases h1 : s.size < 1
  · have : isNm s = false := by unfold isNm; rw [decide_eq_false (by omega)]; rfl
    rw [this] at hX
    subst hX
    have hi : (s.size : Int) < 1 := by omega
    go_enter Tryz.func110, Tryz.ntmps110
    go_wp2
    go_ret
    exact ⟨rfl, rfl⟩
  · by_cases h2 : 24 < s.size
    · have : isNm s = false := by unfold isNm; rw [show decide (s.size ≤ 24) = false from decide_eq_false (by omega)]; simp
      rw [this] at hX
      subst hX
      have hi : ¬ (s.size : Int) < 1 := by omega
      have hj : 24 < (s.size : Int) := by omega
      go_enter Tryz.func110, Tryz.ntmps110
      go_wp2
      go_ret
      exact ⟨rfl, rfl⟩
    · have HX : Hid (charsOk s 0 = X) := (show _ = _ by
        rw [← hX, isNm, decide_eq_true (by omega), decide_eq_true (by omega)]
        rfl)
      have hi : ¬ (s.size : Int) < 1 := by omega
      have hj : ¬ 24 < (s.size : Int) := by omega
      clear hX
      go_enter Tryz.func110, Tryz.ntmps110
      go_wp2
      go_loop [3] (fun i => ∃ k : Nat, i = .int .i64 k ∧ k ≤ s.size ∧ Hid (charsOk s k = X)) (fun i => s.size - (intOf i).toNat)
      case atStart => exact ⟨0, rfl, by omega, HX⟩
      case round =>
        obtain ⟨k, rfl, hk, HK⟩ := hrel
        by_cases hlt : k < s.size
        · have hst := charsOk_at s k hlt
          rw [HK.out] at hst
          have hki : (k : Int) < (s.size : Int) := by omega
          have hlr : (s[k].toNat : Int) < 256 := by have := s[k].toNat_lt; omega
          have hlr0 : 0 ≤ (s[k].toNat : Int) := by omega
          obtain ⟨r, hr⟩ : ∃ r : Int, (s[k].toNat : Int) = r := ⟨_, rfl⟩
          rw [hr] at hst hlr hlr0
          have key : ∀ b, charOk k r = b → (b = true → charsOk s (k + 1) = X) ∧ (b = false → false = X) := fun b hb => ⟨fun q => by rw [hst, hb, q, Bool.true_and], fun q => by rw [hst, hb, q, Bool.false_and]⟩
          have KEY := Lib.hid key
          clear hst key
          have hiv : (r ≤ 47) ∨ (48 ≤ r ∧ r ≤ 57) ∨ (58 ≤ r ∧ r ≤ 64) ∨ (65 ≤ r ∧ r ≤ 90) ∨ (91 ≤ r ∧ r ≤ 94) ∨ r = 95 ∨ r = 96 ∨ (97 ≤ r ∧ r ≤ 122) ∨ (123 ≤ r) := by omega
          by_cases hk0 : k = 0
          · have hkb : ((k : Int) == 0) = true := by rw [beq_iff_eq]; omega
            have HK0 := Lib.hid hk0
            clear hk0
            rcases hiv with q | ⟨q, q'⟩ | ⟨q, q'⟩ | ⟨q, q'⟩ | ⟨q, q'⟩ | q | q | ⟨q, q'⟩ | q
            all_goals
              first
                | (have G0 : charOk k r = true := (by unfold charOk letterZ; simp [HK0.out]; first | done | omega)
                   have G : Hid (charsOk s (k + 1) = X) := (KEY.out true G0).1 rfl
                   clear KEY G0
                   go_wp2
                   all_goals first
                     | exact ⟨⟨k + 1, by go_num, by omega, G⟩, by simp [intOf]; omega⟩
                     | (exfalso; rename_i hlast; simp at hlast; omega))
                | (have G0 : charOk k r = false := (by unfold charOk letterZ; simp [HK0.out]; first | done | omega)
                   have G := (KEY.out false G0).2 rfl
                   clear KEY G0
                   subst G
                   go_wp2
                   all_goals first
                     | (go_ret; exact ⟨rfl, rfl⟩)
                     | (exfalso; rename_i hlast; simp at hlast; omega))
          · have hkb : ((k : Int) == 0) = false := by rw [beq_eq_false_iff_ne]; omega
            have HK0 := Lib.hid hk0
            clear hk0
            rcases hiv with q | ⟨q, q'⟩ | ⟨q, q'⟩ | ⟨q, q'⟩ | ⟨q, q'⟩ | q | q | ⟨q, q'⟩ | q
            all_goals
              first
                | (have G0 : charOk k r = true := (by unfold charOk letterZ; simp [HK0.out]; first | done | omega)
                   have G : Hid (charsOk s (k + 1) = X) := (KEY.out true G0).1 rfl
                   clear KEY G0
                   go_wp2
                   all_goals first
                     | exact ⟨⟨k + 1, by go_num, by omega, G⟩, by simp [intOf]; omega⟩
                     | (exfalso; rename_i hlast; simp at hlast; omega))
                | (have G0 : charOk k r = false := (by unfold charOk letterZ; simp [HK0.out]; first | done | omega)
                   have G := (KEY.out false G0).2 rfl
                   clear KEY G0
                   subst G
                   go_wp2
                   all_goals first
                     | (go_ret; exact ⟨rfl, rfl⟩)
                     | (exfalso; rename_i hlast; simp at hlast; omega))
        · have hz := HK.out
          rw [charsOk_end s k hlt] at hz
          subst hz
          go_wp2
          go_ret
          exact ⟨rfl, rfl⟩
end Go.Mk
