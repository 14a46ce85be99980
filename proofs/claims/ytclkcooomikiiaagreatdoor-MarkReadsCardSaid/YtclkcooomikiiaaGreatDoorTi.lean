/-
  Proved: the reference's Print returns the text of a mark, by its kind. Conditions: the mark is valid.
-/
import Derived.Test.YtclkcooomikiiaaGreatDoorTg
import Derived.Test.YtclkcooomikiiaaGreatDoorRf
set_option linter.unusedVariables false
set_option linter.unusedSimpArgs false
open Go Go.Proofs Go.RowKit
set_option maxRecDepth 100000
namespace Go.Mk
set_option maxHeartbeats 400000 in
theorem refMore_any (n least : Nat) (h : n ≤ 999999999) (hl : least ≤ 9) (w : World) : Calls Tryz.prog 33 #[.int .i64 n, .int .i64 least] w fun e w' => e = .returned (.string (dec n least)) ∧ w' = w := by
  have hD := refDecimal_any n least h hl w
  go_enter Tryz.func33, Tryz.ntmps33
  go_wp2_with fail
  refine hD.mono ?_
  rintro e w2 ⟨rfl, rfl⟩
  go_wp2
  go_ret
  exact ⟨rfl, rfl⟩
set_option maxHeartbeats 400000 in
theorem refTwo_any (n : Nat) (h : n ≤ 999999999) (w : World) : Calls Tryz.prog 32 #[.int .i64 n] w fun e w' => e = .returned (.string (dec n 2)) ∧ w' = w := by
  have hD : Calls Tryz.prog 33 #[.int .i64 n, .int .i64 2] w fun e w' => e = .returned (.string (dec n 2)) ∧ w' = w := refMore_any n 2 h (by decide) w
  go_enter Tryz.func32, Tryz.ntmps32
  go_wp2_with fail
  refine hD.mono ?_
  rintro e w2 ⟨rfl, rfl⟩
  go_wp2
  go_ret
  exact ⟨rfl, rfl⟩
set_option maxHeartbeats 1000000 in
theorem refPrint_none (s r : ByteArray) (v : Int) (h0 : (s.toList == [110, 111, 110, 101]) = true) (w : World) :
    Calls Tryz.prog 9 #[.agg #[.string s, .int .i64 v, .string r]] w (RetPost (.string r) w) := by
  go_enter Tryz.func9, Tryz.ntmps9
  go_wp2
  go_ret
  exact ⟨rfl, (Below.refl _ _).alloc (Nat.le_refl _) _⟩
theorem decGo_size (f least n : Nat) (s : ByteArray) : (decGo f least n s).size ≤ s.size + f := by
  induction f generalizing n s with
  | zero => exact Nat.le_refl _
  | succ f ih =>
    rw [decGo]
    split
    · have h := ih (n / 10) (dig1 (n % 10) ++ s)
      rw [ByteArray.size_append, dig1_size _ (Nat.mod_lt _ (by decide))] at h
      omega
    · omega
theorem dec_size (n least : Nat) : ((dec n least).size : Int) ≤ 40 := by
  have := decGo_size 40 least n ⟨#[]⟩
  have h2 : (⟨#[]⟩ : ByteArray).size = 0 := rfl
  unfold dec
  omega
set_option maxHeartbeats 1000000 in
theorem refPrint_points (s r : ByteArray) (v : Nat) (h0 : (s.toList == [110, 111, 110, 101]) = false) (h1 : (s.toList == [112, 111, 105, 110, 116, 115]) = true) (hv : v ≤ 99999) (w : World) :
    Calls Tryz.prog 9 #[.agg #[.string s, .int .i64 v, .string r]] w (RetPost (.string (dec v 1 ++ ⟨#[112]⟩)) w) := by
  have hD : ∀ w, Calls Tryz.prog 31 #[.int .i64 v, .int .i64 1] w fun e w' => e = .returned (.string (dec v 1)) ∧ w' = w := fun w => refDecimal_any v 1 (by omega) (by decide) w
  have hz := dec_size v 1
  generalize dec v 1 = t at hD hz ⊢
  have hz2 : t.size + 1 ≤ 9223372036854775807 := by omega
  go_enter Tryz.func9, Tryz.ntmps9
  go_wp2_with fail
  refine (hD _).mono ?_
  rintro e w2 ⟨rfl, rfl⟩
  go_wp2
  go_ret
  exact ⟨rfl, (Below.refl _ _).alloc (Nat.le_refl _) _⟩
theorem decAt (x y : Int) (n least : Nat) (hx : x = n) (hy : y = least) (h : n ≤ 999999999) (hl : least ≤ 9) (w : World) : Calls Tryz.prog 31 #[.int .i64 x, .int .i64 y] w fun e w' => e = .returned (.string (dec n least)) ∧ w' = w := by
  subst hx; subst hy; exact refDecimal_any n least h hl w
theorem moreAt (x y : Int) (n least : Nat) (hx : x = n) (hy : y = least) (h : n ≤ 999999999) (hl : least ≤ 9) (w : World) : Calls Tryz.prog 33 #[.int .i64 x, .int .i64 y] w fun e w' => e = .returned (.string (dec n least)) ∧ w' = w := by
  subst hx; subst hy; exact refMore_any n least h hl w
theorem twoAt (x : Int) (n : Nat) (hx : x = n) (h : n ≤ 999999999) (w : World) : Calls Tryz.prog 32 #[.int .i64 x] w fun e w' => e = .returned (.string (dec n 2)) ∧ w' = w := by
  subst hx; exact refTwo_any n h w
/-- The text of a valid length. -/
def lenText (v : Nat) : ByteArray := (dec (v / 1000) 1 ++ ⟨#[46]⟩) ++ (if v % 10 = 0 then dec (v % 1000 / 10) 2 else dec (v % 1000) 3) ++ ⟨#[109]⟩
set_option maxHeartbeats 1000000 in
theorem refPrint_length (s r : ByteArray) (v : Nat) (h0 : (s.toList == [110, 111, 110, 101]) = false) (h1 : (s.toList == [112, 111, 105, 110, 116, 115]) = false) (h2 : (s.toList == [108, 101, 110, 103, 116, 104]) = true) (hv : v ≤ 999999) (w : World) :
    Calls Tryz.prog 9 #[.agg #[.string s, .int .i64 v, .string r]] w (RetPost (.string (lenText v)) w) := by
  have hA : ∀ w, _ := decAt ((v : Int) / 1000) 1 (v / 1000) 1 (by omega) rfl (by omega) (by decide)
  have hv2 : (v : Int) ≤ 999999 := by omega
  have hv0 : 0 ≤ (v : Int) := by omega
  unfold lenText
  by_cases hm : v % 10 = 0
  · rw [if_pos hm]
    have hB : ∀ w, _ := twoAt ((v : Int) % 1000 / 10) (v % 1000 / 10) (by omega) (by omega)
    have hm2 : ((v : Int) % 10 == 0) = true := by rw [beq_iff_eq]; omega
    have hz := dec_size (v / 1000) 1
    have hz2 := dec_size (v % 1000 / 10) 2
    generalize dec (v / 1000) 1 = t at hA hz ⊢
    generalize dec (v % 1000 / 10) 2 = u at hB hz2 ⊢
    have z1 : t.size + 1 ≤ 9223372036854775807 := by omega
    have z2 : t.size + 1 + u.size ≤ 9223372036854775807 := by omega
    have z3 : t.size + 1 + u.size + 1 ≤ 9223372036854775807 := by omega
    clear hm hv
    go_enter Tryz.func9, Tryz.ntmps9
    go_wp2_with fail
    refine (hA _).mono ?_
    rintro e w2 ⟨rfl, rfl⟩
    clear hA
    go_wp2_with fail
    refine (hB _).mono ?_
    rintro e w2 ⟨rfl, rfl⟩
    go_wp2
    go_ret
    exact ⟨rfl, (Below.refl _ _).alloc (Nat.le_refl _) _⟩
  · rw [if_neg hm]
    have hB : ∀ w, _ := moreAt ((v : Int) % 1000) 3 (v % 1000) 3 (by omega) rfl (by omega) (by decide)
    have hm2 : ((v : Int) % 10 == 0) = false := by rw [beq_eq_false_iff_ne]; omega
    have hz := dec_size (v / 1000) 1
    have hz2 := dec_size (v % 1000) 3
    generalize dec (v / 1000) 1 = t at hA hz ⊢
    generalize dec (v % 1000) 3 = u at hB hz2 ⊢
    have z1 : t.size + 1 ≤ 9223372036854775807 := by omega
    have z2 : t.size + 1 + u.size ≤ 9223372036854775807 := by omega
    have z3 : t.size + 1 + u.size + 1 ≤ 9223372036854775807 := by omega
    clear hm hv
    go_enter Tryz.func9, Tryz.ntmps9
    go_wp2_with fail
    refine (hA _).mono ?_
    rintro e w2 ⟨rfl, rfl⟩
    clear hA
    go_wp2_with fail
    refine (hB _).mono ?_
    rintro e w2 ⟨rfl, rfl⟩
    go_wp2
    go_ret
    exact ⟨rfl, (Below.refl _ _).alloc (Nat.le_refl _) _⟩
/-- The fraction of a valid time. -/
def restText (v : Nat) : ByteArray := ⟨#[46]⟩ ++ (if v % 100 = 0 then dec (v % 10000 / 100) 2 else dec (v % 10000) 4)
/-- The text of a valid time. -/
def timeText (v : Nat) : ByteArray :=
  if v / 10000 < 60 then dec (v / 10000) 1 ++ restText v
  else if v / 10000 < 3600 then dec (v / 10000 / 60) 1 ++ ⟨#[58]⟩ ++ dec (v / 10000 % 60) 2 ++ restText v
  else dec (v / 10000 / 3600) 1 ++ ⟨#[58]⟩ ++ dec (v / 10000 / 60 % 60) 2 ++ ⟨#[58]⟩ ++ dec (v / 10000 % 60) 2 ++ restText v
set_option maxHeartbeats 4000000 in
theorem refPrint_time (s r : ByteArray) (v : Nat) (h0 : (s.toList == [110, 111, 110, 101]) = false) (h1 : (s.toList == [112, 111, 105, 110, 116, 115]) = false) (h2 : (s.toList == [108, 101, 110, 103, 116, 104]) = false) (hv : v ≤ 863999999) (w : World) :
    Calls Tryz.prog 9 #[.agg #[.string s, .int .i64 v, .string r]] w (RetPost (.string (timeText v)) w) := by
  have hv2 : (v : Int) ≤ 863999999 := by omega
  have hv0 : 0 ≤ (v : Int) := by omega
  have hF : ∀ w, _ := moreAt ((v : Int) % 10000) 4 (v % 10000) 4 (by omega) rfl (by omega) (by decide)
  have hG : ∀ w, _ := twoAt ((v : Int) % 10000 / 100) (v % 10000 / 100) (by omega) (by omega)
  have hA : ∀ w, _ := decAt ((v : Int) / 10000) 1 (v / 10000) 1 (by omega) rfl (by omega) (by decide)
  have hB : ∀ w, _ := decAt ((v : Int) / 10000 / 60) 1 (v / 10000 / 60) 1 (by omega) rfl (by omega) (by decide)
  have hC : ∀ w, _ := decAt ((v : Int) / 10000 / 3600) 1 (v / 10000 / 3600) 1 (by omega) rfl (by omega) (by decide)
  have hS : ∀ w, _ := twoAt ((v : Int) / 10000 % 60) (v / 10000 % 60) (by omega) (by omega)
  have hM : ∀ w, _ := twoAt ((v : Int) / 10000 / 60 % 60) (v / 10000 / 60 % 60) (by omega) (by omega)
  have zF := dec_size (v % 10000) 4
  have zG := dec_size (v % 10000 / 100) 2
  have zA := dec_size (v / 10000) 1
  have zB := dec_size (v / 10000 / 60) 1
  have zC := dec_size (v / 10000 / 3600) 1
  have zS := dec_size (v / 10000 % 60) 2
  have zM := dec_size (v / 10000 / 60 % 60) 2
  unfold timeText restText
  obtain ⟨b, hb⟩ : ∃ b : Bool, decide (v % 100 = 0) = b := ⟨_, rfl⟩
  have hb2 : ((v : Int) % 100 == 0) = b := by
    rw [← hb]
    by_cases h : v % 100 = 0
    · rw [decide_eq_true h, beq_iff_eq]; omega
    · rw [decide_eq_false h, beq_eq_false_iff_ne]; omega
  have hif : ∀ x y : ByteArray, (if v % 100 = 0 then x else y) = if b = true then x else y := by
    intro x y
    by_cases h : v % 100 = 0
    · rw [if_pos h, if_pos (by rw [← hb]; exact decide_eq_true h)]
    · rw [if_neg h, if_neg (by rw [← hb]; simpa using h)]
  simp only [hif]
  clear hif hb
  generalize dec (v % 10000) 4 = tF at *
  generalize dec (v % 10000 / 100) 2 = tG at *
  generalize dec (v / 10000) 1 = tA at *
  generalize dec (v / 10000 / 60) 1 = tB at *
  generalize dec (v / 10000 / 3600) 1 = tC at *
  generalize dec (v / 10000 % 60) 2 = tS at *
  generalize dec (v / 10000 / 60 % 60) 2 = tM at *
  by_cases r1 : (v : Int) / 10000 < 60
  · rw [if_pos (show v / 10000 < 60 by omega)]
    clear hB hC hS hM zB zC zS zM
    cases b
    · rw [if_neg (by decide)]
      clear hG zG
      as_aux_lemma =>
        go_enter Tryz.func9, Tryz.ntmps9
        go_wp2_with fail
        refine (hF _).mono ?_
        rintro e w2 ⟨rfl, rfl⟩
        clear hF
        go_wp2_with fail
        refine (hA _).mono ?_
        rintro e w2 ⟨rfl, rfl⟩
        clear hA
        go_wp2
        go_ret
        exact ⟨rfl, (Below.refl _ _).alloc (Nat.le_refl _) _⟩
    · rw [if_pos rfl]
      as_aux_lemma =>
        go_enter Tryz.func9, Tryz.ntmps9
        go_wp2_with fail
        refine (hF _).mono ?_
        rintro e w2 ⟨rfl, rfl⟩
        clear hF
        go_wp2_with fail
        refine (hG _).mono ?_
        rintro e w2 ⟨rfl, rfl⟩
        clear hG
        go_wp2_with fail
        refine (hA _).mono ?_
        rintro e w2 ⟨rfl, rfl⟩
        clear hA
        go_wp2
        go_ret
        exact ⟨rfl, (Below.refl _ _).alloc (Nat.le_refl _) _⟩
  · rw [if_neg (show ¬ v / 10000 < 60 by omega)]
    by_cases r2 : (v : Int) / 10000 < 3600
    · rw [if_pos (show v / 10000 < 3600 by omega)]
      clear hA hC hM zA zC zM
      cases b
      · rw [if_neg (by decide)]
        clear hG zG
        as_aux_lemma =>
          go_enter Tryz.func9, Tryz.ntmps9
          go_wp2_with fail
          refine (hF _).mono ?_
          rintro e w2 ⟨rfl, rfl⟩
          clear hF
          go_wp2_with fail
          refine (hB _).mono ?_
          rintro e w2 ⟨rfl, rfl⟩
          clear hB
          go_wp2_with fail
          refine (hS _).mono ?_
          rintro e w2 ⟨rfl, rfl⟩
          clear hS
          go_wp2
          go_ret
          exact ⟨rfl, (Below.refl _ _).alloc (Nat.le_refl _) _⟩
      · rw [if_pos rfl]
        as_aux_lemma =>
          go_enter Tryz.func9, Tryz.ntmps9
          go_wp2_with fail
          refine (hF _).mono ?_
          rintro e w2 ⟨rfl, rfl⟩
          clear hF
          go_wp2_with fail
          refine (hG _).mono ?_
          rintro e w2 ⟨rfl, rfl⟩
          clear hG
          go_wp2_with fail
          refine (hB _).mono ?_
          rintro e w2 ⟨rfl, rfl⟩
          clear hB
          go_wp2_with fail
          refine (hS _).mono ?_
          rintro e w2 ⟨rfl, rfl⟩
          clear hS
          go_wp2
          go_ret
          exact ⟨rfl, (Below.refl _ _).alloc (Nat.le_refl _) _⟩
    · rw [if_neg (show ¬ v / 10000 < 3600 by omega)]
      clear hA hB zA zB
      cases b
      · rw [if_neg (by decide)]
        clear hG zG
        as_aux_lemma =>
          go_enter Tryz.func9, Tryz.ntmps9
          go_wp2_with fail
          refine (hF _).mono ?_
          rintro e w2 ⟨rfl, rfl⟩
          clear hF
          go_wp2_with fail
          refine (hC _).mono ?_
          rintro e w2 ⟨rfl, rfl⟩
          clear hC
          go_wp2_with fail
          refine (hM _).mono ?_
          rintro e w2 ⟨rfl, rfl⟩
          clear hM
          go_wp2_with fail
          refine (hS _).mono ?_
          rintro e w2 ⟨rfl, rfl⟩
          clear hS
          go_wp2
          go_ret
          exact ⟨rfl, (Below.refl _ _).alloc (Nat.le_refl _) _⟩
      · rw [if_pos rfl]
        as_aux_lemma =>
          go_enter Tryz.func9, Tryz.ntmps9
          go_wp2_with fail
          refine (hF _).mono ?_
          rintro e w2 ⟨rfl, rfl⟩
          clear hF
          go_wp2_with fail
          refine (hG _).mono ?_
          rintro e w2 ⟨rfl, rfl⟩
          clear hG
          go_wp2_with fail
          refine (hC _).mono ?_
          rintro e w2 ⟨rfl, rfl⟩
          clear hC
          go_wp2_with fail
          refine (hM _).mono ?_
          rintro e w2 ⟨rfl, rfl⟩
          clear hM
          go_wp2_with fail
          refine (hS _).mono ?_
          rintro e w2 ⟨rfl, rfl⟩
          clear hS
          go_wp2
          go_ret
          exact ⟨rfl, (Below.refl _ _).alloc (Nat.le_refl _) _⟩
end Go.Mk
