/-
  Proved: the law FieldChecks returns true and leaves all that was there. Conditions: the tables that awake reads lie where the program lays them; the names and the heights lie where the slices say, and are no more than an int says.
-/
import Derived.Test.YthpcmhcokblglaaGreatDoorFd
import Derived.Test.YthpcmhcokblglaaGreatDoorXaw
set_option linter.unusedVariables false
set_option linter.unusedSimpArgs false
open Go Go.Proofs Go.RowKit
set_option maxRecDepth 100000
namespace Go.Mk
theorem short_max {L : List ByteArray} (h : ∀ x ∈ L, x.size ≤ 40) : ∀ x ∈ L, x.size ≤ maxLen := fun x hx => by have := h x hx; unfold maxLen; omega
set_option maxHeartbeats 8000000 in
theorem checks6_ex1 (L : List ByteArray) (n cap : Nat) (A : Option Addr) (t f m : Int) (L2 : List ByteArray) (n2 cap2 : Nat) (A2 : Option Addr) (G : List Int) (mh cH : Nat) (AH : Option Addr) (s : Int) (w : World)
    (hZ : TextsZ w A n L) (hn : (n : Int) ≤ 9223372036854775807) (hcap : n ≤ cap) (hZ2 : TextsZ w A2 n2 L2) (hn2 : (n2 : Int) ≤ 9223372036854775807) (hcap2 : n2 ≤ cap2) (hG : IntsZ w AH mh G) (hm : (mh : Int) ≤ 9223372036854775807) (ht : Tabs w) (h1 : shNm L = false) : Calls Tryz.prog 3 #[.agg #[.slice A n cap, .int .i64 t, .int .i64 f, .int .i64 m], .agg #[.slice A2 n2 cap2, .slice AH mh cH, .int .i64 s]] w (Yes w) := by
  obtain ⟨w1, hw1⟩ : ∃ w1, (w.alloc (.cells #[.slice A n cap, .int .i64 t, .int .i64 f, .int .i64 m] 24)).alloc (.cells #[.slice A2 n2 cap2, .slice AH mh cH, .int .i64 s] 27) = w1 := ⟨_, rfl⟩
  have hb1 : Below w.heap.size w w1 := by rw [← hw1]; exact balloc _ (balloc _ (Below.refl _ _))
  have hs1 : w1.heap.size = w.heap.size + 1 + 1 := by rw [← hw1]; simp
  have c0 : w1.cell? ⟨w.heap.size, 0, none⟩ = some (.slice A n cap) := by rw [← hw1]; simp
  have c1 : w1.cell? ⟨w.heap.size, 1, none⟩ = some (.int .i64 t) := by rw [← hw1]; simp
  have c2 : w1.cell? ⟨w.heap.size, 2, none⟩ = some (.int .i64 f) := by rw [← hw1]; simp
  have c3 : w1.cell? ⟨w.heap.size, 3, none⟩ = some (.int .i64 m) := by rw [← hw1]; simp
  have c4 : w1.cell? ⟨w.heap.size + 1, 0, none⟩ = some (.slice A2 n2 cap2) := by rw [← hw1]; simp
  have c5 : w1.cell? ⟨w.heap.size + 1, 1, none⟩ = some (.slice AH mh cH) := by rw [← hw1]; simp
  have c6 : w1.cell? ⟨w.heap.size + 1, 2, none⟩ = some (.int .i64 s) := by rw [← hw1]; simp
  have HX : Hid (∀ w', Below w1.heap.size w1 w' → w'.cell? ⟨w.heap.size, 0, none⟩ = some (.slice A n cap) ∧ w'.cell? ⟨w.heap.size, 1, none⟩ = some (.int .i64 t) ∧ w'.cell? ⟨w.heap.size, 2, none⟩ = some (.int .i64 f) ∧ w'.cell? ⟨w.heap.size, 3, none⟩ = some (.int .i64 m) ∧ w'.cell? ⟨w.heap.size + 1, 0, none⟩ = some (.slice A2 n2 cap2) ∧ w'.cell? ⟨w.heap.size + 1, 1, none⟩ = some (.slice AH mh cH) ∧ w'.cell? ⟨w.heap.size + 1, 2, none⟩ = some (.int .i64 s) ∧ Below w1.heap.size w1 w') := Lib.hid fun w' hb => ⟨(hb.cell (p := ⟨w.heap.size, 0, none⟩) (by show w.heap.size < _; omega)).trans c0, (hb.cell (p := ⟨w.heap.size, 1, none⟩) (by show w.heap.size < _; omega)).trans c1, (hb.cell (p := ⟨w.heap.size, 2, none⟩) (by show w.heap.size < _; omega)).trans c2, (hb.cell (p := ⟨w.heap.size, 3, none⟩) (by show w.heap.size < _; omega)).trans c3, (hb.cell (p := ⟨w.heap.size + 1, 0, none⟩) (by show w.heap.size + 1 < _; omega)).trans c4, (hb.cell (p := ⟨w.heap.size + 1, 1, none⟩) (by show w.heap.size + 1 < _; omega)).trans c5, (hb.cell (p := ⟨w.heap.size + 1, 2, none⟩) (by show w.heap.size + 1 < _; omega)).trans c6, hb⟩
  have HB1 := Lib.hid hb1
  have hS1 := r6ShortNames_any L n cap A w1 (hZ.below hb1) hn
  have hS2 := r6ShortNames_any L2 n2 cap2 A2 w1 (hZ2.below hb1) hn2
  have HAW : Hid (∀ w', Below w.heap.size w w' → Calls Tryz.prog 8 #[] w' (RetPost (.bool true) w')) := Lib.hid fun w' hb => aw w' (ht.grow hb)
  rw [h1] at hS1
  clear hZ hZ2 hG hS2 ht hb1 h1 c4 c5 c6
  go_enter Tryz.func3, Tryz.ntmps3
  go_wp2_with fail
  refine hS1.mono ?_
  rintro e w2 ⟨rfl, rfl⟩
  go_wp2_with fail
  refine (HAW.out _ HB1.out).mono ?_
  rintro e w9 ⟨rfl, hb9⟩
  have hfin := bstep HB1.out hb9
  clear hb9
  go_wp2
  go_ret
  exact ⟨rfl, hfin⟩
set_option maxHeartbeats 8000000 in
theorem checks6_ex2 (L : List ByteArray) (n cap : Nat) (A : Option Addr) (t f m : Int) (L2 : List ByteArray) (n2 cap2 : Nat) (A2 : Option Addr) (G : List Int) (mh cH : Nat) (AH : Option Addr) (s : Int) (w : World)
    (hZ : TextsZ w A n L) (hn : (n : Int) ≤ 9223372036854775807) (hcap : n ≤ cap) (hZ2 : TextsZ w A2 n2 L2) (hn2 : (n2 : Int) ≤ 9223372036854775807) (hcap2 : n2 ≤ cap2) (hG : IntsZ w AH mh G) (hm : (mh : Int) ≤ 9223372036854775807) (ht : Tabs w) (h1 : shNm L = true) (h2 : shNm L2 = false) : Calls Tryz.prog 3 #[.agg #[.slice A n cap, .int .i64 t, .int .i64 f, .int .i64 m], .agg #[.slice A2 n2 cap2, .slice AH mh cH, .int .i64 s]] w (Yes w) := by
  obtain ⟨w1, hw1⟩ : ∃ w1, (w.alloc (.cells #[.slice A n cap, .int .i64 t, .int .i64 f, .int .i64 m] 24)).alloc (.cells #[.slice A2 n2 cap2, .slice AH mh cH, .int .i64 s] 27) = w1 := ⟨_, rfl⟩
  have hb1 : Below w.heap.size w w1 := by rw [← hw1]; exact balloc _ (balloc _ (Below.refl _ _))
  have hs1 : w1.heap.size = w.heap.size + 1 + 1 := by rw [← hw1]; simp
  have c0 : w1.cell? ⟨w.heap.size, 0, none⟩ = some (.slice A n cap) := by rw [← hw1]; simp
  have c1 : w1.cell? ⟨w.heap.size, 1, none⟩ = some (.int .i64 t) := by rw [← hw1]; simp
  have c2 : w1.cell? ⟨w.heap.size, 2, none⟩ = some (.int .i64 f) := by rw [← hw1]; simp
  have c3 : w1.cell? ⟨w.heap.size, 3, none⟩ = some (.int .i64 m) := by rw [← hw1]; simp
  have c4 : w1.cell? ⟨w.heap.size + 1, 0, none⟩ = some (.slice A2 n2 cap2) := by rw [← hw1]; simp
  have c5 : w1.cell? ⟨w.heap.size + 1, 1, none⟩ = some (.slice AH mh cH) := by rw [← hw1]; simp
  have c6 : w1.cell? ⟨w.heap.size + 1, 2, none⟩ = some (.int .i64 s) := by rw [← hw1]; simp
  have HX : Hid (∀ w', Below w1.heap.size w1 w' → w'.cell? ⟨w.heap.size, 0, none⟩ = some (.slice A n cap) ∧ w'.cell? ⟨w.heap.size, 1, none⟩ = some (.int .i64 t) ∧ w'.cell? ⟨w.heap.size, 2, none⟩ = some (.int .i64 f) ∧ w'.cell? ⟨w.heap.size, 3, none⟩ = some (.int .i64 m) ∧ w'.cell? ⟨w.heap.size + 1, 0, none⟩ = some (.slice A2 n2 cap2) ∧ w'.cell? ⟨w.heap.size + 1, 1, none⟩ = some (.slice AH mh cH) ∧ w'.cell? ⟨w.heap.size + 1, 2, none⟩ = some (.int .i64 s) ∧ Below w1.heap.size w1 w') := Lib.hid fun w' hb => ⟨(hb.cell (p := ⟨w.heap.size, 0, none⟩) (by show w.heap.size < _; omega)).trans c0, (hb.cell (p := ⟨w.heap.size, 1, none⟩) (by show w.heap.size < _; omega)).trans c1, (hb.cell (p := ⟨w.heap.size, 2, none⟩) (by show w.heap.size < _; omega)).trans c2, (hb.cell (p := ⟨w.heap.size, 3, none⟩) (by show w.heap.size < _; omega)).trans c3, (hb.cell (p := ⟨w.heap.size + 1, 0, none⟩) (by show w.heap.size + 1 < _; omega)).trans c4, (hb.cell (p := ⟨w.heap.size + 1, 1, none⟩) (by show w.heap.size + 1 < _; omega)).trans c5, (hb.cell (p := ⟨w.heap.size + 1, 2, none⟩) (by show w.heap.size + 1 < _; omega)).trans c6, hb⟩
  have HB1 := Lib.hid hb1
  have hS1 := r6ShortNames_any L n cap A w1 (hZ.below hb1) hn
  have hS2 := r6ShortNames_any L2 n2 cap2 A2 w1 (hZ2.below hb1) hn2
  have HAW : Hid (∀ w', Below w.heap.size w w' → Calls Tryz.prog 8 #[] w' (RetPost (.bool true) w')) := Lib.hid fun w' hb => aw w' (ht.grow hb)
  rw [h1] at hS1
  rw [h2] at hS2
  clear hZ hZ2 hG ht hb1 h1 h2
  go_enter Tryz.func3, Tryz.ntmps3
  go_wp2_with fail
  refine hS1.mono ?_
  rintro e w2 ⟨rfl, rfl⟩
  go_wp2_with fail
  refine hS2.mono ?_
  rintro e w2 ⟨rfl, rfl⟩
  go_wp2_with fail
  refine (HAW.out _ HB1.out).mono ?_
  rintro e w9 ⟨rfl, hb9⟩
  have hfin := bstep HB1.out hb9
  clear hb9
  go_wp2
  go_ret
  exact ⟨rfl, hfin⟩
set_option maxHeartbeats 8000000 in
theorem checks6_ex3 (L : List ByteArray) (n cap : Nat) (A : Option Addr) (t f m : Int) (L2 : List ByteArray) (n2 cap2 : Nat) (A2 : Option Addr) (G : List Int) (mh cH : Nat) (AH : Option Addr) (s : Int) (w : World)
    (hZ : TextsZ w A n L) (hn : (n : Int) ≤ 9223372036854775807) (hcap : n ≤ cap) (hZ2 : TextsZ w A2 n2 L2) (hn2 : (n2 : Int) ≤ 9223372036854775807) (hcap2 : n2 ≤ cap2) (hG : IntsZ w AH mh G) (hm : (mh : Int) ≤ 9223372036854775807) (ht : Tabs w) (h1 : shNm L = true) (h2 : shNm L2 = true) (h3 : 27 < mh) : Calls Tryz.prog 3 #[.agg #[.slice A n cap, .int .i64 t, .int .i64 f, .int .i64 m], .agg #[.slice A2 n2 cap2, .slice AH mh cH, .int .i64 s]] w (Yes w) := by
  obtain ⟨w1, hw1⟩ : ∃ w1, (w.alloc (.cells #[.slice A n cap, .int .i64 t, .int .i64 f, .int .i64 m] 24)).alloc (.cells #[.slice A2 n2 cap2, .slice AH mh cH, .int .i64 s] 27) = w1 := ⟨_, rfl⟩
  have hb1 : Below w.heap.size w w1 := by rw [← hw1]; exact balloc _ (balloc _ (Below.refl _ _))
  have hs1 : w1.heap.size = w.heap.size + 1 + 1 := by rw [← hw1]; simp
  have c0 : w1.cell? ⟨w.heap.size, 0, none⟩ = some (.slice A n cap) := by rw [← hw1]; simp
  have c1 : w1.cell? ⟨w.heap.size, 1, none⟩ = some (.int .i64 t) := by rw [← hw1]; simp
  have c2 : w1.cell? ⟨w.heap.size, 2, none⟩ = some (.int .i64 f) := by rw [← hw1]; simp
  have c3 : w1.cell? ⟨w.heap.size, 3, none⟩ = some (.int .i64 m) := by rw [← hw1]; simp
  have c4 : w1.cell? ⟨w.heap.size + 1, 0, none⟩ = some (.slice A2 n2 cap2) := by rw [← hw1]; simp
  have c5 : w1.cell? ⟨w.heap.size + 1, 1, none⟩ = some (.slice AH mh cH) := by rw [← hw1]; simp
  have c6 : w1.cell? ⟨w.heap.size + 1, 2, none⟩ = some (.int .i64 s) := by rw [← hw1]; simp
  have HX : Hid (∀ w', Below w1.heap.size w1 w' → w'.cell? ⟨w.heap.size, 0, none⟩ = some (.slice A n cap) ∧ w'.cell? ⟨w.heap.size, 1, none⟩ = some (.int .i64 t) ∧ w'.cell? ⟨w.heap.size, 2, none⟩ = some (.int .i64 f) ∧ w'.cell? ⟨w.heap.size, 3, none⟩ = some (.int .i64 m) ∧ w'.cell? ⟨w.heap.size + 1, 0, none⟩ = some (.slice A2 n2 cap2) ∧ w'.cell? ⟨w.heap.size + 1, 1, none⟩ = some (.slice AH mh cH) ∧ w'.cell? ⟨w.heap.size + 1, 2, none⟩ = some (.int .i64 s) ∧ Below w1.heap.size w1 w') := Lib.hid fun w' hb => ⟨(hb.cell (p := ⟨w.heap.size, 0, none⟩) (by show w.heap.size < _; omega)).trans c0, (hb.cell (p := ⟨w.heap.size, 1, none⟩) (by show w.heap.size < _; omega)).trans c1, (hb.cell (p := ⟨w.heap.size, 2, none⟩) (by show w.heap.size < _; omega)).trans c2, (hb.cell (p := ⟨w.heap.size, 3, none⟩) (by show w.heap.size < _; omega)).trans c3, (hb.cell (p := ⟨w.heap.size + 1, 0, none⟩) (by show w.heap.size + 1 < _; omega)).trans c4, (hb.cell (p := ⟨w.heap.size + 1, 1, none⟩) (by show w.heap.size + 1 < _; omega)).trans c5, (hb.cell (p := ⟨w.heap.size + 1, 2, none⟩) (by show w.heap.size + 1 < _; omega)).trans c6, hb⟩
  have HB1 := Lib.hid hb1
  have hS1 := r6ShortNames_any L n cap A w1 (hZ.below hb1) hn
  have hS2 := r6ShortNames_any L2 n2 cap2 A2 w1 (hZ2.below hb1) hn2
  have HAW : Hid (∀ w', Below w.heap.size w w' → Calls Tryz.prog 8 #[] w' (RetPost (.bool true) w')) := Lib.hid fun w' hb => aw w' (ht.grow hb)
  rw [h1] at hS1
  rw [h2] at hS2
  have h3i : (27 : Int) < (mh : Int) := by omega
  clear hZ hZ2 hG ht hb1 h1 h2
  go_enter Tryz.func3, Tryz.ntmps3
  go_wp2_with fail
  refine hS1.mono ?_
  rintro e w2 ⟨rfl, rfl⟩
  go_wp2_with fail
  refine hS2.mono ?_
  rintro e w2 ⟨rfl, rfl⟩
  go_wp2_with fail
  refine (HAW.out _ HB1.out).mono ?_
  rintro e w9 ⟨rfl, hb9⟩
  have hfin := bstep HB1.out hb9
  clear hb9
  go_wp2
  go_ret
  exact ⟨rfl, hfin⟩
set_option maxHeartbeats 8000000 in
theorem checks6_main (L : List ByteArray) (n cap : Nat) (A : Option Addr) (t f m : Int) (L2 : List ByteArray) (n2 cap2 : Nat) (A2 : Option Addr) (G : List Int) (mh cH : Nat) (AH : Option Addr) (s : Int) (w : World)
    (hZ : TextsZ w A n L) (hn : (n : Int) ≤ 9223372036854775807) (hcap : n ≤ cap) (hZ2 : TextsZ w A2 n2 L2) (hn2 : (n2 : Int) ≤ 9223372036854775807) (hcap2 : n2 ≤ cap2) (hG : IntsZ w AH mh G) (hm : (mh : Int) ≤ 9223372036854775807) (ht : Tabs w) (h1 : shNm L = true) (h2 : shNm L2 = true) (h3 : mh ≤ 27) : Calls Tryz.prog 3 #[.agg #[.slice A n cap, .int .i64 t, .int .i64 f, .int .i64 m], .agg #[.slice A2 n2 cap2, .slice AH mh cH, .int .i64 s]] w (Yes w) := by
  obtain ⟨w1, hw1⟩ : ∃ w1, (w.alloc (.cells #[.slice A n cap, .int .i64 t, .int .i64 f, .int .i64 m] 24)).alloc (.cells #[.slice A2 n2 cap2, .slice AH mh cH, .int .i64 s] 27) = w1 := ⟨_, rfl⟩
  have hb1 : Below w.heap.size w w1 := by rw [← hw1]; exact balloc _ (balloc _ (Below.refl _ _))
  have hs1 : w1.heap.size = w.heap.size + 1 + 1 := by rw [← hw1]; simp
  have c0 : w1.cell? ⟨w.heap.size, 0, none⟩ = some (.slice A n cap) := by rw [← hw1]; simp
  have c1 : w1.cell? ⟨w.heap.size, 1, none⟩ = some (.int .i64 t) := by rw [← hw1]; simp
  have c2 : w1.cell? ⟨w.heap.size, 2, none⟩ = some (.int .i64 f) := by rw [← hw1]; simp
  have c3 : w1.cell? ⟨w.heap.size, 3, none⟩ = some (.int .i64 m) := by rw [← hw1]; simp
  have c4 : w1.cell? ⟨w.heap.size + 1, 0, none⟩ = some (.slice A2 n2 cap2) := by rw [← hw1]; simp
  have c5 : w1.cell? ⟨w.heap.size + 1, 1, none⟩ = some (.slice AH mh cH) := by rw [← hw1]; simp
  have c6 : w1.cell? ⟨w.heap.size + 1, 2, none⟩ = some (.int .i64 s) := by rw [← hw1]; simp
  have HX : Hid (∀ w', Below w1.heap.size w1 w' → w'.cell? ⟨w.heap.size, 0, none⟩ = some (.slice A n cap) ∧ w'.cell? ⟨w.heap.size, 1, none⟩ = some (.int .i64 t) ∧ w'.cell? ⟨w.heap.size, 2, none⟩ = some (.int .i64 f) ∧ w'.cell? ⟨w.heap.size, 3, none⟩ = some (.int .i64 m) ∧ w'.cell? ⟨w.heap.size + 1, 0, none⟩ = some (.slice A2 n2 cap2) ∧ w'.cell? ⟨w.heap.size + 1, 1, none⟩ = some (.slice AH mh cH) ∧ w'.cell? ⟨w.heap.size + 1, 2, none⟩ = some (.int .i64 s) ∧ Below w1.heap.size w1 w') := Lib.hid fun w' hb => ⟨(hb.cell (p := ⟨w.heap.size, 0, none⟩) (by show w.heap.size < _; omega)).trans c0, (hb.cell (p := ⟨w.heap.size, 1, none⟩) (by show w.heap.size < _; omega)).trans c1, (hb.cell (p := ⟨w.heap.size, 2, none⟩) (by show w.heap.size < _; omega)).trans c2, (hb.cell (p := ⟨w.heap.size, 3, none⟩) (by show w.heap.size < _; omega)).trans c3, (hb.cell (p := ⟨w.heap.size + 1, 0, none⟩) (by show w.heap.size + 1 < _; omega)).trans c4, (hb.cell (p := ⟨w.heap.size + 1, 1, none⟩) (by show w.heap.size + 1 < _; omega)).trans c5, (hb.cell (p := ⟨w.heap.size + 1, 2, none⟩) (by show w.heap.size + 1 < _; omega)).trans c6, hb⟩
  have HB1 := Lib.hid hb1
  have hS1 := r6ShortNames_any L n cap A w1 (hZ.below hb1) hn
  have hS2 := r6ShortNames_any L2 n2 cap2 A2 w1 (hZ2.below hb1) hn2
  have HAW : Hid (∀ w', Below w.heap.size w w' → Calls Tryz.prog 8 #[] w' (RetPost (.bool true) w')) := Lib.hid fun w' hb => aw w' (ht.grow hb)
  rw [h1] at hS1
  rw [h2] at hS2
  have h3i : ¬ (27 : Int) < (mh : Int) := by omega
  obtain ⟨l1, k1⟩ := shNm_all h1
  obtain ⟨l2, k2⟩ := shNm_all h2
  rw [hZ.1] at l1
  rw [hZ2.1] at l2
  have H1 : Hid (∀ w', Below w1.heap.size w1 w' → Calls Tryz.prog 9 #[.agg #[.slice A n cap, .int .i64 t, .int .i64 f, .int .i64 m]] w' (RetPost (.int .i64 (conE L t f m)) w')) := Lib.hid fun w' hb => fdCheckContest_any L n cap A t f m w' ((hZ.below hb1).below hb) (by omega) hcap (short_max k1)
  have H2 : Hid (∀ w', Below w1.heap.size w1 w' → Calls Tryz.prog 10 #[.agg #[.slice A n cap, .int .i64 t, .int .i64 f, .int .i64 m]] w' (RetPost (.int .i64 (conE L t f m)) w')) := Lib.hid fun w' hb => r6CheckContest_any L n cap A t f m w' ((hZ.below hb1).below hb) (by omega) (short_max k1)
  have H3 : Hid (∀ w', Below w1.heap.size w1 w' → Calls Tryz.prog 11 #[.agg #[.slice A2 n2 cap2, .slice AH mh cH, .int .i64 s]] w' (RetPost (.int .i64 (verE L2 G s)) w')) := Lib.hid fun w' hb => fdCheckVertical_any L2 n2 cap2 A2 G mh cH AH s w' ((hZ2.below hb1).below hb) (by omega) hcap2 (short_max k2) ((hG.below hb1).below hb) (by omega)
  have H4 : Hid (∀ w', Below w1.heap.size w1 w' → Calls Tryz.prog 12 #[.agg #[.slice A2 n2 cap2, .slice AH mh cH, .int .i64 s]] w' (RetPost (.int .i64 (verE L2 G s)) w')) := Lib.hid fun w' hb => r6CheckVertical_any L2 n2 cap2 A2 G mh cH AH s w' ((hZ2.below hb1).below hb) (by omega) (short_max k2) ((hG.below hb1).below hb) (by omega)
  generalize conE L t f m = y1 at *
  generalize verE L2 G s = y2 at *
  clear hZ hZ2 hG ht hb1 h1 h2 h3 l1 l2 k1 k2 hn hn2 hm hcap hcap2
  go_enter Tryz.func3, Tryz.ntmps3
  go_wp2_with fail
  refine hS1.mono ?_
  rintro e w2 ⟨rfl, rfl⟩
  go_wp2_with fail
  refine hS2.mono ?_
  rintro e w2 ⟨rfl, rfl⟩
  go_wp2_with fail
  clear hw1
  refine wp_region_held_drew (S := (fun w' => w'.cell? ⟨w.heap.size, 0, none⟩ = some (.slice A n cap) ∧ w'.cell? ⟨w.heap.size, 1, none⟩ = some (.int .i64 t) ∧ w'.cell? ⟨w.heap.size, 2, none⟩ = some (.int .i64 f) ∧ w'.cell? ⟨w.heap.size, 3, none⟩ = some (.int .i64 m) ∧ w'.cell? ⟨w.heap.size + 1, 0, none⟩ = some (.slice A2 n2 cap2) ∧ w'.cell? ⟨w.heap.size + 1, 1, none⟩ = some (.slice AH mh cH) ∧ w'.cell? ⟨w.heap.size + 1, 2, none⟩ = some (.int .i64 s) ∧ Below w1.heap.size w1 w')) (by kernel_rfl) ?_ (fun hHeld => ?_)
  · exact HX.out _ (Below.drew (Below.refl _ _))
  refine wpAnyH_take (i := 0) (oi := _) (v := ?_) rfl (by kernel_rfl) (by kernel_rfl) (by kernel_rfl) (fun _ _ _ h => h) (Or.inl ⟨by kernel_rfl, ?_⟩) (by assumption) ?_
  rotate_left
  · rintro w ⟨s1, s2, s3, s4, s5, s6, s7, s8⟩
    go_simp
    try with_reducible rfl
  try simp only [Act.put, List.setIfInBounds_toArray, List.set_cons_zero, List.set_cons_succ, List.getElem_toArray, List.getElem_cons_zero, List.getElem_cons_succ]
  refine wpAnyH_take (i := 2) (oi := _) (v := ?_) rfl (by kernel_rfl) (by kernel_rfl) (by kernel_rfl) (fun _ _ _ h => h) (Or.inl ⟨by kernel_rfl, ?_⟩) (by assumption) ?_
  rotate_left
  · rintro w ⟨s1, s2, s3, s4, s5, s6, s7, s8⟩
    go_simp
    try with_reducible rfl
  try simp only [Act.put, List.setIfInBounds_toArray, List.set_cons_zero, List.set_cons_succ, List.getElem_toArray, List.getElem_cons_zero, List.getElem_cons_succ]
  refine wpAnyH_ready (rs := [1]) (by kernel_rfl) (by simp) ?_
  refine AllReadyH.cons (o := _) rfl (fun K hKK => ?_) AllReadyH.nil
  go_simp
  go_at_call 9
  with_reducible refine (H1.out _ hHeld.2.2.2.2.2.2.2).mono ?_
  rintro e' w' ⟨rfl, hbz⟩
  go_wp2_with fail
  refine hKK.out _ _ ?_ (fun hHeld => ?_)
  · exact HX.out _ (bstep hHeld.2.2.2.2.2.2.2 hbz)
  clear hKK K
  try simp only [Act.put, List.setIfInBounds_toArray, List.set_cons_zero, List.set_cons_succ, List.getElem_toArray, List.getElem_cons_zero, List.getElem_cons_succ]
  clear hbz
  refine wpAnyH_ready (rs := [3]) (by kernel_rfl) (by simp) ?_
  refine AllReadyH.cons (o := _) rfl (fun K hKK => ?_) AllReadyH.nil
  go_simp
  go_at_call 10
  with_reducible refine (H2.out _ hHeld.2.2.2.2.2.2.2).mono ?_
  rintro e' w' ⟨rfl, hbz⟩
  go_wp2_with fail
  refine hKK.out _ _ ?_ (fun hHeld => ?_)
  · exact HX.out _ (bstep hHeld.2.2.2.2.2.2.2 hbz)
  clear hKK K
  try simp only [Act.put, List.setIfInBounds_toArray, List.set_cons_zero, List.set_cons_succ, List.getElem_toArray, List.getElem_cons_zero, List.getElem_cons_succ]
  clear hbz
  refine wpAnyH_take (i := 4) (oi := _) (v := ?_) rfl (by kernel_rfl) (by kernel_rfl) (by kernel_rfl) (fun _ _ _ h => h) (Or.inl ⟨by kernel_rfl, ?_⟩) (by assumption) ?_
  rotate_left
  · rintro w ⟨s1, s2, s3, s4, s5, s6, s7, s8⟩
    go_simp
    try simp only [beq_self_eq_true]
    try with_reducible rfl
  try simp only [Act.put, List.setIfInBounds_toArray, List.set_cons_zero, List.set_cons_succ, List.getElem_toArray, List.getElem_cons_zero, List.getElem_cons_succ]
  refine wpAnyH_take (i := 5) (oi := _) (v := ?_) rfl (by kernel_rfl) (by kernel_rfl) (by kernel_rfl) (fun _ _ _ h => h) (Or.inl ⟨by kernel_rfl, ?_⟩) (by assumption) ?_
  rotate_left
  · rintro w ⟨s1, s2, s3, s4, s5, s6, s7, s8⟩
    go_simp
    try with_reducible rfl
  try simp only [Act.put, List.setIfInBounds_toArray, List.set_cons_zero, List.set_cons_succ, List.getElem_toArray, List.getElem_cons_zero, List.getElem_cons_succ]
  refine wpAnyH_take (i := 6) (oi := _) (v := ?_) rfl (by kernel_rfl) (by kernel_rfl) (by kernel_rfl) (fun _ _ _ h => h) (Or.inl ⟨by kernel_rfl, ?_⟩) (by assumption) ?_
  rotate_left
  · rintro w ⟨s1, s2, s3, s4, s5, s6, s7, s8⟩
    go_simp
    try with_reducible rfl
  try simp only [Act.put, List.setIfInBounds_toArray, List.set_cons_zero, List.set_cons_succ, List.getElem_toArray, List.getElem_cons_zero, List.getElem_cons_succ]
  refine wpAnyH_take (i := 8) (oi := _) (v := ?_) rfl (by kernel_rfl) (by kernel_rfl) (by kernel_rfl) (fun _ _ _ h => h) (Or.inl ⟨by kernel_rfl, ?_⟩) (by assumption) ?_
  rotate_left
  · rintro w ⟨s1, s2, s3, s4, s5, s6, s7, s8⟩
    go_simp
    try with_reducible rfl
  try simp only [Act.put, List.setIfInBounds_toArray, List.set_cons_zero, List.set_cons_succ, List.getElem_toArray, List.getElem_cons_zero, List.getElem_cons_succ]
  refine wpAnyH_ready (rs := [7]) (by kernel_rfl) (by simp) ?_
  refine AllReadyH.cons (o := _) rfl (fun K hKK => ?_) AllReadyH.nil
  go_simp
  go_at_call 11
  with_reducible refine (H3.out _ hHeld.2.2.2.2.2.2.2).mono ?_
  rintro e' w' ⟨rfl, hbz⟩
  go_wp2_with fail
  refine hKK.out _ _ ?_ (fun hHeld => ?_)
  · exact HX.out _ (bstep hHeld.2.2.2.2.2.2.2 hbz)
  clear hKK K
  try simp only [Act.put, List.setIfInBounds_toArray, List.set_cons_zero, List.set_cons_succ, List.getElem_toArray, List.getElem_cons_zero, List.getElem_cons_succ]
  clear hbz
  refine wpAnyH_ready (rs := [9]) (by kernel_rfl) (by simp) ?_
  refine AllReadyH.cons (o := _) rfl (fun K hKK => ?_) AllReadyH.nil
  go_simp
  go_at_call 12
  with_reducible refine (H4.out _ hHeld.2.2.2.2.2.2.2).mono ?_
  rintro e' w' ⟨rfl, hbz⟩
  go_wp2_with fail
  refine hKK.out _ _ ?_ (fun hHeld => ?_)
  · exact HX.out _ (bstep hHeld.2.2.2.2.2.2.2 hbz)
  clear hKK K
  try simp only [Act.put, List.setIfInBounds_toArray, List.set_cons_zero, List.set_cons_succ, List.getElem_toArray, List.getElem_cons_zero, List.getElem_cons_succ]
  clear hbz
  refine wpAnyH_take (i := 10) (oi := _) (v := ?_) rfl (by kernel_rfl) (by kernel_rfl) (by kernel_rfl) (fun _ _ _ h => h) (Or.inl ⟨by kernel_rfl, ?_⟩) (by assumption) ?_
  rotate_left
  · rintro w ⟨s1, s2, s3, s4, s5, s6, s7, s8⟩
    go_simp
    try simp only [beq_self_eq_true]
    try with_reducible rfl
  try simp only [Act.put, List.setIfInBounds_toArray, List.set_cons_zero, List.set_cons_succ, List.getElem_toArray, List.getElem_cons_zero, List.getElem_cons_succ]
  refine wpAnyH_take (i := 11) (oi := _) (v := ?_) rfl (by kernel_rfl) (by kernel_rfl) (by kernel_rfl) (fun _ _ _ h => h) (Or.inl ⟨by kernel_rfl, ?_⟩) (by assumption) ?_
  rotate_left
  · rintro w ⟨s1, s2, s3, s4, s5, s6, s7, s8⟩
    go_simp
    try with_reducible rfl
  try simp only [Act.put, List.setIfInBounds_toArray, List.set_cons_zero, List.set_cons_succ, List.getElem_toArray, List.getElem_cons_zero, List.getElem_cons_succ]
  refine wpAnyH_take (i := 12) (oi := _) (v := ?_) rfl (by kernel_rfl) (by kernel_rfl) (by kernel_rfl) (fun _ _ _ h => h) (Or.inl ⟨by kernel_rfl, ?_⟩) (by assumption) ?_
  rotate_left
  · rintro w ⟨s1, s2, s3, s4, s5, s6, s7, s8⟩
    go_simp
    try with_reducible rfl
  try simp only [Act.put, List.setIfInBounds_toArray, List.set_cons_zero, List.set_cons_succ, List.getElem_toArray, List.getElem_cons_zero, List.getElem_cons_succ]
  refine wpAnyH_ready (rs := [13]) (by kernel_rfl) (by simp) ?_
  refine AllReadyH.cons (o := _) rfl (fun K hKK => ?_) AllReadyH.nil
  go_simp
  go_at_call 8
  with_reducible refine (HAW.out _ (bstep HB1.out hHeld.2.2.2.2.2.2.2)).mono ?_
  rintro e' w' ⟨rfl, hbz⟩
  go_wp2_with fail
  refine hKK.out _ _ ?_ (fun hHeld => ?_)
  · exact HX.out _ (bstep hHeld.2.2.2.2.2.2.2 hbz)
  clear hKK K
  try simp only [Act.put, List.setIfInBounds_toArray, List.set_cons_zero, List.set_cons_succ, List.getElem_toArray, List.getElem_cons_zero, List.getElem_cons_succ]
  clear hbz
  refine wpAnyH_take (i := 14) (oi := _) (v := ?_) rfl (by kernel_rfl) (by kernel_rfl) (by kernel_rfl) (fun _ _ _ h => h) (Or.inl ⟨by kernel_rfl, ?_⟩) (by assumption) ?_
  rotate_left
  · rintro w ⟨s1, s2, s3, s4, s5, s6, s7, s8⟩
    go_simp
    try with_reducible rfl
  try simp only [Act.put, List.setIfInBounds_toArray, List.set_cons_zero, List.set_cons_succ, List.getElem_toArray, List.getElem_cons_zero, List.getElem_cons_succ]
  refine wpAnyH_take (i := 15) (oi := _) (v := ?_) rfl (by kernel_rfl) (by kernel_rfl) (by kernel_rfl) (fun _ _ _ h => h) (Or.inl ⟨by kernel_rfl, ?_⟩) (by assumption) ?_
  rotate_left
  · rintro w ⟨s1, s2, s3, s4, s5, s6, s7, s8⟩
    go_simp
    try with_reducible rfl
  try simp only [Act.put, List.setIfInBounds_toArray, List.set_cons_zero, List.set_cons_succ, List.getElem_toArray, List.getElem_cons_zero, List.getElem_cons_succ]
  refine wpAnyH_done (by kernel_rfl) ?_ _
  have hb3 := bstep HB1.out hHeld.2.2.2.2.2.2.2
  clear hHeld
  go_wp2
  go_ret
  exact ⟨rfl, hb3⟩
theorem checks6_any (L : List ByteArray) (n cap : Nat) (A : Option Addr) (t f m : Int) (L2 : List ByteArray) (n2 cap2 : Nat) (A2 : Option Addr) (G : List Int) (mh cH : Nat) (AH : Option Addr) (s : Int) (w : World)
    (hZ : TextsZ w A n L) (hn : (n : Int) ≤ 9223372036854775807) (hcap : n ≤ cap) (hZ2 : TextsZ w A2 n2 L2) (hn2 : (n2 : Int) ≤ 9223372036854775807) (hcap2 : n2 ≤ cap2) (hG : IntsZ w AH mh G) (hm : (mh : Int) ≤ 9223372036854775807) (ht : Tabs w) : Calls Tryz.prog 3 #[.agg #[.slice A n cap, .int .i64 t, .int .i64 f, .int .i64 m], .agg #[.slice A2 n2 cap2, .slice AH mh cH, .int .i64 s]] w (Yes w) := by
  cases h1 : shNm L with
  | false => exact checks6_ex1 L n cap A t f m L2 n2 cap2 A2 G mh cH AH s w hZ hn hcap hZ2 hn2 hcap2 hG hm ht h1
  | true =>
    cases h2 : shNm L2 with
    | false => exact checks6_ex2 L n cap A t f m L2 n2 cap2 A2 G mh cH AH s w hZ hn hcap hZ2 hn2 hcap2 hG hm ht h1 h2
    | true =>
      by_cases h3 : mh ≤ 27
      · exact checks6_main L n cap A t f m L2 n2 cap2 A2 G mh cH AH s w hZ hn hcap hZ2 hn2 hcap2 hG hm ht h1 h2 h3
      · exact checks6_ex3 L n cap A t f m L2 n2 cap2 A2 G mh cH AH s w hZ hn hcap hZ2 hn2 hcap2 hG hm ht h1 h2 (by omega)
end Go.Mk
