/-
  Proved: CheckContest and CheckVertical of the reference of chapter 6 return the same plain functions as those of package field. Conditions: the texts and the integers lie where the slices say; there are at most 1,000 of both, each text no longer than an int says.
-/
import Derived.Test.YtclapdfkgafenaaGreatDoorFrh
set_option linter.unusedVariables false
set_option linter.unusedSimpArgs false
open Go Go.Proofs Go.RowKit
set_option maxRecDepth 100000
namespace Go.Mk
theorem rng_in {n lo hi : Int} (h : lo ≤ n ∧ n ≤ hi) : rngE n lo hi = 0 := by unfold rngE; rw [if_neg (by omega)]
theorem rng_out {n lo hi : Int} (h : n < lo ∨ hi < n) : rngE n lo hi = 3 := by unfold rngE; rw [if_pos h]
theorem con_a {L : List ByteArray} {t f m : Int} (h : athE L ≠ 0) : conE L t f m = athE L := by unfold conE; rw [fstN, if_neg h]
theorem wrap6 {t : Int} (h : 1 ≤ t ∧ t ≤ 6) : IntKind.i64.wrap (6 - t) = 6 - t := IntWalk.i64_in _ (by omega)
theorem con_3 {L : List ByteArray} {t f m : Int} (h : athE L = 0) (q : t < 1 ∨ 6 < t ∨ ((1 ≤ t ∧ t ≤ 6) ∧ (m < 0 ∨ 6 - t < m ∨ (0 < m ∧ (f < 1 ∨ 32 < f)) ∨ (m = 0 ∧ f ≠ 0)))) : conE L t f m = 3 := by
  unfold conE
  rw [fstN, if_pos h]
  rcases q with q | q | ⟨ht, q⟩
  · rw [rng_out (n := t) (.inl q)]; rfl
  · rw [rng_out (n := t) (.inr q)]; rfl
  · rw [rng_in (n := t) ht, wrap6 ht]
    by_cases hm : m < 0 ∨ 6 - t < m
    · rw [rng_out (n := m) hm]; rfl
    · rw [rng_in (n := m) (by omega)]
      rcases q with q | q | ⟨q1, q⟩ | ⟨rfl, q⟩
      · omega
      · omega
      · rw [if_neg (show ¬ m = 0 by omega), rng_out (n := f) q]; rfl
      · rw [if_pos rfl, if_neg q]; rfl
theorem con_0 {L : List ByteArray} {t f m : Int} (h : athE L = 0) (ht : 1 ≤ t ∧ t ≤ 6) (hm : 0 ≤ m ∧ m ≤ 6 - t) (q : (0 < m ∧ 1 ≤ f ∧ f ≤ 32) ∨ (m = 0 ∧ f = 0)) : conE L t f m = 0 := by
  unfold conE
  rw [fstN, if_pos h, rng_in (n := t) ht, wrap6 ht, rng_in (n := m) hm]
  rcases q with ⟨q1, q⟩ | ⟨rfl, rfl⟩
  · rw [if_neg (show ¬ m = 0 by omega), rng_in (n := f) q]; rfl
  · rfl
set_option maxHeartbeats 8000000 in
theorem r6CheckContest_any (L : List ByteArray) (n cap : Nat) (A : Option Addr) (t f m : Int) (w : World) (hZ : TextsZ w A n L) (hn : n ≤ 1000) (hs : ∀ x ∈ L, x.size ≤ maxLen) :
    Calls Tryz.prog 19 #[.agg #[.slice A n cap, .int .i64 t, .int .i64 f, .int .i64 m]] w (RetPost (.int .i64 (conE L t f m)) w) := by
  obtain ⟨w1, hw1⟩ : ∃ w1, w.alloc (.cells #[.slice A n cap, .int .i64 t, .int .i64 f, .int .i64 m] 48) = w1 := ⟨_, rfl⟩
  have hb1 : Below w.heap.size w w1 := by rw [← hw1]; exact balloc _ (Below.refl _ _)
  have hs1 : w1.heap.size = w.heap.size + 1 := by rw [← hw1]; simp
  have c0 : w1.cell? ⟨w.heap.size, 0, none⟩ = some (.slice A n cap) := by rw [← hw1]; simp
  have c1 : w1.cell? ⟨w.heap.size, 1, none⟩ = some (.int .i64 t) := by rw [← hw1]; simp
  have c2 : w1.cell? ⟨w.heap.size, 2, none⟩ = some (.int .i64 f) := by rw [← hw1]; simp
  have c3 : w1.cell? ⟨w.heap.size, 3, none⟩ = some (.int .i64 m) := by rw [← hw1]; simp
  have HX : Hid (∀ w', Below w1.heap.size w1 w' → w'.cell? ⟨w.heap.size, 1, none⟩ = some (.int .i64 t) ∧ w'.cell? ⟨w.heap.size, 2, none⟩ = some (.int .i64 f) ∧ w'.cell? ⟨w.heap.size, 3, none⟩ = some (.int .i64 m)) := Lib.hid fun w' hb => ⟨(hb.cell (p := ⟨w.heap.size, 1, none⟩) (by show w.heap.size < _; omega)).trans c1, (hb.cell (p := ⟨w.heap.size, 2, none⟩) (by show w.heap.size < _; omega)).trans c2, (hb.cell (p := ⟨w.heap.size, 3, none⟩) (by show w.heap.size < _; omega)).trans c3⟩
  have hA := r6CheckAthletes_any L n cap A w1 (hZ.below hb1) hn hs
  have HC3 := Lib.hid (@con_3 L t f m)
  have HC0 := Lib.hid (@con_0 L t f m)
  have HCA := Lib.hid (@con_a L t f m)
  have HB1 := Lib.hid hb1
  obtain ⟨Y, hY⟩ : ∃ Y, conE L t f m = Y := ⟨_, rfl⟩
  rw [hY] at HC3 HC0 HCA ⊢
  obtain ⟨a, ha⟩ : ∃ a, athE L = a := ⟨_, rfl⟩
  rw [ha] at HC3 HC0 HCA hA
  clear hY ha hZ hs hb1 c1 c2 c3
  go_enter Tryz.func19, Tryz.ntmps19
  go_wp2_with fail
  refine hA.mono ?_
  rintro e w2 ⟨rfl, hb2⟩
  clear hw1 c0
  obtain ⟨c1, c2, c3⟩ := HX.out _ hb2
  have hb3 := bstep HB1.out hb2
  clear hb2 hA
  by_cases ha : a = 0
  · subst ha
    by_cases t1 : t < 1
    · skip
      obtain rfl : Y = 3 := HC3.out rfl (.inl t1)
      go_wp2
      go_ret
      exact ⟨rfl, hb3⟩
    · by_cases t2 : 6 < t
      · skip
        obtain rfl : Y = 3 := HC3.out rfl (.inr (.inl t2))
        go_wp2
        go_ret
        exact ⟨rfl, hb3⟩
      · have ht : 1 ≤ t ∧ t ≤ 6 := by omega
        have hw6 := wrap6 ht
        by_cases m1 : m < 0
        · skip
          obtain rfl : Y = 3 := HC3.out rfl (.inr (.inr ⟨ht, .inl m1⟩))
          go_wp2
          go_ret
          exact ⟨rfl, hb3⟩
        · by_cases m2 : 6 - t < m
          · skip
            obtain rfl : Y = 3 := HC3.out rfl (.inr (.inr ⟨ht, .inr (.inl m2)⟩))
            go_wp2
            go_ret
            exact ⟨rfl, hb3⟩
          · by_cases m3 : 0 < m
            · have mz : (m == 0) = false := by rw [beq_eq_false_iff_ne]; omega
              by_cases f1 : f < 1
              · skip
                obtain rfl : Y = 3 := HC3.out rfl (.inr (.inr ⟨ht, .inr (.inr (.inl ⟨m3, .inl f1⟩))⟩))
                go_wp2
                go_ret
                exact ⟨rfl, hb3⟩
              · by_cases f2 : 32 < f
                · skip
                  obtain rfl : Y = 3 := HC3.out rfl (.inr (.inr ⟨ht, .inr (.inr (.inl ⟨m3, .inr f2⟩))⟩))
                  go_wp2
                  go_ret
                  exact ⟨rfl, hb3⟩
                · skip
                  obtain rfl : Y = 0 := HC0.out rfl ht (by omega) (.inl ⟨m3, by omega⟩)
                  go_wp2
                  go_ret
                  exact ⟨rfl, hb3⟩
            · obtain rfl : m = 0 := by omega
              by_cases f1 : f = 0
              · subst f1
                obtain rfl : Y = 0 := HC0.out rfl ht (by omega) (.inr ⟨rfl, rfl⟩)
                go_wp2
                go_ret
                exact ⟨rfl, hb3⟩
              · have fb : (f != 0) = true := by rw [bne_iff_ne]; exact f1
                obtain rfl : Y = 3 := HC3.out rfl (.inr (.inr ⟨ht, .inr (.inr (.inr ⟨rfl, f1⟩))⟩))
                go_wp2
                go_ret
                exact ⟨rfl, hb3⟩
  · obtain rfl : Y = a := HCA.out ha
    have hab : (Y != 0) = true := by rw [bne_iff_ne]; exact ha
    go_wp2
    go_ret
    exact ⟨rfl, hb3⟩
end Go.Mk
