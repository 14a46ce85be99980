/-
  Proved: the law MarkDraws returns true and leaves all that was there, for any total, weights, key and number. Conditions: the tables that awake reads lie where the program lays them; the weights lie where the slice says.
-/
import Derived.Test.YtapglbjojpkblaaGreatDoorLw
import Derived.Test.YtapglbjojpkblaaGreatDoorSz
set_option linter.unusedVariables false
set_option linter.unusedSimpArgs false
open Go Go.Proofs Go.RowKit
set_option maxRecDepth 100000
namespace Go.Mk
theorem boxed (w : World) (K N : Int) : Below w.heap.size w (w.alloc (.cells #[.int .i64 K, .int .i64 N] 36)) ∧ (w.alloc (.cells #[.int .i64 K, .int .i64 N] 36)).cell? ⟨w.heap.size, 0, none⟩ = some (.int .i64 K) ∧ (w.alloc (.cells #[.int .i64 K, .int .i64 N] 36)).cell? ⟨w.heap.size, 1, none⟩ = some (.int .i64 N) := by
  exact ⟨(Below.refl _ _).alloc (Nat.le_refl _) _, by simp, by simp⟩
set_option maxHeartbeats 1000000 in
theorem draws_exit (T K N : Int) (n cap : Nat) (A : Option Addr) (w : World) (ht : Tabs w) (h : 260 < (n : Int)) (hm : (n : Int) ≤ 9223372036854775807) : Calls Tryz.prog 4 #[.int .i64 T, .slice A n cap, .agg #[.int .i64 K, .int .i64 N]] w (Yes w) := by
  go_enter Tryz.func4, Tryz.ntmps4
  go_wp2_with fail
  obtain ⟨hbw, c0, c1⟩ := boxed w K N
  obtain ⟨g, hg⟩ : ∃ g, g = w.heap.size := ⟨_, rfl⟩
  have HG := Lib.hid hg
  rw [← hg] at c0 c1 ⊢
  have hgw : g < (w.alloc (.cells #[.int .i64 K, .int .i64 N] 36)).heap.size := by rw [hg]; simp
  generalize w.alloc (.cells #[.int .i64 K, .int .i64 N] 36) = w0 at hbw c0 c1 hgw ⊢
  clear hg
  have hC : ∀ w', Below w0.heap.size w0 w' → w'.cell? ⟨g, 0, none⟩ = some (.int .i64 K) ∧ w'.cell? ⟨g, 1, none⟩ = some (.int .i64 N) := fun w' hb => ⟨(hb.cell (p := ⟨g, 0, none⟩) hgw).trans c0, (hb.cell (p := ⟨g, 1, none⟩) hgw).trans c1⟩
  have HC := Lib.hid hC
  have HB : Hid (∀ w', Below w0.heap.size w0 w' → Below w.heap.size w w') := fun w' hb => hbw.trans (hb.mono hbw.size)
  have ht0 : Tabs w0 := ht.grow hbw
  clear hC hgw c0 c1 hbw ht
  refine (aw _ ht0).mono ?_
  rintro e w1 ⟨rfl, hb1⟩
  have ht1 := ht0.grow hb1
  go_wp2_with fail
  refine (aw _ ht1).mono ?_
  rintro e w2 ⟨rfl, hb2⟩
  go_wp2
  go_ret
  exact ⟨rfl, HB.out _ (hb1.trans (hb2.mono hb1.size))⟩
set_option maxHeartbeats 4000000 in
theorem draws_law (T K N : Int) (n cap : Nat) (A : Option Addr) (w : World) (ht : Tabs w) (hn : (n : Int) ≤ 260) (hD : DrawsOf K N) (hS : SharesOf T n cap A w) : Calls Tryz.prog 4 #[.int .i64 T, .slice A n cap, .agg #[.int .i64 K, .int .i64 N]] w (Yes w) := by
  have HS := Lib.hid hS
  have HD := Lib.hid hD
  clear hS hD
  go_enter Tryz.func4, Tryz.ntmps4
  go_wp2_with fail
  obtain ⟨hbw, c0, c1⟩ := boxed w K N
  obtain ⟨g, hg⟩ : ∃ g, g = w.heap.size := ⟨_, rfl⟩
  have HG := Lib.hid hg
  rw [← hg] at c0 c1 ⊢
  have hgw : g < (w.alloc (.cells #[.int .i64 K, .int .i64 N] 36)).heap.size := by rw [hg]; simp
  generalize w.alloc (.cells #[.int .i64 K, .int .i64 N] 36) = w0 at hbw c0 c1 hgw ⊢
  clear hg
  have hC : ∀ w', Below w0.heap.size w0 w' → w'.cell? ⟨g, 0, none⟩ = some (.int .i64 K) ∧ w'.cell? ⟨g, 1, none⟩ = some (.int .i64 N) := fun w' hb => ⟨(hb.cell (p := ⟨g, 0, none⟩) hgw).trans c0, (hb.cell (p := ⟨g, 1, none⟩) hgw).trans c1⟩
  have HC := Lib.hid hC
  have HB : Hid (∀ w', Below w0.heap.size w0 w' → Below w.heap.size w w') := fun w' hb => hbw.trans (hb.mono hbw.size)
  have ht0 : Tabs w0 := ht.grow hbw
  clear hC hgw c0 c1 hbw ht
  refine (aw _ ht0).mono ?_
  rintro e w1 ⟨rfl, hb1⟩
  clear ht0
  rcases HD.out with ⟨b, g1, g2, hD1, hD2⟩ | ⟨m, O, hO, hm, hD1, hD2, hD3⟩
  · obtain ⟨c0, c1⟩ := HC.out _ hb1
    go_wp2_with fail
    refine (hD1 _).mono ?_
    rintro e w2 ⟨rfl, hb2⟩
    replace hb2 := hb1.trans (hb2.mono hb1.size)
    clear hb1 hD1 c0 c1
    obtain ⟨c0, c1⟩ := HC.out _ hb2
    go_wp2_with fail
    refine (hD2 _).mono ?_
    rintro e w3 ⟨rfl, hb3⟩
    replace hb3 := hb2.trans (hb3.mono hb2.size)
    clear hb2 hD2 c0 c1
    go_wp2_with fail
    refine (list_bad b g1 _).mono ?_
    rintro e w4 ⟨rfl, hb4⟩
    replace hb4 := hb3.trans (hb4.mono hb3.size)
    clear hb3
    go_wp2_with fail
    rcases HS.out with ⟨b2, c2, k1, k2, hT, hS1, hS2⟩ | ⟨t0, t1, hS1, hS2⟩
    · refine (hS1 _ (HB.out _ hb4)).mono ?_
      rintro e w5 ⟨rfl, hb5⟩
      replace hb5 := hb4.trans (hb5.mono hb4.size)
      clear hb4 hS1
      rcases hT with ⟨t0, rfl⟩ | ⟨t0, t1, rfl⟩ | ⟨t0, t1, rfl⟩
      · as_aux_lemma =>
          go_wp2_with (go_at_call 17; ((with_reducible refine (when_yes 3 _).mono ?_)); rintro e wv ⟨rfl, rfl⟩)
          refine (hS2 _ (HB.out _ hb5)).mono ?_
          rintro e w6 ⟨rfl, hb6⟩
          replace hb6 := hb5.trans (hb6.mono hb5.size)
          clear hb5 hS2
          have hL := lawFirst_any 3 c2 w6.heap.size (w6.alloc (.cells #[.int .i64 3, .int .i64 c2] 3)) (by simp) (by simp)
          rw [show fst2 3 c2 = 3 from rfl] at hL
          replace hb6 : Below w0.heap.size w0 (w6.alloc (.cells #[.int .i64 3, .int .i64 c2] 3)) := hb6.alloc hb6.size _
          go_wp2_with fail
          refine hL.mono ?_
          rintro e w7 ⟨rfl, hb7⟩
          replace hb7 := hb6.trans (hb7.mono hb6.size)
          clear hb6 hL
          go_wp2_with fail
          refine (list_bad 3 k1 _).mono ?_
          rintro e w8 ⟨rfl, hb8⟩
          replace hb8 := hb7.trans (hb8.mono hb7.size)
          go_wp2
          go_ret
          exact ⟨rfl, HB.out _ hb8⟩
      · as_aux_lemma =>
          go_wp2_with (go_at_call 17; ((with_reducible refine (when_yes 3 _).mono ?_)); rintro e wv ⟨rfl, rfl⟩)
          refine (hS2 _ (HB.out _ hb5)).mono ?_
          rintro e w6 ⟨rfl, hb6⟩
          replace hb6 := hb5.trans (hb6.mono hb5.size)
          clear hb5 hS2
          have hL := lawFirst_any 3 c2 w6.heap.size (w6.alloc (.cells #[.int .i64 3, .int .i64 c2] 3)) (by simp) (by simp)
          rw [show fst2 3 c2 = 3 from rfl] at hL
          replace hb6 : Below w0.heap.size w0 (w6.alloc (.cells #[.int .i64 3, .int .i64 c2] 3)) := hb6.alloc hb6.size _
          go_wp2_with fail
          refine hL.mono ?_
          rintro e w7 ⟨rfl, hb7⟩
          replace hb7 := hb6.trans (hb7.mono hb6.size)
          clear hb6 hL
          go_wp2_with fail
          refine (list_bad 3 k1 _).mono ?_
          rintro e w8 ⟨rfl, hb8⟩
          replace hb8 := hb7.trans (hb8.mono hb7.size)
          go_wp2
          go_ret
          exact ⟨rfl, HB.out _ hb8⟩
      · as_aux_lemma =>
          have hN : ∀ w, Calls Tryz.prog 17 #[.bool (decide (T < 0) || decide (999999999 < T)), .int .i64 3] w fun x w' => x = .returned (.int .i64 0) ∧ w = w' := by
            intro w
            rw [show (decide (T < 0) || decide (999999999 < T)) = false from by simp; omega]
            exact when_no 3 w
          go_wp2_with (go_at_call 17; ((with_reducible refine (hN _).mono ?_)); rintro e wv ⟨rfl, rfl⟩)
          refine (hS2 _ (HB.out _ hb5)).mono ?_
          rintro e w6 ⟨rfl, hb6⟩
          replace hb6 := hb5.trans (hb6.mono hb5.size)
          clear hb5 hS2
          have hL := lawFirst_any 0 b2 w6.heap.size (w6.alloc (.cells #[.int .i64 0, .int .i64 b2] 3)) (by simp) (by simp)
          rw [show fst2 0 b2 = b2 from rfl] at hL
          replace hb6 : Below w0.heap.size w0 (w6.alloc (.cells #[.int .i64 0, .int .i64 b2] 3)) := hb6.alloc hb6.size _
          go_wp2_with fail
          refine hL.mono ?_
          rintro e w7 ⟨rfl, hb7⟩
          replace hb7 := hb6.trans (hb7.mono hb6.size)
          clear hb6 hL
          go_wp2_with fail
          refine (list_bad b2 k1 _).mono ?_
          rintro e w8 ⟨rfl, hb8⟩
          replace hb8 := hb7.trans (hb8.mono hb7.size)
          go_wp2
          go_ret
          exact ⟨rfl, HB.out _ hb8⟩
    · refine (hS1 _ (HB.out _ hb4)).mono ?_
      rintro e w5 ⟨A', O2, hO2, rfl, hI2, hb5, hR⟩
      replace hb5 := hb4.trans (hb5.mono hb4.size)
      clear hb4 hS1
      as_aux_lemma =>
        have hN : ∀ w, Calls Tryz.prog 17 #[.bool (decide (T < 0) || decide (999999999 < T)), .int .i64 3] w fun x w' => x = .returned (.int .i64 0) ∧ w = w' := by
          intro w
          rw [show (decide (T < 0) || decide (999999999 < T)) = false from by simp; omega]
          exact when_no 3 w
        go_wp2_with (go_at_call 17; ((with_reducible refine (hN _).mono ?_)); rintro e wv ⟨rfl, rfl⟩)
        refine (hS2 _ (HB.out _ hb5)).mono ?_
        rintro e w6 ⟨rfl, hb6⟩
        replace hI2 := hI2.below hb6
        replace hb6 := hb5.trans (hb6.mono hb5.size)
        clear hb5 hS2
        have hL := lawFirst_any 0 0 w6.heap.size (w6.alloc (.cells #[.int .i64 0, .int .i64 0] 3)) (by simp) (by simp)
        rw [show fst2 0 0 = 0 from rfl] at hL
        replace hI2 : IntsAt (w6.alloc (.cells #[.int .i64 0, .int .i64 0] 3)) A' n O2 := hI2.below ((Below.refl _ _).alloc (Nat.le_refl _) _)
        replace hb6 : Below w0.heap.size w0 (w6.alloc (.cells #[.int .i64 0, .int .i64 0] 3)) := hb6.alloc hb6.size _
        go_wp2_with fail
        refine hL.mono ?_
        rintro e w7 ⟨rfl, hb7⟩
        replace hI2 := hI2.below hb7
        replace hb7 := hb6.trans (hb7.mono hb6.size)
        clear hb6 hL
        rcases hR with g40 | ⟨g40, hR⟩
        · go_wp2
          go_ret
          exact ⟨rfl, HB.out _ hb7⟩
        · go_wp2_with fail
          refine (hR _ (HB.out _ hb7)).mono ?_
          rintro e w8 ⟨A2, rfl, hI3, hb8⟩
          replace hI2 := hI2.below hb8
          replace hb8 := hb7.trans (hb8.mono hb7.size)
          clear hb7 hR
          go_wp2_with fail
          refine (list_ok O2 A' A2 n _ _ _ (by omega) hI2 hI3).mono ?_
          rintro e w9 ⟨rfl, hb9⟩
          replace hb9 := hb8.trans (hb9.mono hb8.size)
          go_wp2
          go_ret
          exact ⟨rfl, HB.out _ hb9⟩
  · obtain ⟨c0, c1⟩ := HC.out _ hb1
    go_wp2_with fail
    refine (hD1 _).mono ?_
    rintro e w2 ⟨A1, rfl, hI, hb2⟩
    replace hb2 := hb1.trans (hb2.mono hb1.size)
    clear hb1 hD1 c0 c1
    obtain ⟨c0, c1⟩ := HC.out _ hb2
    go_wp2_with fail
    refine (hD2 _).mono ?_
    rintro e w3 ⟨rfl, hb3⟩
    replace hI := hI.below hb3
    replace hb3 := hb2.trans (hb3.mono hb2.size)
    clear hb2 hD2 c0 c1
    obtain ⟨c0, c1⟩ := HC.out _ hb3
    go_wp2_with fail
    refine (hD3 _).mono ?_
    rintro e w3 ⟨A2, rfl, hI3, hb4⟩
    replace hI := hI.below hb4
    replace hb4 := hb3.trans (hb4.mono hb3.size)
    clear hb3 hD3 c0 c1
    go_wp2_with fail
    refine (list_ok O A1 A2 m _ _ _ hm hI hI3).mono ?_
    rintro e w4 ⟨rfl, hb5⟩
    replace hb4 := hb4.trans (hb5.mono hb4.size)
    clear hb5 hI hI3
    go_wp2_with fail
    rcases HS.out with ⟨b2, c2, k1, k2, hT, hS1, hS2⟩ | ⟨t0, t1, hS1, hS2⟩
    · refine (hS1 _ (HB.out _ hb4)).mono ?_
      rintro e w5 ⟨rfl, hb5⟩
      replace hb5 := hb4.trans (hb5.mono hb4.size)
      clear hb4 hS1
      rcases hT with ⟨t0, rfl⟩ | ⟨t0, t1, rfl⟩ | ⟨t0, t1, rfl⟩
      · as_aux_lemma =>
          go_wp2_with (go_at_call 17; ((with_reducible refine (when_yes 3 _).mono ?_)); rintro e wv ⟨rfl, rfl⟩)
          refine (hS2 _ (HB.out _ hb5)).mono ?_
          rintro e w6 ⟨rfl, hb6⟩
          replace hb6 := hb5.trans (hb6.mono hb5.size)
          clear hb5 hS2
          have hL := lawFirst_any 3 c2 w6.heap.size (w6.alloc (.cells #[.int .i64 3, .int .i64 c2] 3)) (by simp) (by simp)
          rw [show fst2 3 c2 = 3 from rfl] at hL
          replace hb6 : Below w0.heap.size w0 (w6.alloc (.cells #[.int .i64 3, .int .i64 c2] 3)) := hb6.alloc hb6.size _
          go_wp2_with fail
          refine hL.mono ?_
          rintro e w7 ⟨rfl, hb7⟩
          replace hb7 := hb6.trans (hb7.mono hb6.size)
          clear hb6 hL
          go_wp2_with fail
          refine (list_bad 3 k1 _).mono ?_
          rintro e w8 ⟨rfl, hb8⟩
          replace hb8 := hb7.trans (hb8.mono hb7.size)
          go_wp2
          go_ret
          exact ⟨rfl, HB.out _ hb8⟩
      · as_aux_lemma =>
          go_wp2_with (go_at_call 17; ((with_reducible refine (when_yes 3 _).mono ?_)); rintro e wv ⟨rfl, rfl⟩)
          refine (hS2 _ (HB.out _ hb5)).mono ?_
          rintro e w6 ⟨rfl, hb6⟩
          replace hb6 := hb5.trans (hb6.mono hb5.size)
          clear hb5 hS2
          have hL := lawFirst_any 3 c2 w6.heap.size (w6.alloc (.cells #[.int .i64 3, .int .i64 c2] 3)) (by simp) (by simp)
          rw [show fst2 3 c2 = 3 from rfl] at hL
          replace hb6 : Below w0.heap.size w0 (w6.alloc (.cells #[.int .i64 3, .int .i64 c2] 3)) := hb6.alloc hb6.size _
          go_wp2_with fail
          refine hL.mono ?_
          rintro e w7 ⟨rfl, hb7⟩
          replace hb7 := hb6.trans (hb7.mono hb6.size)
          clear hb6 hL
          go_wp2_with fail
          refine (list_bad 3 k1 _).mono ?_
          rintro e w8 ⟨rfl, hb8⟩
          replace hb8 := hb7.trans (hb8.mono hb7.size)
          go_wp2
          go_ret
          exact ⟨rfl, HB.out _ hb8⟩
      · as_aux_lemma =>
          have hN : ∀ w, Calls Tryz.prog 17 #[.bool (decide (T < 0) || decide (999999999 < T)), .int .i64 3] w fun x w' => x = .returned (.int .i64 0) ∧ w = w' := by
            intro w
            rw [show (decide (T < 0) || decide (999999999 < T)) = false from by simp; omega]
            exact when_no 3 w
          go_wp2_with (go_at_call 17; ((with_reducible refine (hN _).mono ?_)); rintro e wv ⟨rfl, rfl⟩)
          refine (hS2 _ (HB.out _ hb5)).mono ?_
          rintro e w6 ⟨rfl, hb6⟩
          replace hb6 := hb5.trans (hb6.mono hb5.size)
          clear hb5 hS2
          have hL := lawFirst_any 0 b2 w6.heap.size (w6.alloc (.cells #[.int .i64 0, .int .i64 b2] 3)) (by simp) (by simp)
          rw [show fst2 0 b2 = b2 from rfl] at hL
          replace hb6 : Below w0.heap.size w0 (w6.alloc (.cells #[.int .i64 0, .int .i64 b2] 3)) := hb6.alloc hb6.size _
          go_wp2_with fail
          refine hL.mono ?_
          rintro e w7 ⟨rfl, hb7⟩
          replace hb7 := hb6.trans (hb7.mono hb6.size)
          clear hb6 hL
          go_wp2_with fail
          refine (list_bad b2 k1 _).mono ?_
          rintro e w8 ⟨rfl, hb8⟩
          replace hb8 := hb7.trans (hb8.mono hb7.size)
          go_wp2
          go_ret
          exact ⟨rfl, HB.out _ hb8⟩
    · refine (hS1 _ (HB.out _ hb4)).mono ?_
      rintro e w5 ⟨A', O2, hO2, rfl, hI2, hb5, hR⟩
      replace hb5 := hb4.trans (hb5.mono hb4.size)
      clear hb4 hS1
      as_aux_lemma =>
        have hN : ∀ w, Calls Tryz.prog 17 #[.bool (decide (T < 0) || decide (999999999 < T)), .int .i64 3] w fun x w' => x = .returned (.int .i64 0) ∧ w = w' := by
          intro w
          rw [show (decide (T < 0) || decide (999999999 < T)) = false from by simp; omega]
          exact when_no 3 w
        go_wp2_with (go_at_call 17; ((with_reducible refine (hN _).mono ?_)); rintro e wv ⟨rfl, rfl⟩)
        refine (hS2 _ (HB.out _ hb5)).mono ?_
        rintro e w6 ⟨rfl, hb6⟩
        replace hI2 := hI2.below hb6
        replace hb6 := hb5.trans (hb6.mono hb5.size)
        clear hb5 hS2
        have hL := lawFirst_any 0 0 w6.heap.size (w6.alloc (.cells #[.int .i64 0, .int .i64 0] 3)) (by simp) (by simp)
        rw [show fst2 0 0 = 0 from rfl] at hL
        replace hI2 : IntsAt (w6.alloc (.cells #[.int .i64 0, .int .i64 0] 3)) A' n O2 := hI2.below ((Below.refl _ _).alloc (Nat.le_refl _) _)
        replace hb6 : Below w0.heap.size w0 (w6.alloc (.cells #[.int .i64 0, .int .i64 0] 3)) := hb6.alloc hb6.size _
        go_wp2_with fail
        refine hL.mono ?_
        rintro e w7 ⟨rfl, hb7⟩
        replace hI2 := hI2.below hb7
        replace hb7 := hb6.trans (hb7.mono hb6.size)
        clear hb6 hL
        rcases hR with g40 | ⟨g40, hR⟩
        · go_wp2
          go_ret
          exact ⟨rfl, HB.out _ hb7⟩
        · go_wp2_with fail
          refine (hR _ (HB.out _ hb7)).mono ?_
          rintro e w8 ⟨A2, rfl, hI3, hb8⟩
          replace hI2 := hI2.below hb8
          replace hb8 := hb7.trans (hb8.mono hb7.size)
          clear hb7 hR
          go_wp2_with fail
          refine (list_ok O2 A' A2 n _ _ _ (by omega) hI2 hI3).mono ?_
          rintro e w9 ⟨rfl, hb9⟩
          replace hb9 := hb8.trans (hb9.mono hb8.size)
          go_wp2
          go_ret
          exact ⟨rfl, HB.out _ hb9⟩

theorem draws_any (T K N : Int) (L : List Int) (n cap : Nat) (A : Option Addr) (B : Nat) (w : World) (ht : Tabs w) (hm : (n : Int) ≤ 9223372036854775807) (hM : Zs w B A n L) : Calls Tryz.prog 4 #[.int .i64 T, .slice A n cap, .agg #[.int .i64 K, .int .i64 N]] w (Yes w) := by
  by_cases hn : 260 < (n : Int)
  · exact draws_exit T K N n cap A w ht hn hm
  · exact draws_law T K N n cap A w ht (by omega) (drawsOf K N) (sharesOf T L n cap A B w hM (by omega))
end Go.Mk
