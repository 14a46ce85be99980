/-
  Proved: the reference's CheckPattern is the error of a pattern. Conditions: the lanes lie where the slices say, at most 12 groups of at most 100 lanes.
-/
import Derived.Test.YtebehbojbdcclaaGreatDoorPa
set_option linter.unusedVariables false
set_option linter.unusedSimpArgs false
open Go Go.Proofs Go.RowKit Go.Sort
set_option maxRecDepth 100000
namespace Go.Mk
set_option maxHeartbeats 1000000 in
theorem refPattern_none (cap : Nat) (A : Option Addr) (w : World) : Calls Tryz.prog 9 #[.slice A 0 cap] w (RetPost (.int .i64 12) w) := by
  go_enter Tryz.func9, Tryz.ntmps9
  go_wp2
  go_ret
  exact ⟨rfl, Below.refl _ _⟩
set_option maxHeartbeats 1000000 in
theorem refPattern_many (n cap : Nat) (A : Option Addr) (w : World) (h : 10 < (n : Int)) : Calls Tryz.prog 9 #[.slice A n cap] w (RetPost (.int .i64 5) w) := by
  have h0 : ((n : Int) == 0) = false := by rw [beq_eq_false_iff_ne]; omega
  go_enter Tryz.func9, Tryz.ntmps9
  go_wp2
  go_ret
  exact ⟨rfl, Below.refl _ _⟩
set_option maxHeartbeats 4000000 in
theorem refPattern_few (LL : List (List Int)) (n cap : Nat) (A : Option Addr) (B : Nat) (w : World) (hZ : Zss w B A n LL) (hn1 : 1 ≤ n) (hn : n ≤ 10) (hs : ∀ l ∈ LL, l.length ≤ 100) : Calls Tryz.prog 9 #[.slice A n cap] w (RetPost (.int .i64 (groupsE [] LL)) w) := by
  obtain ⟨j0, hj, hy0, hy1, hy2⟩ := info_parts infoBool
  have hmk : ∀ w : World, (Instr.makeSlice 74 (.int .i64 11) (.int .i64 11)).run Tryz.prog w = .ok (.slice (some ⟨w.heap.size, 0, none⟩) 11 11) (w.alloc (.cells (madeCells #[.bool false] 11) 4)) := by
    intro w
    have := run_make (P := Tryz.prog) w 74 4 j0 (.bool false) Tryz.underlying74 hj hy0 .i64 .i64 11 11 (by omega) (by omega) (by rw [hy2]; omega) (by omega)
    rw [hy1] at this
    simpa [Value.cells] using this
  have hni : (n : Int) ≤ 10 := by omega
  have hn0 : ((n : Int) == 0) = false := by rw [beq_eq_false_iff_ne]; omega
  have HM : Hid (∀ w', Below w.heap.size w w' → Zss w' B A n LL) := fun w' hb => hZ.below hb hZ.2.1
  have Hlen : Hid (LL.length = n) := hZ.1
  have HS := Lib.hid hs
  obtain ⟨X, hX⟩ : ∃ X, groupsE [] LL = X := ⟨_, rfl⟩
  rw [hX]
  have HX : Hid (groupsE [] (LL.drop 0) = X) := (show _ = _ by rw [List.drop_zero, hX])
  clear hX hZ hs hj hy0 hy1 hy2
  go_enter Tryz.func9, Tryz.ntmps9
  go_wp2
  have hS0 := Seen.start w _ w.heap.size 11 (Nat.le_refl _) rfl
  have hb1 : Below w.heap.size w (w.alloc (.cells (madeCells #[.bool false] 11) 4)) := (Below.refl _ _).alloc (Nat.le_refl _) _
  obtain ⟨s, hs⟩ : ∃ s, s = w.heap.size := ⟨_, rfl⟩
  rw [← hs] at hS0 ⊢
  generalize w.alloc (.cells (madeCells #[.bool false] 11) 4) = w0 at *
  have hsw : w.heap.size ≤ s := by omega
  clear hs hmk
  go_loopw [4] (fun i wr => ∃ (k : Nat) (Q : List Int), k ≤ n ∧ i = .int .i64 k ∧ Hid (groupsE Q (LL.drop k) = X) ∧ Seen wr s s 11 Q ∧ Below w.heap.size w wr) (fun i _ => n - (intOf i).toNat)
  case atStart => exact ⟨0, [], by omega, rfl, HX, hS0, hb1⟩
  case round =>
    obtain ⟨k, Q, hk, rfl, HK, hS, hb⟩ := hrel
    by_cases hlt : k < n
    · obtain ⟨b, off, l, A', c', rfl, hbl, hL, hc, hZl⟩ := (HM.out _ hb).at_ hlt
      have hD : LL.drop k = l :: LL.drop (k + 1) := by
        have hkl := (List.getElem?_eq_some_iff.1 hL).1
        rw [List.drop_eq_getElem_cons hkl, (List.getElem?_eq_some_iff.1 hL).2]
      have hst := HK.out
      rw [hD, groupsE] at hst
      have hki : (k : Int) < (n : Int) := by omega
      have hll := HS.out l (List.mem_of_getElem? hL)
      obtain ⟨m, hm⟩ : ∃ m, l.length = m := ⟨_, rfl⟩
      have Hm := Lib.hid hm
      rw [hm] at hc hll
      have HL := Lib.hid hL
      clear hD hL HK hZl hm
      by_cases hm0 : m = 0
      · have hl0 : l = [] := List.length_eq_zero_iff.1 (by rw [Hm.out, hm0])
        have hg : groupE Q l = 12 := by unfold groupE; rw [if_pos hl0]
        rw [hg, if_neg (by omega)] at hst
        subst hst
        subst hm0
        clear hg hl0
        go_wp2
        go_ret
        exact ⟨rfl, hb⟩
      · have hl0 : l ≠ [] := fun q => hm0 (by rw [← Hm.out, q]; rfl)
        have hg : groupE Q l = (lanesE Q l).1 := by unfold groupE; rw [if_neg hl0]
        rw [hg] at hst
        obtain ⟨Y, hY⟩ : ∃ Y, lanesE Q l = Y := ⟨_, rfl⟩
        rw [hY] at hst
        have HY : Hid (lanesE Q (l.drop 0) = Y) := (show _ = _ by rw [List.drop_zero, hY])
        have Hst := Lib.hid hst
        have hmb : ((m : Int) == 0) = false := by rw [beq_eq_false_iff_ne]; omega
        have hmi : (m : Int) ≤ 100 := by omega
        clear hg hl0 hY hst
        go_wp2
        go_loopw [5] (fun i wr => ∃ (q : Nat) (R : List Int), q ≤ m ∧ i = .int .i64 q ∧ Hid (lanesE R (l.drop q) = Y) ∧ Seen wr s s 11 R ∧ Below w.heap.size w wr) (fun i _ => m - (intOf i).toNat)
        case atStart => exact ⟨0, Q, by omega, rfl, HY, hS, hb⟩
        case round =>
          obtain ⟨q, R, hq, rfl, HR, hSx, hbx⟩ := hrel
          obtain ⟨A2, c2, hc2, hZ2⟩ := (HM.out _ hbx).cell HL.out
          rw [Hm.out] at hc2 hZ2
          by_cases hqm : q < m
          · obtain ⟨b2, off2, x, rfl, _, hx, hcx⟩ := hZ2.at_ hqm
            have hD2 : l.drop q = x :: l.drop (q + 1) := by
              have hkl := (List.getElem?_eq_some_iff.1 hx).1
              rw [List.drop_eq_getElem_cons hkl, (List.getElem?_eq_some_iff.1 hx).2]
            have hst2 := HR.out
            rw [hD2, lanesE] at hst2
            have o1 := fun w => r4outside_any x 1 10 w
            have hqi : (q : Int) < (m : Int) := by omega
            clear hD2 hx HR hZ2
            by_cases g1 : x < 1 ∨ 10 < x
            · rw [if_pos (by omega)] at hst2
              rw [show (decide (x < 1) || decide (10 < x)) = true from by simpa using g1] at o1
              have hX2 : (17 : Int) = X := by
                have := Hst.out
                rw [← hst2] at this
                simpa using this
              clear hst2
              as_aux_lemma =>
                go_wp2_with (go_at_call 36; (with_reducible refine (o1 _).mono ?_); rintro e wv ⟨rfl, rfl⟩)
                go_ret
                exact ⟨by rw [← hX2]; rfl, hbx⟩
            · rw [show (decide (x < 1) || decide (10 < x)) = false from by simp; omega] at o1
              obtain ⟨y, rfl⟩ : ∃ y : Nat, x = (y : Int) := ⟨x.toNat, by omega⟩
              have hy1 : (y : Int) < 11 := by omega
              by_cases g2 : (y : Int) ∈ R
              · rw [if_pos (.inr (.inr g2))] at hst2
                have hX2 : (17 : Int) = X := by
                  have := Hst.out
                  rw [← hst2] at this
                  simpa using this
                obtain ⟨d1, _⟩ := hSx.2.2 y (by omega)
                rw [decide_eq_true g2] at d1
                clear hst2
                as_aux_lemma =>
                  go_wp2_with (go_at_call 36; (with_reducible refine (o1 _).mono ?_); rintro e wv ⟨rfl, rfl⟩)
                  go_ret
                  exact ⟨by rw [← hX2]; rfl, hbx⟩
              · rw [if_neg (fun h => by rcases h with h | h | h; · omega
                                        · omega
                                        · exact g2 h)] at hst2
                obtain ⟨d1, d2⟩ := hSx.of (x := y) (by omega) g2
                have hS2 := hSx.set_ (x := y) (by omega)
                have hbS : Below w.heap.size w (wr.setCell ⟨s, y, none⟩ (.bool true)) := hbx.setCell hsw _
                have Hst2 := Lib.hid hst2
                clear hst2
                as_aux_lemma =>
                  go_wp2_with (go_at_call 36; (with_reducible refine (o1 _).mono ?_); rintro e wv ⟨rfl, rfl⟩)
                  go_roundw
                  case rel => exact ⟨q + 1, _, by omega, by go_num, Hst2, hS2, hbS⟩
                  case measure => simp [intOf]; omega
          · have hz := HR.out
            rw [List.drop_of_length_le (by rw [Hm.out]; omega), lanesE] at hz
            have hst := Hst.out
            rw [← hz] at hst
            rw [if_pos rfl] at hst
            have HK2 : Hid (groupsE R (LL.drop (k + 1)) = X) := hst
            clear hz hst hZ2
            go_wp2
            go_roundw
            case rel => exact ⟨k + 1, R, by omega, by go_num, HK2, hSx, hbx⟩
            case measure => simp [intOf]; omega
    · have hz := HK.out
      rw [List.drop_of_length_le (by rw [Hlen.out]; omega), groupsE] at hz
      subst hz
      go_wp2
      go_ret
      exact ⟨rfl, hb⟩
/-- The reference's error of a pattern is the program's. -/
theorem refPattern_any (LL : List (List Int)) (n cap : Nat) (A : Option Addr) (B : Nat) (w : World) (hZ : Zss w B A n LL) (hs : ∀ l ∈ LL, l.length ≤ 100) : Calls Tryz.prog 9 #[.slice A n cap] w (RetPost (.int .i64 (patE LL)) w) := by
  have hl := hZ.1
  unfold patE
  by_cases h0 : n = 0
  · subst h0
    obtain rfl : LL = [] := List.length_eq_zero_iff.1 hl
    exact refPattern_none cap A w
  · by_cases h1 : 10 < n
    · rw [if_pos (by omega)]
      exact refPattern_many n cap A w (by omega)
    · rw [if_neg (by omega), if_neg (by intro q; subst q; simp at hl; omega)]
      exact refPattern_few LL n cap A B w hZ (by omega) (by omega) hs
theorem seedPattern_any (LL : List (List Int)) (n cap : Nat) (A : Option Addr) (B : Nat) (w : World) (hZ : Zss w B A n LL) (hs : ∀ l ∈ LL, l.length ≤ 100) : Calls Tryz.prog 10 #[.slice A n cap] w (RetPost (.int .i64 (patE LL)) w) := by
  have hl := hZ.1
  by_cases h1 : 10 < n
  · have : patE LL = 5 := by unfold patE; rw [if_pos (by omega)]
    rw [this]
    exact seedPattern_many n cap A w (by omega)
  · exact seedPattern_few LL n cap A B w hZ (by omega) hs
end Go.Mk
