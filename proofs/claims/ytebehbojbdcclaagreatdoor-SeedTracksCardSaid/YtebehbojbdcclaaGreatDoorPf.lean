/-
  Proved: seed.Lanes returns the lanes of athletes, or the first error; the law SeedLanes returns true and leaves all that was there. Conditions: the tables that awake reads lie where the program lays them; the lanes lie where the slices say; key and number are ints.
-/
import Derived.Test.YtebehbojbdcclaaGreatDoorPe
set_option linter.unusedVariables false
set_option linter.unusedSimpArgs false
open Go Go.Proofs Go.RowKit Go.Sort
set_option maxRecDepth 100000
namespace Go.Mk
set_option maxHeartbeats 1000000 in
theorem seedLanes_bad (LL : List (List Int)) (n cap : Nat) (A : Option Addr) (B : Nat) (a key e : Int) (w : World) (hZ : Zss w B A n LL) (hs : ∀ l ∈ LL, l.length ≤ 100) (he : fstN [patE LL, rngE a 0 160] = e) (h0 : (e != 0) = true) :
    Calls Tryz.prog 11 #[.slice A n cap, .int .i64 a, .int .i64 key] w (RetPost (.tuple #[.slice none 0 0, .int .i64 e]) w) := by
  have hP := fun w hZ => seedPattern_any LL n cap A B w hZ hs
  have hA := athletesError_any a
  have hF := fun g w => seedFirst_any [patE LL, rngE a 0 160] 2 rfl (by decide) g w
  rw [he] at hF
  clear he
  generalize patE LL = e1 at *
  generalize rngE a 0 160 = e2 at *
  go_enter Tryz.func11, Tryz.ntmps11
  go_wp2_with fail
  refine (hP _ hZ).mono ?_
  rintro x w1 ⟨rfl, hb1⟩
  go_wp2_with fail
  refine (hA _).mono ?_
  rintro x w' ⟨rfl, rfl⟩
  go_wp2_with fail
  refine (hF _ _ (first2_es _ _ _ _)).mono ?_
  rintro x w' ⟨rfl, rfl⟩
  go_wp2
  go_ret2
  exact ⟨rfl, hb1.alloc hb1.size _⟩
set_option maxHeartbeats 4000000 in
theorem seedLanes_ok (LL : List (List Int)) (n cap : Nat) (A : Option Addr) (B : Nat) (a key : Int) (w : World) (hZ : Zss w B A n LL) (hn : n ≤ 12) (hs : ∀ l ∈ LL, l.length ≤ 12) (hp : patE LL = 0) (ha0 : 0 ≤ a) (ha1 : a ≤ 160) (hk1 : -9223372036854775808 ≤ key) (hk2 : key ≤ 9223372036854775807) :
    Calls Tryz.prog 11 #[.slice A n cap, .int .i64 a, .int .i64 key] w (NumPost (lanesR LL a key) w) := by
  have hP := seedPattern_any LL n cap A B w hZ (fun l hl => Nat.le_trans (hs l hl) (by decide))
  have hA := athletesError_any a
  have hF := fun g w => seedFirst_any [patE LL, rngE a 0 160] 2 rfl (by decide) g w
  rw [hp, show rngE a 0 160 = 0 from by unfold rngE; rw [if_neg (by omega)], show fstN [0, 0] = 0 from rfl] at hF
  rw [show rngE a 0 160 = 0 from by unfold rngE; rw [if_neg (by omega)]] at hA
  rw [hp] at hP
  have hD := fun w hZ => drawnLanes_any LL n cap A B key w hZ hn hs hk1 hk2
  have HM : Hid (∀ w', Below w.heap.size w w' → Zss w' B A n LL) := fun w' hb => hZ.below hb hZ.2.1
  have HP := Lib.hid (drawn_pos hp key)
  have HRR : Hid (lanesR LL a key = if (drawnE key LL).2 ≠ 0 then ([], (drawnE key LL).2) else if ((drawnE key LL).1.length : Int) < a then ([], 17) else ((drawnE key LL).1.take a.toNat, 0)) := (show _ = _ from rfl)
  have hlen := drawnE_len LL 12 hs key
  rw [hZ.1] at hlen
  obtain ⟨Y, hY⟩ : ∃ Y, lanesR LL a key = Y := ⟨_, rfl⟩
  rw [hY] at HRR ⊢
  obtain ⟨X, hX⟩ : ∃ X, drawnE key LL = X := ⟨_, rfl⟩
  rw [hX] at HP HRR hD hlen
  obtain ⟨D, ed⟩ := X
  simp only at HP HRR hlen
  clear hX hY hZ hs hp
  go_enter Tryz.func11, Tryz.ntmps11
  go_wp2_with fail
  refine hP.mono ?_
  rintro x w1 ⟨rfl, hb1⟩
  go_wp2_with fail
  refine (hA _).mono ?_
  rintro x w' ⟨rfl, rfl⟩
  go_wp2_with fail
  refine (hF _ _ (first2_es _ _ _ _)).mono ?_
  rintro x w' ⟨rfl, rfl⟩
  replace hb1 := hb1.alloc hb1.size (.cells #[.int .i64 0, .int .i64 0] 26)
  generalize w1.alloc (.cells #[.int .i64 0, .int .i64 0] 26) = w2 at *
  have hZ2 := HM.out _ hb1
  clear hP hA hF
  go_wp2_with fail
  refine (hD _ hZ2).mono ?_
  rintro x w3 ⟨v, rfl, hv0, hown, hb3⟩
  replace hb3 := hb1.trans (hb3.mono hb1.size)
  replace hown : OwnInts w3 w.heap.size v D := by
    refine ⟨hown.1, ?_⟩
    rcases hown.2 with q | ⟨g, cap, cur, q1, q2, q3⟩
    · exact .inl q
    · exact .inr ⟨g, cap, cur, q1, Nat.le_trans hb1.size q2, q3⟩
  clear hD hZ2 hb1
  simp only at hv0 hown ⊢
  by_cases hed : ed = 0
  · subst hed
    have hpos := HP.out rfl
    obtain ⟨g, cp, rfl, hg1, hg2⟩ := own_some hown hpos
    obtain ⟨hc1, hc2⟩ := own_cap hown
    have hy := HRR.out
    rw [if_neg (by simp)] at hy
    obtain ⟨m, hm⟩ : ∃ m, D.length = m := ⟨_, rfl⟩
    have Hm := Lib.hid hm
    have hw := seedWhen_any (decide ((m : Int) < a)) 17
    have hF2 := fun g w => seedFirst_any [0, if decide ((m : Int) < a) then 17 else 0] 2 rfl (by decide) g w
    rw [hm] at hy hpos hc1 hlen hown ⊢
    by_cases hl : (m : Int) < a
    · rw [if_pos hl] at hy
      subst hy
      rw [decide_eq_true hl, if_pos rfl, show fstN [0, 17] = 17 from rfl] at hF2
      rw [decide_eq_true hl] at hw
      clear hm
      go_wp2_with fail
      refine (hw _).mono ?_
      rintro x w' ⟨rfl, rfl⟩
      go_wp2_with fail
      refine (hF2 _ _ (first2_es _ _ _ _)).mono ?_
      rintro x w' ⟨rfl, rfl⟩
      go_wp2
      go_ret2
      exact ⟨_, rfl, fun _ => rfl, World.ownsRow_nil _ _ _ _, hb3.alloc hb3.size _⟩
    · rw [if_neg hl] at hy
      subst hy
      rw [decide_eq_false hl, if_neg (by decide), show fstN [0, 0] = 0 from rfl] at hF2
      rw [decide_eq_false hl] at hw
      obtain ⟨an, rfl⟩ : ∃ an : Nat, a = (an : Int) := ⟨a.toNat, by omega⟩
      have ht := own_take (k := an) (show OwnInts w3 w.heap.size (.slice (some ⟨g, 0, none⟩) D.length cp) D by rw [hm]; exact hown) (by omega)
      have hcp : (an : Int) ≤ (cp : Int) := by omega
      have hlt : (D.take an).length = an := by rw [List.length_take]; omega
      have hC := fun w hown => Clone_any (D.take an) g an cp w.heap.size w hown hlt (by omega)
      clear hm
      go_wp2_with fail
      refine (hw _).mono ?_
      rintro x w' ⟨rfl, rfl⟩
      go_wp2_with fail
      refine (hF2 _ _ (first2_es _ _ _ _)).mono ?_
      rintro x w' ⟨rfl, rfl⟩
      replace ht : OwnInts (w3.alloc (.cells #[.int .i64 0, .int .i64 0] 26)) w.heap.size (.slice (some ⟨g, 0, none⟩) an cp) (D.take an) := World.ownsRow.alloc ht _
      replace hb3 := hb3.alloc hb3.size (.cells #[.int .i64 0, .int .i64 0] 26)
      generalize w3.alloc (.cells #[.int .i64 0, .int .i64 0] 26) = w4 at *
      have hCC := Clone_any (D.take an) g an cp w.heap.size w4 ht hlt (by omega)
      go_wp2_with fail
      refine hCC.mono ?_
      rintro x w5 ⟨v5, rfl, ho5, hb5⟩
      go_wp2
      go_ret2
      refine ⟨_, rfl, fun h => absurd rfl h, ?_, hb3.trans (hb5.mono hb3.size)⟩
      simp only [Int.toNat_natCast]
      refine ⟨ho5.1, ?_⟩
      rcases ho5.2 with q | ⟨g, cap, cur, q1, q2, q3⟩
      · exact .inl q
      · exact .inr ⟨g, cap, cur, q1, Nat.le_trans hb3.size q2, q3⟩
  · obtain rfl := hv0 hed
    have hy := HRR.out
    rw [if_pos hed] at hy
    subst hy
    have heb : (ed != 0) = true := by rw [bne_iff_ne]; exact hed
    have hw := seedWhen_any (decide (0 < a)) 17
    have hF2 := fun g w => seedFirst_any [ed, if decide (0 < a) then 17 else 0] 2 rfl (by decide) g w
    rw [show fstN [ed, if decide (0 < a) then 17 else 0] = ed from by rw [fstN, if_neg hed]] at hF2
    generalize (if decide (0 < a) = true then (17 : Int) else 0) = e3 at *
    go_wp2_with fail
    refine (hw _).mono ?_
    rintro x w' ⟨rfl, rfl⟩
    go_wp2_with fail
    refine (hF2 _ _ (first2_es _ _ _ _)).mono ?_
    rintro x w' ⟨rfl, rfl⟩
    go_wp2
    go_ret2
    exact ⟨_, rfl, fun _ => rfl, World.ownsRow_nil _ _ _ _, hb3.alloc hb3.size _⟩
/-- Whether lists are too many, or too long. -/
def wideB (LL : List (List Int)) (m e : Nat) : Bool := decide (m < LL.length) || LL.any fun l => decide (e < l.length)
theorem wideB_no {LL : List (List Int)} {m e : Nat} (h : wideB LL m e = false) : LL.length ≤ m ∧ ∀ l ∈ LL, l.length ≤ e := by
  unfold wideB at h
  rw [Bool.or_eq_false_iff] at h
  refine ⟨by simpa using h.1, fun l hl => ?_⟩
  have := h.2
  rw [List.any_eq_false] at this
  simpa using this l hl
set_option maxHeartbeats 1000000 in
theorem l4wide_any (LL : List (List Int)) (n cap : Nat) (A : Option Addr) (B m e : Nat) (w : World) (hZ : Zss w B A n LL) (hn : (n : Int) ≤ 9223372036854775807) (hm : m ≤ 100) : Calls Tryz.prog 8 #[.slice A n cap, .int .i64 (m : Int), .int .i64 (e : Int)] w (RetPost (.bool (wideB LL m e)) w) := by
  have hl := hZ.1
  by_cases h0 : m < n
  · have : wideB LL m e = true := by unfold wideB; rw [decide_eq_true (by omega)]; rfl
    rw [this]
    have hi : (m : Int) < (n : Int) := by omega
    go_enter Tryz.func8, Tryz.ntmps8
    go_wp2
    go_ret
    exact ⟨rfl, Below.refl _ _⟩
  · have hw : wideB LL m e = LL.any fun l => decide (e < l.length) := by unfold wideB; rw [decide_eq_false (by omega)]; rfl
    obtain ⟨X, hX⟩ : ∃ X, wideB LL m e = X := ⟨_, rfl⟩
    rw [hX]
    have HX : Hid ((LL.drop 0).any (fun l => decide (e < l.length)) = X) := (show _ = _ by rw [List.drop_zero, ← hw, hX])
    have hi : ¬ (m : Int) < (n : Int) := by omega
    have hni : (n : Int) ≤ 100 := by omega
    have HM : Hid (∀ w', Below w.heap.size w w' → Zss w' B A n LL) := fun w' hb => hZ.below hb hZ.2.1
    have Hlen := Lib.hid hl
    clear hX hw hl hZ
    go_enter Tryz.func8, Tryz.ntmps8
    go_wp2
    go_loopw [7] (fun i wr => ∃ k : Nat, k ≤ n ∧ i = .int .i64 k ∧ Hid ((LL.drop k).any (fun l => decide (e < l.length)) = X) ∧ Below w.heap.size w wr) (fun i _ => n - (intOf i).toNat)
    case atStart => exact ⟨0, by omega, rfl, HX, Below.refl _ _⟩
    case round =>
      obtain ⟨k, hk, rfl, HK, hb⟩ := hrel
      by_cases hlt : k < n
      · obtain ⟨b, off, l, A', c', rfl, hbl, hL, hc, hZl⟩ := (HM.out _ hb).at_ hlt
        have hD : LL.drop k = l :: LL.drop (k + 1) := by
          have hkl := (List.getElem?_eq_some_iff.1 hL).1
          rw [List.drop_eq_getElem_cons hkl, (List.getElem?_eq_some_iff.1 hL).2]
        have hst := HK.out
        rw [hD, List.any_cons] at hst
        have hki : (k : Int) < (n : Int) := by omega
        obtain ⟨q, hq⟩ : ∃ q, l.length = q := ⟨_, rfl⟩
        rw [hq] at hst hc
        clear hD hL HK hZl hq
        by_cases hx : e < q
        · rw [decide_eq_true hx, Bool.true_or] at hst
          subst hst
          have hxi : (e : Int) < (q : Int) := by omega
          go_wp2
          go_ret
          exact ⟨rfl, hb⟩
        · rw [decide_eq_false hx, Bool.false_or] at hst
          have Hst := Lib.hid hst
          have hxi : ¬ (e : Int) < (q : Int) := by omega
          clear hst
          go_wp2
          go_roundw
          case rel => exact ⟨k + 1, by omega, by go_num, Hst, hb⟩
          case measure => simp [intOf]; omega
      · have hz := HK.out
        rw [List.drop_of_length_le (by rw [Hlen.out]; omega), List.any_nil] at hz
        subst hz
        go_wp2
        go_ret
        exact ⟨rfl, hb⟩
set_option maxHeartbeats 1000000 in
theorem lanes_exit (LL : List (List Int)) (n cap : Nat) (A : Option Addr) (B : Nat) (a key : Int) (w : World) (ht : Tabs w) (hZ : Zss w B A n LL) (hn : (n : Int) ≤ 9223372036854775807) (hx : wideB LL 12 12 = true) : Calls Tryz.prog 3 #[.slice A n cap, .int .i64 a, .int .i64 key] w (Yes w) := by
  have hW := fun w hZ => l4wide_any LL n cap A B 12 12 w hZ hn (by decide)
  rw [hx] at hW
  have HM : Hid (∀ w', Below w.heap.size w w' → Zss w' B A n LL) := fun w' hb => hZ.below hb hZ.2.1
  clear hZ
  go_enter Tryz.func3, Tryz.ntmps3
  go_wp2_with fail
  refine (aw _ ht).mono ?_
  rintro e w1 ⟨rfl, hb1⟩
  have hW1 := hW _ (HM.out _ hb1)
  go_wp2_with fail
  refine hW1.mono ?_
  rintro e w2 ⟨rfl, hb2⟩
  replace hb2 := hb1.trans (hb2.mono hb1.size)
  have ht2 := ht.grow hb2
  go_wp2_with fail
  refine (aw _ ht2).mono ?_
  rintro e w3 ⟨rfl, hb3⟩
  go_wp2
  go_ret
  exact ⟨rfl, hb2.trans (hb3.mono hb2.size)⟩
set_option maxHeartbeats 4000000 in
theorem lanes_law (LL : List (List Int)) (n cap : Nat) (A : Option Addr) (B : Nat) (a key : Int) (w : World) (ht : Tabs w) (hZ : Zss w B A n LL) (hx : wideB LL 12 12 = false) (hk1 : -9223372036854775808 ≤ key) (hk2 : key ≤ 9223372036854775807) : Calls Tryz.prog 3 #[.slice A n cap, .int .i64 a, .int .i64 key] w (Yes w) := by
  obtain ⟨hn, hs⟩ := wideB_no hx
  rw [hZ.1] at hn
  have hs2 : ∀ l ∈ LL, l.length ≤ 100 := fun l hl => Nat.le_trans (hs l hl) (by decide)
  have hW := fun w hZ => l4wide_any LL n cap A B 12 12 w hZ (by omega) (by decide)
  rw [hx] at hW
  have HM : Hid (∀ w', Below w.heap.size w w' → Zss w' B A n LL) := fun w' hb => hZ.below hb hZ.2.1
  have hR := fun w hZ => refPattern_any LL n cap A B w hZ hs2
  have hP := fun w hZ => seedPattern_any LL n cap A B w hZ hs2
  have o2 := fun w => r4Outside_any a 0 160 w
  have hF := fun g w => l4first_any [patE LL, rngE a 0 160] 2 rfl (by decide) g w
  obtain ⟨bad, hbad⟩ : ∃ bad, fstN [patE LL, rngE a 0 160] = bad := ⟨_, rfl⟩
  rw [hbad] at hF
  by_cases hb0 : bad = 0
  · subst hb0
    have hpr : patE LL = 0 ∧ 0 ≤ a ∧ a ≤ 160 := by
      simp only [fstN, rngE] at hbad
      by_cases q1 : patE LL = 0
      · by_cases q2 : a < 0 ∨ 160 < a
        · simp [q1, q2] at hbad
        · exact ⟨q1, by omega, by omega⟩
      · simp [q1] at hbad
    obtain ⟨hp, ha0, ha1⟩ := hpr
    have hL := fun w hZ => seedLanes_ok LL n cap A B a key w hZ hn hs hp ha0 ha1 hk1 hk2
    have hQ := fun w hZ => r4Lanes_any LL n cap A B key w hZ hn hs hk1 hk2 a ha0 ha1 hp
    have hXl := lanesR_len LL a key (by rw [hZ.1]; exact hn) hs
    rw [hp] at hR hP
    have ho : rngE a 0 160 = 0 := by unfold rngE; rw [if_neg (by omega)]
    rw [ho] at o2
    generalize lanesR LL a key = X at *
    rw [hp, ho] at hF
    clear hZ hbad hp hx ho
    go_enter Tryz.func3, Tryz.ntmps3
    go_wp2_with fail
    refine (aw _ ht).mono ?_
    rintro e w1 ⟨rfl, hb1⟩
    have hW1 := hW _ (HM.out _ hb1)
    clear ht hW
    go_wp2_with fail
    refine hW1.mono ?_
    rintro e w2 ⟨rfl, hb2⟩
    replace hb2 := hb1.trans (hb2.mono hb1.size)
    have hR1 := hR _ (HM.out _ hb2)
    clear hR hW1 hb1
    go_wp2_with fail
    refine hR1.mono ?_
    rintro e w3 ⟨rfl, hb3⟩
    replace hb3 := hb2.trans (hb3.mono hb2.size)
    have hP1 := hP _ (HM.out _ hb3)
    clear hP hR1 hb2
    go_wp2_with fail
    refine hP1.mono ?_
    rintro e w4 ⟨rfl, hb4⟩
    replace hb4 := hb3.trans (hb4.mono hb3.size)
    have hL1 := hL _ (HM.out _ hb4)
    clear hL hP1 hb3
    go_wp2_with fail
    refine hL1.mono ?_
    rintro e w5 ⟨v5, rfl, k5, ho5, hb5⟩
    replace hb5 := hb4.trans (hb5.mono hb4.size)
    clear hL1 hb4
    go_wp2_with fail
    refine (o2 _).mono ?_
    rintro e w' ⟨rfl, rfl⟩
    go_wp2_with fail
    refine (hF _ _ (first2_es _ _ _ _)).mono ?_
    rintro e w' ⟨rfl, rfl⟩
    have g5 : Below w5.heap.size w5 (w5.alloc (.cells #[.int .i64 0, .int .i64 0] 3)) := (Below.refl _ _).alloc (Nat.le_refl _) _
    replace hb5 := hb5.alloc hb5.size (.cells #[.int .i64 0, .int .i64 0] 3)
    generalize w5.alloc (.cells #[.int .i64 0, .int .i64 0] 3) = w6 at *
    have hQ1 := hQ _ (HM.out _ hb5)
    clear hQ
    go_wp2_with fail
    refine hQ1.mono ?_
    rintro e w7 ⟨v7, rfl, k7, ho7, hb7⟩
    replace g5 := g5.trans (hb7.mono g5.size)
    replace hb7 := hb5.trans (hb7.mono hb5.size)
    have hLL := list_nums hXl k5 k7 ho5 ho7 g5 (Below.refl _ _)
    clear hQ1 hb5 g5 ho5 ho7
    go_wp2_with fail
    refine hLL.mono ?_
    rintro e w8 ⟨rfl, hb8⟩
    go_wp2
    go_ret
    exact ⟨rfl, hb7.trans (hb8.mono hb7.size)⟩
  · have hbb : (bad != 0) = true := by rw [bne_iff_ne]; exact hb0
    have hbe : (bad == 0) = false := beq_eq_false_iff_ne.2 hb0
    have hL := fun w hZ => seedLanes_bad LL n cap A B a key bad w hZ hs2 hbad hbb
    clear hZ hx hbad
    generalize patE LL = p at *
    have hpp : (p != p) = false := by simp
    generalize rngE a 0 160 = r at *
    go_enter Tryz.func3, Tryz.ntmps3
    go_wp2_with fail
    refine (aw _ ht).mono ?_
    rintro e w1 ⟨rfl, hb1⟩
    have hW1 := hW _ (HM.out _ hb1)
    clear ht hW
    go_wp2_with fail
    refine hW1.mono ?_
    rintro e w2 ⟨rfl, hb2⟩
    replace hb2 := hb1.trans (hb2.mono hb1.size)
    have hR1 := hR _ (HM.out _ hb2)
    clear hR hW1 hb1
    go_wp2_with fail
    refine hR1.mono ?_
    rintro e w3 ⟨rfl, hb3⟩
    replace hb3 := hb2.trans (hb3.mono hb2.size)
    have hP1 := hP _ (HM.out _ hb3)
    clear hP hR1 hb2
    go_wp2_with fail
    refine hP1.mono ?_
    rintro e w4 ⟨rfl, hb4⟩
    replace hb4 := hb3.trans (hb4.mono hb3.size)
    have hL1 := hL _ (HM.out _ hb4)
    clear hL hP1 hb3
    go_wp2_with fail
    refine hL1.mono ?_
    rintro e w5 ⟨rfl, hb5⟩
    replace hb5 := hb4.trans (hb5.mono hb4.size)
    clear hL1 hb4
    go_wp2_with fail
    refine (o2 _).mono ?_
    rintro e w' ⟨rfl, rfl⟩
    go_wp2_with fail
    refine (hF _ _ (first2_es _ _ _ _)).mono ?_
    rintro e w' ⟨rfl, rfl⟩
    replace hb5 := hb5.alloc hb5.size (.cells #[.int .i64 p, .int .i64 r] 3)
    generalize w5.alloc (.cells #[.int .i64 p, .int .i64 r] 3) = w6 at *
    go_wp2_with fail
    refine (l4list_bad bad hbb _).mono ?_
    rintro e w8 ⟨rfl, hb8⟩
    go_wp2
    go_ret
    exact ⟨rfl, hb5.trans (hb8.mono hb5.size)⟩
theorem lanes_any (a key : Int) (LL : List (List Int)) (n cap : Nat) (A : Option Addr) (B : Nat) (w : World) (ht : Tabs w) (hm : (n : Int) ≤ 9223372036854775807) (hZ : Zss w B A n LL) (hk1 : -9223372036854775808 ≤ key) (hk2 : key ≤ 9223372036854775807) : Calls Tryz.prog 3 #[.slice A n cap, .int .i64 a, .int .i64 key] w (Yes w) := by
  cases hx : wideB LL 12 12 with
  | true => exact lanes_exit LL n cap A B a key w ht hZ hm hx
  | false => exact lanes_law LL n cap A B a key w ht hZ hx hk1 hk2
end Go.Mk
