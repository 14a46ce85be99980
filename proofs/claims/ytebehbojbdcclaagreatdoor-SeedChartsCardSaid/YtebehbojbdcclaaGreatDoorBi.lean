/-
  Proved: the law SeedCharts returns true and leaves all that was there, for any athletes, lanes and rounds. Conditions: the tables that awake reads lie where the program lays them; the rounds lie where the slice says.
-/
import Derived.Test.YtebehbojbdcclaaGreatDoorBh
set_option linter.unusedVariables false
set_option linter.unusedSimpArgs false
open Go Go.Proofs Go.RowKit Go.Sort
set_option maxRecDepth 100000
namespace Go.Mk
set_option maxHeartbeats 1000000 in
theorem charts_exit (a lanes : Int) (n cap : Nat) (A : Option Addr) (w : World) (ht : Tabs w) (h : 20 < (n : Int)) (hm : (n : Int) ≤ 9223372036854775807) : Calls Tryz.prog 4 #[.int .i64 a, .int .i64 lanes, .slice A n cap] w (Yes w) := by
  go_enter Tryz.func4, Tryz.ntmps4
  go_wp2_with fail
  refine (aw _ ht).mono ?_
  rintro e w1 ⟨rfl, hb1⟩
  have ht1 := ht.grow hb1
  go_wp2_with fail
  refine (aw _ ht1).mono ?_
  rintro e w2 ⟨rfl, hb2⟩
  go_wp2
  go_ret
  exact ⟨rfl, hb1.trans (hb2.mono hb1.size)⟩
/-- What the law needs of Numbers and of the reference's. -/
def NumOf (a lanes : Int) (n cap : Nat) (A : Option Addr) (L : List (Int × Int × Int)) (W : World) : Prop :=
  ∃ X : List Int × Int, (X.2 ≠ 0 → X.1 = []) ∧ X.1.length ≤ 300 ∧ (∀ w, Below W.heap.size W w → Calls Tryz.prog 17 #[.int .i64 a, .int .i64 lanes, .slice A n cap] w (NumPost X w)) ∧
    ∀ (w : World) (A2 : Option Addr) (c2 : Nat), Rnds w w.heap.size A2 n L → Calls Tryz.prog 19 #[.int .i64 a, .int .i64 lanes, .slice A2 n c2] w (NumPost X w)
theorem numGo_len (lanes : Int) (l : List (Int × Int × Int)) : ∀ a, (numGo lanes a l).1.length ≤ l.length := by
  induction l with
  | nil => intro a; simp [numGo]
  | cons r l ih =>
    intro a
    rw [numGo]
    split
    · unfold pre
      split
      · have := ih (r.1 * r.2.1 + r.2.2); simp; omega
      · simp
    · simp
theorem numPost_bad {e : Int} {w w' : World} {x : Ending} (h : RetPost (.tuple #[.slice none 0 0, .int .i64 e]) w x w') : NumPost ([], e) w x w' := by
  obtain ⟨rfl, hb⟩ := h
  exact ⟨_, rfl, fun _ => rfl, World.ownsRow_nil _ _ _ _, hb⟩
theorem numOf (a lanes : Int) (n cap : Nat) (A : Option Addr) (B : Nat) (L : List (Int × Int × Int)) (W : World) (h0 : 0 ≤ a) (h1 : a ≤ 160) (h2 : 1 ≤ lanes) (h3 : lanes ≤ 10) (hM : Rnds W B A n L) (hn : n ≤ 20) : NumOf a lanes n cap A L W := by
  have hz : ∀ x y : Int, numE0 a lanes n = fstN [x, y] → True := fun _ _ _ => trivial
  by_cases g0 : n = 0
  · subst g0
    refine ⟨([], 12), fun _ => rfl, by simp, fun w hb => ?_, fun w A2 c2 hR => ?_⟩
    · refine (Numbers_bad a lanes 0 cap A w 12 ?_ (by decide) (by decide)).mono fun _ _ h => numPost_bad h
      unfold numE0 rngE
      rw [if_neg (by omega), if_neg (by omega)]
      rfl
    · exact (r4Numbers_empty a lanes c2 A2 w).mono fun _ _ h => numPost_bad h
  · by_cases g1 : 16 < n
    · refine ⟨([], 5), fun _ => rfl, by simp, fun w hb => ?_, fun w A2 c2 hR => ?_⟩
      · refine (Numbers_bad a lanes n cap A w 5 ?_ (by decide) (by omega)).mono fun _ _ h => numPost_bad h
        unfold numE0 rngE
        rw [if_neg (by omega), if_neg (by omega), if_neg (by simp; omega), if_pos (by simp; omega)]
        rfl
      · exact (r4Numbers_many a lanes n c2 A2 w (by omega) (by omega)).mono fun _ _ h => numPost_bad h
    · refine ⟨numGo lanes a L, numGo_bad lanes L a, by have := numGo_len lanes L a; have := hM.1; omega, fun w hb => ?_, fun w A2 c2 hR => ?_⟩
      · exact Numbers_any L a lanes n cap A B w h0 h1 h2 h3 (hM.below hb hM.2.1) (by omega) (by omega)
      · exact r4Numbers_any L a lanes n c2 A2 _ w h0 h1 h2 h3 hR (by omega) (by omega)
set_option maxHeartbeats 4000000 in
theorem charts_bad (a lanes b : Int) (n cap : Nat) (A : Option Addr) (w : World) (ht : Tabs w) (hn : (n : Int) ≤ 20) (hb : fstN [rngE a 0 160, rngE lanes 1 10] = b) (hb0 : (b != 0) = true) : Calls Tryz.prog 4 #[.int .i64 a, .int .i64 lanes, .slice A n cap] w (Yes w) := by
  have hbb : (b == b) = true := by simp
  have hC := fun w => Chart_bad a lanes w b hb hb0
  have hN := fun w => Numbers_bad a lanes n cap A w b (by
    unfold numE0
    rw [← hb]
    unfold fstN fstN
    split
    · split
      · rename_i h1 h2
        rw [← hb] at hb0
        unfold fstN fstN at hb0
        rw [if_pos h1, if_pos h2] at hb0
        exact absurd hb0 (by decide)
      · rfl
    · rfl) hb0 (by omega)
  have o1 := fun w => r4Outside_any a 0 160 w
  have o2 := fun w => r4Outside_any lanes 1 10 w
  have hF := fun g w => l4first_any [rngE a 0 160, rngE lanes 1 10] 2 rfl (by decide) g w
  rw [hb] at hF
  clear hb
  generalize rngE a 0 160 = e1 at *
  generalize rngE lanes 1 10 = e2 at *
  go_enter Tryz.func4, Tryz.ntmps4
  go_wp2_with fail
  refine (aw _ ht).mono ?_
  rintro e w1 ⟨rfl, hb1⟩
  go_wp2_with fail
  refine (hC _).mono ?_
  rintro e w2 ⟨rfl, hb2⟩
  replace hb2 := hb1.trans (hb2.mono hb1.size)
  go_wp2_with fail
  refine (hN _).mono ?_
  rintro e w3 ⟨rfl, hb3⟩
  replace hb3 := hb2.trans (hb3.mono hb2.size)
  go_wp2_with fail
  refine (o1 _).mono ?_
  rintro e wv ⟨rfl, rfl⟩
  go_wp2_with fail
  refine (o2 _).mono ?_
  rintro e wv ⟨rfl, rfl⟩
  go_wp2_with fail
  refine (hF _ _ (first2_es _ _ _ _)).mono ?_
  rintro e wv ⟨rfl, rfl⟩
  go_wp2_with fail
  refine (l4list_bad b hb0 _).mono ?_
  rintro e w4 ⟨rfl, hb4⟩
  go_wp2
  go_ret
  exact ⟨rfl, (hb3.alloc hb3.size _).trans (hb4.mono (hb3.alloc hb3.size _).size)⟩
theorem Rnds.wide {w : World} {B K n : Nat} {A : Option Addr} {L : List (Int × Int × Int)} (h : Rnds w B A n L) (hB : B ≤ K) (hK : K ≤ w.heap.size) : Rnds w K A n L := by
  refine ⟨h.1, hK, fun hn => ?_⟩
  obtain ⟨b, off, e, hlt, hc⟩ := h.2.2 hn
  exact ⟨b, off, e, by omega, hc⟩
/-- list of what both Numbers return. -/
theorem list_nums {X : List Int × Int} {v1 v2 : Value} {W1 W2 w : World} {B1 B2 : Nat} (hX : X.1.length ≤ 300) (k1 : X.2 ≠ 0 → v1 = .slice none 0 0) (k2 : X.2 ≠ 0 → v2 = .slice none 0 0) (o1 : OwnInts W1 B1 v1 X.1) (o2 : OwnInts W2 B2 v2 X.1) (b1 : Below W1.heap.size W1 w) (b2 : Below W2.heap.size W2 w) :
    Calls Tryz.prog 15 #[v1, .int .i64 X.2, .int .i64 X.2, v2] w (RetPost (.bool true) w) := by
  by_cases h : X.2 = 0
  · rw [h]
    obtain ⟨A1, c1, rfl, h1⟩ := IntsZ.of_own o1
    obtain ⟨A2, c2, rfl, h2⟩ := IntsZ.of_own o2
    exact l4list_ok X.1 A1 A2 _ c1 c2 w hX (h1.below b1) (h2.below b2)
  · rw [k1 h, k2 h]
    exact l4list_bad X.2 (by rw [bne_iff_ne]; exact h) w
set_option maxHeartbeats 4000000 in
theorem charts_many (a lanes : Int) (n cap : Nat) (A : Option Addr) (B : Nat) (L : List (Int × Int × Int)) (w : World) (ht : Tabs w) (h0 : 0 ≤ a) (h1 : a ≤ 160) (h2 : 1 ≤ lanes) (h3 : lanes ≤ 10) (hM : Rnds w B A n L) (hn : n ≤ 20) (h4 : 16 < (a + lanes - 1) / lanes) : Calls Tryz.prog 4 #[.int .i64 a, .int .i64 lanes, .slice A n cap] w (Yes w) := by
  have hni : (n : Int) ≤ 20 := by omega
  obtain ⟨X, hX0, hX1, hN, hR⟩ := numOf a lanes n cap A B L w h0 h1 h2 h3 hM hn
  have HM : Hid (∀ w', Below w.heap.size w w' → Rnds w' B A n L) := fun w' hb => hM.below hb hM.2.1
  have hC := fun w => Chart_many a lanes w h0 h1 h2 h3 h4
  have o1 := fun w => r4Outside_any a 0 160 w
  have o2 := fun w => r4Outside_any lanes 1 10 w
  have hF := fun g w => l4first_any [rngE a 0 160, rngE lanes 1 10] 2 rfl (by decide) g w
  have r1 : rngE a 0 160 = 0 := by unfold rngE; rw [if_neg (by omega)]
  have r2 : rngE lanes 1 10 = 0 := by unfold rngE; rw [if_neg (by omega)]
  rw [r1, r2, show fstN [0, 0] = 0 from rfl] at hF
  rw [r1] at o1
  rw [r2] at o2
  have hq : Int.tdiv (a + lanes - 1) lanes = (a + lanes - 1) / lanes := Int.tdiv_eq_ediv_of_nonneg (by omega)
  have hqu : (a + lanes - 1) / lanes ≤ a + lanes - 1 := Int.ediv_le_self _ (by omega)
  obtain ⟨q, hqq⟩ : ∃ q, (a + lanes - 1) / lanes = q := ⟨_, rfl⟩
  rw [hqq] at hq h4 hqu
  clear hqq r1 r2 hM
  go_enter Tryz.func4, Tryz.ntmps4
  go_wp2_with fail
  refine (aw _ ht).mono ?_
  rintro e w1 ⟨rfl, hb1⟩
  clear ht
  go_wp2_with fail
  refine (hC _).mono ?_
  rintro e w2 ⟨rfl, hb2⟩
  replace hb2 := hb1.trans (hb2.mono hb1.size)
  clear hC hb1
  go_wp2_with fail
  refine (hN _ hb2).mono ?_
  rintro e w3 ⟨v3, rfl, k3, ho3, hb3⟩
  replace hb3 := hb2.trans (hb3.mono hb2.size)
  clear hN hb2
  go_wp2_with fail
  refine (o1 _).mono ?_
  rintro e wv ⟨rfl, rfl⟩
  go_wp2_with fail
  refine (o2 _).mono ?_
  rintro e wv ⟨rfl, rfl⟩
  go_wp2_with fail
  refine (hF _ _ (first2_es _ _ _ _)).mono ?_
  rintro e wv ⟨rfl, rfl⟩
  have hb4 := hb3.alloc hb3.size (.cells #[.int .i64 0, .int .i64 0] 3)
  have g3 : Below w3.heap.size w3 (w3.alloc (.cells #[.int .i64 0, .int .i64 0] 3)) := (Below.refl _ _).alloc (Nat.le_refl _) _
  generalize w3.alloc (.cells #[.int .i64 0, .int .i64 0] 3) = w4 at *
  go_wp2_with fail
  refine (l4rounds_any L n cap A B _ (HM.out _ hb4) hn).mono ?_
  rintro e w5 ⟨v5, rfl, ho5, hb5⟩
  obtain ⟨A5, c5, rfl, hR5⟩ := Rnds.of_own ho5 (HM.out _ hb4).1
  replace g3 := g3.trans (hb5.mono g3.size)
  replace hb5 := hb4.trans (hb5.mono hb4.size)
  clear hb4 hb3
  go_wp2_with fail
  refine (hR _ A5 c5 hR5).mono ?_
  rintro e w6 ⟨v6, rfl, k6, ho6, hb6⟩
  replace g3 := g3.trans (hb6.mono g3.size)
  replace hb6 := hb5.trans (hb6.mono hb5.size)
  clear hb5 hR hR5 ho5
  go_wp2_with fail
  refine (list_nums hX1 k3 k6 ho3 ho6 g3 (Below.refl _ _)).mono ?_
  rintro e w7 ⟨rfl, hb7⟩
  go_wp2
  go_ret
  exact ⟨rfl, hb6.trans (hb7.mono hb6.size)⟩
set_option maxHeartbeats 4000000 in
theorem charts_ok (a lanes : Int) (n cap : Nat) (A : Option Addr) (B : Nat) (L : List (Int × Int × Int)) (w : World) (ht : Tabs w) (h0 : 0 ≤ a) (h1 : a ≤ 160) (h2 : 1 ≤ lanes) (h3 : lanes ≤ 10) (hM : Rnds w B A n L) (hn : n ≤ 20) (F : List (Int × Int × Int)) (hF0 : F.length ≤ 20) (h4 : (a + lanes - 1) / lanes ≤ 16) (hC : ∀ w, Calls Tryz.prog 16 #[.int .i64 a, .int .i64 lanes] w (Charted 44 F w)) (hD : ∀ w, Calls Tryz.prog 18 #[.int .i64 a, .int .i64 lanes] w (Charted2 43 F w)) : Calls Tryz.prog 4 #[.int .i64 a, .int .i64 lanes, .slice A n cap] w (Yes w) := by
  have hni : (n : Int) ≤ 20 := by omega
  obtain ⟨X, hX0, hX1, hN, hR⟩ := numOf a lanes n cap A B L w h0 h1 h2 h3 hM hn
  have HM : Hid (∀ w', Below w.heap.size w w' → Rnds w' B A n L) := fun w' hb => hM.below hb hM.2.1
  have o1 := fun w => r4Outside_any a 0 160 w
  have o2 := fun w => r4Outside_any lanes 1 10 w
  have hF := fun g w => l4first_any [rngE a 0 160, rngE lanes 1 10] 2 rfl (by decide) g w
  have r1 : rngE a 0 160 = 0 := by unfold rngE; rw [if_neg (by omega)]
  have r2 : rngE lanes 1 10 = 0 := by unfold rngE; rw [if_neg (by omega)]
  rw [r1, r2, show fstN [0, 0] = 0 from rfl] at hF
  rw [r1] at o1
  rw [r2] at o2
  have hq : Int.tdiv (a + lanes - 1) lanes = (a + lanes - 1) / lanes := Int.tdiv_eq_ediv_of_nonneg (by omega)
  have hqu : 0 ≤ (a + lanes - 1) / lanes := Int.ediv_nonneg (by omega) (by omega)
  obtain ⟨q, hqq⟩ : ∃ q, (a + lanes - 1) / lanes = q := ⟨_, rfl⟩
  rw [hqq] at hq h4 hqu
  clear hqq r1 r2 hM
  go_enter Tryz.func4, Tryz.ntmps4
  go_wp2_with fail
  refine (aw _ ht).mono ?_
  rintro e w1 ⟨rfl, hb1⟩
  clear ht
  go_wp2_with fail
  refine (hC _).mono ?_
  rintro e w2 ⟨v2, rfl, ho2, hb2⟩
  obtain ⟨A2, c2, rfl, hR2⟩ := Rnds.of_own ho2 rfl
  replace hb2 := hb1.trans (hb2.mono hb1.size)
  clear hC hb1
  go_wp2_with fail
  refine (hN _ hb2).mono ?_
  rintro e w3 ⟨v3, rfl, k3, ho3, hb3⟩
  have g2 := hb3
  replace hb3 := hb2.trans (hb3.mono hb2.size)
  clear hN hb2
  go_wp2_with fail
  refine (o1 _).mono ?_
  rintro e wv ⟨rfl, rfl⟩
  go_wp2_with fail
  refine (o2 _).mono ?_
  rintro e wv ⟨rfl, rfl⟩
  go_wp2_with fail
  refine (hF _ _ (first2_es _ _ _ _)).mono ?_
  rintro e wv ⟨rfl, rfl⟩
  have hb4 := hb3.alloc hb3.size (.cells #[.int .i64 0, .int .i64 0] 3)
  have g3 : Below w3.heap.size w3 (w3.alloc (.cells #[.int .i64 0, .int .i64 0] 3)) := (Below.refl _ _).alloc (Nat.le_refl _) _
  replace g2 := g2.trans (g3.mono g2.size)
  generalize w3.alloc (.cells #[.int .i64 0, .int .i64 0] 3) = w4 at *
  go_wp2_with fail
  refine (hD _).mono ?_
  rintro e w5 ⟨v5, rfl, ho5, hb5⟩
  obtain ⟨A5, c5, rfl, hR5⟩ := Rnds.of_own ho5 rfl
  replace g2 := g2.trans (hb5.mono g2.size)
  replace g3 := g3.trans (hb5.mono g3.size)
  replace hb4 := hb4.trans (hb5.mono hb4.size)
  obtain ⟨m, hm⟩ : ∃ m, F.length = m := ⟨_, rfl⟩
  rw [hm] at hF0 hR2 hR5 ⊢
  have hmi : (m : Int) ≤ 20 := by omega
  have HR2 : Hid (∀ w', Below w5.heap.size w5 w' → Rnds w' w5.heap.size A2 m F) := fun w' hb => ((hR2.below g2 (Nat.le_refl _)).wide g2.size (Nat.le_refl _)).below hb (Nat.le_refl _)
  have HR5 : Hid (∀ w', Below w5.heap.size w5 w' → Rnds w' w5.heap.size A5 m F) := fun w' hb => hR5.below hb (Nat.le_refl _)
  clear ho2 ho5 hR2 hR5 hb5 hD g2 hm
  have hbz : Below w5.heap.size w5 w5 := Below.refl _ _
  go_wp2_with fail
  go_loopw [13] (fun i wr => ∃ k : Nat, k ≤ m ∧ i = .int .i64 k ∧ Below w5.heap.size w5 wr) (fun i _ => m - (intOf i).toNat)
  case atStart => exact ⟨0, by omega, rfl, hbz⟩
  case round =>
    obtain ⟨k, hk, rfl, hb⟩ := hrel
    by_cases hlt : k < m
    · obtain ⟨p1, f1, x, y, z, rfl, _, hL1, c0, c1, c2⟩ := (HR2.out _ hb).at_ hlt
      obtain ⟨p2, f2, x', y', z', rfl, _, hL2, d0, d1, d2⟩ := (HR5.out _ hb).at_ hlt
      have hee := hL1.symm.trans hL2
      simp only [Option.some.injEq, Prod.mk.injEq] at hee
      obtain ⟨rfl, rfl, rfl⟩ := hee
      have hki : (k : Int) < (m : Int) := by omega
      have hk0 : (0 : Int) ≤ (k : Int) := by omega
      have hkt : ((k : Int)).toNat = k := by omega
      clear hL1 hL2
      go_wp2_with fail
      go_quiet (fail)
      go_wp2
      exact ⟨⟨k + 1, by omega, by go_num, below_drewN hb _⟩, by simp [intOf]; omega⟩
    · replace hb4 := hb4.trans (hb.mono hb4.size)
      replace g3 := g3.trans (hb.mono g3.size)
      clear hb
      go_wp2_with fail
      refine (l4rounds_any L n cap A B _ (HM.out _ hb4) hn).mono ?_
      rintro e w7 ⟨v7, rfl, ho7, hb7⟩
      obtain ⟨A7, c7, rfl, hR7⟩ := Rnds.of_own ho7 (HM.out _ hb4).1
      replace g3 := g3.trans (hb7.mono g3.size)
      replace hb7 := hb4.trans (hb7.mono hb4.size)
      clear hb4 hb3
      go_wp2_with fail
      refine (hR _ A7 c7 hR7).mono ?_
      rintro e w8 ⟨v8, rfl, k8, ho8, hb8⟩
      replace g3 := g3.trans (hb8.mono g3.size)
      replace hb8 := hb7.trans (hb8.mono hb7.size)
      clear hb7 hR hR7 ho7
      go_wp2_with fail
      refine (list_nums hX1 k3 k8 ho3 ho8 g3 (Below.refl _ _)).mono ?_
      rintro e w9 ⟨rfl, hb9⟩
      go_wp2
      go_ret
      exact ⟨rfl, hb8.trans (hb9.mono hb8.size)⟩
theorem charts_any (a lanes : Int) (L : List (Int × Int × Int)) (n cap : Nat) (A : Option Addr) (B : Nat) (w : World) (ht : Tabs w) (hm : (n : Int) ≤ 9223372036854775807) (hM : Rnds w B A n L) : Calls Tryz.prog 4 #[.int .i64 a, .int .i64 lanes, .slice A n cap] w (Yes w) := by
  by_cases hn : 20 < (n : Int)
  · exact charts_exit a lanes n cap A w ht hn hm
  · by_cases hb : fstN [rngE a 0 160, rngE lanes 1 10] = 0
    · have hr : 0 ≤ a ∧ a ≤ 160 ∧ 1 ≤ lanes ∧ lanes ≤ 10 := by
        simp only [fstN, rngE] at hb
        by_cases q1 : a < 0 ∨ 160 < a
        · simp [q1] at hb
        · by_cases q2 : lanes < 1 ∨ 10 < lanes
          · simp [q1, q2] at hb
          · omega
      obtain ⟨h0, h1, h2, h3⟩ := hr
      by_cases h4 : 16 < (a + lanes - 1) / lanes
      · exact charts_many a lanes n cap A B L w ht h0 h1 h2 h3 hM (by omega) h4
      · by_cases ha : a = 0
        · subst ha
          exact charts_ok 0 lanes n cap A B L w ht h0 h1 h2 h3 hM (by omega) [] (by simp) (by omega) (fun w => Chart_none lanes w h2 h3) (fun w => r4Chart_none lanes w)
        · obtain ⟨h, hh⟩ : ∃ h : Nat, (a + lanes - 1) / lanes = h := ⟨((a + lanes - 1) / lanes).toNat, by
            have : 0 ≤ (a + lanes - 1) / lanes := Int.ediv_nonneg (by omega) (by omega)
            omega⟩
          have := chartN_len lanes h
          exact charts_ok a lanes n cap A B L w ht h0 h1 h2 h3 hM (by omega) (chartN lanes h) (by omega) (by omega) (fun w => Chart_ok a lanes h w (by omega) h1 h2 h3 hh (by omega)) (fun w => r4Chart_ok lanes h2 h3 h a w (by omega) h1 hh (by omega))
    · exact charts_bad a lanes _ n cap A w ht (by omega) rfl (by rw [bne_iff_ne]; exact hb)
end Go.Mk
