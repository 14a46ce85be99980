/-
  Proved: the law SeedOrders returns true and leaves all that was there. Conditions: the tables that awake reads lie where the program lays them; the entrants lie where the slice says; the list is no longer than the form's reach.
-/
import Derived.Test.YtccgahkoekcefaaGreatDoorQu
set_option linter.unusedVariables false
set_option linter.unusedSimpArgs false
open Go Go.Proofs Go.RowKit Go.Sort
set_option maxRecDepth 100000
namespace Go.Mk
set_option maxHeartbeats 2000000 in
theorem orders_exit (L : List Ent) (n cap : Nat) (A : Option Addr) (B : Nat) (key h : Int) (w : World) (ht : Tabs w) (hZ : Ents w B A n L) (hn : n * 72 ≤ 140737488351232) (hs : ∀ x ∈ L, x.ok ∧ x.kind.size ≤ maxLen ∧ x.reason.size ≤ maxLen) (hx : shortE L 24 = false) :
    Calls Tryz.prog 3 #[.slice A n cap, .int .i64 key, .int .i64 h] w (Yes w) := by
  have hR := l4own_big L n cap A B w hZ hn
  have hn2 : (n : Int) ≤ 9223372036854775807 := by omega
  have hl := hZ.1
  clear hZ
  go_enter Tryz.func3, Tryz.ntmps3
  go_wp2_with fail
  refine hR.mono ?_
  rintro e w1 ⟨v, rfl, hO, hb1⟩
  obtain ⟨A1, c1, rfl, hR1⟩ := Ents.of_own hO hl
  have HS : Hid (∀ w', Below w1.heap.size w1 w' → Calls Tryz.prog 10 #[.slice A1 n c1, .int .i64 24] w' (RetPost (.bool false) w')) := fun w' hb => by
    have := short_ents L n c1 24 A1 _ w' (hR1.below hb (Nat.le_refl _)) hs hn2
    rwa [hx] at this
  have ht1 := ht.grow hb1
  clear hO hR1 hR ht
  go_wp2_with fail
  refine (aw _ ht1).mono ?_
  rintro e w2 ⟨rfl, hb2⟩
  have hS := HS.out _ hb2
  have hb12 := hb1.trans (hb2.mono hb1.size)
  clear HS
  go_wp2_with fail
  refine hS.mono ?_
  rintro e w3 ⟨rfl, hb3⟩
  have ht3 := ht1.grow (bstep hb2 hb3)
  have hb13 := hb12.trans (hb3.mono hb12.size)
  go_wp2_with fail
  refine (aw _ ht3).mono ?_
  rintro e w4 ⟨rfl, hb4⟩
  go_wp2
  go_ret
  exact ⟨rfl, hb13.trans (hb4.mono hb13.size)⟩
set_option maxHeartbeats 4000000 in
theorem orders_1 (L : List Ent) (n cap : Nat) (A : Option Addr) (B : Nat) (key h : Int) (w : World) (ht : Tabs w) (hZ : Ents w B A n L) (hs : ∀ x ∈ L, x.ok ∧ x.kind.size ≤ maxLen ∧ x.reason.size ≤ maxLen) (hx : shortE L 24 = true) (hX : chkEnts L ≠ 0) (hQ : fstN [rngE (2 * (n : Int)) 0 160, rngE h 1 16] ≠ 0) :
    Calls Tryz.prog 3 #[.slice A n cap, .int .i64 key, .int .i64 h] w (Yes w) := by
  have hl := hZ.1
  obtain ⟨hn1, hn24⟩ := short_len hx
  rw [hl] at hn1 hn24
  have hok : ∀ x ∈ L, x.ok := fun x q => (hs x q).1
  have hG := ht.1
  have hR := l4own_big L n cap A B w hZ (by omega)
  have hni : (n : Int) ≤ 164 := by omega
  obtain ⟨bad, hbad⟩ : ∃ bad, chkEnts L = bad := ⟨_, rfl⟩
  have hbz : bad ≠ 0 := by rw [← hbad]; exact hX
  have hb1z : (bad == 0) = false := by rw [beq_eq_false_iff_ne]; exact hbz
  have hb2z : (bad != 0) = true := by rw [bne_iff_ne]; exact hbz
  have hbb : (bad != bad) = false := by simp
  have HSC : Hid (∀ w', Below w.heap.size w w' → Calls Tryz.prog 12 #[.slice A n cap] w' (RetPost (.int .i64 bad) w')) := Lib.hid fun w' hb => by
    have := seedCheckEntrants_all L n cap A B w' (hZ.below hb hZ.2.1) (by omega) hok (Nat.le_trans hG hb.size)
    rw [hbad] at this
    exact this
  have HOR : Hid (∀ w', Below w.heap.size w w' → Calls Tryz.prog 13 #[.slice A n cap, .int .i64 key] w' (RetPost (.tuple #[.slice none 0 0, .int .i64 bad]) w')) := Lib.hid fun w' hb => by
    by_cases hd : drwE key n = 0
    · obtain ⟨k1, k2, k3⟩ := drw_ok hd
      obtain ⟨k, rfl⟩ : ∃ k : Nat, key = k := ⟨key.toNat, by omega⟩
      have := seedOrder_bad2 L n cap A B k w' (hZ.below hb hZ.2.1) (by omega) hok (Nat.le_trans hG hb.size) (by omega) (by omega) hX
      rw [hbad] at this
      exact this
    · have := seedOrder_bad1 L n cap A B key w' (hZ.below hb hZ.2.1) (by omega) hok (Nat.le_trans hG hb.size) hd
      rw [hbad, show fstN [bad, 3] = bad by simp [fstN, hbz]] at this
      exact this
  have HHT : Hid (∀ w', Below w.heap.size w w' → Calls Tryz.prog 14 #[.slice A n cap, .int .i64 h, .int .i64 key] w' (RetPost (.tuple #[.slice none 0 0, .int .i64 bad]) w')) := Lib.hid fun w' hb => by
    refine seedHeats_bad L n cap A B h key bad w' (hZ.below hb hZ.2.1) (by omega) hok (Nat.le_trans hG hb.size) ?_ (by first | assumption | decide)
    unfold htsE
    rw [hbad, show fstN [bad, rngE h 1 16] = bad by simp [fstN, hbz], if_pos hbz]
  have HOH : Hid (∀ w', Calls Tryz.prog 19 #[.int .i64 h, .int .i64 1, .int .i64 16] w' (RetSame (.int .i64 (rngE h 1 16)) w')) := Lib.hid fun w' => by
    have := r4Outside_any h 1 16 w'
    exact this
  have HF1 : Hid (∀ g w', Es w' g [bad, rngE h 1 16] → Calls Tryz.prog 18 #[.slice (some ⟨g, 0, none⟩) 2 2] w' (RetSame (.int .i64 bad) w')) := Lib.hid fun g w' he => by
    have := l4first_any [bad, rngE h 1 16] 2 rfl (by decide) g w' he
    rwa [show fstN [bad, rngE h 1 16] = bad by simp [fstN, hbz]] at this
  have HON : Hid (∀ w', Calls Tryz.prog 19 #[.int .i64 (2 * (n : Int)), .int .i64 0, .int .i64 160] w' (RetSame (.int .i64 (rngE (2 * (n : Int)) 0 160)) w')) := Lib.hid fun w' => by
    have := r4Outside_any (2 * (n : Int)) 0 160 w'
    exact this
  obtain ⟨wz, hwz⟩ : ∃ wz, fstN [rngE (2 * (n : Int)) 0 160, rngE h 1 16] = wz := ⟨_, rfl⟩
  have hwzz : wz ≠ 0 := by rw [← hwz]; exact hQ
  have hw1z : (wz != 0) = true := by rw [bne_iff_ne]; exact hwzz
  have HF2 : Hid (∀ g w', Es w' g [rngE (2 * (n : Int)) 0 160, rngE h 1 16] → Calls Tryz.prog 18 #[.slice (some ⟨g, 0, none⟩) 2 2] w' (RetSame (.int .i64 wz) w')) := Lib.hid fun g w' he => by
    have := l4first_any [rngE (2 * (n : Int)) 0 160, rngE h 1 16] 2 rfl (by decide) g w' he
    rwa [hwz] at this
  have HZG : Hid (∀ w', Calls Tryz.prog 22 #[.int .i64 (2 * (n : Int)), .int .i64 h] w' (RetPost (.tuple #[.slice none 0 0, .int .i64 wz]) w')) := Lib.hid fun w' => Zigzag_bad _ _ _ w' (hwz) (by assumption)
  have HXX := Lib.hid hbad
  have HK := Lib.hid (And.intro hs hok)
  have HX := Lib.hid hx
  clear hZ hs hok hx hX hn1 hn24 hQ hbad
  try clear hwz
  generalize rngE h 1 16 = rh at *
  generalize rngE (2 * (n : Int)) 0 160 = rn at *
  go_enter Tryz.func3, Tryz.ntmps3
  go_wp2_with fail
  refine hR.mono ?_
  rintro e w1 ⟨v, rfl, hO, hb1⟩
  obtain ⟨A1, c1, rfl, hR1⟩ := Ents.of_own hO hl
  have HE : Hid (∀ w', Below w1.heap.size w1 w' → Ents w' w1.heap.size A1 n L) := Lib.hid fun w' hb => hR1.below hb (Nat.le_refl _)
  have HS : Hid (∀ w', Below w1.heap.size w1 w' → Calls Tryz.prog 10 #[.slice A1 n c1, .int .i64 24] w' (RetPost (.bool true) w')) := Lib.hid fun w' hb => by
    have := short_ents L n c1 24 A1 _ w' (hR1.below hb (Nat.le_refl _)) HK.out.1 (by omega)
    rwa [HX.out] at this
  have HRC : Hid (∀ w', Below w1.heap.size w1 w' → Calls Tryz.prog 11 #[.slice A1 n c1] w' (RetPost (.int .i64 bad) w')) := Lib.hid fun w' hb => by
    have := r4CheckEntrants_all L n c1 A1 _ w' (hR1.below hb (Nat.le_refl _)) (by omega) HK.out.2
    rwa [HXX.out] at this
  have ht1 := ht.grow hb1
  have HB1 := Lib.hid hb1
  have hsz1 := hb1.size
  clear hO hR1 hR ht hl hb1
  have hbb1 := Below.refl w1.heap.size w1
  go_wp2_with fail
  refine (aw _ ht1).mono ?_
  rintro e w2 ⟨rfl, hbn⟩
  have hbb2 := bstep hbb1 hbn
  clear hbn hbb1
  go_wp2_with fail
  refine (HS.out _ hbb2).mono ?_
  rintro e w3 ⟨rfl, hbn⟩
  have hbb3 := bstep hbb2 hbn
  clear hbn hbb2
  clear HS
  go_wp2_with fail
  refine (HRC.out _ hbb3).mono ?_
  rintro e w4 ⟨rfl, hbn⟩
  have hbb4 := bstep hbb3 hbn
  clear hbn hbb3
  clear HRC
  go_wp2_with fail
  refine (HSC.out _ (HB1.out.trans (hbb4.mono hsz1))).mono ?_
  rintro e w5 ⟨rfl, hbn⟩
  have hbb5 := bstep hbb4 hbn
  clear hbn hbb4
  clear HSC
  go_wp2_with fail
  refine (HOR.out _ (HB1.out.trans (hbb5.mono hsz1))).mono ?_
  rintro e w6 ⟨rfl, hbn⟩
  have hbb6 := bstep hbb5 hbn
  clear hbn hbb5
  clear HOR
  go_wp2_with fail
  refine (HHT.out _ (HB1.out.trans (hbb6.mono hsz1))).mono ?_
  rintro e w7 ⟨rfl, hbn⟩
  have hbb7 := bstep hbb6 hbn
  clear hbn hbb6 HHT
  go_wp2_with fail
  refine (l4list_bad bad (by first | assumption | decide) _).mono ?_
  rintro e w8 ⟨rfl, hbn⟩
  have hbc11 := bstep hbb7 hbn
  clear hbb7
  clear hbn
  go_wp2_with fail
  refine (HOH.out _).mono ?_
  rintro e w9 ⟨rfl, rfl⟩
  go_wp2_with fail
  refine (HF1.out _ _ (es2 _ _ _ _)).mono ?_
  rintro e w10 ⟨rfl, rfl⟩
  have hbc12 := balloc (.cells #[.int .i64 bad, .int .i64 (rh)] 3) hbc11
  clear hbc11
  generalize World.alloc _ _ = wq10 at *
  go_wp2_with fail
  refine (l4lists_bad bad (by first | assumption | decide) _).mono ?_
  rintro e w11 ⟨rfl, hbn⟩
  have hbc13 := bstep hbc12 hbn
  clear hbc12
  clear hbn
  go_wp2_with fail
  refine (HZG.out _).mono ?_
  rintro e w12 ⟨rfl, hbn⟩
  have hbc14 := bstep hbc13 hbn
  clear hbc13
  clear hbn
  go_wp2_with fail
  refine (HON.out _).mono ?_
  rintro e w13 ⟨rfl, rfl⟩
  go_wp2_with fail
  refine (HOH.out _).mono ?_
  rintro e w14 ⟨rfl, rfl⟩
  go_wp2_with fail
  refine (HF2.out _ _ (es2 _ _ _ _)).mono ?_
  rintro e w15 ⟨rfl, rfl⟩
  have hbc15 := balloc (.cells #[.int .i64 (rn), .int .i64 (rh)] 3) hbc14
  clear hbc14
  generalize World.alloc _ _ = wq15 at *
  go_wp2_with fail
  refine (l4lists_bad wz (by assumption) _).mono ?_
  rintro e w16 ⟨rfl, hbn⟩
  have hbc16 := bstep hbc15 hbn
  clear hbc15
  clear hbn
  have hfin := HB1.out.trans (hbc16.mono hsz1)
  clear hbc16 HB1
  go_wp2
  go_ret
  exact ⟨rfl, hfin⟩
set_option maxHeartbeats 4000000 in
theorem orders_2 (L : List Ent) (n cap : Nat) (A : Option Addr) (B : Nat) (key h : Int) (w : World) (ht : Tabs w) (hZ : Ents w B A n L) (hs : ∀ x ∈ L, x.ok ∧ x.kind.size ≤ maxLen ∧ x.reason.size ≤ maxLen) (hx : shortE L 24 = true) (hX : chkEnts L ≠ 0) (hQ : fstN [rngE (2 * (n : Int)) 0 160, rngE h 1 16] = 0) :
    Calls Tryz.prog 3 #[.slice A n cap, .int .i64 key, .int .i64 h] w (Yes w) := by
  have hl := hZ.1
  obtain ⟨hn1, hn24⟩ := short_len hx
  rw [hl] at hn1 hn24
  have hok : ∀ x ∈ L, x.ok := fun x q => (hs x q).1
  have hG := ht.1
  have hR := l4own_big L n cap A B w hZ (by omega)
  have hni : (n : Int) ≤ 164 := by omega
  obtain ⟨bad, hbad⟩ : ∃ bad, chkEnts L = bad := ⟨_, rfl⟩
  have hbz : bad ≠ 0 := by rw [← hbad]; exact hX
  have hb1z : (bad == 0) = false := by rw [beq_eq_false_iff_ne]; exact hbz
  have hb2z : (bad != 0) = true := by rw [bne_iff_ne]; exact hbz
  have hbb : (bad != bad) = false := by simp
  have HSC : Hid (∀ w', Below w.heap.size w w' → Calls Tryz.prog 12 #[.slice A n cap] w' (RetPost (.int .i64 bad) w')) := Lib.hid fun w' hb => by
    have := seedCheckEntrants_all L n cap A B w' (hZ.below hb hZ.2.1) (by omega) hok (Nat.le_trans hG hb.size)
    rw [hbad] at this
    exact this
  have HOR : Hid (∀ w', Below w.heap.size w w' → Calls Tryz.prog 13 #[.slice A n cap, .int .i64 key] w' (RetPost (.tuple #[.slice none 0 0, .int .i64 bad]) w')) := Lib.hid fun w' hb => by
    by_cases hd : drwE key n = 0
    · obtain ⟨k1, k2, k3⟩ := drw_ok hd
      obtain ⟨k, rfl⟩ : ∃ k : Nat, key = k := ⟨key.toNat, by omega⟩
      have := seedOrder_bad2 L n cap A B k w' (hZ.below hb hZ.2.1) (by omega) hok (Nat.le_trans hG hb.size) (by omega) (by omega) hX
      rw [hbad] at this
      exact this
    · have := seedOrder_bad1 L n cap A B key w' (hZ.below hb hZ.2.1) (by omega) hok (Nat.le_trans hG hb.size) hd
      rw [hbad, show fstN [bad, 3] = bad by simp [fstN, hbz]] at this
      exact this
  have hq2 := fst2z (fun q => q hQ)
  obtain ⟨q1, q2⟩ := rng_ok hq2.2
  obtain ⟨q3, q4⟩ := rng_ok hq2.1
  obtain ⟨m, rfl⟩ : ∃ m : Nat, h = m := ⟨h.toNat, by omega⟩
  have hm16 : m ≤ 16 := by omega
  have hm1 : 1 ≤ m := by omega
  have HHT : Hid (∀ w', Below w.heap.size w w' → Calls Tryz.prog 14 #[.slice A n cap, .int .i64 (m : Int), .int .i64 key] w' (RetPost (.tuple #[.slice none 0 0, .int .i64 bad]) w')) := Lib.hid fun w' hb => by
    refine seedHeats_bad L n cap A B (m : Int) key bad w' (hZ.below hb hZ.2.1) (by omega) hok (Nat.le_trans hG hb.size) ?_ (by first | assumption | decide)
    unfold htsE
    rw [hbad, show fstN [bad, rngE (m : Int) 1 16] = bad by simp [fstN, hbz], if_pos hbz]
  have HOH : Hid (∀ w', Calls Tryz.prog 19 #[.int .i64 (m : Int), .int .i64 1, .int .i64 16] w' (RetSame (.int .i64 (0)) w')) := Lib.hid fun w' => by
    have := r4Outside_any (m : Int) 1 16 w'
    rwa [hq2.2] at this
  have HF1 : Hid (∀ g w', Es w' g [bad, 0] → Calls Tryz.prog 18 #[.slice (some ⟨g, 0, none⟩) 2 2] w' (RetSame (.int .i64 bad) w')) := Lib.hid fun g w' he => by
    have := l4first_any [bad, 0] 2 rfl (by decide) g w' he
    rwa [show fstN [bad, 0] = bad by simp [fstN, hbz]] at this
  have HON : Hid (∀ w', Calls Tryz.prog 19 #[.int .i64 (2 * (n : Int)), .int .i64 0, .int .i64 160] w' (RetSame (.int .i64 (0)) w')) := Lib.hid fun w' => by
    have := r4Outside_any (2 * (n : Int)) 0 160 w'
    rwa [hq2.1] at this
  have HF2 : Hid (∀ g w', Es w' g [0, 0] → Calls Tryz.prog 18 #[.slice (some ⟨g, 0, none⟩) 2 2] w' (RetSame (.int .i64 0) w')) := Lib.hid fun g w' he => by
    have := l4first_any [0, 0] 2 rfl (by decide) g w' he
    exact this
  have HZG : Hid (∀ w', Calls Tryz.prog 22 #[.int .i64 (2 * (n : Int)), .int .i64 (m : Int)] w' (Zigged m (2 * n) w')) := Lib.hid fun w' => by
    have := Zigzag_any (2 * n) m w' (by omega) hm1 hm16
    rwa [show ((2 * n : Nat) : Int) = 2 * (n : Int) by omega] at this
  have HRZ : Hid (∀ w', Calls Tryz.prog 23 #[.int .i64 (2 * (n : Int)), .int .i64 (m : Int)] w' (ZiggedR m (2 * n) w')) := Lib.hid fun w' => by
    have := r4Zigzag_any (2 * n) m w' (by omega) hm1 hm16
    rwa [show ((2 * n : Nat) : Int) = 2 * (n : Int) by omega] at this
  have HZL := Lib.hid (rowsL_len (rowsZ m (2 * n)) m 200 (fun i hi => by have := rowsZ_len m (2 * n) i hm1 hi; omega))
  unfold Zigged at HZG
  unfold ZiggedR at HRZ
  have HXX := Lib.hid hbad
  have HK := Lib.hid (And.intro hs hok)
  have HX := Lib.hid hx
  clear hZ hs hok hx hX hn1 hn24 hQ hbad
  try clear hq2
  go_enter Tryz.func3, Tryz.ntmps3
  go_wp2_with fail
  refine hR.mono ?_
  rintro e w1 ⟨v, rfl, hO, hb1⟩
  obtain ⟨A1, c1, rfl, hR1⟩ := Ents.of_own hO hl
  have HE : Hid (∀ w', Below w1.heap.size w1 w' → Ents w' w1.heap.size A1 n L) := Lib.hid fun w' hb => hR1.below hb (Nat.le_refl _)
  have HS : Hid (∀ w', Below w1.heap.size w1 w' → Calls Tryz.prog 10 #[.slice A1 n c1, .int .i64 24] w' (RetPost (.bool true) w')) := Lib.hid fun w' hb => by
    have := short_ents L n c1 24 A1 _ w' (hR1.below hb (Nat.le_refl _)) HK.out.1 (by omega)
    rwa [HX.out] at this
  have HRC : Hid (∀ w', Below w1.heap.size w1 w' → Calls Tryz.prog 11 #[.slice A1 n c1] w' (RetPost (.int .i64 bad) w')) := Lib.hid fun w' hb => by
    have := r4CheckEntrants_all L n c1 A1 _ w' (hR1.below hb (Nat.le_refl _)) (by omega) HK.out.2
    rwa [HXX.out] at this
  have ht1 := ht.grow hb1
  have HB1 := Lib.hid hb1
  have hsz1 := hb1.size
  clear hO hR1 hR ht hl hb1
  have hbb1 := Below.refl w1.heap.size w1
  go_wp2_with fail
  refine (aw _ ht1).mono ?_
  rintro e w2 ⟨rfl, hbn⟩
  have hbb2 := bstep hbb1 hbn
  clear hbn hbb1
  go_wp2_with fail
  refine (HS.out _ hbb2).mono ?_
  rintro e w3 ⟨rfl, hbn⟩
  have hbb3 := bstep hbb2 hbn
  clear hbn hbb2
  clear HS
  go_wp2_with fail
  refine (HRC.out _ hbb3).mono ?_
  rintro e w4 ⟨rfl, hbn⟩
  have hbb4 := bstep hbb3 hbn
  clear hbn hbb3
  clear HRC
  go_wp2_with fail
  refine (HSC.out _ (HB1.out.trans (hbb4.mono hsz1))).mono ?_
  rintro e w5 ⟨rfl, hbn⟩
  have hbb5 := bstep hbb4 hbn
  clear hbn hbb4
  clear HSC
  go_wp2_with fail
  refine (HOR.out _ (HB1.out.trans (hbb5.mono hsz1))).mono ?_
  rintro e w6 ⟨rfl, hbn⟩
  have hbb6 := bstep hbb5 hbn
  clear hbn hbb5
  clear HOR
  go_wp2_with fail
  refine (HHT.out _ (HB1.out.trans (hbb6.mono hsz1))).mono ?_
  rintro e w7 ⟨rfl, hbn⟩
  have hbb7 := bstep hbb6 hbn
  clear hbn hbb6 HHT
  go_wp2_with fail
  refine (l4list_bad bad (by first | assumption | decide) _).mono ?_
  rintro e w8 ⟨rfl, hbn⟩
  have hbc11 := bstep hbb7 hbn
  clear hbb7
  clear hbn
  go_wp2_with fail
  refine (HOH.out _).mono ?_
  rintro e w9 ⟨rfl, rfl⟩
  go_wp2_with fail
  refine (HF1.out _ _ (es2 _ _ _ _)).mono ?_
  rintro e w10 ⟨rfl, rfl⟩
  have hbc12 := balloc (.cells #[.int .i64 bad, .int .i64 (0)] 3) hbc11
  clear hbc11
  generalize World.alloc _ _ = wq10 at *
  go_wp2_with fail
  refine (l4lists_bad bad (by first | assumption | decide) _).mono ?_
  rintro e w11 ⟨rfl, hbn⟩
  have hbc13 := bstep hbc12 hbn
  clear hbc12
  clear hbn
  go_wp2_with fail
  refine (HZG.out _).mono ?_
  rintro e w12 ⟨gZ, rfl, hrZ, hbn⟩
  have HZR := Lib.hid hrZ.rowsZ
  have hbc14 := bstep hbc13 hbn
  clear hbn hbc13 hrZ
  have HBZ := Lib.hid (Below.refl w12.heap.size w12)
  go_wp2_with fail
  refine (HON.out _).mono ?_
  rintro e w13 ⟨rfl, rfl⟩
  go_wp2_with fail
  refine (HOH.out _).mono ?_
  rintro e w14 ⟨rfl, rfl⟩
  go_wp2_with fail
  refine (HF2.out _ _ (es2 _ _ _ _)).mono ?_
  rintro e w15 ⟨rfl, rfl⟩
  have hbc15 := balloc (.cells #[.int .i64 (0), .int .i64 (0)] 3) hbc14
  clear hbc14
  have HBC16 := Lib.hid (balloc (.cells #[.int .i64 (0), .int .i64 (0)] 3) HBZ.out)
  clear HBZ
  generalize World.alloc _ _ = wq15 at *
  go_wp2_with fail
  refine (HRZ.out _).mono ?_
  rintro e w16 ⟨gS, rfl, hrS, hbn⟩
  have hIS := hrS.rowsZ
  have hbc17 := bstep hbc15 hbn
  clear hbc15
  have HBC18 := Lib.hid (bstep HBC16.out hbn)
  clear HBC16
  have hLZ := l4lists_ok (rowsL (rowsZ m (2 * n)) m) (some ⟨gZ, 0, none⟩) (some ⟨gS, 0, none⟩) m m m w16 (by omega) (fun l hl => by have := HZL.out l hl; omega) (HZR.out.below HBC18.out) hIS
  clear hbn hrS hIS HZR HBC18
  go_wp2_with fail
  refine hLZ.mono ?_
  rintro e w17 ⟨rfl, hbn⟩
  have hbc19 := bstep hbc17 hbn
  clear hbc17
  clear hbn
  have hfin := HB1.out.trans (hbc19.mono hsz1)
  clear hbc19 HB1
  go_wp2
  go_ret
  exact ⟨rfl, hfin⟩
set_option maxHeartbeats 4000000 in
theorem orders_3 (L : List Ent) (n cap : Nat) (A : Option Addr) (B : Nat) (key h : Int) (w : World) (ht : Tabs w) (hZ : Ents w B A n L) (hs : ∀ x ∈ L, x.ok ∧ x.kind.size ≤ maxLen ∧ x.reason.size ≤ maxLen) (hx : shortE L 24 = true) (hX : chkEnts L = 0) (hD : drwE key n ≠ 0) (hH : rngE h 1 16 ≠ 0) :
    Calls Tryz.prog 3 #[.slice A n cap, .int .i64 key, .int .i64 h] w (Yes w) := by
  have hl := hZ.1
  obtain ⟨hn1, hn24⟩ := short_len hx
  rw [hl] at hn1 hn24
  have hok : ∀ x ∈ L, x.ok := fun x q => (hs x q).1
  have hG := ht.1
  have hR := l4own_big L n cap A B w hZ (by omega)
  have hni : (n : Int) ≤ 164 := by omega
  have hn4 : n ≤ 24 := by have := (chkEnts_zero hX).1; rw [hl] at this; omega
  have hni4 : (n : Int) ≤ 24 := by omega
  have HSC : Hid (∀ w', Below w.heap.size w w' → Calls Tryz.prog 12 #[.slice A n cap] w' (RetPost (.int .i64 0) w')) := Lib.hid fun w' hb => by
    have := seedCheckEntrants_all L n cap A B w' (hZ.below hb hZ.2.1) (by omega) hok (Nat.le_trans hG hb.size)
    rw [hX] at this
    exact this
  have HOR : Hid (∀ w', Below w.heap.size w w' → Calls Tryz.prog 13 #[.slice A n cap, .int .i64 key] w' (RetPost (.tuple #[.slice none 0 0, .int .i64 3]) w')) := Lib.hid fun w' hb => by
    have := seedOrder_bad1 L n cap A B key w' (hZ.below hb hZ.2.1) (by omega) hok (Nat.le_trans hG hb.size) hD
    rw [hX] at this
    exact this
  obtain ⟨hh, hhe⟩ : ∃ hh, rngE h 1 16 = hh := ⟨_, rfl⟩
  have hhz : hh ≠ 0 := by rw [← hhe]; exact hH
  have hh1z : (hh == 0) = false := by rw [beq_eq_false_iff_ne]; exact hhz
  have hh2z : (hh != 0) = true := by rw [bne_iff_ne]; exact hhz
  have HHT : Hid (∀ w', Below w.heap.size w w' → Calls Tryz.prog 14 #[.slice A n cap, .int .i64 h, .int .i64 key] w' (RetPost (.tuple #[.slice none 0 0, .int .i64 hh]) w')) := Lib.hid fun w' hb => by
    refine seedHeats_bad L n cap A B h key hh w' (hZ.below hb hZ.2.1) (by omega) hok (Nat.le_trans hG hb.size) ?_ (by first | assumption | decide)
    unfold htsE
    rw [hX, hhe, fst0 hh, if_pos hhz]
  have HDR : Hid (∀ w', Calls Tryz.prog 15 #[.int .i64 key, .int .i64 (n : Int)] w' (RetPost (.int .i64 3) w')) := Lib.hid fun w' => by
    have := refCheckDraw_all key n w'
    rwa [drw3 hD] at this
  have HOH : Hid (∀ w', Calls Tryz.prog 19 #[.int .i64 h, .int .i64 1, .int .i64 16] w' (RetSame (.int .i64 (hh)) w')) := Lib.hid fun w' => by
    have := r4Outside_any h 1 16 w'
    rwa [hhe] at this
  have HF1 : Hid (∀ g w', Es w' g [0, hh] → Calls Tryz.prog 18 #[.slice (some ⟨g, 0, none⟩) 2 2] w' (RetSame (.int .i64 hh) w')) := Lib.hid fun g w' he => by
    have := l4first_any [0, hh] 2 rfl (by decide) g w' he
    rwa [fst0 hh] at this
  have hrn : rngE (2 * (n : Int)) 0 160 = 0 := by unfold rngE; rw [if_neg (by omega)]
  have HON : Hid (∀ w', Calls Tryz.prog 19 #[.int .i64 (2 * (n : Int)), .int .i64 0, .int .i64 160] w' (RetSame (.int .i64 (0)) w')) := Lib.hid fun w' => by
    have := r4Outside_any (2 * (n : Int)) 0 160 w'
    rwa [hrn] at this
  have HF2 : Hid (∀ g w', Es w' g [0, hh] → Calls Tryz.prog 18 #[.slice (some ⟨g, 0, none⟩) 2 2] w' (RetSame (.int .i64 hh) w')) := Lib.hid fun g w' he => by
    have := l4first_any [0, hh] 2 rfl (by decide) g w' he
    rwa [fst0 hh] at this
  have HZG : Hid (∀ w', Calls Tryz.prog 22 #[.int .i64 (2 * (n : Int)), .int .i64 h] w' (RetPost (.tuple #[.slice none 0 0, .int .i64 hh]) w')) := Lib.hid fun w' => Zigzag_bad _ _ _ w' (by rw [hrn, hhe]; exact fst0 hh) (by assumption)
  have HXX := Lib.hid hX
  have HK := Lib.hid (And.intro hs hok)
  have HX := Lib.hid hx
  clear hZ hs hok hx hX hn1 hn24 hD hH hrn
  go_enter Tryz.func3, Tryz.ntmps3
  go_wp2_with fail
  refine hR.mono ?_
  rintro e w1 ⟨v, rfl, hO, hb1⟩
  obtain ⟨A1, c1, rfl, hR1⟩ := Ents.of_own hO hl
  have HE : Hid (∀ w', Below w1.heap.size w1 w' → Ents w' w1.heap.size A1 n L) := Lib.hid fun w' hb => hR1.below hb (Nat.le_refl _)
  have HS : Hid (∀ w', Below w1.heap.size w1 w' → Calls Tryz.prog 10 #[.slice A1 n c1, .int .i64 24] w' (RetPost (.bool true) w')) := Lib.hid fun w' hb => by
    have := short_ents L n c1 24 A1 _ w' (hR1.below hb (Nat.le_refl _)) HK.out.1 (by omega)
    rwa [HX.out] at this
  have HRC : Hid (∀ w', Below w1.heap.size w1 w' → Calls Tryz.prog 11 #[.slice A1 n c1] w' (RetPost (.int .i64 0) w')) := Lib.hid fun w' hb => by
    have := r4CheckEntrants_all L n c1 A1 _ w' (hR1.below hb (Nat.le_refl _)) (by omega) HK.out.2
    rwa [HXX.out] at this
  have ht1 := ht.grow hb1
  have HB1 := Lib.hid hb1
  have hsz1 := hb1.size
  clear hO hR1 hR ht hl hb1
  have hbb1 := Below.refl w1.heap.size w1
  go_wp2_with fail
  refine (aw _ ht1).mono ?_
  rintro e w2 ⟨rfl, hbn⟩
  have hbb2 := bstep hbb1 hbn
  clear hbn hbb1
  go_wp2_with fail
  refine (HS.out _ hbb2).mono ?_
  rintro e w3 ⟨rfl, hbn⟩
  have hbb3 := bstep hbb2 hbn
  clear hbn hbb2
  clear HS
  go_wp2_with fail
  refine (HRC.out _ hbb3).mono ?_
  rintro e w4 ⟨rfl, hbn⟩
  have hbb4 := bstep hbb3 hbn
  clear hbn hbb3
  clear HRC
  go_wp2_with fail
  refine (HSC.out _ (HB1.out.trans (hbb4.mono hsz1))).mono ?_
  rintro e w5 ⟨rfl, hbn⟩
  have hbb5 := bstep hbb4 hbn
  clear hbn hbb4
  clear HSC
  go_wp2_with fail
  refine (HOR.out _ (HB1.out.trans (hbb5.mono hsz1))).mono ?_
  rintro e w6 ⟨rfl, hbn⟩
  have hbb6 := bstep hbb5 hbn
  clear hbn hbb5
  clear HOR
  go_wp2_with fail
  refine (HHT.out _ (HB1.out.trans (hbb6.mono hsz1))).mono ?_
  rintro e w7 ⟨rfl, hbn⟩
  have hbb7 := bstep hbb6 hbn
  clear hbn hbb6 HHT
  go_wp2_with fail
  refine (HDR.out _).mono ?_
  rintro e w8 ⟨rfl, hbn⟩
  have hbc11 := bstep hbb7 hbn
  clear hbb7
  clear hbn
  go_wp2_with fail
  refine (l4list_bad 3 (by first | assumption | decide) _).mono ?_
  rintro e w9 ⟨rfl, hbn⟩
  have hbc12 := bstep hbc11 hbn
  clear hbc11
  clear hbn
  go_wp2_with fail
  refine (HOH.out _).mono ?_
  rintro e w10 ⟨rfl, rfl⟩
  go_wp2_with fail
  refine (HF1.out _ _ (es2 _ _ _ _)).mono ?_
  rintro e w11 ⟨rfl, rfl⟩
  have hbc13 := balloc (.cells #[.int .i64 0, .int .i64 (hh)] 3) hbc12
  clear hbc12
  generalize World.alloc _ _ = wq11 at *
  go_wp2_with fail
  refine (l4lists_bad hh (by first | assumption | decide) _).mono ?_
  rintro e w12 ⟨rfl, hbn⟩
  have hbc14 := bstep hbc13 hbn
  clear hbc13
  clear hbn
  go_wp2_with fail
  refine (HZG.out _).mono ?_
  rintro e w13 ⟨rfl, hbn⟩
  have hbc15 := bstep hbc14 hbn
  clear hbc14
  clear hbn
  go_wp2_with fail
  refine (HON.out _).mono ?_
  rintro e w14 ⟨rfl, rfl⟩
  go_wp2_with fail
  refine (HOH.out _).mono ?_
  rintro e w15 ⟨rfl, rfl⟩
  go_wp2_with fail
  refine (HF2.out _ _ (es2 _ _ _ _)).mono ?_
  rintro e w16 ⟨rfl, rfl⟩
  have hbc16 := balloc (.cells #[.int .i64 (0), .int .i64 (hh)] 3) hbc15
  clear hbc15
  generalize World.alloc _ _ = wq16 at *
  go_wp2_with fail
  refine (l4lists_bad hh (by assumption) _).mono ?_
  rintro e w17 ⟨rfl, hbn⟩
  have hbc17 := bstep hbc16 hbn
  clear hbc16
  clear hbn
  have hfin := HB1.out.trans (hbc17.mono hsz1)
  clear hbc17 HB1
  go_wp2
  go_ret
  exact ⟨rfl, hfin⟩
set_option maxHeartbeats 4000000 in
theorem orders_4 (L : List Ent) (n cap : Nat) (A : Option Addr) (B : Nat) (key h : Int) (w : World) (ht : Tabs w) (hZ : Ents w B A n L) (hs : ∀ x ∈ L, x.ok ∧ x.kind.size ≤ maxLen ∧ x.reason.size ≤ maxLen) (hx : shortE L 24 = true) (hX : chkEnts L = 0) (hD : drwE key n ≠ 0) (hH : rngE h 1 16 = 0) :
    Calls Tryz.prog 3 #[.slice A n cap, .int .i64 key, .int .i64 h] w (Yes w) := by
  have hl := hZ.1
  obtain ⟨hn1, hn24⟩ := short_len hx
  rw [hl] at hn1 hn24
  have hok : ∀ x ∈ L, x.ok := fun x q => (hs x q).1
  have hG := ht.1
  have hR := l4own_big L n cap A B w hZ (by omega)
  have hni : (n : Int) ≤ 164 := by omega
  have hn4 : n ≤ 24 := by have := (chkEnts_zero hX).1; rw [hl] at this; omega
  have hni4 : (n : Int) ≤ 24 := by omega
  have HSC : Hid (∀ w', Below w.heap.size w w' → Calls Tryz.prog 12 #[.slice A n cap] w' (RetPost (.int .i64 0) w')) := Lib.hid fun w' hb => by
    have := seedCheckEntrants_all L n cap A B w' (hZ.below hb hZ.2.1) (by omega) hok (Nat.le_trans hG hb.size)
    rw [hX] at this
    exact this
  have HOR : Hid (∀ w', Below w.heap.size w w' → Calls Tryz.prog 13 #[.slice A n cap, .int .i64 key] w' (RetPost (.tuple #[.slice none 0 0, .int .i64 3]) w')) := Lib.hid fun w' hb => by
    have := seedOrder_bad1 L n cap A B key w' (hZ.below hb hZ.2.1) (by omega) hok (Nat.le_trans hG hb.size) hD
    rw [hX] at this
    exact this
  obtain ⟨q1, q2⟩ := rng_ok hH
  obtain ⟨m, rfl⟩ : ∃ m : Nat, h = m := ⟨h.toNat, by omega⟩
  have hm16 : m ≤ 16 := by omega
  have hm1 : 1 ≤ m := by omega
  have HHT : Hid (∀ w', Below w.heap.size w w' → Calls Tryz.prog 14 #[.slice A n cap, .int .i64 (m : Int), .int .i64 key] w' (RetPost (.tuple #[.slice none 0 0, .int .i64 3]) w')) := Lib.hid fun w' hb => by
    refine seedHeats_bad L n cap A B (m : Int) key 3 w' (hZ.below hb hZ.2.1) (by omega) hok (Nat.le_trans hG hb.size) ?_ (by first | assumption | decide)
    unfold htsE
    rw [hX, hH, show fstN [0, 0] = 0 from rfl, if_neg (by simp), hl]; exact drw3 hD
  have HDR : Hid (∀ w', Calls Tryz.prog 15 #[.int .i64 key, .int .i64 (n : Int)] w' (RetPost (.int .i64 3) w')) := Lib.hid fun w' => by
    have := refCheckDraw_all key n w'
    rwa [drw3 hD] at this
  have HOH : Hid (∀ w', Calls Tryz.prog 19 #[.int .i64 (m : Int), .int .i64 1, .int .i64 16] w' (RetSame (.int .i64 (0)) w')) := Lib.hid fun w' => by
    have := r4Outside_any (m : Int) 1 16 w'
    rwa [hH] at this
  have HF1 : Hid (∀ g w', Es w' g [0, 0] → Calls Tryz.prog 18 #[.slice (some ⟨g, 0, none⟩) 2 2] w' (RetSame (.int .i64 0) w')) := Lib.hid fun g w' he => by
    have := l4first_any [0, 0] 2 rfl (by decide) g w' he
    exact this
  have hrn : rngE (2 * (n : Int)) 0 160 = 0 := by unfold rngE; rw [if_neg (by omega)]
  have HON : Hid (∀ w', Calls Tryz.prog 19 #[.int .i64 (2 * (n : Int)), .int .i64 0, .int .i64 160] w' (RetSame (.int .i64 (0)) w')) := Lib.hid fun w' => by
    have := r4Outside_any (2 * (n : Int)) 0 160 w'
    rwa [hrn] at this
  have HF2 : Hid (∀ g w', Es w' g [0, 0] → Calls Tryz.prog 18 #[.slice (some ⟨g, 0, none⟩) 2 2] w' (RetSame (.int .i64 0) w')) := Lib.hid fun g w' he => by
    have := l4first_any [0, 0] 2 rfl (by decide) g w' he
    exact this
  have HZG : Hid (∀ w', Calls Tryz.prog 22 #[.int .i64 (2 * (n : Int)), .int .i64 (m : Int)] w' (Zigged m (2 * n) w')) := Lib.hid fun w' => by
    have := Zigzag_any (2 * n) m w' (by omega) hm1 hm16
    rwa [show ((2 * n : Nat) : Int) = 2 * (n : Int) by omega] at this
  have HRZ : Hid (∀ w', Calls Tryz.prog 23 #[.int .i64 (2 * (n : Int)), .int .i64 (m : Int)] w' (ZiggedR m (2 * n) w')) := Lib.hid fun w' => by
    have := r4Zigzag_any (2 * n) m w' (by omega) hm1 hm16
    rwa [show ((2 * n : Nat) : Int) = 2 * (n : Int) by omega] at this
  have HZL := Lib.hid (rowsL_len (rowsZ m (2 * n)) m 200 (fun i hi => by have := rowsZ_len m (2 * n) i hm1 hi; omega))
  unfold Zigged at HZG
  unfold ZiggedR at HRZ
  have HXX := Lib.hid hX
  have HK := Lib.hid (And.intro hs hok)
  have HX := Lib.hid hx
  clear hZ hs hok hx hX hn1 hn24 hD hH hrn
  go_enter Tryz.func3, Tryz.ntmps3
  go_wp2_with fail
  refine hR.mono ?_
  rintro e w1 ⟨v, rfl, hO, hb1⟩
  obtain ⟨A1, c1, rfl, hR1⟩ := Ents.of_own hO hl
  have HE : Hid (∀ w', Below w1.heap.size w1 w' → Ents w' w1.heap.size A1 n L) := Lib.hid fun w' hb => hR1.below hb (Nat.le_refl _)
  have HS : Hid (∀ w', Below w1.heap.size w1 w' → Calls Tryz.prog 10 #[.slice A1 n c1, .int .i64 24] w' (RetPost (.bool true) w')) := Lib.hid fun w' hb => by
    have := short_ents L n c1 24 A1 _ w' (hR1.below hb (Nat.le_refl _)) HK.out.1 (by omega)
    rwa [HX.out] at this
  have HRC : Hid (∀ w', Below w1.heap.size w1 w' → Calls Tryz.prog 11 #[.slice A1 n c1] w' (RetPost (.int .i64 0) w')) := Lib.hid fun w' hb => by
    have := r4CheckEntrants_all L n c1 A1 _ w' (hR1.below hb (Nat.le_refl _)) (by omega) HK.out.2
    rwa [HXX.out] at this
  have ht1 := ht.grow hb1
  have HB1 := Lib.hid hb1
  have hsz1 := hb1.size
  clear hO hR1 hR ht hl hb1
  have hbb1 := Below.refl w1.heap.size w1
  go_wp2_with fail
  refine (aw _ ht1).mono ?_
  rintro e w2 ⟨rfl, hbn⟩
  have hbb2 := bstep hbb1 hbn
  clear hbn hbb1
  go_wp2_with fail
  refine (HS.out _ hbb2).mono ?_
  rintro e w3 ⟨rfl, hbn⟩
  have hbb3 := bstep hbb2 hbn
  clear hbn hbb2
  clear HS
  go_wp2_with fail
  refine (HRC.out _ hbb3).mono ?_
  rintro e w4 ⟨rfl, hbn⟩
  have hbb4 := bstep hbb3 hbn
  clear hbn hbb3
  clear HRC
  go_wp2_with fail
  refine (HSC.out _ (HB1.out.trans (hbb4.mono hsz1))).mono ?_
  rintro e w5 ⟨rfl, hbn⟩
  have hbb5 := bstep hbb4 hbn
  clear hbn hbb4
  clear HSC
  go_wp2_with fail
  refine (HOR.out _ (HB1.out.trans (hbb5.mono hsz1))).mono ?_
  rintro e w6 ⟨rfl, hbn⟩
  have hbb6 := bstep hbb5 hbn
  clear hbn hbb5
  clear HOR
  go_wp2_with fail
  refine (HHT.out _ (HB1.out.trans (hbb6.mono hsz1))).mono ?_
  rintro e w7 ⟨rfl, hbn⟩
  have hbb7 := bstep hbb6 hbn
  clear hbn hbb6 HHT
  go_wp2_with fail
  refine (HDR.out _).mono ?_
  rintro e w8 ⟨rfl, hbn⟩
  have hbc11 := bstep hbb7 hbn
  clear hbb7
  clear hbn
  go_wp2_with fail
  refine (l4list_bad 3 (by first | assumption | decide) _).mono ?_
  rintro e w9 ⟨rfl, hbn⟩
  have hbc12 := bstep hbc11 hbn
  clear hbc11
  clear hbn
  go_wp2_with fail
  refine (HOH.out _).mono ?_
  rintro e w10 ⟨rfl, rfl⟩
  go_wp2_with fail
  refine (HF1.out _ _ (es2 _ _ _ _)).mono ?_
  rintro e w11 ⟨rfl, rfl⟩
  have hbc13 := balloc (.cells #[.int .i64 0, .int .i64 (0)] 3) hbc12
  clear hbc12
  generalize World.alloc _ _ = wq11 at *
  go_wp2_with fail
  refine (HDR.out _).mono ?_
  rintro e w12 ⟨rfl, hbn⟩
  have hbc14 := bstep hbc13 hbn
  clear hbc13
  clear hbn
  go_wp2_with fail
  refine (l4lists_bad 3 (by first | assumption | decide) _).mono ?_
  rintro e w13 ⟨rfl, hbn⟩
  have hbc15 := bstep hbc14 hbn
  clear hbc14
  clear hbn
  go_wp2_with fail
  refine (HZG.out _).mono ?_
  rintro e w14 ⟨gZ, rfl, hrZ, hbn⟩
  have HZR := Lib.hid hrZ.rowsZ
  have hbc16 := bstep hbc15 hbn
  clear hbn hbc15 hrZ
  have HBZ := Lib.hid (Below.refl w14.heap.size w14)
  go_wp2_with fail
  refine (HON.out _).mono ?_
  rintro e w15 ⟨rfl, rfl⟩
  go_wp2_with fail
  refine (HOH.out _).mono ?_
  rintro e w16 ⟨rfl, rfl⟩
  go_wp2_with fail
  refine (HF2.out _ _ (es2 _ _ _ _)).mono ?_
  rintro e w17 ⟨rfl, rfl⟩
  have hbc17 := balloc (.cells #[.int .i64 (0), .int .i64 (0)] 3) hbc16
  clear hbc16
  have HBC18 := Lib.hid (balloc (.cells #[.int .i64 (0), .int .i64 (0)] 3) HBZ.out)
  clear HBZ
  generalize World.alloc _ _ = wq17 at *
  go_wp2_with fail
  refine (HRZ.out _).mono ?_
  rintro e w18 ⟨gS, rfl, hrS, hbn⟩
  have hIS := hrS.rowsZ
  have hbc19 := bstep hbc17 hbn
  clear hbc17
  have HBC20 := Lib.hid (bstep HBC18.out hbn)
  clear HBC18
  have hLZ := l4lists_ok (rowsL (rowsZ m (2 * n)) m) (some ⟨gZ, 0, none⟩) (some ⟨gS, 0, none⟩) m m m w18 (by omega) (fun l hl => by have := HZL.out l hl; omega) (HZR.out.below HBC20.out) hIS
  clear hbn hrS hIS HZR HBC20
  go_wp2_with fail
  refine hLZ.mono ?_
  rintro e w19 ⟨rfl, hbn⟩
  have hbc21 := bstep hbc19 hbn
  clear hbc19
  clear hbn
  have hfin := HB1.out.trans (hbc21.mono hsz1)
  clear hbc21 HB1
  go_wp2
  go_ret
  exact ⟨rfl, hfin⟩
set_option maxHeartbeats 4000000 in
theorem orders_5 (L : List Ent) (n cap : Nat) (A : Option Addr) (B : Nat) (key h : Int) (w : World) (ht : Tabs w) (hZ : Ents w B A n L) (hs : ∀ x ∈ L, x.ok ∧ x.kind.size ≤ maxLen ∧ x.reason.size ≤ maxLen) (hx : shortE L 24 = true) (hX : chkEnts L = 0) (hD : drwE key n = 0) (hH : rngE h 1 16 ≠ 0) :
    Calls Tryz.prog 3 #[.slice A n cap, .int .i64 key, .int .i64 h] w (Yes w) := by
  have hl := hZ.1
  obtain ⟨hn1, hn24⟩ := short_len hx
  rw [hl] at hn1 hn24
  have hok : ∀ x ∈ L, x.ok := fun x q => (hs x q).1
  have hG := ht.1
  have hR := l4own_big L n cap A B w hZ (by omega)
  have hni : (n : Int) ≤ 164 := by omega
  have hn4 : n ≤ 24 := by have := (chkEnts_zero hX).1; rw [hl] at this; omega
  have hni4 : (n : Int) ≤ 24 := by omega
  have HSC : Hid (∀ w', Below w.heap.size w w' → Calls Tryz.prog 12 #[.slice A n cap] w' (RetPost (.int .i64 0) w')) := Lib.hid fun w' hb => by
    have := seedCheckEntrants_all L n cap A B w' (hZ.below hb hZ.2.1) (by omega) hok (Nat.le_trans hG hb.size)
    rw [hX] at this
    exact this
  obtain ⟨k1, k2, k3⟩ := drw_ok hD
  obtain ⟨k, rfl⟩ : ∃ k : Nat, key = k := ⟨key.toNat, by omega⟩
  have HOR : Hid (∀ w', Below w.heap.size w w' → Calls Tryz.prog 13 #[.slice A n cap, .int .i64 (k : Int)] w' (OrdPost L k n w')) := Lib.hid fun w' hb => by
    exact seedOrder_ok L n cap A B k w' (hZ.below hb hZ.2.1) (by omega) hok (Nat.le_trans hG hb.size) (by omega) (by omega) hX
  obtain ⟨hh, hhe⟩ : ∃ hh, rngE h 1 16 = hh := ⟨_, rfl⟩
  have hhz : hh ≠ 0 := by rw [← hhe]; exact hH
  have hh1z : (hh == 0) = false := by rw [beq_eq_false_iff_ne]; exact hhz
  have hh2z : (hh != 0) = true := by rw [bne_iff_ne]; exact hhz
  have HHT : Hid (∀ w', Below w.heap.size w w' → Calls Tryz.prog 14 #[.slice A n cap, .int .i64 h, .int .i64 (k : Int)] w' (RetPost (.tuple #[.slice none 0 0, .int .i64 hh]) w')) := Lib.hid fun w' hb => by
    refine seedHeats_bad L n cap A B h (k : Int) hh w' (hZ.below hb hZ.2.1) (by omega) hok (Nat.le_trans hG hb.size) ?_ (by first | assumption | decide)
    unfold htsE
    rw [hX, hhe, fst0 hh, if_pos hhz]
  have HDR : Hid (∀ w', Calls Tryz.prog 15 #[.int .i64 (k : Int), .int .i64 (n : Int)] w' (RetPost (.int .i64 0) w')) := Lib.hid fun w' => by
    have := refCheckDraw_all (k : Int) n w'
    rwa [hD] at this
  have HOH : Hid (∀ w', Calls Tryz.prog 19 #[.int .i64 h, .int .i64 1, .int .i64 16] w' (RetSame (.int .i64 (hh)) w')) := Lib.hid fun w' => by
    have := r4Outside_any h 1 16 w'
    rwa [hhe] at this
  have HF1 : Hid (∀ g w', Es w' g [0, hh] → Calls Tryz.prog 18 #[.slice (some ⟨g, 0, none⟩) 2 2] w' (RetSame (.int .i64 hh) w')) := Lib.hid fun g w' he => by
    have := l4first_any [0, hh] 2 rfl (by decide) g w' he
    rwa [fst0 hh] at this
  have hrn : rngE (2 * (n : Int)) 0 160 = 0 := by unfold rngE; rw [if_neg (by omega)]
  have HON : Hid (∀ w', Calls Tryz.prog 19 #[.int .i64 (2 * (n : Int)), .int .i64 0, .int .i64 160] w' (RetSame (.int .i64 (0)) w')) := Lib.hid fun w' => by
    have := r4Outside_any (2 * (n : Int)) 0 160 w'
    rwa [hrn] at this
  have HF2 : Hid (∀ g w', Es w' g [0, hh] → Calls Tryz.prog 18 #[.slice (some ⟨g, 0, none⟩) 2 2] w' (RetSame (.int .i64 hh) w')) := Lib.hid fun g w' he => by
    have := l4first_any [0, hh] 2 rfl (by decide) g w' he
    rwa [fst0 hh] at this
  have HZG : Hid (∀ w', Calls Tryz.prog 22 #[.int .i64 (2 * (n : Int)), .int .i64 h] w' (RetPost (.tuple #[.slice none 0 0, .int .i64 hh]) w')) := Lib.hid fun w' => Zigzag_bad _ _ _ w' (by rw [hrn, hhe]; exact fst0 hh) (by assumption)
  have HOL : Hid ((ordZ L k).length = n) := Lib.hid ((ordZ_len hX k).trans hl)
  have HRO : Hid (∀ (w' : World) (A1 : Option Addr) (c1 B1 : Nat), Ents w' B1 A1 n L → Calls Tryz.prog 16 #[.slice A1 n c1, .int .i64 (k : Int)] w' (ROrdPost (ordZ L k) w')) := Lib.hid fun w' A1 c1 B1 hE => r4Order_any L n c1 A1 B1 k w' hE (by omega) (by omega) (by omega) hX
  unfold OrdPost at HOR
  unfold ROrdPost at HRO
  generalize ordZ L k = O at *
  have HXX := Lib.hid hX
  have HK := Lib.hid (And.intro hs hok)
  have HX := Lib.hid hx
  clear hZ hs hok hx hX hn1 hn24 hD hH hrn
  go_enter Tryz.func3, Tryz.ntmps3
  go_wp2_with fail
  refine hR.mono ?_
  rintro e w1 ⟨v, rfl, hO, hb1⟩
  obtain ⟨A1, c1, rfl, hR1⟩ := Ents.of_own hO hl
  have HE : Hid (∀ w', Below w1.heap.size w1 w' → Ents w' w1.heap.size A1 n L) := Lib.hid fun w' hb => hR1.below hb (Nat.le_refl _)
  have HS : Hid (∀ w', Below w1.heap.size w1 w' → Calls Tryz.prog 10 #[.slice A1 n c1, .int .i64 24] w' (RetPost (.bool true) w')) := Lib.hid fun w' hb => by
    have := short_ents L n c1 24 A1 _ w' (hR1.below hb (Nat.le_refl _)) HK.out.1 (by omega)
    rwa [HX.out] at this
  have HRC : Hid (∀ w', Below w1.heap.size w1 w' → Calls Tryz.prog 11 #[.slice A1 n c1] w' (RetPost (.int .i64 0) w')) := Lib.hid fun w' hb => by
    have := r4CheckEntrants_all L n c1 A1 _ w' (hR1.below hb (Nat.le_refl _)) (by omega) HK.out.2
    rwa [HXX.out] at this
  have ht1 := ht.grow hb1
  have HB1 := Lib.hid hb1
  have hsz1 := hb1.size
  clear hO hR1 hR ht hl hb1
  have hbb1 := Below.refl w1.heap.size w1
  go_wp2_with fail
  refine (aw _ ht1).mono ?_
  rintro e w2 ⟨rfl, hbn⟩
  have hbb2 := bstep hbb1 hbn
  clear hbn hbb1
  go_wp2_with fail
  refine (HS.out _ hbb2).mono ?_
  rintro e w3 ⟨rfl, hbn⟩
  have hbb3 := bstep hbb2 hbn
  clear hbn hbb2
  clear HS
  go_wp2_with fail
  refine (HRC.out _ hbb3).mono ?_
  rintro e w4 ⟨rfl, hbn⟩
  have hbb4 := bstep hbb3 hbn
  clear hbn hbb3
  clear HRC
  go_wp2_with fail
  refine (HSC.out _ (HB1.out.trans (hbb4.mono hsz1))).mono ?_
  rintro e w5 ⟨rfl, hbn⟩
  have hbb5 := bstep hbb4 hbn
  clear hbn hbb4
  clear HSC
  go_wp2_with fail
  refine (HOR.out _ (HB1.out.trans (hbb5.mono hsz1))).mono ?_
  rintro e w6 ⟨gO, rfl, hrO, hbn⟩
  have hbb6 := bstep hbb5 hbn
  clear hbn hbb5
  have HRI := Lib.hid (RowZ.ints hrO)
  have HBO := Lib.hid (Below.refl w6.heap.size w6)
  clear hrO HOR
  go_wp2_with fail
  refine (HHT.out _ (HB1.out.trans (hbb6.mono hsz1))).mono ?_
  rintro e w7 ⟨rfl, hbn⟩
  have HBO2 := Lib.hid (bstep HBO.out hbn)
  clear HBO
  have hbb7 := bstep hbb6 hbn
  clear hbn hbb6 HHT
  go_wp2_with fail
  refine (HDR.out _).mono ?_
  rintro e w8 ⟨rfl, hbn⟩
  have hbc11 := bstep hbb7 hbn
  clear hbb7
  have HBC12 := Lib.hid (bstep HBO2.out hbn)
  clear HBO2
  clear hbn
  go_wp2_with fail
  refine (HRO.out _ A1 c1 _ (HE.out _ hbc11)).mono ?_
  rintro e w9 ⟨vO, rfl, hvO, hbn⟩
  obtain ⟨aO, cO, rfl⟩ := hvO.shape
  rw [HOL.out] at hvO ⊢
  have hIO := OwnZ.ints hvO HOL.out
  have hbc13 := bstep hbc11 hbn
  clear hbc11
  have HBC14 := Lib.hid (bstep HBC12.out hbn)
  clear HBC12
  have hLO := l4list_ok O (some ⟨gO, 0, none⟩) aO n n cO w9 (by omega) (HRI.out.below HBC14.out) hIO
  clear hbn hvO hIO HRI HBC14
  go_wp2_with fail
  refine hLO.mono ?_
  rintro e w10 ⟨rfl, hbn⟩
  have hbc15 := bstep hbc13 hbn
  clear hbc13
  clear hbn
  clear hLO
  go_wp2_with fail
  refine (HOH.out _).mono ?_
  rintro e w11 ⟨rfl, rfl⟩
  go_wp2_with fail
  refine (HF1.out _ _ (es2 _ _ _ _)).mono ?_
  rintro e w12 ⟨rfl, rfl⟩
  have hbc16 := balloc (.cells #[.int .i64 0, .int .i64 (hh)] 3) hbc15
  clear hbc15
  generalize World.alloc _ _ = wq12 at *
  go_wp2_with fail
  refine (l4lists_bad hh (by first | assumption | decide) _).mono ?_
  rintro e w13 ⟨rfl, hbn⟩
  have hbc17 := bstep hbc16 hbn
  clear hbc16
  clear hbn
  go_wp2_with fail
  refine (HZG.out _).mono ?_
  rintro e w14 ⟨rfl, hbn⟩
  have hbc18 := bstep hbc17 hbn
  clear hbc17
  clear hbn
  go_wp2_with fail
  refine (HON.out _).mono ?_
  rintro e w15 ⟨rfl, rfl⟩
  go_wp2_with fail
  refine (HOH.out _).mono ?_
  rintro e w16 ⟨rfl, rfl⟩
  go_wp2_with fail
  refine (HF2.out _ _ (es2 _ _ _ _)).mono ?_
  rintro e w17 ⟨rfl, rfl⟩
  have hbc19 := balloc (.cells #[.int .i64 (0), .int .i64 (hh)] 3) hbc18
  clear hbc18
  generalize World.alloc _ _ = wq17 at *
  go_wp2_with fail
  refine (l4lists_bad hh (by assumption) _).mono ?_
  rintro e w18 ⟨rfl, hbn⟩
  have hbc20 := bstep hbc19 hbn
  clear hbc19
  clear hbn
  have hfin := HB1.out.trans (hbc20.mono hsz1)
  clear hbc20 HB1
  go_wp2
  go_ret
  exact ⟨rfl, hfin⟩
set_option maxHeartbeats 4000000 in
theorem orders_6 (L : List Ent) (n cap : Nat) (A : Option Addr) (B : Nat) (key h : Int) (w : World) (ht : Tabs w) (hZ : Ents w B A n L) (hs : ∀ x ∈ L, x.ok ∧ x.kind.size ≤ maxLen ∧ x.reason.size ≤ maxLen) (hx : shortE L 24 = true) (hX : chkEnts L = 0) (hD : drwE key n = 0) (hH : rngE h 1 16 = 0) :
    Calls Tryz.prog 3 #[.slice A n cap, .int .i64 key, .int .i64 h] w (Yes w) := by
  have hl := hZ.1
  obtain ⟨hn1, hn24⟩ := short_len hx
  rw [hl] at hn1 hn24
  have hok : ∀ x ∈ L, x.ok := fun x q => (hs x q).1
  have hG := ht.1
  have hR := l4own_big L n cap A B w hZ (by omega)
  have hni : (n : Int) ≤ 164 := by omega
  have hn4 : n ≤ 24 := by have := (chkEnts_zero hX).1; rw [hl] at this; omega
  have hni4 : (n : Int) ≤ 24 := by omega
  have HSC : Hid (∀ w', Below w.heap.size w w' → Calls Tryz.prog 12 #[.slice A n cap] w' (RetPost (.int .i64 0) w')) := Lib.hid fun w' hb => by
    have := seedCheckEntrants_all L n cap A B w' (hZ.below hb hZ.2.1) (by omega) hok (Nat.le_trans hG hb.size)
    rw [hX] at this
    exact this
  obtain ⟨k1, k2, k3⟩ := drw_ok hD
  obtain ⟨k, rfl⟩ : ∃ k : Nat, key = k := ⟨key.toNat, by omega⟩
  have HOR : Hid (∀ w', Below w.heap.size w w' → Calls Tryz.prog 13 #[.slice A n cap, .int .i64 (k : Int)] w' (OrdPost L k n w')) := Lib.hid fun w' hb => by
    exact seedOrder_ok L n cap A B k w' (hZ.below hb hZ.2.1) (by omega) hok (Nat.le_trans hG hb.size) (by omega) (by omega) hX
  obtain ⟨q1, q2⟩ := rng_ok hH
  obtain ⟨m, rfl⟩ : ∃ m : Nat, h = m := ⟨h.toNat, by omega⟩
  have hm16 : m ≤ 16 := by omega
  have hm1 : 1 ≤ m := by omega
  have HHT : Hid (∀ w', Below w.heap.size w w' → Calls Tryz.prog 14 #[.slice A n cap, .int .i64 (m : Int), .int .i64 (k : Int)] w' (HtsPost (ordZ L k) m n w')) := Lib.hid fun w' hb => by
    exact seedHeats_ok L n cap m A B k w' (hZ.below hb hZ.2.1) (by omega) hok (Nat.le_trans hG hb.size) (by omega) (by omega) hX hm1 hm16
  have HDR : Hid (∀ w', Calls Tryz.prog 15 #[.int .i64 (k : Int), .int .i64 (n : Int)] w' (RetPost (.int .i64 0) w')) := Lib.hid fun w' => by
    have := refCheckDraw_all (k : Int) n w'
    rwa [hD] at this
  have HOH : Hid (∀ w', Calls Tryz.prog 19 #[.int .i64 (m : Int), .int .i64 1, .int .i64 16] w' (RetSame (.int .i64 (0)) w')) := Lib.hid fun w' => by
    have := r4Outside_any (m : Int) 1 16 w'
    rwa [hH] at this
  have HF1 : Hid (∀ g w', Es w' g [0, 0] → Calls Tryz.prog 18 #[.slice (some ⟨g, 0, none⟩) 2 2] w' (RetSame (.int .i64 0) w')) := Lib.hid fun g w' he => by
    have := l4first_any [0, 0] 2 rfl (by decide) g w' he
    exact this
  have hrn : rngE (2 * (n : Int)) 0 160 = 0 := by unfold rngE; rw [if_neg (by omega)]
  have HON : Hid (∀ w', Calls Tryz.prog 19 #[.int .i64 (2 * (n : Int)), .int .i64 0, .int .i64 160] w' (RetSame (.int .i64 (0)) w')) := Lib.hid fun w' => by
    have := r4Outside_any (2 * (n : Int)) 0 160 w'
    rwa [hrn] at this
  have HF2 : Hid (∀ g w', Es w' g [0, 0] → Calls Tryz.prog 18 #[.slice (some ⟨g, 0, none⟩) 2 2] w' (RetSame (.int .i64 0) w')) := Lib.hid fun g w' he => by
    have := l4first_any [0, 0] 2 rfl (by decide) g w' he
    exact this
  have HZG : Hid (∀ w', Calls Tryz.prog 22 #[.int .i64 (2 * (n : Int)), .int .i64 (m : Int)] w' (Zigged m (2 * n) w')) := Lib.hid fun w' => by
    have := Zigzag_any (2 * n) m w' (by omega) hm1 hm16
    rwa [show ((2 * n : Nat) : Int) = 2 * (n : Int) by omega] at this
  have HRZ : Hid (∀ w', Calls Tryz.prog 23 #[.int .i64 (2 * (n : Int)), .int .i64 (m : Int)] w' (ZiggedR m (2 * n) w')) := Lib.hid fun w' => by
    have := r4Zigzag_any (2 * n) m w' (by omega) hm1 hm16
    rwa [show ((2 * n : Nat) : Int) = 2 * (n : Int) by omega] at this
  have HZL := Lib.hid (rowsL_len (rowsZ m (2 * n)) m 200 (fun i hi => by have := rowsZ_len m (2 * n) i hm1 hi; omega))
  unfold Zigged at HZG
  unfold ZiggedR at HRZ
  have HOL : Hid ((ordZ L k).length = n) := Lib.hid ((ordZ_len hX k).trans hl)
  have HRO : Hid (∀ (w' : World) (A1 : Option Addr) (c1 B1 : Nat), Ents w' B1 A1 n L → Calls Tryz.prog 16 #[.slice A1 n c1, .int .i64 (k : Int)] w' (ROrdPost (ordZ L k) w')) := Lib.hid fun w' A1 c1 B1 hE => r4Order_any L n c1 A1 B1 k w' hE (by omega) (by omega) (by omega) hX
  unfold OrdPost at HOR
  unfold ROrdPost at HRO
  have HRH : Hid (∀ (w' : World) (A1 : Option Addr) (c1 B1 : Nat), Ents w' B1 A1 n L → Calls Tryz.prog 20 #[.slice A1 n c1, .int .i64 (m : Int), .int .i64 (k : Int)] w' (RHtsPost (ordZ L k) m n w')) := Lib.hid fun w' A1 c1 B1 hE => r4Heats_ok L n c1 m A1 B1 k w' hE (by omega) (by omega) (by omega) hX hm1 hm16
  have HHL := Lib.hid (rowsL_len (heatsR (ordZ L k) m n) m 200 (fun i hi => by have := rowsZ_len m n i hm1 hi; unfold heatsR; rw [List.length_map]; omega))
  unfold HtsPost at HHT
  unfold RHtsPost at HRH
  generalize ordZ L k = O at *
  have HXX := Lib.hid hX
  have HK := Lib.hid (And.intro hs hok)
  have HX := Lib.hid hx
  clear hZ hs hok hx hX hn1 hn24 hD hH hrn
  go_enter Tryz.func3, Tryz.ntmps3
  go_wp2_with fail
  refine hR.mono ?_
  rintro e w1 ⟨v, rfl, hO, hb1⟩
  obtain ⟨A1, c1, rfl, hR1⟩ := Ents.of_own hO hl
  have HE : Hid (∀ w', Below w1.heap.size w1 w' → Ents w' w1.heap.size A1 n L) := Lib.hid fun w' hb => hR1.below hb (Nat.le_refl _)
  have HS : Hid (∀ w', Below w1.heap.size w1 w' → Calls Tryz.prog 10 #[.slice A1 n c1, .int .i64 24] w' (RetPost (.bool true) w')) := Lib.hid fun w' hb => by
    have := short_ents L n c1 24 A1 _ w' (hR1.below hb (Nat.le_refl _)) HK.out.1 (by omega)
    rwa [HX.out] at this
  have HRC : Hid (∀ w', Below w1.heap.size w1 w' → Calls Tryz.prog 11 #[.slice A1 n c1] w' (RetPost (.int .i64 0) w')) := Lib.hid fun w' hb => by
    have := r4CheckEntrants_all L n c1 A1 _ w' (hR1.below hb (Nat.le_refl _)) (by omega) HK.out.2
    rwa [HXX.out] at this
  have ht1 := ht.grow hb1
  have HB1 := Lib.hid hb1
  have hsz1 := hb1.size
  clear hO hR1 hR ht hl hb1
  have hbb1 := Below.refl w1.heap.size w1
  go_wp2_with fail
  refine (aw _ ht1).mono ?_
  rintro e w2 ⟨rfl, hbn⟩
  have hbb2 := bstep hbb1 hbn
  clear hbn hbb1
  go_wp2_with fail
  refine (HS.out _ hbb2).mono ?_
  rintro e w3 ⟨rfl, hbn⟩
  have hbb3 := bstep hbb2 hbn
  clear hbn hbb2
  clear HS
  go_wp2_with fail
  refine (HRC.out _ hbb3).mono ?_
  rintro e w4 ⟨rfl, hbn⟩
  have hbb4 := bstep hbb3 hbn
  clear hbn hbb3
  clear HRC
  go_wp2_with fail
  refine (HSC.out _ (HB1.out.trans (hbb4.mono hsz1))).mono ?_
  rintro e w5 ⟨rfl, hbn⟩
  have hbb5 := bstep hbb4 hbn
  clear hbn hbb4
  clear HSC
  go_wp2_with fail
  refine (HOR.out _ (HB1.out.trans (hbb5.mono hsz1))).mono ?_
  rintro e w6 ⟨gO, rfl, hrO, hbn⟩
  have hbb6 := bstep hbb5 hbn
  clear hbn hbb5
  have HRI := Lib.hid (RowZ.ints hrO)
  have HBO := Lib.hid (Below.refl w6.heap.size w6)
  clear hrO HOR
  go_wp2_with fail
  refine (HHT.out _ (HB1.out.trans (hbb6.mono hsz1))).mono ?_
  rintro e w7 ⟨gH, rfl, hrH, hbn⟩
  have HBO2 := Lib.hid (bstep HBO.out hbn)
  have HHR := Lib.hid hrH.rowsZ
  have hbb7 := bstep hbb6 hbn
  clear hbn hbb6 hrH HHT HBO
  have HBH := Lib.hid (Below.refl w7.heap.size w7)
  go_wp2_with fail
  refine (HDR.out _).mono ?_
  rintro e w8 ⟨rfl, hbn⟩
  have hbc11 := bstep hbb7 hbn
  clear hbb7
  have HBC12 := Lib.hid (bstep HBO2.out hbn)
  clear HBO2
  have HBC13 := Lib.hid (bstep HBH.out hbn)
  clear HBH
  clear hbn
  go_wp2_with fail
  refine (HRO.out _ A1 c1 _ (HE.out _ hbc11)).mono ?_
  rintro e w9 ⟨vO, rfl, hvO, hbn⟩
  obtain ⟨aO, cO, rfl⟩ := hvO.shape
  rw [HOL.out] at hvO ⊢
  have hIO := OwnZ.ints hvO HOL.out
  have hbc14 := bstep hbc11 hbn
  clear hbc11
  have HBC15 := Lib.hid (bstep HBC12.out hbn)
  clear HBC12
  have HBC16 := Lib.hid (bstep HBC13.out hbn)
  clear HBC13
  have hLO := l4list_ok O (some ⟨gO, 0, none⟩) aO n n cO w9 (by omega) (HRI.out.below HBC15.out) hIO
  clear hbn hvO hIO HRI HBC15
  go_wp2_with fail
  refine hLO.mono ?_
  rintro e w10 ⟨rfl, hbn⟩
  have hbc17 := bstep hbc14 hbn
  clear hbc14
  have HBC18 := Lib.hid (bstep HBC16.out hbn)
  clear HBC16
  clear hbn
  clear hLO
  go_wp2_with fail
  refine (HOH.out _).mono ?_
  rintro e w11 ⟨rfl, rfl⟩
  go_wp2_with fail
  refine (HF1.out _ _ (es2 _ _ _ _)).mono ?_
  rintro e w12 ⟨rfl, rfl⟩
  have hbc19 := balloc (.cells #[.int .i64 0, .int .i64 (0)] 3) hbc17
  clear hbc17
  have HBC20 := Lib.hid (balloc (.cells #[.int .i64 0, .int .i64 (0)] 3) HBC18.out)
  clear HBC18
  generalize World.alloc _ _ = wq12 at *
  go_wp2_with fail
  refine (HDR.out _).mono ?_
  rintro e w13 ⟨rfl, hbn⟩
  have hbc21 := bstep hbc19 hbn
  clear hbc19
  have HBC22 := Lib.hid (bstep HBC20.out hbn)
  clear HBC20
  clear hbn
  go_wp2_with fail
  refine (HRH.out _ A1 c1 _ (HE.out _ hbc21)).mono ?_
  rintro e w14 ⟨gR, rfl, hrR, hbn⟩
  have hIR := hrR.rowsZ
  have hbc23 := bstep hbc21 hbn
  clear hbc21
  have HBC24 := Lib.hid (bstep HBC22.out hbn)
  clear HBC22
  have hLL := l4lists_ok (rowsL (heatsR O m n) m) (some ⟨gH, 0, none⟩) (some ⟨gR, 0, none⟩) m m m w14 (by omega) (fun l hl => by have := HHL.out l hl; omega) (HHR.out.below HBC24.out) hIR
  clear hbn hrR hIR HHR HBC24
  go_wp2_with fail
  refine hLL.mono ?_
  rintro e w15 ⟨rfl, hbn⟩
  have hbc25 := bstep hbc23 hbn
  clear hbc23
  clear hbn
  clear hLL
  go_wp2_with fail
  refine (HZG.out _).mono ?_
  rintro e w16 ⟨gZ, rfl, hrZ, hbn⟩
  have HZR := Lib.hid hrZ.rowsZ
  have hbc26 := bstep hbc25 hbn
  clear hbn hbc25 hrZ
  have HBZ := Lib.hid (Below.refl w16.heap.size w16)
  go_wp2_with fail
  refine (HON.out _).mono ?_
  rintro e w17 ⟨rfl, rfl⟩
  go_wp2_with fail
  refine (HOH.out _).mono ?_
  rintro e w18 ⟨rfl, rfl⟩
  go_wp2_with fail
  refine (HF2.out _ _ (es2 _ _ _ _)).mono ?_
  rintro e w19 ⟨rfl, rfl⟩
  have hbc27 := balloc (.cells #[.int .i64 (0), .int .i64 (0)] 3) hbc26
  clear hbc26
  have HBC28 := Lib.hid (balloc (.cells #[.int .i64 (0), .int .i64 (0)] 3) HBZ.out)
  clear HBZ
  generalize World.alloc _ _ = wq19 at *
  go_wp2_with fail
  refine (HRZ.out _).mono ?_
  rintro e w20 ⟨gS, rfl, hrS, hbn⟩
  have hIS := hrS.rowsZ
  have hbc29 := bstep hbc27 hbn
  clear hbc27
  have HBC30 := Lib.hid (bstep HBC28.out hbn)
  clear HBC28
  have hLZ := l4lists_ok (rowsL (rowsZ m (2 * n)) m) (some ⟨gZ, 0, none⟩) (some ⟨gS, 0, none⟩) m m m w20 (by omega) (fun l hl => by have := HZL.out l hl; omega) (HZR.out.below HBC30.out) hIS
  clear hbn hrS hIS HZR HBC30
  go_wp2_with fail
  refine hLZ.mono ?_
  rintro e w21 ⟨rfl, hbn⟩
  have hbc31 := bstep hbc29 hbn
  clear hbc29
  clear hbn
  have hfin := HB1.out.trans (hbc31.mono hsz1)
  clear hbc31 HB1
  go_wp2
  go_ret
  exact ⟨rfl, hfin⟩
theorem orders_any (L : List Ent) (n cap : Nat) (A : Option Addr) (B : Nat) (key h : Int) (w : World) (ht : Tabs w) (hZ : Ents w B A n L) (hn : n * 72 ≤ 140737488351232) (hs : ∀ x ∈ L, x.ok ∧ x.kind.size ≤ maxLen ∧ x.reason.size ≤ maxLen) :
    Calls Tryz.prog 3 #[.slice A n cap, .int .i64 key, .int .i64 h] w (Yes w) := by
  cases hx : shortE L 24 with
  | false => exact orders_exit L n cap A B key h w ht hZ hn hs hx
  | true =>
    by_cases hX : chkEnts L = 0
    · by_cases hD : drwE key n = 0
      · by_cases hH : rngE h 1 16 = 0
        · exact orders_6 L n cap A B key h w ht hZ hs hx hX hD hH
        · exact orders_5 L n cap A B key h w ht hZ hs hx hX hD hH
      · by_cases hH : rngE h 1 16 = 0
        · exact orders_4 L n cap A B key h w ht hZ hs hx hX hD hH
        · exact orders_3 L n cap A B key h w ht hZ hs hx hX hD hH
    · by_cases hQ : fstN [rngE (2 * (n : Int)) 0 160, rngE h 1 16] = 0
      · exact orders_2 L n cap A B key h w ht hZ hs hx hX hQ
      · exact orders_1 L n cap A B key h w ht hZ hs hx hX hQ
end Go.Mk
