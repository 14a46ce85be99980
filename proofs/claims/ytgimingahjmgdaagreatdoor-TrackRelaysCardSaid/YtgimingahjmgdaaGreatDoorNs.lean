/-
  Proved: the reference's error of a run of a relay that is whole, and its place. Conditions: legs and exchanges lie where the slices say; there are at most a hundred of each.
-/
import Derived.Test.YtgimingahjmgdaaGreatDoorNr
import Derived.Test.YtgimingahjmgdaaGreatDoorYi
set_option linter.unusedVariables false
set_option linter.unusedSimpArgs false
open Go Go.Proofs Go.RowKit
set_option maxRecDepth 100000
namespace Go.Mk
theorem rng_out (n lo hi : Int) : (decide (n < lo) || decide (hi < n)) = decide (rngE n lo hi ≠ 0) := by
  unfold rngE
  by_cases h1 : n < lo
  · simp [h1]
  · by_cases h2 : hi < n
    · simp [h2]
    · simp [h1, h2]
theorem outE (n lo hi : Int) (w : World) (b : Bool) (h : decide (rngE n lo hi ≠ 0) = b) : Calls Tryz.prog 47 #[.int .i64 n, .int .i64 lo, .int .i64 hi] w (RetSame (.bool b) w) := by
  have := r7out_any n lo hi w
  rw [rng_out, h] at this
  exact this
set_option maxHeartbeats 4000000 in
theorem r7CheckRun_any (G : List Int) (n cap : Nat) (A : Option Addr) (z b : Int) (L : List (Int × Int)) (m cE : Nat) (E : Option Addr) (f : Int) (w : World) (hZ : IntsZ w A (n + 1) G) (hn : n ≤ 100) (hE : Pairs w E m L) (hm : m ≤ 100) (h1 : 1 ≤ n) :
    Calls Tryz.prog 17 #[.agg #[.slice A (n + 1) cap, .int .i64 z, .int .i64 b], .slice E m cE, .int .i64 f] w (RetPost (.tuple #[.int .i64 (runW L (zonesW z b (G.take n) 0) f).1, .int .i64 (runW L (zonesW z b (G.take n) 0) f).2]) w) := by
  have hGn : G.length = n + 1 := hZ.1
  have hb0 : Below w.heap.size w (w.alloc (.cells #[.slice A (n + 1) cap, .int .i64 z, .int .i64 b] 26)) := balloc _ (Below.refl _ _)
  have hZo := r7Zones_any G n cap A z b _ (hZ.below hb0) hn
  have HE := Lib.hid (hE.below hb0)
  have HB0 := Lib.hid hb0
  have hni : (n : Int) ≤ 100 := by omega
  have hmi : (m : Int) ≤ 100 := by omega
  clear hZ hE hb0
  go_enter Tryz.func17, Tryz.ntmps17
  go_wp2_with fail
  refine hZo.mono ?_
  rintro e w1 ⟨v, rfl, ho, b1⟩
  have hGl := hGn
  have hzl : (zonesW z b (G.take n) 0).length = n := by
    have : ∀ (l : List Int) (s : Int), (zonesW z b l s).length = l.length := by
      intro l
      induction l with
      | nil => intro s; rfl
      | cons x l ih => intro s; rw [zonesW, List.length_cons, List.length_cons, ih]
    rw [this, List.length_take]; omega
  obtain ⟨Z, hZ⟩ : ∃ Z, zonesW z b (G.take n) 0 = Z := ⟨_, rfl⟩
  rw [hZ] at ho hzl
  obtain ⟨R, hR⟩ : ∃ R, runW L Z f = R := ⟨_, rfl⟩
  have HR : Hid (runW L (zonesW z b (G.take n) 0) f = R) := Lib.hid (by rw [hZ]; exact hR)
  obtain ⟨AZ, cZ, rfl, hP⟩ := Pairs.of_own ho
  have bw := bstep HB0.out b1
  have HE1 := Lib.hid (HE.out.below b1)
  have HP := Lib.hid hP
  have hzi : (Z.length : Int) ≤ 100 := by omega
  have hLm : L.length = m := HE.out.1
  clear hZo ho hP hZ HE b1
  unfold runW at hR
  rw [hLm] at hR
  by_cases hl : m = Z.length
  · rw [if_neg (by omega)] at hR
    have hli : ((m : Int) != (Z.length : Int)) = false := by rw [bne_eq_false_iff_eq]; omega
    by_cases hf : rngE f 1 863999999 = 0
    · have hO := fun w => outE f 1 863999999 w false (by rw [hf]; rfl)
      rw [if_neg (by omega)] at hR
      have HRR := Lib.hid hR
      clear hR
      go_wp2_with fail
      refine (hO _).mono ?_
      rintro e w2 ⟨rfl, rfl⟩
      obtain ⟨be, oe, rfl, hbe, hcE⟩ := HE1.out.2 (by omega)
      obtain ⟨bz, oz, rfl, hbz, hcZ⟩ := HP.out.2 (by omega)
      have HCE := Lib.hid hcE
      have HCZ := Lib.hid hcZ
      have HZl := Lib.hid hl
      obtain ⟨R0, hR0⟩ : ∃ R0, runG (0, 0) 0 L Z = R0 := ⟨_, rfl⟩
      have HR0 := Lib.hid hR0
      have HRR2 : Hid ((if R0.2 ≠ 0 then R0 else if f ≤ (L.getD (m - 1) (0, 0)).2 then ((m : Int) - 1, 11) else (0, 0)) = R) := Lib.hid (by rw [← hR0]; exact HRR.out)
      have HLm := Lib.hid hLm
      clear hcE hcZ HRR hR0 hO HE1 HP hLm
      go_wp2
      go_loopw [9] (fun i wr => ∃ (k : Nat) (p : Int × Int), k ≤ m ∧ i = .int .i64 k ∧ (0 < k → L[k - 1]? = some p) ∧ Hid (runG p k (L.drop k) (Z.drop k) = R0) ∧ Below w1.heap.size w1 wr) (fun i _ => m - (intOf i).toNat)
      case atStart => exact ⟨0, (0, 0), by omega, rfl, fun h => absurd h (by omega), HR0, Below.refl _ _⟩
      case round =>
        obtain ⟨k, p, hk, rfl, hp, HK, hb⟩ := hrel
        by_cases hlt : k < m
        · have hkL : k < L.length := by rw [HLm.out]; exact hlt
          have hkZ : k < Z.length := by rw [← HZl.out]; exact hlt
          obtain ⟨q, hq⟩ : ∃ q, L[k]? = some q := ⟨_, List.getElem?_eq_getElem hkL⟩
          obtain ⟨zz, hz⟩ : ∃ zz, Z[k]? = some zz := ⟨_, List.getElem?_eq_getElem hkZ⟩
          have hst := runG_drop p hq hz
          rw [HK.out] at hst
          have FIN : Hid (∀ ek, ek ≠ 0 → exE k p q zz = ek → R = ((k : Int), ek)) := Lib.hid fun ek h0 he => by
            rw [he, if_neg h0] at hst
            have := HRR2.out
            rw [hst] at this
            rw [← this]
            exact if_pos h0
          have NEXT : Hid (exE k p q zz = 0 → runG q (k + 1) (L.drop (k + 1)) (Z.drop (k + 1)) = R0) := Lib.hid fun he => by rw [he, if_pos rfl] at hst; exact hst.symm
          have q0 := (hb.cell (p := ⟨be, oe + k * 2, none⟩) hbe).trans (HCE.out k q hq).1
          have q1 := (hb.cell (p := ⟨be, oe + k * 2 + 1, none⟩) hbe).trans (HCE.out k q hq).2
          have z0 := (hb.cell (p := ⟨bz, oz + k * 2, none⟩) hbz).trans (HCZ.out k zz hz).1
          have z1 := (hb.cell (p := ⟨bz, oz + k * 2 + 1, none⟩) hbz).trans (HCZ.out k zz hz).2
          have hkm : (k : Int) < (m : Int) := by omega
          have hkz : (k : Int) < (Z.length : Int) := by omega
          have hk0 : (0 : Int) ≤ (k : Int) := by omega
          have hkt : ((k : Int)).toNat = k := by omega
          have bwr := bstep bw hb
          have r3 : ∀ n lo hi : Int, rngE n lo hi ≠ 0 → rngE n lo hi = 3 := fun n lo hi h => by unfold rngE at *; split at h <;> simp_all
          clear hst HK
          by_cases ha : rngE q.1 0 999999999 = 0
          · have hO1 := fun w => outE q.1 0 999999999 w false (by rw [ha]; rfl)
            by_cases hb2 : rngE q.2 1 863999999 = 0
            · have hO2 := fun w => outE q.2 1 863999999 w false (by rw [hb2]; rfl)
              have HX := Lib.hid (fun w' (hh : Below wr.heap.size wr w') => (show w'.cell? ⟨be, oe + k * 2, none⟩ = some (.int .i64 q.1) ∧ w'.cell? ⟨bz, oz + k * 2, none⟩ = some (.int .i64 zz.1) ∧ w'.cell? ⟨bz, oz + k * 2 + 1, none⟩ = some (.int .i64 zz.2) ∧ Below wr.heap.size wr w' from ⟨(hh.cell (p := ⟨be, oe + k * 2, none⟩) (Nat.lt_of_lt_of_le hbe hb.size)).trans q0, (hh.cell (p := ⟨bz, oz + k * 2, none⟩) (Nat.lt_of_lt_of_le hbz hb.size)).trans z0, (hh.cell (p := ⟨bz, oz + k * 2 + 1, none⟩) (Nat.lt_of_lt_of_le hbz hb.size)).trans z1, hh⟩))
              by_cases hk1 : k = 0
              · have hkd : decide (0 < k) = false := decide_eq_false (by omega)
                by_cases hzo : q.1 < zz.1 ∨ zz.2 < q.1
                · have hO3 : ∀ w, Calls Tryz.prog 47 #[.int .i64 q.1, .int .i64 zz.1, .int .i64 zz.2] w (RetSame (.bool true) w) := fun w => by
                    have := r7out_any q.1 zz.1 zz.2 w
                    rwa [show (decide (q.1 < zz.1) || decide (zz.2 < q.1)) = true from by rcases hzo with h | h <;> simp [h]] at this
                  have hF := FIN.out 18 (by decide) (exE_zone ha hb2 (fun h => absurd h.1 (by omega)) hzo)
                  subst hF
                  clear FIN NEXT ha hb2 r3 hzo hp hq hk1
                  go_wp2_with fail
                  refine (hO1 _).mono ?_
                  rintro e w2 ⟨rfl, rfl⟩
                  go_wp2_with fail
                  refine (hO2 _).mono ?_
                  rintro e w2 ⟨rfl, rfl⟩
                  go_wp2_with fail
                  go_quiet (fail)
                  go_wp2_with fail
                  go_region_held3 (fun w' => w'.cell? ⟨be, oe + k * 2, none⟩ = some (.int .i64 q.1) ∧ w'.cell? ⟨bz, oz + k * 2, none⟩ = some (.int .i64 zz.1) ∧ w'.cell? ⟨bz, oz + k * 2 + 1, none⟩ = some (.int .i64 zz.2) ∧ Below wr.heap.size wr w') ((first | (exact HX.out _ (Below.drew (below_drewN (Below.refl _ _) _))) | (assumption))) ((go_at_call 47; (with_reducible refine (hO3 _).mono ?_); rintro e w' ⟨rfl, rfl⟩))
                  all_goals
                    rename_i hH
                    have hb3 := bstep bwr hH.2.2.2
                    clear hH
                    go_wp2
                    go_ret2
                    exact ⟨by rw [HR.out]; rfl, hb3⟩
                · have hO3 : ∀ w, Calls Tryz.prog 47 #[.int .i64 q.1, .int .i64 zz.1, .int .i64 zz.2] w (RetSame (.bool false) w) := fun w => by
                    have := r7out_any q.1 zz.1 zz.2 w
                    rwa [show (decide (q.1 < zz.1) || decide (zz.2 < q.1)) = false from by simp; omega] at this
                  have HN := Lib.hid (NEXT.out (exE_ok ha hb2 (fun h => absurd h.1 (by omega)) hzo))
                  have Hq := Lib.hid hq
                  clear FIN NEXT ha hb2 r3 hzo hp hq hk1
                  go_wp2_with fail
                  refine (hO1 _).mono ?_
                  rintro e w2 ⟨rfl, rfl⟩
                  go_wp2_with fail
                  refine (hO2 _).mono ?_
                  rintro e w2 ⟨rfl, rfl⟩
                  go_wp2_with fail
                  go_quiet (fail)
                  go_wp2_with fail
                  go_region_held3 (fun w' => w'.cell? ⟨be, oe + k * 2, none⟩ = some (.int .i64 q.1) ∧ w'.cell? ⟨bz, oz + k * 2, none⟩ = some (.int .i64 zz.1) ∧ w'.cell? ⟨bz, oz + k * 2 + 1, none⟩ = some (.int .i64 zz.2) ∧ Below wr.heap.size wr w') ((first | (exact HX.out _ (Below.drew (below_drewN (Below.refl _ _) _))) | (assumption))) ((go_at_call 47; (with_reducible refine (hO3 _).mono ?_); rintro e w' ⟨rfl, rfl⟩))
                  all_goals
                    rename_i hH
                    have hb3 := bstep hb hH.2.2.2
                    clear hH
                    go_wp2
                    exact ⟨⟨k + 1, q, by omega, by go_num, fun _ => Hq.out, HN.out, hb3⟩, by simp [intOf]; omega⟩
              · have hkN : 0 < k := by omega
                have hkd : decide (0 < k) = true := decide_eq_true hkN
                obtain ⟨j, hj⟩ : ∃ j, k = j + 1 := ⟨k - 1, by omega⟩
                have hpj : L[j]? = some p := by have := hp (by omega); rwa [hj] at this
                have p0 := (hb.cell (p := ⟨be, oe + j * 2, none⟩) hbe).trans (HCE.out j p hpj).1
                have p1 := (hb.cell (p := ⟨be, oe + j * 2 + 1, none⟩) hbe).trans (HCE.out j p hpj).2
                have hj1 : (k : Int) - 1 = (j : Int) := by omega
                have hj0 : (0 : Int) ≤ (j : Int) := by omega
                have hjt : ((j : Int)).toNat = j := by omega
                have hjm : (j : Int) < (m : Int) := by omega
                clear hj hpj
                by_cases hc1 : q.1 ≤ p.1
                · have hF := FIN.out 11 (by decide) (exE_ord ha hb2 ⟨by omega, .inl hc1⟩)
                  subst hF
                  clear FIN NEXT ha hb2 r3 hp hq HX
                  go_wp2_with fail
                  refine (hO1 _).mono ?_
                  rintro e w2 ⟨rfl, rfl⟩
                  go_wp2_with fail
                  refine (hO2 _).mono ?_
                  rintro e w2 ⟨rfl, rfl⟩
                  go_wp2_with fail
                  go_quiet (fail)
                  go_wp2
                  go_ret2
                  exact ⟨by rw [HR.out]; rfl, below_drewN bwr _⟩
                · have hcd1 : decide (q.1 ≤ p.1) = false := decide_eq_false hc1
                  by_cases hc2 : q.2 ≤ p.2
                  · have hF := FIN.out 11 (by decide) (exE_ord ha hb2 ⟨by omega, .inr hc2⟩)
                    subst hF
                    clear FIN NEXT ha hb2 r3 hp hq HX
                    go_wp2_with fail
                    refine (hO1 _).mono ?_
                    rintro e w2 ⟨rfl, rfl⟩
                    go_wp2_with fail
                    refine (hO2 _).mono ?_
                    rintro e w2 ⟨rfl, rfl⟩
                    go_wp2_with fail
                    go_quiet (fail)
                    go_wp2
                    go_ret2
                    exact ⟨by rw [HR.out]; rfl, below_drewN bwr _⟩
                  · by_cases hzo : q.1 < zz.1 ∨ zz.2 < q.1
                    · have hO3 : ∀ w, Calls Tryz.prog 47 #[.int .i64 q.1, .int .i64 zz.1, .int .i64 zz.2] w (RetSame (.bool true) w) := fun w => by
                        have := r7out_any q.1 zz.1 zz.2 w
                        rwa [show (decide (q.1 < zz.1) || decide (zz.2 < q.1)) = true from by rcases hzo with h | h <;> simp [h]] at this
                      have hF := FIN.out 18 (by decide) (exE_zone ha hb2 (fun h => by rcases h.2 with h | h; exact hc1 h; exact hc2 h) hzo)
                      subst hF
                      clear FIN NEXT ha hb2 r3 hzo hp hq
                      go_wp2_with fail
                      refine (hO1 _).mono ?_
                      rintro e w2 ⟨rfl, rfl⟩
                      go_wp2_with fail
                      refine (hO2 _).mono ?_
                      rintro e w2 ⟨rfl, rfl⟩
                      go_wp2_with fail
                      go_quiet (fail)
                      go_wp2_with fail
                      go_region_held3 (fun w' => w'.cell? ⟨be, oe + k * 2, none⟩ = some (.int .i64 q.1) ∧ w'.cell? ⟨bz, oz + k * 2, none⟩ = some (.int .i64 zz.1) ∧ w'.cell? ⟨bz, oz + k * 2 + 1, none⟩ = some (.int .i64 zz.2) ∧ Below wr.heap.size wr w') ((first | (exact HX.out _ (Below.drew (below_drewN (Below.refl _ _) _))) | (assumption))) ((go_at_call 47; (with_reducible refine (hO3 _).mono ?_); rintro e w' ⟨rfl, rfl⟩))
                      all_goals
                        rename_i hH
                        have hb3 := bstep bwr hH.2.2.2
                        clear hH
                        go_wp2
                        go_ret2
                        exact ⟨by rw [HR.out]; rfl, hb3⟩
                    · have hO3 : ∀ w, Calls Tryz.prog 47 #[.int .i64 q.1, .int .i64 zz.1, .int .i64 zz.2] w (RetSame (.bool false) w) := fun w => by
                        have := r7out_any q.1 zz.1 zz.2 w
                        rwa [show (decide (q.1 < zz.1) || decide (zz.2 < q.1)) = false from by simp; omega] at this
                      have HN := Lib.hid (NEXT.out (exE_ok ha hb2 (fun h => by rcases h.2 with h | h; exact hc1 h; exact hc2 h) hzo))
                      have Hq := Lib.hid hq
                      clear FIN NEXT ha hb2 r3 hzo hp hq
                      go_wp2_with fail
                      refine (hO1 _).mono ?_
                      rintro e w2 ⟨rfl, rfl⟩
                      go_wp2_with fail
                      refine (hO2 _).mono ?_
                      rintro e w2 ⟨rfl, rfl⟩
                      go_wp2_with fail
                      go_quiet (fail)
                      go_wp2_with fail
                      go_region_held3 (fun w' => w'.cell? ⟨be, oe + k * 2, none⟩ = some (.int .i64 q.1) ∧ w'.cell? ⟨bz, oz + k * 2, none⟩ = some (.int .i64 zz.1) ∧ w'.cell? ⟨bz, oz + k * 2 + 1, none⟩ = some (.int .i64 zz.2) ∧ Below wr.heap.size wr w') ((first | (exact HX.out _ (Below.drew (below_drewN (Below.refl _ _) _))) | (assumption))) ((go_at_call 47; (with_reducible refine (hO3 _).mono ?_); rintro e w' ⟨rfl, rfl⟩))
                      all_goals
                        rename_i hH
                        have hb3 := bstep hb hH.2.2.2
                        clear hH
                        go_wp2
                        exact ⟨⟨k + 1, q, by omega, by go_num, fun _ => Hq.out, HN.out, hb3⟩, by simp [intOf]; omega⟩
            · have hO2 := fun w => outE q.2 1 863999999 w true (by rw [decide_eq_true hb2])
              have hF := FIN.out 3 (by decide) (by unfold exE fstN; rw [if_pos ha]; unfold fstN; rw [if_neg hb2, r3 _ _ _ hb2])
              subst hF
              clear FIN NEXT ha hb2 r3 z0 z1 hp
              go_wp2_with fail
              refine (hO1 _).mono ?_
              rintro e w2 ⟨rfl, rfl⟩
              go_wp2_with fail
              refine (hO2 _).mono ?_
              rintro e w2 ⟨rfl, rfl⟩
              go_wp2
              go_ret2
              exact ⟨by rw [HR.out]; rfl, bwr⟩
          · have hO1 := fun w => outE q.1 0 999999999 w true (by rw [decide_eq_true ha])
            have hF := FIN.out 3 (by decide) (by unfold exE fstN; rw [if_neg ha, r3 _ _ _ ha])
            subst hF
            clear FIN NEXT ha r3 z0 z1 hp
            go_wp2_with fail
            refine (hO1 _).mono ?_
            rintro e w2 ⟨rfl, rfl⟩
            go_wp2
            go_ret2
            exact ⟨by rw [HR.out]; rfl, bwr⟩
        · have h0 : R0 = (0, 0) := by
            have := HK.out
            rw [runG_end p k (by rw [HLm.out]; omega)] at this
            exact this.symm
          have hR1 := HRR2.out
          rw [h0, if_neg (by simp)] at hR1
          obtain ⟨j, hj⟩ : ∃ j, m = j + 1 := ⟨m - 1, by omega⟩
          have hjL : j < L.length := by rw [HLm.out]; omega
          obtain ⟨ql, hql⟩ : ∃ ql, L[j]? = some ql := ⟨_, List.getElem?_eq_getElem hjL⟩
          have hgd : L.getD (m - 1) (0, 0) = ql := by rw [show m - 1 = j from by omega]; simp [List.getD, hql]
          rw [hgd] at hR1
          have e1 := (hb.cell (p := ⟨be, oe + j * 2 + 1, none⟩) hbe).trans (HCE.out j ql hql).2
          have hj1 : (m : Int) - 1 = (j : Int) := by omega
          have hj2 : (n : Int) - 1 = (j : Int) := by omega
          have hj0 : (0 : Int) ≤ (j : Int) := by omega
          have hjt : ((j : Int)).toNat = j := by omega
          have hjm : (j : Int) < (m : Int) := by omega
          have hjn : (j : Int) < (n : Int) := by omega
          have hkm : ¬ (k : Int) < (m : Int) := by omega
          have hkn : ¬ (k : Int) < (n : Int) := by omega
          have bwr := bstep bw hb
          by_cases hf2 : f ≤ ql.2
          · rw [if_pos hf2, hj1] at hR1
            subst hR1
            clear HRR2 HK hp h0 hgd hj
            go_wp2
            go_ret2
            exact ⟨by rw [HR.out]; rfl, bwr⟩
          · rw [if_neg hf2] at hR1
            subst hR1
            clear HRR2 HK hp h0 hgd hj
            go_wp2
            go_ret2
            exact ⟨by rw [HR.out]; rfl, bwr⟩
    · have hO := fun w => outE f 1 863999999 w true (by rw [decide_eq_true hf])
      rw [if_pos hf] at hR
      subst hR
      go_wp2_with fail
      refine (hO _).mono ?_
      rintro e w2 ⟨rfl, rfl⟩
      go_wp2
      go_ret2
      exact ⟨by rw [HR.out]; rfl, bw⟩
  · rw [if_pos (by omega)] at hR
    subst hR
    have hli : ((m : Int) != (Z.length : Int)) = true := by rw [bne_iff_ne]; omega
    go_wp2
    go_ret2
    exact ⟨by rw [HR.out]; rfl, bw⟩
end Go.Mk
