/-
  Proved: the error of a relay by the reference is the one by package track. Conditions: the legs lie where the slice says.
-/
import Derived.Test.YtickjnahdeikfaaGreatDoorYi
import Derived.Test.YtickjnahdeikfaaGreatDoorYb
set_option linter.unusedVariables false
set_option linter.unusedSimpArgs false
open Go Go.Proofs Go.RowKit
set_option maxRecDepth 100000
namespace Go.Mk
theorem outRng {n lo hi : Int} (h : rngE n lo hi = 0) : (decide (n < lo) || decide (hi < n)) = false := by
  obtain ⟨a, b⟩ := rng_zero h
  simp; omega
theorem outRng3 {n lo hi : Int} (h : rngE n lo hi ≠ 0) : (decide (n < lo) || decide (hi < n)) = true := by
  have := rng_three h
  unfold rngE at this
  split at this
  · simp; omega
  · omega
/-- The error of zones that follow each other. -/
def chainE : List (Int × Int) → Int
  | [] => 0
  | [_] => 0
  | p :: q :: l => if q.1 ≤ p.2 then 18 else chainE (q :: l)
def lastP : (Int × Int) → List (Int × Int) → Int × Int
  | p, [] => p
  | _, q :: l => lastP q l
theorem zErr_chain (d : Int) : ∀ (l : List (Int × Int)) (p : Int × Int), zErr l p.2 d = if d < (lastP p l).2 then 18 else chainE (p :: l)
  | [], p => by rw [zErr, lastP, chainE]
  | q :: l, p => by
    rw [zErr, zErr_chain d l q, lastP, chainE]
    by_cases h1 : q.1 ≤ p.2
    · rw [if_pos h1, if_pos h1]; split <;> rfl
    · rw [if_neg h1, if_neg h1]
theorem lastP_at : ∀ (l : List (Int × Int)) (p : Int × Int), (p :: l)[l.length]? = some (lastP p l)
  | [], p => rfl
  | q :: l, p => by
    rw [List.length_cons, List.getElem?_cons_succ, lastP]
    exact lastP_at l q
theorem chain_drop {F : List (Int × Int)} {k : Nat} {p q : Int × Int} (h1 : F[k]? = some p) (h2 : F[k + 1]? = some q) : chainE (F.drop k) = if q.1 ≤ p.2 then 18 else chainE (F.drop (k + 1)) := by
  have l1 := (List.getElem?_eq_some_iff.1 h1).1
  have l2 := (List.getElem?_eq_some_iff.1 h2).1
  rw [List.drop_eq_getElem_cons l1, (List.getElem?_eq_some_iff.1 h1).2, List.drop_eq_getElem_cons l2, (List.getElem?_eq_some_iff.1 h2).2, chainE]
theorem chain_end {F : List (Int × Int)} {k : Nat} (h : F.length = k + 1) : chainE (F.drop k) = 0 := by
  have : (F.drop k).length = 1 := by rw [List.length_drop]; omega
  match F.drop k, this with
  | [x], _ => rfl
theorem legs_val (L : List Int) : fstN (L.map fun x => rngE x 1 999999) = 0 ∨ fstN (L.map fun x => rngE x 1 999999) = 3 := by
  induction L with
  | nil => exact .inl rfl
  | cons x l ih =>
    rw [List.map_cons, fstN]
    by_cases h : rngE x 1 999999 = 0
    · rw [if_pos h]; exact ih
    · rw [if_neg h]; exact .inr (rng_three h)
set_option maxHeartbeats 8000000 in
theorem r7CheckRelay_any (L : List Int) (n cap : Nat) (A : Option Addr) (z b : Int) (w : World) (hZ : IntsZ w A n L) (hn : (n : Int) ≤ 9223372036854775807) :
    Calls Tryz.prog 10 #[.agg #[.slice A n cap, .int .i64 z, .int .i64 b]] w (RetPost (.int .i64 (relW L z b)) w) := by
  have hb0 : Below w.heap.size w (w.alloc (.cells #[.slice A n cap, .int .i64 z, .int .i64 b] 26)) := balloc _ (Below.refl _ _)
  have HO := Lib.hid r7out_any
  by_cases h12 : n < 2 ∨ 8 < n
  · have ho : (decide ((n : Int) < 2) || decide (8 < (n : Int))) = true := by simp; omega
    have hO := r7out_any (n : Int) 2 8
    rw [ho] at hO
    unfold relW
    rw [hZ.1, if_pos h12]
    clear hZ ho h12
    go_enter Tryz.func10, Tryz.ntmps10
    go_wp2_with fail
    refine (hO _).mono ?_
    rintro e w' ⟨rfl, rfl⟩
    go_wp2
    go_ret
    exact ⟨rfl, hb0⟩
  · have ho : (decide ((n : Int) < 2) || decide (8 < (n : Int))) = false := by simp; omega
    have hO := r7out_any (n : Int) 2 8
    rw [ho] at hO
    obtain ⟨m, rfl⟩ : ∃ m, n = m + 1 + 1 := ⟨n - 2, by omega⟩
    have hm : m ≤ 6 := by omega
    have hmi : (m : Int) ≤ 6 := by omega
    have hrel : relW L z b = fstN [fstN (L.map fun x => rngE x 1 999999), rngE z 1 999999, rngE b 0 z, zErr (zonesW z b (L.take (m + 1)) 0) (-1) (sumW L 0)] := by
      unfold relW
      rw [hZ.1, if_neg h12]
      rfl
    obtain ⟨y, hy⟩ : ∃ y, fstN (L.map fun x => rngE x 1 999999) = y := ⟨_, rfl⟩
    rw [hrel, hy]
    have HY : Hid (fstN ((L.map fun x => rngE x 1 999999).drop 0) = y) := by rw [← hy]; rfl
    have HY3 : Hid (y = 0 ∨ y = 3) := Lib.hid (by rw [← hy]; exact legs_val L)
    have HZN : Hid (∀ w', Below w.heap.size w w' → Calls Tryz.prog 16 #[.agg #[.slice A (m + 1 + 1) cap, .int .i64 z, .int .i64 b]] w' (fun e w'' => ∃ v, e = .returned v ∧ OwnPairs w'' (w'.heap.size + 1) v (zonesW z b (L.take (m + 1)) 0) ∧ Below w'.heap.size w' w'')) := Lib.hid fun w' hb => r7Zones_any L (m + 1) cap A z b w' (hZ.below hb) (by omega)
    have HWH : Hid (∀ w', Below w.heap.size w w' → Calls Tryz.prog 48 #[.agg #[.slice A (m + 1 + 1) cap, .int .i64 z, .int .i64 b]] w' (RetPost (.int .i64 (sumW L 0)) w')) := Lib.hid fun w' hb => r7Whole_any L (m + 1 + 1) cap A z b w' (hZ.below hb) (by omega)
    have HFL : Hid ((zonesW z b (L.take (m + 1)) 0).length = m + 1) := Lib.hid (by rw [zonesW_len, List.length_take, hZ.1]; omega)
    have HN := Lib.hid (RelB.new (cap := cap) (z := z) (b := b) hZ 26)
    have HLN := Lib.hid hZ.1
    have HB0 := Lib.hid hb0
    obtain ⟨d, hd⟩ : ∃ d, sumW L 0 = d := ⟨_, rfl⟩
    rw [hd] at HWH ⊢
    obtain ⟨F, hF⟩ : ∃ F, zonesW z b (L.take (m + 1)) 0 = F := ⟨_, rfl⟩
    rw [hF] at HZN HFL ⊢
    obtain ⟨Y, hY⟩ : ∃ Y, zErr F (-1) d = Y := ⟨_, rfl⟩
    rw [hY]
    have HYY := Lib.hid hY
    clear hZ hy hrel hF hd h12 ho hb0 hY hn
    go_enter Tryz.func10, Tryz.ntmps10
    go_wp2_with fail
    refine (hO _).mono ?_
    rintro e w' ⟨rfl, rfl⟩
    clear hO
    obtain ⟨w1, hw1⟩ : ∃ w1, w.alloc (.cells #[.slice A (m + 1 + 1) cap, .int .i64 z, .int .i64 b] 26) = w1 := ⟨_, rfl⟩
    rw [hw1] at HN HB0 ⊢
    clear hw1
    obtain ⟨c0, c1, c2, hg, hbw, hzr⟩ := HN.out
    have H := Lib.hid hzr
    clear hzr
    go_wp2
    go_loop [3] (fun i => ∃ k : Nat, k ≤ m + 1 + 1 ∧ i = .int .i64 k ∧ Hid (fstN ((L.map fun x => rngE x 1 999999).drop k) = y)) (fun i => m + 1 + 1 - (intOf i).toNat)
    case atStart => exact ⟨0, by omega, rfl, HY⟩
    case round =>
      obtain ⟨k, hk, rfl, HK⟩ := hrel
      by_cases hlt : k < m + 1 + 1
      · obtain ⟨b', off, x, rfl, hbl, hx, hc⟩ := H.out.cellAt hlt
        have hst := legs_drop L k x hx
        rw [HK.out] at hst
        have hki : (k : Int) < (m : Int) + 1 + 1 := by omega
        have hC := fun w => HO.out x 1 999999 w
        by_cases h0 : rngE x 1 999999 = 0
        · rw [if_pos h0] at hst
          rw [outRng h0] at hC
          have Hst : Hid (fstN ((L.map fun x => rngE x 1 999999).drop (k + 1)) = y) := hst.symm
          clear hst HK h0 hx
          go_wp2_with fail
          refine (hC _).mono ?_
          rintro e w' ⟨rfl, rfl⟩
          go_wp2
          exact ⟨⟨k + 1, by omega, by go_num, Hst⟩, by simp [intOf]; omega⟩
        · rw [if_neg h0] at hst
          rw [outRng3 h0] at hC
          have hy3 : y = 3 := hst.trans (rng_three h0)
          have Hy3 := Lib.hid hy3
          clear HK hst h0 hx hy3
          go_wp2_with fail
          refine (hC _).mono ?_
          rintro e w' ⟨rfl, rfl⟩
          go_wp2
          go_ret
          exact ⟨by rw [Hy3.out]; rfl, hbw⟩
      · have hkn : k = m + 1 + 1 := by omega
        have hkni : ¬ (k : Int) < (m : Int) + 1 + 1 := by omega
        have h0 := HK.out
        rw [hkn, List.drop_of_length_le (by rw [List.length_map, HLN.out]; omega)] at h0
        have h0' : y = 0 := h0.symm
        subst h0'
        have hC := fun w => HO.out z 1 999999 w
        have hD := fun w => HO.out b 0 z w
        clear HK HY HY3 h0
        by_cases hz : rngE z 1 999999 = 0
        · rw [outRng hz] at hC
          by_cases hb : rngE b 0 z = 0
          · rw [outRng hb] at hD
            have HFST : Hid (fstN [0, rngE z 1 999999, rngE b 0 z, Y] = Y) := Lib.hid (by rw [hz, hb]; by_cases q : Y = 0 <;> simp [fstN, q])
            clear hz hb
            go_wp2_with fail
            refine (hC _).mono ?_
            rintro e w' ⟨rfl, rfl⟩
            go_wp2_with fail
            refine (hD _).mono ?_
            rintro e w' ⟨rfl, rfl⟩
            clear hC hD
            go_wp2_with fail
            refine (HZN.out _ HB0.out).mono ?_
            rintro e w2 ⟨v, rfl, hown, hb2⟩
            obtain ⟨A2, c2', rfl, hP⟩ := Pairs.of_own hown
            rw [HFL.out] at hP ⊢
            obtain ⟨b1, off1, p, rfl, hb1l, hp, q0, q1⟩ := hP.at_ (k := 0) (by omega)
            obtain ⟨b1', off1', q, e1, _, hq, r0, r1⟩ := hP.at_ (k := m) (by omega)
            cases e1
            have hN2 := HN.out.next hb2
            obtain ⟨t0, t1, t2, tg, tbw, tz⟩ := hN2
            have HS : Hid (∀ w', Below w2.heap.size w2 w' → w'.cell? ⟨b1, off1, none⟩ = some (.int .i64 p.1) ∧ w'.cell? ⟨b1, off1 + m * 2 + 1, none⟩ = some (.int .i64 q.2) ∧ w'.cell? ⟨w.heap.size, 0, none⟩ = some (.slice A (m + 1 + 1) cap) ∧ w'.cell? ⟨w.heap.size, 1, none⟩ = some (.int .i64 z) ∧ w'.cell? ⟨w.heap.size, 2, none⟩ = some (.int .i64 b)) := Lib.hid fun w' hw => ⟨(hw.cell (p := ⟨b1, _, none⟩) hb1l).trans (by rw [Nat.zero_mul, Nat.add_zero] at q0; exact q0), (hw.cell (p := ⟨b1, _, none⟩) hb1l).trans r1, (hw.cell (p := ⟨w.heap.size, _, none⟩) tg).trans t0, (hw.cell (p := ⟨w.heap.size, _, none⟩) tg).trans t1, (hw.cell (p := ⟨w.heap.size, _, none⟩) tg).trans t2⟩
            have HB2 := Lib.hid tbw
            have HP := Lib.hid hP
            obtain ⟨G, hG⟩ : ∃ G, F = p :: G := by
              match F, hp with
              | x :: G, hp => exact ⟨G, by simp at hp; rw [hp]⟩
            have hGm : G.length = m := by have := HFL.out; rw [hG] at this; simpa using this
            have hql : q = lastP p G := by
              have := lastP_at G p
              rw [← hG, hGm, hq] at this
              exact Option.some.inj this
            have hfin : zErr F (-1) d = if p.1 < 0 then 18 else if d < q.2 then 18 else chainE F := by
              rw [hG, zErr, zErr_chain d G p, ← hql]
              by_cases c : p.1 < 0
              · rw [if_pos c, if_pos (by omega)]
              · rw [if_neg c, if_neg (by omega)]
            have HQ := Lib.hid (HYY.out.symm.trans hfin)
            obtain ⟨p1, p2⟩ := p
            obtain ⟨q1', q2⟩ := q
            simp only at HS HQ
            clear hown hb2 hP hp q0 q1 hq r0 r1 t0 t1 t2 tg tbw tz hG hql hfin c0 c1 c2 hg hbw hb1l
            have hmt : ((m : Int)).toNat = m := by omega
            have hm0 : (0 : Int) ≤ (m : Int) := by omega
            have hm1 : (m : Int) < (m : Int) + 1 := by omega
            have hmm : (0 : Int) ≤ (m : Int) ∧ (m : Int) < (m : Int) + 1 := ⟨hm0, hm1⟩
            have hmw : IntKind.i64.wrap (m : Int) = (m : Int) := wrapY _ (by omega)
            by_cases hp1 : p1 < 0
            · have HQ1 : Hid (Y = 18) := Lib.hid (by rw [HQ.out, if_pos hp1])
              have hpd : decide (p1 < 0) = true := by simpa using hp1
              clear HQ
              go_wp2_with fail
              refine wp_region_held_drew (S := fun w' => Below w2.heap.size w2 w') (by kernel_rfl) ?_ (fun hHeld => ?_)
              · exact (Below.refl _ _).drew
              refine wpAnyH_take (i := 0) (oi := _) (v := ?_) rfl (by kernel_rfl) (by kernel_rfl) (by kernel_rfl) (fun _ _ _ h => h) (Or.inl ⟨by kernel_rfl, ?_⟩) (by assumption) ?_
              rotate_left
              · rintro w hw
                obtain ⟨s0, s1, s2, s3, s4⟩ := HS.out w hw
                go_simp
                try simp only [hmw, if_pos hmm, hmt, hpd]
                try with_reducible rfl
              try simp only [Act.put, List.setIfInBounds_toArray, List.set_cons_zero, List.set_cons_succ, List.getElem_toArray, List.getElem_cons_zero, List.getElem_cons_succ]
              refine wpAnyH_take (i := 1) (oi := _) (v := ?_) rfl (by kernel_rfl) (by kernel_rfl) (by kernel_rfl) (fun _ _ _ h => h) (Or.inl ⟨by kernel_rfl, ?_⟩) (by assumption) ?_
              rotate_left
              · rintro w hw
                obtain ⟨s0, s1, s2, s3, s4⟩ := HS.out w hw
                go_simp
                try simp only [hmw, if_pos hmm, hmt, hpd]
                try with_reducible rfl
              try simp only [Act.put, List.setIfInBounds_toArray, List.set_cons_zero, List.set_cons_succ, List.getElem_toArray, List.getElem_cons_zero, List.getElem_cons_succ]
              refine wpAnyH_take (i := 2) (oi := _) (v := ?_) rfl (by kernel_rfl) (by kernel_rfl) (by kernel_rfl) (fun _ _ _ h => h) (Or.inl ⟨by kernel_rfl, ?_⟩) (by assumption) ?_
              rotate_left
              · rintro w hw
                obtain ⟨s0, s1, s2, s3, s4⟩ := HS.out w hw
                go_simp
                try simp only [hmw, if_pos hmm, hmt, hpd]
                try with_reducible rfl
              try simp only [Act.put, List.setIfInBounds_toArray, List.set_cons_zero, List.set_cons_succ, List.getElem_toArray, List.getElem_cons_zero, List.getElem_cons_succ]
              refine wpAnyH_take (i := 3) (oi := _) (v := ?_) rfl (by kernel_rfl) (by kernel_rfl) (by kernel_rfl) (fun _ _ _ h => h) (Or.inl ⟨by kernel_rfl, ?_⟩) (by assumption) ?_
              rotate_left
              · rintro w hw
                obtain ⟨s0, s1, s2, s3, s4⟩ := HS.out w hw
                go_simp
                try simp only [hmw, if_pos hmm, hmt, hpd]
                try with_reducible rfl
              try simp only [Act.put, List.setIfInBounds_toArray, List.set_cons_zero, List.set_cons_succ, List.getElem_toArray, List.getElem_cons_zero, List.getElem_cons_succ]
              refine wpAnyH_take (i := 4) (oi := _) (v := ?_) rfl (by kernel_rfl) (by kernel_rfl) (by kernel_rfl) (fun _ _ _ h => h) (Or.inl ⟨by kernel_rfl, ?_⟩) (by assumption) ?_
              rotate_left
              · rintro w hw
                obtain ⟨s0, s1, s2, s3, s4⟩ := HS.out w hw
                go_simp
                try simp only [hmw, if_pos hmm, hmt, hpd]
                try with_reducible rfl
              try simp only [Act.put, List.setIfInBounds_toArray, List.set_cons_zero, List.set_cons_succ, List.getElem_toArray, List.getElem_cons_zero, List.getElem_cons_succ]
              refine wpAnyH_take (i := 5) (oi := _) (v := ?_) rfl (by kernel_rfl) (by kernel_rfl) (by kernel_rfl) (fun _ _ _ h => h) (Or.inl ⟨by kernel_rfl, ?_⟩) (by assumption) ?_
              rotate_left
              · rintro w hw
                obtain ⟨s0, s1, s2, s3, s4⟩ := HS.out w hw
                go_simp
                try simp only [hmw, if_pos hmm, hmt, hpd]
                try with_reducible rfl
              try simp only [Act.put, List.setIfInBounds_toArray, List.set_cons_zero, List.set_cons_succ, List.getElem_toArray, List.getElem_cons_zero, List.getElem_cons_succ]
              refine wpAnyH_take (i := 6) (oi := _) (v := undef) rfl (by kernel_rfl) (by kernel_rfl) (by kernel_rfl) (fun _ _ _ h => h) (Or.inr ⟨by kernel_rfl, rfl⟩) (by assumption) ?_
              try simp only [Act.put, List.setIfInBounds_toArray, List.set_cons_zero, List.set_cons_succ, List.getElem_toArray, List.getElem_cons_zero, List.getElem_cons_succ]
              refine wpAnyH_take (i := 7) (oi := _) (v := undef) rfl (by kernel_rfl) (by kernel_rfl) (by kernel_rfl) (fun _ _ _ h => h) (Or.inr ⟨by kernel_rfl, rfl⟩) (by assumption) ?_
              try simp only [Act.put, List.setIfInBounds_toArray, List.set_cons_zero, List.set_cons_succ, List.getElem_toArray, List.getElem_cons_zero, List.getElem_cons_succ]
              refine wpAnyH_take (i := 8) (oi := _) (v := undef) rfl (by kernel_rfl) (by kernel_rfl) (by kernel_rfl) (fun _ _ _ h => h) (Or.inr ⟨by kernel_rfl, rfl⟩) (by assumption) ?_
              try simp only [Act.put, List.setIfInBounds_toArray, List.set_cons_zero, List.set_cons_succ, List.getElem_toArray, List.getElem_cons_zero, List.getElem_cons_succ]
              refine wpAnyH_take (i := 9) (oi := _) (v := undef) rfl (by kernel_rfl) (by kernel_rfl) (by kernel_rfl) (fun _ _ _ h => h) (Or.inr ⟨by kernel_rfl, rfl⟩) (by assumption) ?_
              try simp only [Act.put, List.setIfInBounds_toArray, List.set_cons_zero, List.set_cons_succ, List.getElem_toArray, List.getElem_cons_zero, List.getElem_cons_succ]
              refine wpAnyH_take (i := 10) (oi := _) (v := undef) rfl (by kernel_rfl) (by kernel_rfl) (by kernel_rfl) (fun _ _ _ h => h) (Or.inr ⟨by kernel_rfl, rfl⟩) (by assumption) ?_
              try simp only [Act.put, List.setIfInBounds_toArray, List.set_cons_zero, List.set_cons_succ, List.getElem_toArray, List.getElem_cons_zero, List.getElem_cons_succ]
              refine wpAnyH_take (i := 11) (oi := _) (v := undef) rfl (by kernel_rfl) (by kernel_rfl) (by kernel_rfl) (fun _ _ _ h => h) (Or.inr ⟨by kernel_rfl, rfl⟩) (by assumption) ?_
              try simp only [Act.put, List.setIfInBounds_toArray, List.set_cons_zero, List.set_cons_succ, List.getElem_toArray, List.getElem_cons_zero, List.getElem_cons_succ]
              refine wpAnyH_take (i := 12) (oi := _) (v := undef) rfl (by kernel_rfl) (by kernel_rfl) (by kernel_rfl) (fun _ _ _ h => h) (Or.inr ⟨by kernel_rfl, rfl⟩) (by assumption) ?_
              try simp only [Act.put, List.setIfInBounds_toArray, List.set_cons_zero, List.set_cons_succ, List.getElem_toArray, List.getElem_cons_zero, List.getElem_cons_succ]
              refine wpAnyH_take (i := 13) (oi := _) (v := undef) rfl (by kernel_rfl) (by kernel_rfl) (by kernel_rfl) (fun _ _ _ h => h) (Or.inr ⟨by kernel_rfl, rfl⟩) (by assumption) ?_
              try simp only [Act.put, List.setIfInBounds_toArray, List.set_cons_zero, List.set_cons_succ, List.getElem_toArray, List.getElem_cons_zero, List.getElem_cons_succ]
              refine wpAnyH_take (i := 14) (oi := _) (v := undef) rfl (by kernel_rfl) (by kernel_rfl) (by kernel_rfl) (fun _ _ _ h => h) (Or.inr ⟨by kernel_rfl, rfl⟩) (by assumption) ?_
              try simp only [Act.put, List.setIfInBounds_toArray, List.set_cons_zero, List.set_cons_succ, List.getElem_toArray, List.getElem_cons_zero, List.getElem_cons_succ]
              refine wpAnyH_take (i := 15) (oi := _) (v := undef) rfl (by kernel_rfl) (by kernel_rfl) (by kernel_rfl) (fun _ _ _ h => h) (Or.inr ⟨by kernel_rfl, rfl⟩) (by assumption) ?_
              try simp only [Act.put, List.setIfInBounds_toArray, List.set_cons_zero, List.set_cons_succ, List.getElem_toArray, List.getElem_cons_zero, List.getElem_cons_succ]
              refine wpAnyH_take (i := 16) (oi := _) (v := ?_) rfl (by kernel_rfl) (by kernel_rfl) (by kernel_rfl) (fun _ _ _ h => h) (Or.inl ⟨by kernel_rfl, ?_⟩) (by assumption) ?_
              rotate_left
              · rintro w hw
                obtain ⟨s0, s1, s2, s3, s4⟩ := HS.out w hw
                go_simp
                try with_reducible rfl
              try simp only [Act.put, List.setIfInBounds_toArray, List.set_cons_zero, List.set_cons_succ, List.getElem_toArray, List.getElem_cons_zero, List.getElem_cons_succ]
              refine wpAnyH_done (by kernel_rfl) ?_ _
              have hX := bstep HB2.out hHeld
              clear hHeld
              go_wp2
              go_ret
              exact ⟨by rw [HFST.out, HQ1.out]; first | done | rfl, hX⟩
            · have HQ1 : Hid (Y = if d < q2 then 18 else chainE F) := Lib.hid (by rw [HQ.out, if_neg hp1])
              have hp10 : 0 ≤ p1 := by omega
              have hpd : decide (p1 < 0) = false := by simpa using hp10
              clear HQ
              have HWC : Hid (∀ w', Below w2.heap.size w2 w' → Calls Tryz.prog 48 #[.agg #[.slice A (m + 1 + 1) cap, .int .i64 z, .int .i64 b]] w' (RetPost (.int .i64 d) w')) := Lib.hid fun w' hw => HWH.out w' (bstep HB2.out hw)
              go_wp2_with fail
              refine wp_region_held_drew (S := fun w' => Below w2.heap.size w2 w') (by kernel_rfl) ?_ (fun hHeld => ?_)
              · exact (Below.refl _ _).drew
              refine wpAnyH_take (i := 0) (oi := _) (v := ?_) rfl (by kernel_rfl) (by kernel_rfl) (by kernel_rfl) (fun _ _ _ h => h) (Or.inl ⟨by kernel_rfl, ?_⟩) (by assumption) ?_
              rotate_left
              · rintro w hw
                obtain ⟨s0, s1, s2, s3, s4⟩ := HS.out w hw
                go_simp
                try simp only [hmw, if_pos hmm, hmt, hpd]
                try with_reducible rfl
              try simp only [Act.put, List.setIfInBounds_toArray, List.set_cons_zero, List.set_cons_succ, List.getElem_toArray, List.getElem_cons_zero, List.getElem_cons_succ]
              refine wpAnyH_take (i := 1) (oi := _) (v := ?_) rfl (by kernel_rfl) (by kernel_rfl) (by kernel_rfl) (fun _ _ _ h => h) (Or.inl ⟨by kernel_rfl, ?_⟩) (by assumption) ?_
              rotate_left
              · rintro w hw
                obtain ⟨s0, s1, s2, s3, s4⟩ := HS.out w hw
                go_simp
                try simp only [hmw, if_pos hmm, hmt, hpd]
                try with_reducible rfl
              try simp only [Act.put, List.setIfInBounds_toArray, List.set_cons_zero, List.set_cons_succ, List.getElem_toArray, List.getElem_cons_zero, List.getElem_cons_succ]
              refine wpAnyH_take (i := 2) (oi := _) (v := ?_) rfl (by kernel_rfl) (by kernel_rfl) (by kernel_rfl) (fun _ _ _ h => h) (Or.inl ⟨by kernel_rfl, ?_⟩) (by assumption) ?_
              rotate_left
              · rintro w hw
                obtain ⟨s0, s1, s2, s3, s4⟩ := HS.out w hw
                go_simp
                try simp only [hmw, if_pos hmm, hmt, hpd]
                try with_reducible rfl
              try simp only [Act.put, List.setIfInBounds_toArray, List.set_cons_zero, List.set_cons_succ, List.getElem_toArray, List.getElem_cons_zero, List.getElem_cons_succ]
              refine wpAnyH_take (i := 3) (oi := _) (v := ?_) rfl (by kernel_rfl) (by kernel_rfl) (by kernel_rfl) (fun _ _ _ h => h) (Or.inl ⟨by kernel_rfl, ?_⟩) (by assumption) ?_
              rotate_left
              · rintro w hw
                obtain ⟨s0, s1, s2, s3, s4⟩ := HS.out w hw
                go_simp
                try simp only [hmw, if_pos hmm, hmt, hpd]
                try with_reducible rfl
              try simp only [Act.put, List.setIfInBounds_toArray, List.set_cons_zero, List.set_cons_succ, List.getElem_toArray, List.getElem_cons_zero, List.getElem_cons_succ]
              refine wpAnyH_take (i := 4) (oi := _) (v := ?_) rfl (by kernel_rfl) (by kernel_rfl) (by kernel_rfl) (fun _ _ _ h => h) (Or.inl ⟨by kernel_rfl, ?_⟩) (by assumption) ?_
              rotate_left
              · rintro w hw
                obtain ⟨s0, s1, s2, s3, s4⟩ := HS.out w hw
                go_simp
                try simp only [hmw, if_pos hmm, hmt, hpd]
                try with_reducible rfl
              try simp only [Act.put, List.setIfInBounds_toArray, List.set_cons_zero, List.set_cons_succ, List.getElem_toArray, List.getElem_cons_zero, List.getElem_cons_succ]
              refine wpAnyH_take (i := 5) (oi := _) (v := ?_) rfl (by kernel_rfl) (by kernel_rfl) (by kernel_rfl) (fun _ _ _ h => h) (Or.inl ⟨by kernel_rfl, ?_⟩) (by assumption) ?_
              rotate_left
              · rintro w hw
                obtain ⟨s0, s1, s2, s3, s4⟩ := HS.out w hw
                go_simp
                try simp only [hmw, if_pos hmm, hmt, hpd]
                try with_reducible rfl
              try simp only [Act.put, List.setIfInBounds_toArray, List.set_cons_zero, List.set_cons_succ, List.getElem_toArray, List.getElem_cons_zero, List.getElem_cons_succ]
              refine wpAnyH_take (i := 6) (oi := _) (v := ?_) rfl (by kernel_rfl) (by kernel_rfl) (by kernel_rfl) (fun _ _ _ h => h) (Or.inl ⟨by kernel_rfl, ?_⟩) (by assumption) ?_
              rotate_left
              · rintro w hw
                obtain ⟨s0, s1, s2, s3, s4⟩ := HS.out w hw
                go_simp
                try simp only [hmw, if_pos hmm, hmt, hpd]
                try with_reducible rfl
              try simp only [Act.put, List.setIfInBounds_toArray, List.set_cons_zero, List.set_cons_succ, List.getElem_toArray, List.getElem_cons_zero, List.getElem_cons_succ]
              refine wpAnyH_take (i := 7) (oi := _) (v := ?_) rfl (by kernel_rfl) (by kernel_rfl) (by kernel_rfl) (fun _ _ _ h => h) (Or.inl ⟨by kernel_rfl, ?_⟩) (by assumption) ?_
              rotate_left
              · rintro w hw
                obtain ⟨s0, s1, s2, s3, s4⟩ := HS.out w hw
                go_simp
                try simp only [hmw, if_pos hmm, hmt, hpd]
                try with_reducible rfl
              try simp only [Act.put, List.setIfInBounds_toArray, List.set_cons_zero, List.set_cons_succ, List.getElem_toArray, List.getElem_cons_zero, List.getElem_cons_succ]
              refine wpAnyH_take (i := 8) (oi := _) (v := ?_) rfl (by kernel_rfl) (by kernel_rfl) (by kernel_rfl) (fun _ _ _ h => h) (Or.inl ⟨by kernel_rfl, ?_⟩) (by assumption) ?_
              rotate_left
              · rintro w hw
                obtain ⟨s0, s1, s2, s3, s4⟩ := HS.out w hw
                go_simp
                try simp only [hmw, if_pos hmm, hmt, hpd]
                try with_reducible rfl
              try simp only [Act.put, List.setIfInBounds_toArray, List.set_cons_zero, List.set_cons_succ, List.getElem_toArray, List.getElem_cons_zero, List.getElem_cons_succ]
              refine wpAnyH_take (i := 9) (oi := _) (v := ?_) rfl (by kernel_rfl) (by kernel_rfl) (by kernel_rfl) (fun _ _ _ h => h) (Or.inl ⟨by kernel_rfl, ?_⟩) (by assumption) ?_
              rotate_left
              · rintro w hw
                obtain ⟨s0, s1, s2, s3, s4⟩ := HS.out w hw
                go_simp
                try simp only [hmw, if_pos hmm, hmt, hpd]
                try with_reducible rfl
              try simp only [Act.put, List.setIfInBounds_toArray, List.set_cons_zero, List.set_cons_succ, List.getElem_toArray, List.getElem_cons_zero, List.getElem_cons_succ]
              refine wpAnyH_take (i := 10) (oi := _) (v := ?_) rfl (by kernel_rfl) (by kernel_rfl) (by kernel_rfl) (fun _ _ _ h => h) (Or.inl ⟨by kernel_rfl, ?_⟩) (by assumption) ?_
              rotate_left
              · rintro w hw
                obtain ⟨s0, s1, s2, s3, s4⟩ := HS.out w hw
                go_simp
                try simp only [hmw, if_pos hmm, hmt, hpd]
                try with_reducible rfl
              try simp only [Act.put, List.setIfInBounds_toArray, List.set_cons_zero, List.set_cons_succ, List.getElem_toArray, List.getElem_cons_zero, List.getElem_cons_succ]
              refine wpAnyH_take (i := 11) (oi := _) (v := ?_) rfl (by kernel_rfl) (by kernel_rfl) (by kernel_rfl) (fun _ _ _ h => h) (Or.inl ⟨by kernel_rfl, ?_⟩) (by assumption) ?_
              rotate_left
              · rintro w hw
                obtain ⟨s0, s1, s2, s3, s4⟩ := HS.out w hw
                go_simp
                try simp only [hmw, if_pos hmm, hmt, hpd]
                try with_reducible rfl
              try simp only [Act.put, List.setIfInBounds_toArray, List.set_cons_zero, List.set_cons_succ, List.getElem_toArray, List.getElem_cons_zero, List.getElem_cons_succ]
              refine wpAnyH_take (i := 12) (oi := _) (v := ?_) rfl (by kernel_rfl) (by kernel_rfl) (by kernel_rfl) (fun _ _ _ h => h) (Or.inl ⟨by kernel_rfl, ?_⟩) (by assumption) ?_
              rotate_left
              · rintro w hw
                obtain ⟨s0, s1, s2, s3, s4⟩ := HS.out w hw
                go_simp
                try simp only [hmw, if_pos hmm, hmt, hpd]
                try with_reducible rfl
              try simp only [Act.put, List.setIfInBounds_toArray, List.set_cons_zero, List.set_cons_succ, List.getElem_toArray, List.getElem_cons_zero, List.getElem_cons_succ]
              refine wpAnyH_take (i := 13) (oi := _) (v := ?_) rfl (by kernel_rfl) (by kernel_rfl) (by kernel_rfl) (fun _ _ _ h => h) (Or.inl ⟨by kernel_rfl, ?_⟩) (by assumption) ?_
              rotate_left
              · rintro w hw
                obtain ⟨s0, s1, s2, s3, s4⟩ := HS.out w hw
                go_simp
                try simp only [hmw, if_pos hmm, hmt, hpd]
                try with_reducible rfl
              try simp only [Act.put, List.setIfInBounds_toArray, List.set_cons_zero, List.set_cons_succ, List.getElem_toArray, List.getElem_cons_zero, List.getElem_cons_succ]
              refine wpAnyH_ready (rs := [14]) (by kernel_rfl) (by simp) ?_
              refine AllReadyH.cons (o := _) rfl (fun K hKK => ?_) AllReadyH.nil
              go_simp
              go_at_call 48
              refine (HWC.out _ hHeld).mono ?_
              rintro e w5 ⟨rfl, hb5⟩
              have hX := bstep hHeld hb5
              clear hHeld hb5
              go_wp2_with fail
              refine hKK.out _ _ ?_ (fun hHeld => ?_)
              · exact hX
              clear hKK K
              try simp only [Act.put, List.setIfInBounds_toArray, List.set_cons_zero, List.set_cons_succ, List.getElem_toArray, List.getElem_cons_zero, List.getElem_cons_succ]
              clear hX
              refine wpAnyH_take (i := 15) (oi := _) (v := ?_) rfl (by kernel_rfl) (by kernel_rfl) (by kernel_rfl) (fun _ _ _ h => h) (Or.inl ⟨by kernel_rfl, ?_⟩) (by assumption) ?_
              rotate_left
              · rintro w hw
                obtain ⟨s0, s1, s2, s3, s4⟩ := HS.out w hw
                go_simp
                try with_reducible rfl
              try simp only [Act.put, List.setIfInBounds_toArray, List.set_cons_zero, List.set_cons_succ, List.getElem_toArray, List.getElem_cons_zero, List.getElem_cons_succ]
              refine wpAnyH_take (i := 16) (oi := _) (v := ?_) rfl (by kernel_rfl) (by kernel_rfl) (by kernel_rfl) (fun _ _ _ h => h) (Or.inl ⟨by kernel_rfl, ?_⟩) (by assumption) ?_
              rotate_left
              · rintro w hw
                obtain ⟨s0, s1, s2, s3, s4⟩ := HS.out w hw
                go_simp
                try with_reducible rfl
              try simp only [Act.put, List.setIfInBounds_toArray, List.set_cons_zero, List.set_cons_succ, List.getElem_toArray, List.getElem_cons_zero, List.getElem_cons_succ]
              refine wpAnyH_done (by kernel_rfl) ?_ _
              have HX := Lib.hid (bstep HB2.out hHeld)
              clear HS HWC hp1 hp10 hpd hmm hmw
              by_cases hdq : d < q2
              · have HQ2 : Hid (Y = 18) := Lib.hid (by rw [HQ1.out, if_pos hdq])
                clear hHeld
                go_wp2
                go_ret
                exact ⟨by rw [HFST.out, HQ2.out]; first | done | rfl, HX.out⟩
              · have HQ2 : Hid (chainE (F.drop 0) = Y) := Lib.hid (by rw [HQ1.out, if_neg hdq]; rfl)
                have HPX := Lib.hid (HP.out.below hHeld)
                clear hHeld HQ1 HP
                go_wp2
                obtain ⟨wy, hwy⟩ : ∃ wy : World, wy = w5 := ⟨_, rfl⟩
                rw [← hwy] at HX HPX ⊢
                clear hwy
                go_loopw [5] (fun i wr => ∃ k : Nat, k ≤ m ∧ i = .int .i64 k ∧ Hid (chainE (F.drop k) = Y) ∧ Hid (Below wy.heap.size wy wr)) (fun i _ => m - (intOf i).toNat)
                case atStart => exact ⟨0, by omega, rfl, HQ2, Lib.hid (Below.refl _ _)⟩
                case round =>
                  obtain ⟨k, hk, rfl, HK, HB⟩ := hrel
                  by_cases hlt : k < m
                  · obtain ⟨b3, off3, x, e3, hb3l, hx, x0, x1⟩ := (HPX.out.below HB.out).at_ (k := k) (by omega)
                    obtain ⟨b3', off3', x', e3', _, hx', x0', x1'⟩ := (HPX.out.below HB.out).at_ (k := k + 1) (by omega)
                    cases e3
                    cases e3'
                    have hst := HK.out
                    rw [chain_drop hx hx'] at hst
                    obtain ⟨a1, a2⟩ := x
                    obtain ⟨a3, a4⟩ := x'
                    simp only at x1 x0' hst
                    have HS : Hid (∀ w', Below wr.heap.size wr w' → w'.cell? ⟨b1, off1 + k * 2 + 1, none⟩ = some (.int .i64 a2) ∧ w'.cell? ⟨b1, off1 + (k + 1) * 2, none⟩ = some (.int .i64 a3)) := Lib.hid fun w' hw => ⟨(hw.cell (p := ⟨b1, _, none⟩) hb3l).trans x1, (hw.cell (p := ⟨b1, _, none⟩) hb3l).trans x0'⟩
                    have Hst := Lib.hid hst
                    have hki : (k : Int) < (m : Int) := by omega
                    have hk1i : (k : Int) + 1 < (m : Int) + 1 := by omega
                    have hki2 : (k : Int) < (m : Int) + 1 := by omega
                    have hk0 : (0 : Int) ≤ (k : Int) := by omega
                    have hkt : ((k : Int)).toNat = k := by omega
                    have hkw : IntKind.i64.wrap ((k : Int) + 1) = (k : Int) + 1 := wrapY _ (by omega)
                    have hk1t : ((k : Int) + 1).toNat = k + 1 := by omega
                    have hkk : (0 : Int) ≤ (k : Int) ∧ (k : Int) < (m : Int) + 1 := ⟨hk0, hki2⟩
                    have hkk1 : (0 : Int) ≤ (k : Int) + 1 ∧ (k : Int) + 1 < (m : Int) + 1 := ⟨by omega, hk1i⟩
                    clear hst HK hx hx' x0 x1 x0' x1' hb3l
                    go_wp2_with fail
                    refine wp_region_held_drew (S := fun w' => Below wr.heap.size wr w') (by kernel_rfl) ?_ (fun hHeld => ?_)
                    · exact (Below.refl _ _).drew
                    refine wpAnyH_take (i := 0) (oi := _) (v := ?_) rfl (by kernel_rfl) (by kernel_rfl) (by kernel_rfl) (fun _ _ _ h => h) (Or.inl ⟨by kernel_rfl, ?_⟩) (by assumption) ?_
                    rotate_left
                    · rintro w hw
                      obtain ⟨s0, s1⟩ := HS.out w hw
                      go_simp
                      try simp only [hkw, if_pos hkk, if_pos hkk1, hkt, hk1t]
                      try with_reducible rfl
                    try simp only [Act.put, List.setIfInBounds_toArray, List.set_cons_zero, List.set_cons_succ, List.getElem_toArray, List.getElem_cons_zero, List.getElem_cons_succ]
                    refine wpAnyH_take (i := 1) (oi := _) (v := ?_) rfl (by kernel_rfl) (by kernel_rfl) (by kernel_rfl) (fun _ _ _ h => h) (Or.inl ⟨by kernel_rfl, ?_⟩) (by assumption) ?_
                    rotate_left
                    · rintro w hw
                      obtain ⟨s0, s1⟩ := HS.out w hw
                      go_simp
                      try simp only [hkw, if_pos hkk, if_pos hkk1, hkt, hk1t]
                      try with_reducible rfl
                    try simp only [Act.put, List.setIfInBounds_toArray, List.set_cons_zero, List.set_cons_succ, List.getElem_toArray, List.getElem_cons_zero, List.getElem_cons_succ]
                    refine wpAnyH_take (i := 2) (oi := _) (v := ?_) rfl (by kernel_rfl) (by kernel_rfl) (by kernel_rfl) (fun _ _ _ h => h) (Or.inl ⟨by kernel_rfl, ?_⟩) (by assumption) ?_
                    rotate_left
                    · rintro w hw
                      obtain ⟨s0, s1⟩ := HS.out w hw
                      go_simp
                      try simp only [hkw, if_pos hkk, if_pos hkk1, hkt, hk1t]
                      try with_reducible rfl
                    try simp only [Act.put, List.setIfInBounds_toArray, List.set_cons_zero, List.set_cons_succ, List.getElem_toArray, List.getElem_cons_zero, List.getElem_cons_succ]
                    refine wpAnyH_take (i := 3) (oi := _) (v := ?_) rfl (by kernel_rfl) (by kernel_rfl) (by kernel_rfl) (fun _ _ _ h => h) (Or.inl ⟨by kernel_rfl, ?_⟩) (by assumption) ?_
                    rotate_left
                    · rintro w hw
                      obtain ⟨s0, s1⟩ := HS.out w hw
                      go_simp
                      try simp only [hkw, if_pos hkk, if_pos hkk1, hkt, hk1t]
                      try with_reducible rfl
                    try simp only [Act.put, List.setIfInBounds_toArray, List.set_cons_zero, List.set_cons_succ, List.getElem_toArray, List.getElem_cons_zero, List.getElem_cons_succ]
                    refine wpAnyH_take (i := 4) (oi := _) (v := ?_) rfl (by kernel_rfl) (by kernel_rfl) (by kernel_rfl) (fun _ _ _ h => h) (Or.inl ⟨by kernel_rfl, ?_⟩) (by assumption) ?_
                    rotate_left
                    · rintro w hw
                      obtain ⟨s0, s1⟩ := HS.out w hw
                      go_simp
                      try simp only [hkw, if_pos hkk, if_pos hkk1, hkt, hk1t]
                      try with_reducible rfl
                    try simp only [Act.put, List.setIfInBounds_toArray, List.set_cons_zero, List.set_cons_succ, List.getElem_toArray, List.getElem_cons_zero, List.getElem_cons_succ]
                    refine wpAnyH_take (i := 5) (oi := _) (v := ?_) rfl (by kernel_rfl) (by kernel_rfl) (by kernel_rfl) (fun _ _ _ h => h) (Or.inl ⟨by kernel_rfl, ?_⟩) (by assumption) ?_
                    rotate_left
                    · rintro w hw
                      obtain ⟨s0, s1⟩ := HS.out w hw
                      go_simp
                      try simp only [hkw, if_pos hkk, if_pos hkk1, hkt, hk1t]
                      try with_reducible rfl
                    try simp only [Act.put, List.setIfInBounds_toArray, List.set_cons_zero, List.set_cons_succ, List.getElem_toArray, List.getElem_cons_zero, List.getElem_cons_succ]
                    refine wpAnyH_take (i := 6) (oi := _) (v := ?_) rfl (by kernel_rfl) (by kernel_rfl) (by kernel_rfl) (fun _ _ _ h => h) (Or.inl ⟨by kernel_rfl, ?_⟩) (by assumption) ?_
                    rotate_left
                    · rintro w hw
                      obtain ⟨s0, s1⟩ := HS.out w hw
                      go_simp
                      try simp only [hkw, if_pos hkk, if_pos hkk1, hkt, hk1t]
                      try with_reducible rfl
                    try simp only [Act.put, List.setIfInBounds_toArray, List.set_cons_zero, List.set_cons_succ, List.getElem_toArray, List.getElem_cons_zero, List.getElem_cons_succ]
                    refine wpAnyH_take (i := 7) (oi := _) (v := ?_) rfl (by kernel_rfl) (by kernel_rfl) (by kernel_rfl) (fun _ _ _ h => h) (Or.inl ⟨by kernel_rfl, ?_⟩) (by assumption) ?_
                    rotate_left
                    · rintro w hw
                      obtain ⟨s0, s1⟩ := HS.out w hw
                      go_simp
                      try simp only [hkw, if_pos hkk, if_pos hkk1, hkt, hk1t]
                      try with_reducible rfl
                    try simp only [Act.put, List.setIfInBounds_toArray, List.set_cons_zero, List.set_cons_succ, List.getElem_toArray, List.getElem_cons_zero, List.getElem_cons_succ]
                    refine wpAnyH_take (i := 8) (oi := _) (v := ?_) rfl (by kernel_rfl) (by kernel_rfl) (by kernel_rfl) (fun _ _ _ h => h) (Or.inl ⟨by kernel_rfl, ?_⟩) (by assumption) ?_
                    rotate_left
                    · rintro w hw
                      obtain ⟨s0, s1⟩ := HS.out w hw
                      go_simp
                      try simp only [hkw, if_pos hkk, if_pos hkk1, hkt, hk1t]
                      try with_reducible rfl
                    try simp only [Act.put, List.setIfInBounds_toArray, List.set_cons_zero, List.set_cons_succ, List.getElem_toArray, List.getElem_cons_zero, List.getElem_cons_succ]
                    refine wpAnyH_take (i := 9) (oi := _) (v := ?_) rfl (by kernel_rfl) (by kernel_rfl) (by kernel_rfl) (fun _ _ _ h => h) (Or.inl ⟨by kernel_rfl, ?_⟩) (by assumption) ?_
                    rotate_left
                    · rintro w hw
                      obtain ⟨s0, s1⟩ := HS.out w hw
                      go_simp
                      try simp only [hkw, if_pos hkk, if_pos hkk1, hkt, hk1t]
                      try with_reducible rfl
                    try simp only [Act.put, List.setIfInBounds_toArray, List.set_cons_zero, List.set_cons_succ, List.getElem_toArray, List.getElem_cons_zero, List.getElem_cons_succ]
                    refine wpAnyH_take (i := 10) (oi := _) (v := ?_) rfl (by kernel_rfl) (by kernel_rfl) (by kernel_rfl) (fun _ _ _ h => h) (Or.inl ⟨by kernel_rfl, ?_⟩) (by assumption) ?_
                    rotate_left
                    · rintro w hw
                      obtain ⟨s0, s1⟩ := HS.out w hw
                      go_simp
                      try simp only [hkw, if_pos hkk, if_pos hkk1, hkt, hk1t]
                      try with_reducible rfl
                    try simp only [Act.put, List.setIfInBounds_toArray, List.set_cons_zero, List.set_cons_succ, List.getElem_toArray, List.getElem_cons_zero, List.getElem_cons_succ]
                    refine wpAnyH_take (i := 11) (oi := _) (v := ?_) rfl (by kernel_rfl) (by kernel_rfl) (by kernel_rfl) (fun _ _ _ h => h) (Or.inl ⟨by kernel_rfl, ?_⟩) (by assumption) ?_
                    rotate_left
                    · rintro w hw
                      obtain ⟨s0, s1⟩ := HS.out w hw
                      go_simp
                      try simp only [hkw, if_pos hkk, if_pos hkk1, hkt, hk1t]
                      try with_reducible rfl
                    try simp only [Act.put, List.setIfInBounds_toArray, List.set_cons_zero, List.set_cons_succ, List.getElem_toArray, List.getElem_cons_zero, List.getElem_cons_succ]
                    refine wpAnyH_done (by kernel_rfl) ?_ _
                    have HB3 := Lib.hid (bstep HB.out hHeld)
                    clear HS hHeld
                    by_cases hle : a3 ≤ a2
                    · have HQ3 : Hid (Y = 18) := Lib.hid (by rw [← Hst.out, if_pos hle])
                      have HXX := Lib.hid (bstep HX.out HB3.out)
                      go_wp2
                      go_ret
                      exact ⟨by rw [HFST.out, HQ3.out]; first | done | rfl, HXX.out⟩
                    · have HQ3 : Hid (chainE (F.drop (k + 1)) = Y) := Lib.hid (by rw [← Hst.out, if_neg hle])
                      have hle0 : a2 < a3 := by omega
                      clear Hst
                      go_wp2
                      go_roundw
                      case rel => exact ⟨k + 1, by omega, by go_num, HQ3, HB3⟩
                      case measure => simp [intOf]; omega
                  · have hkn : k = m := by omega
                    have hkni : ¬ ((k : Int) + 1 < (m : Int) + 1) := by omega
                    have h0 := HK.out
                    rw [hkn, chain_end HFL.out] at h0
                    have H0 := Lib.hid h0
                    have HXX := Lib.hid (bstep HX.out HB.out)
                    clear HK h0
                    go_wp2
                    go_ret
                    exact ⟨by rw [HFST.out, ← H0.out]; first | done | rfl, HXX.out⟩
          · rw [outRng3 hb] at hD
            have HFST : Hid (fstN [0, rngE z 1 999999, rngE b 0 z, Y] = 3) := Lib.hid (by rw [hz, rng_three hb]; simp [fstN])
            clear hz hb
            go_wp2_with fail
            refine (hC _).mono ?_
            rintro e w' ⟨rfl, rfl⟩
            go_wp2_with fail
            refine (hD _).mono ?_
            rintro e w' ⟨rfl, rfl⟩
            go_wp2
            go_ret
            exact ⟨by rw [HFST.out]; first | done | rfl, hbw⟩
        · rw [outRng3 hz] at hC
          have HFST : Hid (fstN [0, rngE z 1 999999, rngE b 0 z, Y] = 3) := Lib.hid (by rw [rng_three hz]; simp [fstN])
          clear hz hD
          go_wp2_with fail
          refine (hC _).mono ?_
          rintro e w' ⟨rfl, rfl⟩
          go_wp2
          go_ret
          exact ⟨by rw [HFST.out]; first | done | rfl, hbw⟩
end Go.Mk
