/-
  Proved: the law SeedZigzags returns true and leaves all that was there, for any two integers. Condition: the tables that awake reads lie where the program lays them.
-/
import Derived.Test.YtebehbojbdcclaaGreatDoorZc
set_option linter.unusedVariables false
set_option linter.unusedSimpArgs false
open Go Go.Proofs Go.RowKit Go.Sort
set_option maxRecDepth 100000
namespace Go.Mk
set_option maxHeartbeats 1000000 in
theorem zigzags_exit (n h : Int) (w : World) (ht : Tabs w) (hx : n < 0 ∨ 160 < n ∨ h < 1 ∨ 16 < h) : Calls Tryz.prog 5 #[.int .i64 n, .int .i64 h] w (Yes w) := by
  have main : ∀ (b1 b2 b3 b4 : Bool), decide (n < 0) = b1 → decide (160 < n) = b2 → decide (h < 1) = b3 → decide (16 < h) = b4 → (b1 || b2 || b3 || b4) = true → Calls Tryz.prog 5 #[.int .i64 n, .int .i64 h] w (Yes w) := by
    intro b1 b2 b3 b4 e1 e2 e3 e4 hb
    clear hx
    rcases b1 with _ | _ <;> rcases b2 with _ | _ <;> rcases b3 with _ | _ <;> rcases b4 with _ | _ <;> first | (cases hb; done) | skip
    all_goals
      clear hb
      go_enter Tryz.func5, Tryz.ntmps5
      go_wp2_with fail
      refine (aw _ ht).mono ?_
      rintro e w1 ⟨rfl, hb1⟩
      have ht1 := ht.grow hb1
      go_wp2_with fail
      refine (aw _ ht1).mono ?_
      rintro e w2 ⟨rfl, hb2⟩
      go_wp2
      go_ret
      exact ⟨rfl, hb1.trans (hb2.mono hb1.size)⟩
  refine main _ _ _ _ rfl rfl rfl rfl ?_
  simp
  omega
/-- The sums behind the heats ahead of i, and k ranks of the heat i. -/
def sums (h n i k : Nat) : List Nat := (List.range h).map fun j => if j < i then sumZ h j (zLen h j n) else if j = i then sumZ h i k else 0
theorem sums_len (h n i k : Nat) : (sums h n i k).length = h := by simp [sums]
theorem sums_at (h n i k j : Nat) (hj : j < h) : (sums h n i k).getD j 0 = if j < i then sumZ h j (zLen h j n) else if j = i then sumZ h i k else 0 := by
  unfold sums
  rw [List.getD_eq_getElem?_getD, List.getElem?_map, List.getElem?_range hj]
  rfl
theorem sums_set (h n i k : Nat) (hi : i < h) : (sums h n i k).set i (sumZ h i (k + 1)) = sums h n i (k + 1) := by
  apply List.ext_getElem?
  intro j
  rw [List.getElem?_set]
  unfold sums
  by_cases hj : j < h
  · simp only [List.getElem?_map, List.getElem?_range hj, Option.map_some, List.length_map, List.length_range]
    by_cases e : i = j
    · subst e; simp [hj]
    · have e' : ¬ j = i := fun q => e q.symm
      simp [e, e']
  · rw [List.getElem?_eq_none (by simp; omega), List.getElem?_eq_none (by simp; omega)]
    by_cases e : i = j
    · omega
    · simp [e]
theorem sums_next (h n i : Nat) : sums h n i (zLen h i n) = sums h n (i + 1) 0 := by
  unfold sums
  apply List.map_congr_left
  intro j _
  by_cases e : j < i
  · rw [if_pos e, if_pos (by omega)]
  · by_cases e2 : j = i
    · subst e2; rw [if_neg e, if_pos rfl, if_pos (by omega)]
    · rw [if_neg e, if_neg e2, if_neg (by omega)]
      by_cases e3 : j = i + 1
      · subst e3; rw [if_pos rfl]; simp [sumZ]
      · rw [if_neg e3]
theorem sums_zero (h n : Nat) : sums h n 0 0 = List.replicate h 0 := by
  unfold sums
  apply List.ext_getElem?
  intro j
  by_cases hj : j < h
  · rw [List.getElem?_map, List.getElem?_range hj, List.getElem?_replicate, if_pos hj]
    simp [sumZ]
  · rw [List.getElem?_eq_none (by simp; omega), List.getElem?_eq_none (by simp; omega)]
theorem row_at (h n i k : Nat) (hh : 1 ≤ h) (hi : i < h) (hk : k < zLen h i n) : ((rowsZ h n i).map fun x : Nat => (x : Int))[k]? = some ((zz h i k : Nat) : Int) := by
  rw [rowsZ_closed h i hh hi n, List.getElem?_map, List.getElem?_map, List.getElem?_range hk]
  rfl
theorem row_len (h n i : Nat) (hh : 1 ≤ h) (hi : i < h) : ((rowsZ h n i).map fun x : Nat => (x : Int)).length = zLen h i n := by
  rw [rowsZ_closed h i hh hi n]
  simp
theorem zz_lt (h n i k : Nat) (hh : 1 ≤ h) (hi : i < h) (hk : k < zLen h i n) : zz h i k < n := by
  have : zz h i k ∈ rowsZ h n i := by
    rw [rowsZ_closed h i hh hi n]
    exact List.mem_map.2 ⟨k, List.mem_range.2 hk, rfl⟩
  exact ((rowsZ_mem h i _ n).1 this).1
theorem sumZ_le (h n i k : Nat) (hh : 1 ≤ h) (hi : i < h) (hk : k ≤ zLen h i n) : sumZ h i k ≤ k * n := by
  induction k with
  | zero => simp [sumZ]
  | succ k ih =>
    rw [sumZ_succ, Nat.add_mul]
    have := ih (by omega)
    have := zz_lt h n i k hh hi (by omega)
    omega
theorem zLen_le (h i n : Nat) : zLen h i n ≤ n + 1 := by
  have : n / h ≤ n := Nat.div_le_self _ _
  unfold zLen
  split <;> omega
theorem zLists_flat (h n : Nat) : (zLists h n).flatten = (flatZ h n).map fun x : Nat => (x : Int) := by
  unfold zLists flatZ
  generalize List.range h = l
  induction l with
  | nil => rfl
  | cons a l ih => simp [ih]
theorem zLists_form (h n : Nat) (hh : 1 ≤ h) : (zLists h n).flatten.Nodup ∧ (∀ x ∈ (zLists h n).flatten, 0 ≤ x ∧ x < (n : Int)) ∧ (zLists h n).flatten.length = n := by
  rw [zLists_flat]
  refine ⟨?_, ?_, by rw [List.length_map, flatZ_len h n hh]⟩
  · rw [List.Nodup, List.pairwise_map]
    exact (flatZ_nodup h n).imp fun hab e => hab (by omega)
  · intro x hx
    obtain ⟨y, hy, rfl⟩ := List.mem_map.1 hx
    have := flatZ_mem h n y hy
    omega
set_option maxHeartbeats 4000000 in
theorem zigzags_law (n h : Nat) (w : World) (ht : Tabs w) (hn : n ≤ 160) (h1 : 1 ≤ h) (h2 : h ≤ 16) : Calls Tryz.prog 5 #[.int .i64 (n : Int), .int .i64 (h : Int)] w (Yes w) := by
  have e1 : decide ((n : Int) < 0) = false := decide_eq_false (by omega)
  have e2 : decide (160 < (n : Int)) = false := decide_eq_false (by omega)
  have e3 : decide ((h : Int) < 1) = false := decide_eq_false (by omega)
  have e4 : decide (16 < (h : Int)) = false := decide_eq_false (by omega)
  have hC := fun w => Zigzag_any n h w hn h1 h2
  obtain ⟨f1, f2, f3⟩ := zLists_form h n h1
  have hF := fun g cap B w hZ => r4CheckForm_ok n h (zLists h n) cap (some ⟨g, 0, none⟩) B w hZ h1 h2 (by omega) f1 f2 f3
  obtain ⟨i0, hi, hz0, hz1, hz2⟩ := info_parts infoInt
  have hmk : ∀ w : World, (Instr.makeSlice 28 (.int .i64 (h : Int)) (.int .i64 (h : Int))).run Tryz.prog w = .ok (.slice (some ⟨w.heap.size, 0, none⟩) h h) (w.alloc (.cells (madeCells #[.int .i64 0] h) 3)) := by
    intro w
    have := run_make (P := Tryz.prog) w 28 3 i0 (.int .i64 0) Tryz.underlying28 hi hz0 .i64 .i64 h h (by omega) (by omega) (by rw [hz2]; omega) (by omega)
    rw [hz1] at this
    simpa [Value.cells] using this
  have hhi : (h : Int) ≤ 16 := by omega
  have hh0 : 0 ≤ (h : Int) := by omega
  clear hi hz0 hz1 hz2 f1 f2 f3
  go_enter Tryz.func5, Tryz.ntmps5
  go_wp2_with fail
  refine (aw _ ht).mono ?_
  rintro e w1 ⟨rfl, hb1⟩
  clear ht
  go_wp2_with fail
  refine (hC _).mono ?_
  rintro e w2 ⟨g, rfl, hR, hb2⟩
  replace hb2 := hb1.trans (hb2.mono hb1.size)
  have hZ := hR.zss
  clear hC hb1 hR
  go_wp2_with fail
  refine (hF g _ _ _ hZ).mono ?_
  rintro e w3 ⟨rfl, hb3⟩
  replace hZ := hZ.below hb3 (Nat.le_refl _)
  replace hb3 := hb2.trans (hb3.mono hb2.size)
  clear hF hb2
  go_wp2
  have hrow : Row (w3.alloc (.cells (madeCells #[.int .i64 0] h) 3)) w3.heap.size (sums h n 0 0) := by
    rw [sums_zero]
    refine ⟨by simp, fun j v hv => ?_⟩
    have hj : j < h := by
      have := (List.getElem?_eq_some_iff.1 hv).1
      simpa using this
    rw [List.getElem?_replicate, if_pos hj] at hv
    obtain rfl := Option.some.inj hv
    simp [madeCells, hj, Nat.mod_one]
  have hb4 := hb3.alloc hb3.size (.cells (madeCells #[.int .i64 0] h) 3)
  have g4 : Below w3.heap.size w3 (w3.alloc (.cells (madeCells #[.int .i64 0] h) 3)) := (Below.refl _ _).alloc (Nat.le_refl _) _
  have HM : Hid (∀ w', Below w3.heap.size w3 w' → Zss w' w3.heap.size (some ⟨g, 0, none⟩) h (zLists h n)) := fun w' hb => by
    have hz' := hZ.below hb (Nat.le_trans hZ.2.1 (Nat.le_refl _))
    exact ⟨hz'.1, hb.size, fun q => by
      obtain ⟨b, off, e, hlt, hc⟩ := hz'.2.2 q
      refine ⟨b, off, e, Nat.lt_of_lt_of_le hlt hZ.2.1, fun i l hl => ?_⟩
      obtain ⟨A', c', a1, a2⟩ := hc i l hl
      exact ⟨A', c', a1, a2.1, hb.size, fun q2 => by
        obtain ⟨b2, off2, e2, hlt2, hc2⟩ := a2.2.2 q2
        exact ⟨b2, off2, e2, Nat.lt_of_lt_of_le hlt2 hZ.2.1, hc2⟩⟩⟩
  obtain ⟨s, hs⟩ : ∃ s, s = w3.heap.size := ⟨_, rfl⟩
  rw [← hs] at hrow ⊢
  generalize w3.alloc (.cells (madeCells #[.int .i64 0] h) 3) = w4 at *
  have hs3 : w3.heap.size ≤ s := by omega
  clear hs hZ hmk hb4
  go_loopw [54] (fun i wr => ∃ k : Nat, k ≤ h ∧ i = .int .i64 k ∧ Row wr s (sums h n k 0) ∧ Below w3.heap.size w3 wr) (fun i _ => h - (intOf i).toNat)
  case atStart => exact ⟨0, by omega, rfl, hrow, g4⟩
  case round =>
    obtain ⟨k, hk, rfl, hR, hb⟩ := hrel
    by_cases hlt : k < h
    · have hki : (k : Int) < (h : Int) := by omega
      have hk0 : (0 : Int) ≤ (k : Int) := by omega
      have HL := Lib.hid (row_len h n k h1 hlt)
      have hcl := zLen_le h k n
      obtain ⟨c, hc⟩ : ∃ c, zLen h k n = c := ⟨_, rfl⟩
      have Hc := Lib.hid hc
      rw [hc] at hcl HL
      obtain ⟨A', c', hcell, hZl⟩ := (HM.out _ hb).cell (zLists_at h n k hlt)
      rw [HL.out] at hcell hZl
      rw [Nat.zero_add] at hcell
      have hci : (c : Int) ≤ 161 := by omega
      clear hc hZl
      go_wp2
      go_loopw [62] (fun i wx => ∃ p : Nat, p ≤ c ∧ i = .int .i64 p ∧ Row wx s (sums h n k p) ∧ Below w3.heap.size w3 wx) (fun i _ => c - (intOf i).toNat)
      case atStart => exact ⟨0, by omega, rfl, hR, hb⟩
      case round =>
        obtain ⟨p, hp, rfl, hRx, hbx⟩ := hrel
        by_cases hpc : p < c
        · obtain ⟨A2, c2, hcell2, hZ2⟩ := (HM.out _ hbx).cell (zLists_at h n k hlt)
          rw [HL.out] at hcell2 hZ2
          rw [Nat.zero_add] at hcell2
          obtain ⟨b2, off2, x, rfl, _, hx, hcx⟩ := hZ2.at_ hpc
          rw [row_at h n k p h1 hlt (by rw [Hc.out]; exact hpc)] at hx
          obtain rfl := Option.some.inj hx
          have hzl := zz_lt h n k p h1 hlt (by rw [Hc.out]; exact hpc)
          have hzg := zz_group h k p hlt
          have hsl := sumZ_le h n k p h1 hlt (by rw [Hc.out]; omega)
          have hsl2 : p * n ≤ 161 * 160 := Nat.mul_le_mul (by omega) hn
          obtain ⟨d1, d2⟩ := hRx.at_ (j := k) (by rw [sums_len]; exact hlt)
          rw [sums_at h n k p k hlt, if_neg (by omega), if_pos rfl] at d1
          have hst := hRx.set_ (i := k) (by rw [sums_len]; exact hlt) (sumZ h k (p + 1))
          rw [sums_set h n k p hlt] at hst
          rw [sumZ_succ] at hst
          obtain ⟨z, hz⟩ : ∃ z, zz h k p = z := ⟨_, rfl⟩
          obtain ⟨y, hy⟩ : ∃ y, sumZ h k p = y := ⟨_, rfl⟩
          rw [hz] at hcx hzl hzg hst
          rw [hy] at d1 hsl hst
          have hq1 : Int.tdiv (z : Int) (h : Int) = (p : Int) := by rw [Int.tdiv_eq_ediv_of_nonneg (by omega), ← hzg]; simp
          have hwy : IntKind.i64.wrap ((y : Int) + (z : Int)) = ((y + z : Nat) : Int) := by rw [IntWalk.i64_in _ (by omega)]; omega
          have hpi : (p : Int) < (c : Int) := by omega
          have hp0 : (0 : Int) ≤ (p : Int) := by omega
          have hhn : h ≠ 0 := by omega
          have hbS : Below w3.heap.size w3 (wr.setCell ⟨s, k, none⟩ (.int .i64 ((y + z : Nat) : Int))) := hbx.setCell hs3 _
          have HS := Lib.hid hst
          clear hx hz hy hzg hsl hsl2 hZ2 hst
          go_wp2_with fail
          go_region
          go_wp2
          go_roundw
          case rel => exact ⟨p + 1, by omega, by go_num, HS.out.drew, hbS.drew⟩
          case measure => simp [intOf]; omega
        · have hpe : p = c := by omega
          subst hpe
          have hR1 : Row wr s (sums h n (k + 1) 0) := by rw [← sums_next, Hc.out]; exact hRx
          clear hRx hb hR
          obtain ⟨wo, hwo⟩ : ∃ wo : World, wo = wr := ⟨_, rfl⟩
          subst hwo
          go_wp2
          go_loopw [10] (fun i wx => ∃ j : Nat, j ≤ k ∧ i = .int .i64 j ∧ Row wx s (sums h n (k + 1) 0) ∧ Below w3.heap.size w3 wx) (fun i _ => k - (intOf i).toNat)
          case atStart => exact ⟨0, by omega, rfl, hR1, hbx⟩
          case round =>
            obtain ⟨j, hj, rfl, hRy, hby⟩ := hrel
            by_cases hjk : j < k
            · have hjh : j < h := by omega
              obtain ⟨Ak, ck, hck, _⟩ := (HM.out _ hby).cell (zLists_at h n k hlt)
              obtain ⟨Aj, cj, hcj, _⟩ := (HM.out _ hby).cell (zLists_at h n j hjh)
              rw [HL.out, Nat.zero_add] at hck
              rw [row_len h n j h1 hjh, Nat.zero_add] at hcj
              obtain ⟨d1, _⟩ := hRy.at_ (j := k) (by rw [sums_len]; exact hlt)
              obtain ⟨d2, _⟩ := hRy.at_ (j := j) (by rw [sums_len]; exact hjh)
              rw [sums_at h n (k + 1) 0 k hlt, if_pos (by omega), Hc.out] at d1
              rw [sums_at h n (k + 1) 0 j hjh, if_pos (by omega)] at d2
              have heq : zLen h j n = p → p % 2 = 0 → sumZ h k p = sumZ h j (zLen h j n) := fun q1 q2 => by
                rw [q1]
                have := sumZ_even h k j (p / 2) hlt hjh
                rwa [show 2 * (p / 2) = p from by omega] at this
              obtain ⟨q, hq⟩ : ∃ q, zLen h j n = q := ⟨_, rfl⟩
              have hql := zLen_le h j n
              rw [hq] at hcj d2 heq hql
              obtain ⟨y1, hy1⟩ : ∃ y, sumZ h k p = y := ⟨_, rfl⟩
              obtain ⟨y2, hy2⟩ : ∃ y, sumZ h j q = y := ⟨_, rfl⟩
              rw [hy1] at d1 heq
              rw [hy2] at d2 heq
              have hji : (j : Int) < (h : Int) := by omega
              have hjk2 : (j : Int) < (k : Int) := by omega
              have hj0 : (0 : Int) ≤ (j : Int) := by omega
              have hkt : ((k : Int)).toNat = k := by omega
              have hjt : ((j : Int)).toNat = j := by omega
              have HQ := Lib.hid heq
              clear heq hq hy1 hy2
              by_cases g1 : q = p
              · subst g1
                have gb : ((q : Int) == (q : Int)) = true := by simp
                by_cases g2 : q % 2 = 0
                · obtain rfl := HQ.out rfl g2
                  have gm : Int.tmod (q : Int) 2 = 0 := by rw [Int.tmod_eq_emod_of_nonneg (by omega)]; omega
                  have gw : IntKind.i64.wrap 0 = 0 := by decide
                  as_aux_lemma =>
                    go_wp2_with fail
                    go_quiet (fail)
                    go_wp2
                    exact ⟨⟨j + 1, by omega, by go_num, hRy.drewN _, below_drewN hby _⟩, by simp [intOf]; omega⟩
                · have gm : Int.tmod (q : Int) 2 = 1 := by rw [Int.tmod_eq_emod_of_nonneg (by omega)]; omega
                  as_aux_lemma =>
                    go_wp2_with fail
                    go_quiet (fail)
                    go_wp2
                    exact ⟨⟨j + 1, by omega, by go_num, hRy.drewN _, below_drewN hby _⟩, by simp [intOf]; omega⟩
              · have gb : ((p : Int) == (q : Int)) = false := by rw [beq_eq_false_iff_ne]; omega
                as_aux_lemma =>
                  go_wp2_with fail
                  go_quiet (fail)
                  go_wp2
                  exact ⟨⟨j + 1, by omega, by go_num, hRy.drewN _, below_drewN hby _⟩, by simp [intOf]; omega⟩
            · go_wp2
              go_roundw
              case rel => exact ⟨k + 1, by omega, by go_num, hRy, hby⟩
              case measure => simp [intOf]; omega
    · go_wp2
      go_ret
      exact ⟨rfl, hb3.trans (hb.mono hb3.size)⟩
theorem zigzags_any (n h : Int) (w : World) (ht : Tabs w) : Calls Tryz.prog 5 #[.int .i64 n, .int .i64 h] w (Yes w) := by
  by_cases hx : n < 0 ∨ 160 < n ∨ h < 1 ∨ 16 < h
  · exact zigzags_exit n h w ht hx
  · obtain ⟨m, rfl⟩ : ∃ m : Nat, n = (m : Int) := ⟨n.toNat, by omega⟩
    obtain ⟨k, rfl⟩ : ∃ k : Nat, h = (k : Int) := ⟨h.toNat, by omega⟩
    exact zigzags_law m k w ht (by omega) (by omega) (by omega)
end Go.Mk
