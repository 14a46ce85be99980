/-
  Proved: the law SeedOrderless returns true and leaves all that was there, where it looks further. Conditions: the tables that awake reads lie where the program lays them; the runners lie where the slices say; texts are no longer than an int says.
-/
import Derived.Test.YtkjolejppnogiaaGreatDoorOa
set_option linter.unusedVariables false
set_option linter.unusedSimpArgs false
open Go Go.Proofs Go.RowKit Go.Sort
set_option maxRecDepth 100000
namespace Go.Mk
set_option maxHeartbeats 16000000 in
theorem orderless_law (LL : List (List Run)) (n cap : Nat) (A : Option Addr) (B : Nat) (p t c d : Int) (w : World) (ht : Tabs w) (hZ : RHeats w B A n LL) (hok : ∀ l ∈ LL, ∀ x ∈ l, x.ok) (hc0 : 0 ≤ c) (hd0 : 0 ≤ d) (hd1 : d ≤ 255) (hc1 : c ≤ 255) (hx : furtherO LL p t) :
    Calls Tryz.prog 7 #[.slice A n cap, .agg #[.int .i64 p, .int .i64 t], .agg #[.int .u8 c, .int .u8 d]] w (Yes w) := by
  obtain ⟨i1, hi1, hy0, hy1, hy2⟩ := info_parts infoSRun
  obtain ⟨i2, hi2, hz0, hz1, hz2⟩ := info_parts infoSRuns
  obtain ⟨wA, hwA⟩ : ∃ wA, wA = (w.alloc (.cells #[.int .i64 p, .int .i64 t] 75)).alloc (.cells #[.int .u8 c, .int .u8 d] 89) := ⟨_, rfl⟩
  have hbA : Below w.heap.size w wA := by rw [hwA]; exact balloc _ (balloc _ (Below.refl _ _))
  have hszA := hbA.size
  obtain ⟨hn6, hsX, hchk, hp0, hp9, ht0, ht9⟩ := hx
  obtain ⟨hn18, hsh⟩ := shortH_yes hsX
  have hl := hZ.1
  rw [hl] at hn18 hn6
  obtain ⟨hl16, hl160⟩ := chk_one hchk
  have hl12 : ∀ l ∈ LL, l.length ≤ 12 := fun l hl => by
    have := (hsh l hl).2
    have := hl160 l hl
    omega
  have hR := l4runners_big LL n cap A B wA (hZ.below hbA hZ.2.1) (by omega) (fun l hl => by have := (hsh l hl).1; omega)
  have HST : Hid (∀ w1, Below wA.heap.size wA w1 → BY w1 w.heap.size p t c d w1) := fun w1 hb => by rw [hwA] at hb; exact BY.start w p t c d w1 hb
  have HWA := Lib.hid hwA
  have hs1 : ∀ l ∈ LL, l.length ≤ 1000 ∧ ∀ x ∈ l, x.ok := fun l hl => ⟨by have := (hsh l hl).1; omega, hok l hl⟩
  have hfl : LL.flatten.length ≤ 72 := by
    have := flatten_le 12 LL hl12
    rw [hl] at this
    omega
  have HM : Hid (∀ w', Below w.heap.size w w' → RHeats w' B A n LL) := fun w' hb => hZ.below hb hZ.2.1
  have H12 := Lib.hid hl12
  have HOK := Lib.hid hok
  have HLL := Lib.hid hl
  have HFL := Lib.hid hfl
  have HCHK := Lib.hid hchk
  have hG := ht.1
  have htA := ht.grow hbA
  have hni : (n : Int) ≤ 6 := by omega
  have HE0 : Hid (fstN [chkRuns LL, rngE p 0 160, rngE t 0 160] = 0) := (show _ = _ by
    rw [hchk]
    have e1 : rngE p 0 160 = 0 := by unfold rngE; rw [if_neg (by omega)]
    have e2 : rngE t 0 160 = 0 := by unfold rngE; rw [if_neg (by omega)]
    rw [e1, e2]; rfl)
  clear hZ hok hsh hwA ht hl hl160 hl12 hfl hl16
  go_enter Tryz.func7, Tryz.ntmps7
  go_wp2_with fail
  rw [← HWA.out]
  refine hR.mono ?_
  rintro e w1 ⟨v, rfl, hO, hb1⟩
  obtain ⟨A1, c1, rfl, hR1⟩ := RHeats.of_own hO
  rw [HLL.out] at hR1 ⊢
  have HS : Hid (∀ w', Below w1.heap.size w1 w' → Calls Tryz.prog 36 #[.slice A1 n c1] w' (RetPost (.bool true) w')) := fun w' hb => by
    have := short_any LL n c1 A1 _ w' (hR1.below hb (Nat.le_refl _)) (by omega)
    rwa [hsX] at this
  have HRC : Hid (∀ w', Below w1.heap.size w1 w' → Calls Tryz.prog 37 #[.slice A1 n c1] w' (RetPost (.int .i64 0) w')) := fun w' hb => by
    have := r4CheckRunners_all LL n c1 A1 _ w' (hR1.below hb (Nat.le_refl _)) (by omega) hs1
    rwa [HCHK.out] at this
  have ht1 := htA.grow hb1
  have hbW1 : Below w.heap.size w w1 := hbA.trans (hb1.mono hszA)
  have hB1 := HST.out _ hb1
  clear hO hR1 hR htA HST HWA hbA hsX hb1 hs1 hchk
  have g0 : ((0 : Int) != 0) = false := by decide
  go_wp2_with fail
  refine (aw _ ht1).mono ?_
  rintro e w2 ⟨rfl, hb2⟩
  have hS := HS.out _ hb2
  clear HS
  go_wp2_with fail
  refine hS.mono ?_
  rintro e w3 ⟨rfl, hb3⟩
  have hRC := HRC.out _ (bstep hb2 hb3)
  clear hS HRC
  go_wp2_with fail
  refine hRC.mono ?_
  rintro e wz ⟨rfl, hb4⟩
  have hb1z := bstep (bstep hb2 hb3) hb4
  have hbz : Below w.heap.size w wz := hbW1.trans (hb1z.mono hbW1.size)
  have hBz := (hB1.next hb1z).rebase
  clear hRC hb2 hb3 hb4 hb1z hbW1 ht1 hB1
  have HBZ : Hid (∀ w', Below wz.heap.size wz w' → BY wz w.heap.size p t c d w') := fun w' hb => hBz.next hb
  have HBW : Hid (∀ w', Below wz.heap.size wz w' → Below w.heap.size w w') := fun w' hb => hbz.trans (hb.mono hbz.size)
  have HZ : Hid (∀ w', Below wz.heap.size wz w' → RHeats w' B A n LL) := fun w' hb => HM.out _ (HBW.out _ hb)
  obtain ⟨d0, d1, d2, d3, _⟩ := hBz
  have hszz := hbz.size
  clear hbz HM hszA
  go_wp2
  go_loopw [8, 9, 75] (fun v tm i wr => ∃ k : Nat, k ≤ n ∧ i = .int .i64 k ∧ tm = .int .i64 (tmC (LL.take k).flatten : Nat) ∧ OwnSH wr wz.heap.size v (turnR (LL.take k)) ∧ Below wz.heap.size wz wr) (fun _ _ i _ => n - (RowKit.intOf i).toNat)
  case atStart => exact ⟨0, by omega, rfl, rfl, ⟨[], rfl, World.ownsRow_nil _ _ _ _, by simp, fun i l h => by simp [turnR] at h⟩, Below.refl _ _⟩
  case round =>
    obtain ⟨k, hk, rfl, rfl, hown, hb⟩ := hrel
    have hflk := flatten_take_le LL k
    have htk := tmC_le (LL.take k).flatten
    have hflm : LL.flatten.length ≤ 72 := HFL.out
    clear d0 d1 d2 d3
    by_cases hlt : k < n
    · obtain ⟨b, off, l, A', c', rfl, hbl, hL, hc, hZl⟩ := (HZ.out _ hb).at_ hlt
      have hki : (k : Int) < (n : Int) := by omega
      have hk0 : (0 : Int) ≤ (k : Int) := by omega
      have hkt : ((k : Int)).toNat = k := by omega
      have hm1 := H12.out l (List.mem_of_getElem? hL)
      have W1 := Lib.hid (turn_next hL)
      have W2 := Lib.hid (flatten_take hL)
      have hstep := flatten_step_le hL
      have hLn : (turnR (LL.take k)).length = k := by unfold turnR; rw [List.length_reverse, List.length_map, List.length_take, HLL.out]; omega
      obtain ⟨m, hm⟩ : ∃ m, l.length = m := ⟨_, rfl⟩
      rw [hm] at hc hm1 hZl hstep
      have Hm := Lib.hid hm
      have hmi : (m : Int) ≤ 12 := by omega
      have hszr := hb.size
      obtain ⟨wy, rfl⟩ : ∃ wy : World, wy = wr := ⟨_, rfl⟩
      have hblY : b < wy.heap.size := (cell_some hc).2
      have HC := Lib.hid hc
      have HRL := Lib.hid hZl
      have HO := Lib.hid hown
      have HL := Lib.hid hL
      have HB := Lib.hid hb
      have HLN := Lib.hid hLn
      clear hZl hm hown hLn
      go_wp2
      clear hc hb
      go_loopw [11, 12, 83] (fun v o i wr => ∃ j : Nat, j ≤ m ∧ i = .int .i64 j ∧ o = .int .i64 (tmC (l.take j) : Nat) ∧ OwnS wr wy.heap.size v (l.reverse.take j) ∧ Below wy.heap.size wy wr) (fun _ _ i _ => m - (RowKit.intOf i).toNat)
      case atStart => exact ⟨0, by omega, rfl, rfl, World.ownsRow_nil _ _ _ _, Below.refl _ _⟩
      case round =>
        obtain ⟨j, hj, rfl, rfl, hownx, hbx⟩ := hrel
        have htj := tmC_le (l.take j)
        have hlj : (l.take j).length = j := by rw [List.length_take, Hm.out]; omega
        rw [hlj] at htj
        have hszx := hbx.size
        have hcx : wr.cell? ⟨b, off + k, none⟩ = some (.slice A' m c') := (hbx.cell (p := ⟨b, off + k, none⟩) hblY).trans HC.out
        by_cases hjm : j < m
        · obtain ⟨b2, off2, y, rfl, hb2, hyl, y0, y1, y2, y3⟩ := HRL.out.at_ hjm
          obtain ⟨b2', off2', x, hAq, hb2', hxl, x0, x1, x2, x3⟩ := HRL.out.at_ (show m - 1 - j < m by omega)
          cases hAq
          have hji : (j : Int) < (m : Int) := by omega
          have hj0 : (0 : Int) ≤ (j : Int) := by omega
          have hjt : ((j : Int)).toNat = j := by omega
          have hr0 : (0 : Int) ≤ (m : Int) - 1 - (j : Int) := by omega
          have hr1 : (m : Int) - 1 - (j : Int) < (m : Int) := by omega
          have hr2 : ((m : Int) - 1 - (j : Int)).toNat = m - 1 - j := by omega
          have hrr := And.intro hr0 hr1
          have hr3 : (j : Int) ≤ (m : Int) - 1 := by omega
          have hw1 : IntKind.i64.wrap ((m : Int) - 1) = (m : Int) - 1 := wrapI _ (by omega)
          have hw2 : IntKind.i64.wrap ((m : Int) - 1 - (j : Int)) = (m : Int) - 1 - (j : Int) := wrapI _ (by omega)
          have HRT := Lib.hid (rev_take (l := l) (j := j) (x := x) (by rw [Hm.out]; exact hxl) (by rw [Hm.out]; exact hjm))
          have HTC := Lib.hid (tmC_take hyl)
          obtain ⟨nm, kd, vv, rr⟩ := x
          simp only at x0 x1 x2 x3
          have HSX : Hid (∀ w', Below wy.heap.size wy w' → w'.cell? ⟨b, off + k, none⟩ = some (.slice (some ⟨b2, off2, none⟩) m c') ∧ w'.cell? ⟨b2, off2 + (m - 1 - j) * 4, none⟩ = some (.string nm) ∧ w'.cell? ⟨b2, off2 + (m - 1 - j) * 4 + 1, none⟩ = some (.string kd) ∧ w'.cell? ⟨b2, off2 + (m - 1 - j) * 4 + 2, none⟩ = some (.int .i64 vv) ∧ w'.cell? ⟨b2, off2 + (m - 1 - j) * 4 + 3, none⟩ = some (.string rr)) := fun w' hq =>
            ⟨(hq.cell (p := ⟨b, off + k, none⟩) hblY).trans HC.out, (hq.cell (p := ⟨b2, _, none⟩) (cell_some x0).2).trans x0, (hq.cell (p := ⟨b2, _, none⟩) (cell_some x1).2).trans x1, (hq.cell (p := ⟨b2, _, none⟩) (cell_some x2).2).trans x2, (hq.cell (p := ⟨b2, _, none⟩) (cell_some x3).2).trans x3⟩
          have HY1 : Hid (∀ w', Below wy.heap.size wy w' → w'.cell? ⟨b, off + k, none⟩ = some (.slice (some ⟨b2, off2, none⟩) m c') ∧ w'.cell? ⟨b2, off2 + j * 4 + 1, none⟩ = some (.string y.kind)) := fun w' hq =>
            ⟨(hq.cell (p := ⟨b, off + k, none⟩) hblY).trans HC.out, (hq.cell (p := ⟨b2, _, none⟩) (cell_some y1).2).trans y1⟩
          have hQl : (l.reverse.take j).length ≤ 12 := by rw [List.length_take]; omega
          obtain ⟨Q, hQ⟩ : ∃ Q, l.reverse.take j = Q := ⟨_, rfl⟩
          rw [hQ] at hownx hQl HRT
          have HQL := Lib.hid hQl
          have HOX := Lib.hid hownx
          clear x0 x1 x2 x3 y0 y1 y2 y3 hb2' hxl hyl hQ hQl hownx hcx hlj
          go_wp2
          refine wp_region_held_drew (S := fun w' => w'.cell? ⟨b, off + k, none⟩ = some (.slice (some ⟨b2, off2, none⟩) m c') ∧ w'.cell? ⟨b2, off2 + (m - 1 - j) * 4, none⟩ = some (.string nm) ∧ w'.cell? ⟨b2, off2 + (m - 1 - j) * 4 + 1, none⟩ = some (.string kd) ∧ w'.cell? ⟨b2, off2 + (m - 1 - j) * 4 + 2, none⟩ = some (.int .i64 vv) ∧ w'.cell? ⟨b2, off2 + (m - 1 - j) * 4 + 3, none⟩ = some (.string rr)) (by kernel_rfl) ?_ (fun hHeld => ?_)
          · exact HSX.out _ hbx.drew
          refine wpAnyH_take (i := 0) (oi := _) (v := ?_) rfl (by kernel_rfl) (by kernel_rfl) (by kernel_rfl) (fun _ _ _ h => h) (Or.inl ⟨by rfl, ?_⟩) (by assumption) ?_
          rotate_left
          · rintro w ⟨s0, s1, s2, s3, s4⟩
            go_simp
            try with_reducible rfl
          try simp only [Act.put, List.setIfInBounds_toArray, List.set_cons_zero, List.set_cons_succ]
          refine wpAnyH_take (i := 1) (oi := _) (v := ?_) rfl (by kernel_rfl) (by kernel_rfl) (by kernel_rfl) (fun _ _ _ h => h) (Or.inl ⟨by rfl, ?_⟩) (by assumption) ?_
          rotate_left
          · rintro w ⟨s0, s1, s2, s3, s4⟩
            go_simp
            try with_reducible rfl
          try simp only [Act.put, List.setIfInBounds_toArray, List.set_cons_zero, List.set_cons_succ]
          refine wpAnyH_take (i := 2) (oi := _) (v := ?_) rfl (by kernel_rfl) (by kernel_rfl) (by kernel_rfl) (fun _ _ _ h => h) (Or.inl ⟨by rfl, ?_⟩) (by assumption) ?_
          rotate_left
          · rintro w ⟨s0, s1, s2, s3, s4⟩
            go_simp
            try with_reducible rfl
          try simp only [Act.put, List.setIfInBounds_toArray, List.set_cons_zero, List.set_cons_succ]
          refine wpAnyH_take (i := 3) (oi := _) (v := ?_) rfl (by kernel_rfl) (by kernel_rfl) (by kernel_rfl) (fun _ _ _ h => h) (Or.inl ⟨by rfl, ?_⟩) (by assumption) ?_
          rotate_left
          · rintro w ⟨s0, s1, s2, s3, s4⟩
            go_simp
            try with_reducible rfl
          try simp only [Act.put, List.setIfInBounds_toArray, List.set_cons_zero, List.set_cons_succ]
          refine wpAnyH_take (i := 4) (oi := _) (v := ?_) rfl (by kernel_rfl) (by kernel_rfl) (by kernel_rfl) (fun _ _ _ h => h) (Or.inl ⟨by rfl, ?_⟩) (by assumption) ?_
          rotate_left
          · rintro w ⟨s0, s1, s2, s3, s4⟩
            go_simp
            try with_reducible rfl
          try simp only [Act.put, List.setIfInBounds_toArray, List.set_cons_zero, List.set_cons_succ]
          refine wpAnyH_take (i := 5) (oi := _) (v := ?_) rfl (by kernel_rfl) (by kernel_rfl) (by kernel_rfl) (fun _ _ _ h => h) (Or.inl ⟨by rfl, ?_⟩) (by assumption) ?_
          rotate_left
          · rintro w ⟨s0, s1, s2, s3, s4⟩
            go_simp
            try with_reducible rfl
          try simp only [Act.put, List.setIfInBounds_toArray, List.set_cons_zero, List.set_cons_succ]
          refine wpAnyH_take (i := 6) (oi := _) (v := ?_) rfl (by kernel_rfl) (by kernel_rfl) (by kernel_rfl) (fun _ _ _ h => h) (Or.inl ⟨by rfl, ?_⟩) (by assumption) ?_
          rotate_left
          · rintro w ⟨s0, s1, s2, s3, s4⟩
            go_simp
            try with_reducible rfl
          try simp only [Act.put, List.setIfInBounds_toArray, List.set_cons_zero, List.set_cons_succ]
          refine wpAnyH_take (i := 7) (oi := _) (v := ?_) rfl (by kernel_rfl) (by kernel_rfl) (by kernel_rfl) (fun _ _ _ h => h) (Or.inl ⟨by rfl, ?_⟩) (by assumption) ?_
          rotate_left
          · rintro w ⟨s0, s1, s2, s3, s4⟩
            go_simp
            try with_reducible rfl
          try simp only [Act.put, List.setIfInBounds_toArray, List.set_cons_zero, List.set_cons_succ]
          refine wpAnyH_take (i := 8) (oi := _) (v := ?_) rfl (by kernel_rfl) (by kernel_rfl) (by kernel_rfl) (fun _ _ _ h => h) (Or.inl ⟨by rfl, ?_⟩) (by assumption) ?_
          rotate_left
          · rintro w ⟨s0, s1, s2, s3, s4⟩
            go_simp
            try with_reducible rfl
          try simp only [Act.put, List.setIfInBounds_toArray, List.set_cons_zero, List.set_cons_succ]
          refine wpAnyH_take (i := 9) (oi := _) (v := ?_) rfl (by kernel_rfl) (by kernel_rfl) (by kernel_rfl) (fun _ _ _ h => h) (Or.inl ⟨by rfl, ?_⟩) (by assumption) ?_
          rotate_left
          · rintro w ⟨s0, s1, s2, s3, s4⟩
            go_simp
            try with_reducible rfl
          try simp only [Act.put, List.setIfInBounds_toArray, List.set_cons_zero, List.set_cons_succ]
          refine wpAnyH_take (i := 10) (oi := _) (v := ?_) rfl (by kernel_rfl) (by kernel_rfl) (by kernel_rfl) (fun _ _ _ h => h) (Or.inl ⟨by rfl, ?_⟩) (by assumption) ?_
          rotate_left
          · rintro w ⟨s0, s1, s2, s3, s4⟩
            go_simp
            try simp only [hw1, hw2, hr2, if_pos hrr, if_pos hr3]
            try with_reducible rfl
          try simp only [Act.put, List.setIfInBounds_toArray, List.set_cons_zero, List.set_cons_succ]
          refine wpAnyH_take (i := 11) (oi := _) (v := ?_) rfl (by kernel_rfl) (by kernel_rfl) (by kernel_rfl) (fun _ _ _ h => h) (Or.inl ⟨by rfl, ?_⟩) (by assumption) ?_
          rotate_left
          · rintro w ⟨s0, s1, s2, s3, s4⟩
            go_simp
            try with_reducible rfl
          try simp only [Act.put, List.setIfInBounds_toArray, List.set_cons_zero, List.set_cons_succ]
          refine wpAnyH_take (i := 12) (oi := _) (v := ?_) rfl (by kernel_rfl) (by kernel_rfl) (by kernel_rfl) (fun _ _ _ h => h) (Or.inl ⟨by rfl, ?_⟩) (by assumption) ?_
          rotate_left
          · rintro w ⟨s0, s1, s2, s3, s4⟩
            go_simp
            try simp only [hw1, hw2, hr2, if_pos hrr, if_pos hr3]
            try with_reducible rfl
          try simp only [Act.put, List.setIfInBounds_toArray, List.set_cons_zero, List.set_cons_succ]
          refine wpAnyH_take (i := 13) (oi := _) (v := ?_) rfl (by kernel_rfl) (by kernel_rfl) (by kernel_rfl) (fun _ _ _ h => h) (Or.inl ⟨by rfl, ?_⟩) (by assumption) ?_
          rotate_left
          · rintro w ⟨s0, s1, s2, s3, s4⟩
            go_simp
            try simp only [hw1, hw2, hr2, if_pos hrr, if_pos hr3]
            try with_reducible rfl
          try simp only [Act.put, List.setIfInBounds_toArray, List.set_cons_zero, List.set_cons_succ]
          refine wpAnyH_take (i := 14) (oi := _) (v := ?_) rfl (by kernel_rfl) (by kernel_rfl) (by kernel_rfl) (fun _ _ _ h => h) (Or.inl ⟨by rfl, ?_⟩) (by assumption) ?_
          rotate_left
          · rintro w ⟨s0, s1, s2, s3, s4⟩
            go_simp
            try with_reducible rfl
          try simp only [Act.put, List.setIfInBounds_toArray, List.set_cons_zero, List.set_cons_succ]
          refine wpAnyH_ready (rs := [15]) (by kernel_rfl) (by simp) ?_
          refine AllReadyH.cons (o := _) rfl (fun K hKK => ?_) AllReadyH.nil
          go_simp
          have hbA : Below wy.heap.size wy (wr.drew.alloc (.cells #[.string nm, .string kd, .int .i64 vv, .string rr] 79)) := balloc _ hbx.drew
          have hoA : (wr.drew.alloc (.cells #[.string nm, .string kd, .int .i64 vv, .string rr] 79)).ownsRow wy.heap.size 79 4 _ Q.length (Q.flatMap runC) := World.ownsRow.alloc (World.ownsRow.drew HOX.out) _
          refine hKK.out _ _ ?_ (fun hHeld => ?_)
          · exact HSX.out _ hbA
          clear hKK K
          try simp only [Act.put, List.setIfInBounds_toArray, List.set_cons_zero, List.set_cons_succ]
          refine wpAnyH_ready (rs := [16]) (by kernel_rfl) (by simp) ?_
          refine AllReadyH.cons (o := _) rfl (fun K hKK => ?_) AllReadyH.nil
          refine wp_append_own _ _ _ 65 rfl wy.heap.size 79 i1 (.agg #[.string ⟨#[]⟩, .string ⟨#[]⟩, .int .i64 0, .string ⟨#[]⟩]) 4 56 Tryz.underlying65 hi1 hy0 hy1 hy2 rfl (by decide) _ _ _ rfl hoA ⟨wr.drew.heap.size, 0, none⟩ 1 1 (runC ⟨nm, kd, vv, rr⟩) rfl rfl (news4 _ rfl) (one4 _) (by have := HQL.out; unfold maxLen; omega) (by have := HQL.out; omega) hbA.size ?_
          intro v' w6 hown6 hgrow6 _
          have hb6 : Below wy.heap.size wy w6 := hbA.grown hgrow6 hbA.size (fun r hr => (World.ownsRow.lt hoA r hr).1)
          have ho6 : OwnS w6 wy.heap.size v' (l.reverse.take (j + 1)) := by
            rw [HRT.out]
            exact OwnS.app (by simpa using hown6)
          refine hKK.out _ _ ?_ (fun hHeld => ?_)
          · exact HSX.out _ hb6
          clear hKK K
          try simp only [Act.put, List.setIfInBounds_toArray, List.set_cons_zero, List.set_cons_succ]
          clear hown6 hgrow6 hoA
          refine wpAnyH_ready (rs := [17]) (by kernel_rfl) (by simp) ?_
          refine AllReadyH.cons (o := _) rfl (fun K hKK => ?_) AllReadyH.nil
          go_simp
          refine hKK.out _ _ ?_ (fun hHeld => ?_)
          · exact HSX.out _ hb6
          clear hKK K
          try simp only [Act.put, List.setIfInBounds_toArray, List.set_cons_zero, List.set_cons_succ]
          refine wpAnyH_done (by kernel_rfl) ?_ _
          clear hHeld hbA
          obtain ⟨e0, e1⟩ := HY1.out _ hb6
          have HO6 := Lib.hid ho6
          clear ho6 HSX HY1 HOX HQL HRT hbx
          by_cases g : y.kind = sTime
          · have g1 : (y.kind.toList == [116, 105, 109, 101]) = true := by rw [timeB, decide_eq_true g]
            rw [if_pos g] at HTC
            have HT2 : Hid ((tmC (l.take j) : Int) + 1 = (tmC (l.take (j + 1)) : Nat)) := (show _ = _ by rw [HTC.out]; omega)
            clear g HTC
            as_aux_lemma =>
              go_wp2
              go_roundw
              case rel => exact ⟨j + 1, by omega, by go_num, by rw [HT2.out], HO6.out, hb6⟩
              case measure => simp [RowKit.intOf]; omega
          · have g1 : (y.kind.toList == [116, 105, 109, 101]) = false := by rw [timeB, decide_eq_false g]
            rw [if_neg g, Nat.add_zero] at HTC
            clear g
            as_aux_lemma =>
              go_wp2
              go_roundw
              case rel => exact ⟨j + 1, by omega, by go_num, by simp [HTC.out], HO6.out, hb6⟩
              case measure => simp [RowKit.intOf]; omega
        · obtain rfl : j = m := by omega
          have htl : l.take j = l := List.take_of_length_le (by rw [Hm.out]; omega)
          have hrl : l.reverse.take j = l.reverse := List.take_of_length_le (by rw [List.length_reverse, Hm.out]; omega)
          rw [hrl] at hownx
          obtain ⟨a11, c11, rfl, _, _⟩ := hownx.src
          rw [List.length_reverse, Hm.out]
          obtain ⟨vs, ao, cT, rfl, hvl, hv1, hno, hce, hvi⟩ := (OwnSH.below HO.out hbx).src
          rw [HLN.out] at hno ⊢
          have hW := bstep HB.out hbx
          have HN : Hid (vs.length = k * 1 ∧ (ao = none → k = 0 ∧ cT = 0)) := ⟨by rw [hvl, HLN.out]; omega, hno⟩
          have HCE : Hid (∀ ad, ao = some ad → ∀ (j' : Nat) (u : Value), vs[j']? = some u → (wr.alloc (.cells #[.slice a11 j c11] 65)).cell? (ad.add j') = some u) := fun ad e j' u hj' => by
            have h := hce ad e j' u hj'
            exact ((balloc (.cells #[.slice a11 j c11] 65) (Below.refl _ _)).cell (cell_some h).2).trans h
          have HU : Hid (OwnS wr wz.heap.size (.slice a11 j c11) l.reverse) := (show OwnS _ _ _ _ by have := OwnS.low hownx hszr; rwa [show l.reverse.length = j by rw [List.length_reverse, Hm.out]] at this)
          have HVL := Lib.hid hvl
          have HVI := Lib.hid hvi
          have HV1 := Lib.hid hv1
          have HOL : Hid ((wr.alloc (.cells #[.slice a11 j c11] 65)).ownsRow wz.heap.size 65 1 (.slice (some ⟨wr.heap.size, 0, none⟩) 1 1) 1 [.slice a11 j c11]) := World.ownsRow_lit wr #[.slice a11 j c11] 1 hW.size (by decide) rfl
          have HT3 : Hid ((tmC (LL.take k).flatten : Int) + (tmC (l.take j) : Nat) = (tmC (LL.take (k + 1)).flatten : Nat)) := (show _ = _ by rw [W2.out, tmC_append, htl]; omega)
          have htj2 : tmC (l.take j) ≤ 12 := by omega
          clear hownx hno hce hvi hvl hv1 htl hrl hcx hlj hbx
          as_aux_lemma =>
            go_wp2_with (at_builtin; refine wpList_append_src _ rfl _ _ 58 rfl wz.heap.size 65 i2 (.slice none 0 0) 1 24 Tryz.underlying58 hi2 hz0 hz1 hz2 rfl (by decide) _ _ _ rfl HOL.out ao k cT vs rfl HN.out.1 HN.out.2 HCE.out HV1.out ?c3 ?c4 ?c5 ?_)
            case c3 => unfold maxLen; omega
            case c4 => omega
            case c5 => have := hW.size; simp; omega
            intro v' w5 hown5 hgrow5 hat5
            have hg5 : wr.grownBy w5 (some wr.heap.size) := grown_of (balloc (.cells #[.slice a11 j c11] 65) (Below.refl _ _)) hgrow5
            have hb5 : Below wz.heap.size wz w5 := hW.grown hg5 hW.size (fun r hr => by cases hr; exact hW.size)
            have ho5 : OwnSH w5 wz.heap.size v' (turnR (LL.take (k + 1))) := by
              rw [W1.out]
              exact OwnSH.front HVL.out HV1.out HVI.out HU.out (by rw [HLN.out]; exact hown5) hg5 (fun b hb => by cases hb; exact Nat.le_refl _)
            clear hown5 hgrow5 hat5 hg5
            go_wp2
            go_roundw
            case rel => exact ⟨k + 1, by omega, by go_num, by rw [HT3.out], ho5, hb5⟩
            case measure => simp [RowKit.intOf]; omega
    · obtain rfl : k = n := by omega
      have htk2 : LL.take k = LL := List.take_of_length_le (by rw [HLL.out]; omega)
      rw [htk2] at hown ⊢
      have hbW := HBW.out _ hb
      obtain ⟨d0, d1, d2, d3, _⟩ := HBZ.out _ hb
      have hA := seedAdvance_ok LL k cap A B p t wr (HZ.out _ hb) (by omega) (fun l hl => ⟨by have := H12.out l hl; omega, HOK.out l hl⟩) (by omega) (Nat.le_trans hG hbW.size) HE0.out
      have htn : (turnR LL).length = k := by unfold turnR; rw [List.length_reverse, List.length_map, HLL.out]
      have HO := Lib.hid hown
      clear hown htk htk2 hflk
      obtain ⟨TM, hTM⟩ : ∃ TM, tmC LL.flatten = TM := ⟨_, rfl⟩
      have HTM := Lib.hid hTM
      have htm := tmC_le LL.flatten
      rw [hTM] at htm ⊢
      clear hTM
      go_wp2_with fail
      refine hA.mono ?_
      rintro e w5 ⟨u1, v1, rfl, hu1, hv1, hb5⟩
      obtain ⟨A2, c2, rfl, hZ2⟩ := (OwnSH.below HO.out hb5).heats
      rw [htn] at hZ2 ⊢
      have hbz5 := bstep hb hb5
      have hA2 := seedAdvance_ok (turnR LL) k c2 A2 w5.heap.size p t w5 hZ2 (by omega) (fun l hl => by
        unfold turnR at hl
        obtain ⟨q, hq, rfl⟩ := List.mem_map.1 (List.mem_reverse.1 hl)
        exact ⟨by rw [List.length_reverse]; have := H12.out q hq; omega, fun x hx => HOK.out q hq x (List.mem_reverse.1 hx)⟩) (by rw [turn_flat, List.length_reverse]; omega) (Nat.le_trans hG (HBW.out _ hbz5).size) (by have := HE0.out; rw [HCHK.out] at this; rwa [chk_turn HCHK.out])
      obtain ⟨e0, e1, e2, e3, _⟩ := HBZ.out _ hbz5
      unfold SAdvPost at hA2
      rw [byPl_turn, byTm_turn, List.map_reverse, List.map_reverse] at hA2
      have hnP := byPl_len LL p
      have hnT := byTm_len LL p t
      rw [← List.length_map (f := Run.name)] at hnP hnT
      obtain ⟨P, hP⟩ : ∃ P, (byPl LL p).map Run.name = P := ⟨_, rfl⟩
      obtain ⟨T, hT⟩ : ∃ T, (byTm LL p t).map Run.name = T := ⟨_, rfl⟩
      rw [hP] at hu1 hA2 hnP
      rw [hT] at hv1 hA2 hnT
      have HP := Lib.hid hP
      have HT := Lib.hid hT
      obtain ⟨nP, hnP'⟩ : ∃ nP, P.length = nP := ⟨_, rfl⟩
      obtain ⟨nT, hnT'⟩ : ∃ nT, T.length = nT := ⟨_, rfl⟩
      obtain ⟨Au, cu, rfl, hXu⟩ := TextsZ.of_own hu1
      obtain ⟨Av, cv, rfl, hXv⟩ := TextsZ.of_own hv1
      rw [hnP'] at hnP hXu ⊢
      rw [hnT'] at hnT hXv ⊢
      have HXU := Lib.hid hXu
      have HXV := Lib.hid hXv
      have HNP := Lib.hid hnP'
      have HNT := Lib.hid hnT'
      clear hA hu1 hv1 hZ2 HO hP hT hXu hXv hnP' hnT' d0 d1 d2 d3 hb hbW
      go_wp2_with fail
      refine hA2.mono ?_
      rintro e w6 ⟨u2, v2, rfl, hu2, hv2, hb6⟩
      obtain ⟨Aq, cq, rfl, hXq⟩ := TextsZ.of_own hu2
      obtain ⟨As, cs, rfl, hXs⟩ := TextsZ.of_own hv2
      rw [List.length_reverse, HNP.out] at hXq ⊢
      rw [List.length_reverse, HNT.out] at hXs ⊢
      have hXu := HXU.out.below hb6
      have hXv := HXV.out.below hb6
      have hbz6 := bstep hbz5 hb6
      have hB6 := (HBZ.out _ hbz6).rebase
      have H1 : Hid (∀ s w', Below w6.heap.size w6 w' → Calls Tryz.prog 49 #[.slice Au nP cu, .string s] w' (RetPost (.bool (isIn P s)) w')) := fun s w' hb => r4Has_any _ s nP cu Au w' (hXu.below hb) (by omega)
      have H2 : Hid (∀ s w', Below w6.heap.size w6 w' → Calls Tryz.prog 49 #[.slice Av nT cv, .string s] w' (RetPost (.bool (isIn T s)) w')) := fun s w' hb => r4Has_any _ s nT cv Av w' (hXv.below hb) (by omega)
      have H3 : Hid (∀ s w', Below w6.heap.size w6 w' → Calls Tryz.prog 49 #[.slice Aq nP cq, .string s] w' (RetPost (.bool (isIn P s)) w')) := fun s w' hb => by
        have := r4Has_any _ s nP cq Aq w' (hXq.below hb) (by omega)
        rwa [isIn_reverse] at this
      have H4 : Hid (∀ s w', Below w6.heap.size w6 w' → Calls Tryz.prog 49 #[.slice As nT cs, .string s] w' (RetPost (.bool (isIn T s)) w')) := fun s w' hb => by
        have := r4Has_any _ s nT cs As w' (hXs.below hb) (by omega)
        rwa [isIn_reverse] at this
      have HBW6 : Hid (∀ w', Below w6.heap.size w6 w' → Below w.heap.size w w') := fun w' hb => HBW.out _ (bstep hbz6 hb)
      have HZ6 : Hid (∀ w', Below w6.heap.size w6 w' → RHeats w' B A k LL) := fun w' hb => HZ.out _ (bstep hbz6 hb)
      have HB6 : Hid (∀ w', Below w6.heap.size w6 w' → BY w6 w.heap.size p t c d w') := fun w' hb => hB6.next hb
      obtain ⟨d0, d1, d2, d3, _⟩ := hB6
      have gP : (nP != nP) = false := by simp
      have gT : (nT != nT) = false := by simp
      clear hA2 hu2 hv2 hXq hXs hXu hXv HXU HXV e0 e1 e2 e3 hbz5 hbz6 hb5 hb6 HZ HBW HBZ
      go_wp2
      have HNL := Lib.hid (needS_le p LL)
      go_loopw [20, 166] (fun nd i wr => ∃ q : Nat, q ≤ k ∧ i = .int .i64 q ∧ nd = .int .i64 (t + needS p (LL.take q)) ∧ Below w6.heap.size w6 wr) (fun _ i _ => k - (RowKit.intOf i).toNat)
      case atStart => exact ⟨0, by omega, rfl, by simp [needS], Below.refl _ _⟩
      case round =>
        obtain ⟨q, hq, rfl, rfl, hb⟩ := hrel
        have hn1 := needS_pos p hp0 (LL.take q)
        have hn2 := needS_le p (LL.take q)
        have hn3 := tmC_le (LL.take q).flatten
        have hn4 := flatten_take_le LL q
        clear d0 d1 d2 d3
        by_cases hlt2 : q < k
        · obtain ⟨b, off, l, A', c', rfl, hbl, hL, hc, hZl⟩ := (HZ6.out _ hb).at_ hlt2
          have hki : (q : Int) < (k : Int) := by omega
          have hk0 : (0 : Int) ≤ (q : Int) := by omega
          have hkt : ((q : Int)).toNat = q := by omega
          have hm1 := H12.out l (List.mem_of_getElem? hL)
          have W1 := Lib.hid (needS_take p hL)
          obtain ⟨m, hm⟩ : ∃ m, l.length = m := ⟨_, rfl⟩
          rw [hm] at hc hm1 hZl
          have Hm := Lib.hid hm
          have hmi : (m : Int) ≤ 12 := by omega
          obtain ⟨NQ, hNQ⟩ : ∃ NQ, needS p (LL.take q) = NQ := ⟨_, rfl⟩
          rw [hNQ] at hn1 hn2 W1 ⊢
          have HL := Lib.hid hL
          clear hZl hm hNQ
          go_wp2
          clear hc
          go_loopw [22, 174] (fun o i wr => ∃ j : Nat, j ≤ m ∧ i = .int .i64 j ∧ o = .int .i64 (tmC (l.take j) : Nat) ∧ Below w6.heap.size w6 wr) (fun _ i _ => m - (RowKit.intOf i).toNat)
          case atStart => exact ⟨0, by omega, rfl, rfl, hb⟩
          case round =>
            obtain ⟨j, hj, rfl, rfl, hbx⟩ := hrel
            have htj := tmC_le (l.take j)
            have hlj : (l.take j).length = j := by rw [List.length_take, Hm.out]; omega
            rw [hlj] at htj
            obtain ⟨b', off', l', A9, c9, hAq, _, hLq, hc, hZ2⟩ := (HZ6.out _ hbx).at_ hlt2
            cases hAq
            cases HL.out.symm.trans hLq
            rw [Hm.out] at hc hZ2
            by_cases hjm : j < m
            · obtain ⟨b2, off2, x, rfl, hb2, hxl, x0, x1, x2, x3⟩ := hZ2.at_ hjm
              have hji : (j : Int) < (m : Int) := by omega
              have hj0 : (0 : Int) ≤ (j : Int) := by omega
              have hjt : ((j : Int)).toNat = j := by omega
              have hmem : x ∈ LL.flatten := List.mem_flatten.2 ⟨l, List.mem_of_getElem? HL.out, List.mem_of_getElem? hxl⟩
              obtain ⟨o1, o2⟩ := adv_once (chk_nodup HCHK.out) p t hmem
              rw [HP.out, HT.out] at o1 o2
              have HTC := Lib.hid (tmC_take hxl)
              have K1 := Lib.hid (H1.out x.name)
              have K2 := Lib.hid (H2.out x.name)
              have K3 := Lib.hid (H3.out x.name)
              have K4 := Lib.hid (H4.out x.name)
              obtain ⟨b1, hb1⟩ : ∃ b1, isIn P x.name = b1 := ⟨_, rfl⟩
              obtain ⟨b2', hb2'⟩ : ∃ b2, isIn T x.name = b2 := ⟨_, rfl⟩
              rw [hb1] at K1 K3 o1 o2
              rw [hb2'] at K2 K4 o1 o2
              clear hb1 hb2' hmem hxl hLq hZ2 hb hlj
              go_wp2
              have hRB0 : RB w6 wr.heap.size x (wr.alloc (.cells #[.string x.name, .string x.kind, .int .i64 x.value, .string x.reason] 79)) := by
                obtain ⟨a0, a1, a2, a3, _⟩ := boxKept (Below.refl _ (wr.alloc (.cells #[.string x.name, .string x.kind, .int .i64 x.value, .string x.reason] 79)))
                exact ⟨a0, a1, a2, a3, balloc _ hbx⟩
              clear x0 x1 x2 x3 hc hbx
              refine wp_region_held_drew (S := RB w6 wr.heap.size x) (by kernel_rfl) ?_ (fun hHeld => ?_)
              · exact hRB0.next (Below.refl _ _).drew
              clear hRB0
              refine wpAnyH_take (i := 0) (oi := _) (v := ?_) rfl (by kernel_rfl) (by kernel_rfl) (by kernel_rfl) (fun _ _ _ h => h) (Or.inl ⟨by rfl, ?_⟩) (by assumption) ?_
              rotate_left
              · rintro w ⟨s0, s1, s2, s3, s4⟩
                go_simp
                try with_reducible rfl
              try simp only [Act.put, List.setIfInBounds_toArray, List.set_cons_zero, List.set_cons_succ]
              refine wpAnyH_take (i := 1) (oi := _) (v := ?_) rfl (by kernel_rfl) (by kernel_rfl) (by kernel_rfl) (fun _ _ _ h => h) (Or.inl ⟨by rfl, ?_⟩) (by assumption) ?_
              rotate_left
              · rintro w ⟨s0, s1, s2, s3, s4⟩
                go_simp
                try with_reducible rfl
              try simp only [Act.put, List.setIfInBounds_toArray, List.set_cons_zero, List.set_cons_succ]
              refine wpAnyH_take (i := 2) (oi := _) (v := ?_) rfl (by kernel_rfl) (by kernel_rfl) (by kernel_rfl) (fun _ _ _ h => h) (Or.inl ⟨by rfl, ?_⟩) (by assumption) ?_
              rotate_left
              · rintro w ⟨s0, s1, s2, s3, s4⟩
                go_simp
                try with_reducible rfl
              try simp only [Act.put, List.setIfInBounds_toArray, List.set_cons_zero, List.set_cons_succ]
              refine wpAnyH_take (i := 4) (oi := _) (v := ?_) rfl (by kernel_rfl) (by kernel_rfl) (by kernel_rfl) (fun _ _ _ h => h) (Or.inl ⟨by rfl, ?_⟩) (by assumption) ?_
              rotate_left
              · rintro w ⟨s0, s1, s2, s3, s4⟩
                go_simp
                try with_reducible rfl
              try simp only [Act.put, List.setIfInBounds_toArray, List.set_cons_zero, List.set_cons_succ]
              refine wpAnyH_take (i := 5) (oi := _) (v := ?_) rfl (by kernel_rfl) (by kernel_rfl) (by kernel_rfl) (fun _ _ _ h => h) (Or.inl ⟨by rfl, ?_⟩) (by assumption) ?_
              rotate_left
              · rintro w ⟨s0, s1, s2, s3, s4⟩
                go_simp
                try with_reducible rfl
              try simp only [Act.put, List.setIfInBounds_toArray, List.set_cons_zero, List.set_cons_succ]
              refine wpAnyH_take (i := 6) (oi := _) (v := ?_) rfl (by kernel_rfl) (by kernel_rfl) (by kernel_rfl) (fun _ _ _ h => h) (Or.inl ⟨by rfl, ?_⟩) (by assumption) ?_
              rotate_left
              · rintro w ⟨s0, s1, s2, s3, s4⟩
                go_simp
                try with_reducible rfl
              try simp only [Act.put, List.setIfInBounds_toArray, List.set_cons_zero, List.set_cons_succ]
              refine wpAnyH_ready (rs := [3]) (by kernel_rfl) (by simp) ?_
              refine AllReadyH.cons (o := _) rfl (fun K hKK => ?_) AllReadyH.nil
              go_simp
              go_at_call 49
              refine (K1.out _ hHeld.2.2.2.2).mono ?_
              rintro e wa ⟨rfl, hqa⟩
              have hX := hHeld.next hqa
              clear hHeld hqa
              go_wp2_with fail
              refine hKK.out _ _ ?_ (fun hHeld => ?_)
              · exact hX
              clear hKK K
              try simp only [Act.put, List.setIfInBounds_toArray, List.set_cons_zero, List.set_cons_succ]
              refine wpAnyH_ready (rs := [7]) (by kernel_rfl) (by simp) ?_
              refine AllReadyH.cons (o := _) rfl (fun K hKK => ?_) AllReadyH.nil
              go_simp
              go_at_call 49
              refine (K2.out _ hHeld.2.2.2.2).mono ?_
              rintro e wb ⟨rfl, hqb⟩
              have hX := hHeld.next hqb
              clear hHeld hqb
              go_wp2_with fail
              refine hKK.out _ _ ?_ (fun hHeld => ?_)
              · exact hX
              clear hKK K
              try simp only [Act.put, List.setIfInBounds_toArray, List.set_cons_zero, List.set_cons_succ]
              refine wpAnyH_ready (rs := [8]) (by kernel_rfl) (by simp) ?_
              refine AllReadyH.cons (o := _) rfl (fun K hKK => ?_) AllReadyH.nil
              go_simp
              refine hKK.out _ _ ?_ (fun hHeld => ?_)
              · exact hHeld
              clear hKK K
              try simp only [Act.put, List.setIfInBounds_toArray, List.set_cons_zero, List.set_cons_succ]
              refine wpAnyH_ready (rs := [9]) (by kernel_rfl) (by simp) ?_
              refine AllReadyH.cons (o := _) rfl (fun K hKK => ?_) AllReadyH.nil
              go_simp
              refine hKK.out _ _ ?_ (fun hHeld => ?_)
              · exact hHeld
              clear hKK K
              try simp only [Act.put, List.setIfInBounds_toArray, List.set_cons_zero, List.set_cons_succ]
              refine wpAnyH_done (by kernel_rfl) ?_ _
              clear hX
              obtain ⟨x0, x1, x2, x3, hbb⟩ := hHeld
              have hRB := RB.rebase ⟨x0, x1, x2, x3, hbb⟩
              clear K1 K2
              by_cases g : x.kind = sTime
              · have g1 : (x.kind.toList == [116, 105, 109, 101]) = true := by rw [timeB, decide_eq_true g]
                rw [if_pos g] at HTC
                have HT2 : Hid ((tmC (l.take j) : Int) + 1 = (tmC (l.take (j + 1)) : Nat)) := (show _ = _ by rw [HTC.out]; omega)
                clear g HTC o2
                cases b1 <;> cases b2'
                case true.true => simp at o1
                all_goals
                  clear o1
                  as_aux_lemma =>
                    go_wp2_with fail
                    refine (K3.out _ hbb).mono ?_
                    rintro e wc ⟨rfl, hqc⟩
                    obtain ⟨y0, y1, y2, y3, hbc⟩ := hRB.next hqc
                    have hb6c := bstep hbb hqc
                    go_wp2_with fail
                    refine (K4.out _ hb6c).mono ?_
                    rintro e we ⟨rfl, hqe⟩
                    obtain ⟨z0, z1, z2, z3, hbe⟩ := hRB.next (bstep hqc hqe)
                    have hb6e := bstep hb6c hqe
                    clear x0 x1 x2 x3 y0 y1 y2 y3 hqc hqe hb6c hbc hbe hRB K3 K4
                    go_wp2
                    go_roundw
                    case rel => exact ⟨j + 1, by omega, by go_num, by rw [HT2.out], hb6e⟩
                    case measure => simp [RowKit.intOf]; omega
              · have g1 : (x.kind.toList == [116, 105, 109, 101]) = false := by rw [timeB, decide_eq_false g]
                rw [if_neg g, Nat.add_zero] at HTC
                cases b1
                case true => exact absurd (o2 (by simp)) g
                cases b2'
                case true => exact absurd (o2 (by simp)) g
                clear g o2 o1
                as_aux_lemma =>
                  go_wp2_with fail
                  refine (K3.out _ hbb).mono ?_
                  rintro e wc ⟨rfl, hqc⟩
                  obtain ⟨y0, y1, y2, y3, hbc⟩ := hRB.next hqc
                  have hb6c := bstep hbb hqc
                  go_wp2_with fail
                  refine (K4.out _ hb6c).mono ?_
                  rintro e we ⟨rfl, hqe⟩
                  obtain ⟨z0, z1, z2, z3, hbe⟩ := hRB.next (bstep hqc hqe)
                  have hb6e := bstep hb6c hqe
                  clear x0 x1 x2 x3 y0 y1 y2 y3 hqc hqe hb6c hbc hbe hRB K3 K4
                  go_wp2
                  go_roundw
                  case rel => exact ⟨j + 1, by omega, by go_num, by simp [HTC.out], hb6e⟩
                  case measure => simp [RowKit.intOf]; omega
            · obtain rfl : j = m := by omega
              have htl : l.take j = l := List.take_of_length_le (by rw [Hm.out]; omega)
              obtain ⟨d0, d1, d2, d3, _⟩ := HB6.out _ hbx
              rw [htl] at htj ⊢
              obtain ⟨ow, how⟩ : ∃ ow, tmC l = ow := ⟨_, rfl⟩
              rw [how] at W1 htj ⊢
              clear how htl hLq hZ2 hc hlj hb
              have W2 : Hid (t + NQ + min p (ow : Int) = t + needS p (LL.take (q + 1))) := (show _ = _ by rw [W1.out, Int.add_assoc])
              as_aux_lemma =>
                go_wp2
                go_roundw
                case rel => exact ⟨q + 1, by omega, by go_num, by rw [W2.out], hbx⟩
                case measure => simp [RowKit.intOf]; omega
        · obtain rfl : q = k := by omega
          have htk2 : LL.take q = LL := List.take_of_length_le (by rw [HLL.out]; omega)
          rw [htk2] at hn1 hn2 hn3 ⊢
          obtain ⟨NQ, hNQ⟩ : ∃ NQ, needS p LL = NQ := ⟨_, rfl⟩
          have hmany : min (t + NQ) (TM : Int) ≤ (nP : Int) + (nT : Int) := by
            have h := adv_many LL p t hp0 ht0
            rw [hNQ, HTM.out] at h
            have e1 : (byPl LL p).length = nP := by rw [← HNP.out, ← HP.out, List.length_map]
            have e2 : (byTm LL p t).length = nT := by rw [← HNT.out, ← HT.out, List.length_map]
            rwa [e1, e2] at h
          rw [hNQ, HTM.out] at hn2
          rw [hNQ] at hn1 ⊢
          have hlm : ¬ ((nP : Int) + (nT : Int) < min (t + NQ) (TM : Int)) := by omega
          obtain ⟨d0, d1, d2, d3, _⟩ := HB6.out _ hb
          clear hNQ htk2 hmany hn4 HNL
          by_cases hz : q = 0
          · subst hz
            have hbW := HBW6.out _ hb
            as_aux_lemma =>
              go_wp2
              go_ret
              exact ⟨rfl, hbW⟩
          · have hq1 : (1 : Int) ≤ (q : Int) := by omega
            have hqz : ¬ ((q : Int) = 0) := by omega
            have hqz2 : ((q : Int) == 0) = false := by simp; omega
            obtain ⟨iN, hiN⟩ : ∃ iN : Nat, c % (q : Int) = (iN : Int) := ⟨(c % (q : Int)).toNat, by have := Int.emod_nonneg c (show (q : Int) ≠ 0 by omega); omega⟩
            have hiq : iN < q := by have := Int.emod_lt_of_pos c (show (0 : Int) < (q : Int) by omega); omega
            obtain ⟨b, off, l, A', c', rfl, hbl, hL, hc, hZl⟩ := (HZ6.out _ hb).at_ hiq
            have hki : (iN : Int) < (q : Int) := by omega
            have hk0 : (0 : Int) ≤ (iN : Int) := by omega
            have hkt : ((iN : Int)).toNat = iN := by omega
            have hm1 := H12.out l (List.mem_of_getElem? hL)
            obtain ⟨m, hm⟩ : ∃ m, l.length = m := ⟨_, rfl⟩
            rw [hm] at hc hm1 hZl
            have Hm := Lib.hid hm
            have HL := Lib.hid hL
            have hbW := HBW6.out _ hb
            clear hL hm
            by_cases hmz : m = 0
            · subst hmz
              clear hZl
              as_aux_lemma =>
                go_wp2
                go_ret
                exact ⟨rfl, hbW⟩
            · have hm1' : (1 : Int) ≤ (m : Int) := by omega
              have hmz1 : ¬ ((m : Int) = 0) := by omega
              have hmz2 : ((m : Int) == 0) = false := by simp; omega
              obtain ⟨jN, hjN⟩ : ∃ jN : Nat, d % (m : Int) = (jN : Int) := ⟨(d % (m : Int)).toNat, by have := Int.emod_nonneg d (show (m : Int) ≠ 0 by omega); omega⟩
              have hjm : jN < m := by have := Int.emod_lt_of_pos d (show (0 : Int) < (m : Int) by omega); omega
              obtain ⟨b2, off2, x, rfl, hb2, hxl, x0, x1, x2, x3⟩ := hZl.at_ hjm
              have hji : (jN : Int) < (m : Int) := by omega
              have hj0 : (0 : Int) ≤ (jN : Int) := by omega
              have hjt : ((jN : Int)).toNat = jN := by omega
              have hmem : x ∈ LL.flatten := List.mem_flatten.2 ⟨l, List.mem_of_getElem? HL.out, List.mem_of_getElem? hxl⟩
              clear hZl hxl
              have hw1 : w.heap.size + 1 < wr.heap.size := (cell_some d2).2
              have hw0 : w.heap.size < wr.heap.size := by omega
              by_cases g : x.kind = sTime
              · have g1 : (x.kind.toList == [116, 105, 109, 101]) = true := by rw [timeB, decide_eq_true g]
                have hcr := ((chk_zero LL).1 HCHK.out).2.2.1 x hmem
                obtain ⟨v1, v2, v3⟩ := cr_time hcr g
                obtain ⟨v, hv⟩ : ∃ v : Int, max 1 (x.value - d) = v := ⟨_, rfl⟩
                have hv1 : 1 ≤ v := by omega
                have hv2 : v ≤ x.value := by omega
                have hcf := v3 v hv1 hv2
                have hnd := chk_nodup HCHK.out
                have hhas : hasS ⟨x.name, sTime, v, ⟨#[]⟩⟩ LL = true := by
                  unfold hasS hasL
                  rw [List.any_eq_true]
                  obtain ⟨q', hq', hx'⟩ := List.mem_flatten.1 hmem
                  exact ⟨q', hq', List.any_eq_true.2 ⟨x, hx', by simp⟩⟩
                have hrep := repl_with ⟨x.name, sTime, v, ⟨#[]⟩⟩ LL hnd
                rw [if_pos hhas] at hrep
                have hfast := fun h => adv_faster (f := ⟨x.name, sTime, v, ⟨#[]⟩⟩) hnd hmem rfl rfl g hv2 (p := p) (t := t) h
                have hxok : x.ok := by
                  obtain ⟨q', hq', hx'⟩ := List.mem_flatten.1 hmem
                  exact HOK.out q' hq' x hx'
                have HCG : Hid (∀ w', Below w6.heap.size w6 w' → Calls Tryz.prog 44 #[.slice (some ⟨b, off, none⟩) q cap, .int .i64 p, .int .i64 t, .agg #[.string x.name, .string sTime, .int .i64 v, .string ⟨#[]⟩]] w' (fun e w'' => ∃ u, e = .returned (.tuple #[u, .int .i64 0]) ∧ OwnNames w'' w'.heap.size u (chgN LL (withS ⟨x.name, sTime, v, ⟨#[]⟩⟩ LL) p t) ∧ Below w'.heap.size w' w'')) := fun w' hb' => by
                  have h := seedChanged_ok LL q cap (some ⟨b, off, none⟩) B p t ⟨x.name, sTime, v, ⟨#[]⟩⟩ w' (HZ6.out _ hb') (by omega) (fun l hl => ⟨by have := H12.out l hl; omega, HOK.out l hl⟩) (by omega) hxok (Nat.le_trans hG (HBW6.out _ hb').size) (by rw [HE0.out, runE_nil, hcf]; rfl)
                  refine h.mono fun e w'' he => ?_
                  rcases he with ⟨h1, _⟩ | ⟨LL', u, h1, h2, h3, h4⟩
                  · rw [hrep] at h1; cases h1
                  · rw [hrep] at h1; cases h1
                    exact ⟨u, h2, h3, h4⟩
                have hcl : (chgN LL (withS ⟨x.name, sTime, v, ⟨#[]⟩⟩ LL) p t).length ≤ 300 := by
                  unfold chgN
                  refine Nat.le_trans (List.length_filter_le _ _) ?_
                  rw [List.length_map]; omega
                have hadv : isIn (advN LL p t) x.name = (isIn P x.name || isIn T x.name) := by
                  unfold advN
                  rw [isIn_append, HP.out, HT.out]
                have HNOT : Hid ((isIn P x.name || isIn T x.name) = true → isIn (chgN LL (withS ⟨x.name, sTime, v, ⟨#[]⟩⟩ LL) p t) x.name = false) := fun h => by
                  have h1 : isIn (advN LL p t) x.name = true := by rw [hadv, h]
                  exact chg_not (by rw [h1]; exact (hfast h1).symm)
                generalize chgN LL (withS ⟨x.name, sTime, v, ⟨#[]⟩⟩ LL) p t = CG at *
                have HCL := Lib.hid hcl
                clear g hcr v3 hcf hnd hhas hrep hfast hadv hcl hmem hxok
                have hbx := balloc (.cells #[.string x.name, .string sTime, .int .i64 v, .string ⟨#[]⟩] 79) (balloc (.cells #[.string x.name, .string x.kind, .int .i64 x.value, .string x.reason] 79) hb)
                have hRB0 : RB w6 wr.heap.size x ((wr.alloc (.cells #[.string x.name, .string x.kind, .int .i64 x.value, .string x.reason] 79)).alloc (.cells #[.string x.name, .string sTime, .int .i64 v, .string ⟨#[]⟩] 79)) := by
                  obtain ⟨a0, a1, a2, a3, _⟩ := boxKept (balloc (.cells #[.string x.name, .string sTime, .int .i64 v, .string ⟨#[]⟩] 79) (Below.refl _ (wr.alloc (.cells #[.string x.name, .string x.kind, .int .i64 x.value, .string x.reason] 79))))
                  exact ⟨a0, a1, a2, a3, hbx⟩
                have HRB := Lib.hid hRB0
                have hCG := HCG.out _ hbx
                have HBX := Lib.hid hbx
                clear hRB0 hbx HCG
                go_wp2_with fail
                refine hCG.mono ?_
                rintro e wc ⟨u, rfl, hu, hbc⟩
                obtain ⟨Ac, cc, rfl, hXc⟩ := TextsZ.of_own hu
                have hb6c := bstep HBX.out hbc
                have hRBc := HRB.out.next hbc
                have HC : Hid (∀ w', Below wc.heap.size wc w' → Calls Tryz.prog 49 #[.slice Ac CG.length cc, .string x.name] w' (RetPost (.bool (isIn CG x.name)) w')) := fun w' hb' => r4Has_any CG x.name _ cc Ac w' (hXc.below hb') (by have := HCL.out; omega)
                have K1 := Lib.hid (H1.out x.name)
                have K2 := Lib.hid (H2.out x.name)
                obtain ⟨b1, hb1⟩ : ∃ b1, isIn P x.name = b1 := ⟨_, rfl⟩
                obtain ⟨b2', hb2'⟩ : ∃ b2, isIn T x.name = b2 := ⟨_, rfl⟩
                rw [hb1] at K1 HNOT
                rw [hb2'] at K2 HNOT
                obtain ⟨y0, y1, y2, y3, _⟩ := id hRBc
                clear hb1 hb2' hu hXc hCG HRB HBX
                cases b1
                case true =>
                  have hno := HNOT.out (by simp)
                  rw [hno] at HC
                  clear hno HNOT K2
                  as_aux_lemma =>
                    go_wp2_with fail
                    refine (K1.out _ hb6c).mono ?_
                    rintro e wd ⟨rfl, hbd⟩
                    obtain ⟨z0, z1, z2, z3, _⟩ := hRBc.next hbd
                    clear y0 y1 y2 y3
                    go_wp2_with fail
                    refine (HC.out _ hbd).mono ?_
                    rintro e we ⟨rfl, hbe⟩
                    have hbF := HBW6.out _ (bstep (bstep hb6c hbd) hbe)
                    go_wp2
                    go_ret
                    exact ⟨rfl, hbF⟩
                case false =>
                  cases b2'
                  case true =>
                    have hno := HNOT.out (by simp)
                    rw [hno] at HC
                    clear hno HNOT
                    as_aux_lemma =>
                      go_wp2_with fail
                      refine (K1.out _ hb6c).mono ?_
                      rintro e wd ⟨rfl, hbd⟩
                      obtain ⟨z0, z1, z2, z3, _⟩ := hRBc.next hbd
                      clear y0 y1 y2 y3
                      go_wp2_with fail
                      refine (K2.out _ (bstep hb6c hbd)).mono ?_
                      rintro e we ⟨rfl, hbe⟩
                      obtain ⟨y0, y1, y2, y3, _⟩ := hRBc.next (bstep hbd hbe)
                      clear z0 z1 z2 z3
                      go_wp2_with fail
                      refine (HC.out _ (bstep hbd hbe)).mono ?_
                      rintro e wf ⟨rfl, hbf⟩
                      have hbF := HBW6.out _ (bstep (bstep (bstep hb6c hbd) hbe) hbf)
                      go_wp2
                      go_ret
                      exact ⟨rfl, hbF⟩
                  case false =>
                    clear HNOT HC
                    as_aux_lemma =>
                      go_wp2_with fail
                      refine (K1.out _ hb6c).mono ?_
                      rintro e wd ⟨rfl, hbd⟩
                      obtain ⟨z0, z1, z2, z3, _⟩ := hRBc.next hbd
                      clear y0 y1 y2 y3
                      go_wp2_with fail
                      refine (K2.out _ (bstep hb6c hbd)).mono ?_
                      rintro e we ⟨rfl, hbe⟩
                      have hbF := HBW6.out _ (bstep (bstep hb6c hbd) hbe)
                      go_wp2
                      go_ret
                      exact ⟨rfl, hbF⟩
              · have g1 : (x.kind.toList == [116, 105, 109, 101]) = false := by rw [timeB, decide_eq_false g]
                clear g
                as_aux_lemma =>
                  go_wp2
                  go_ret
                  exact ⟨rfl, balloc _ hbW⟩
end Go.Mk
