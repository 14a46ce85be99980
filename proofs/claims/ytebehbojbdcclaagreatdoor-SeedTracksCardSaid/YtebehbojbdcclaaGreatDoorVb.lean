/-
  Proved: the law SeedTracks returns true and leaves all that was there, for every argument that reads. Conditions: the tables that awake reads lie where the program lays them; the lanes lie where the slices say.
-/
import Derived.Test.YtebehbojbdcclaaGreatDoorVa
import Derived.Test.YtebehbojbdcclaaGreatDoorBk
set_option linter.unusedVariables false
set_option linter.unusedSimpArgs false
open Go Go.Proofs Go.RowKit Go.Sort
set_option maxRecDepth 100000
namespace Go.Mk
set_option maxHeartbeats 1000000 in
theorem tracks_exit (LL : List (List Int)) (N cap : Nat) (A : Option Addr) (B : Nat) (n key : Int) (w : World) (ht : Tabs w) (hZ : Zss w B A N LL) (hN : (N : Int) ≤ 9223372036854775807) (hx : wideB LL 10 10 = true ∨ patE LL ≠ 0 ∨ key < 1 ∨ 1000000 < key ∨ n < 0 ∨ 160 < n) :
    Calls Tryz.prog 6 #[.slice A N cap, .int .i64 n, .int .i64 key] w (Yes w) := by
  have hW := fun w hZ => l4wide_any LL N cap A B 10 10 w hZ hN (by decide)
  have HM : Hid (∀ w', Below w.heap.size w w' → Zss w' B A N LL) := fun w' hb => hZ.below hb hZ.2.1
  cases hwd : wideB LL 10 10 with
  | true =>
    rw [hwd] at hW
    clear hZ hx hwd
    go_enter Tryz.func6, Tryz.ntmps6
    go_wp2_with fail
    refine (aw _ ht).mono ?_
    rintro e w1 ⟨rfl, hb1⟩
    have hW1 := hW _ (HM.out _ hb1)
    go_wp2_with fail
    refine hW1.mono ?_
    rintro e w2 ⟨rfl, hb2⟩
    replace hb2 := hb1.trans (hb2.mono hb1.size)
    have ht2 := ht.grow hb2
    go_wp2_with fail
    refine (aw _ ht2).mono ?_
    rintro e w3 ⟨rfl, hb3⟩
    go_wp2
    go_ret
    exact ⟨rfl, hb2.trans (hb3.mono hb2.size)⟩
  | false =>
    obtain ⟨_, hs⟩ := wideB_no hwd
    have hP := fun w hZ => refPattern_any LL N cap A B w hZ (fun l hl => Nat.le_trans (hs l hl) (by decide))
    rw [hwd] at hW hx
    have hx2 : patE LL ≠ 0 ∨ (patE LL = 0 ∧ (key < 1 ∨ 1000000 < key ∨ n < 0 ∨ 160 < n)) := by
      by_cases q : patE LL = 0
      · rcases hx with h | h | h
        · cases h
        · exact absurd q h
        · exact .inr ⟨q, h⟩
      · exact .inl q
    clear hx
    generalize patE LL = p at *
    clear hZ hwd hs
    rcases hx2 with hp | ⟨rfl, hk⟩
    · have hpb : (p != 0) = true := by rw [bne_iff_ne]; exact hp
      go_enter Tryz.func6, Tryz.ntmps6
      go_wp2_with fail
      refine (aw _ ht).mono ?_
      rintro e w1 ⟨rfl, hb1⟩
      have hW1 := hW _ (HM.out _ hb1)
      go_wp2_with fail
      refine hW1.mono ?_
      rintro e w2 ⟨rfl, hb2⟩
      replace hb2 := hb1.trans (hb2.mono hb1.size)
      have hP1 := hP _ (HM.out _ hb2)
      go_wp2_with fail
      refine hP1.mono ?_
      rintro e w4 ⟨rfl, hb4⟩
      replace hb4 := hb2.trans (hb4.mono hb2.size)
      have ht2 := ht.grow hb4
      go_wp2_with fail
      refine (aw _ ht2).mono ?_
      rintro e w3 ⟨rfl, hb3⟩
      go_wp2
      go_ret
      exact ⟨rfl, hb4.trans (hb3.mono hb4.size)⟩
    · have main : ∀ (b1 b2 b3 b4 : Bool), decide (key < 1) = b1 → decide (1000000 < key) = b2 → decide (n < 0) = b3 → decide (160 < n) = b4 → (b1 || b2 || b3 || b4) = true → Calls Tryz.prog 6 #[.slice A N cap, .int .i64 n, .int .i64 key] w (Yes w) := by
        intro b1 b2 b3 b4 e1 e2 e3 e4 hb
        clear hk
        rcases b1 with _ | _ <;> rcases b2 with _ | _ <;> rcases b3 with _ | _ <;> rcases b4 with _ | _ <;> first | (cases hb; done) | skip
        all_goals
          clear hb
          go_enter Tryz.func6, Tryz.ntmps6
          go_wp2_with fail
          refine (aw _ ht).mono ?_
          rintro e w1 ⟨rfl, hb1⟩
          have hW1 := hW _ (HM.out _ hb1)
          go_wp2_with fail
          refine hW1.mono ?_
          rintro e w2 ⟨rfl, hb2⟩
          replace hb2 := hb1.trans (hb2.mono hb1.size)
          have hP1 := hP _ (HM.out _ hb2)
          go_wp2_with fail
          refine hP1.mono ?_
          rintro e w4 ⟨rfl, hb4⟩
          replace hb4 := hb2.trans (hb4.mono hb2.size)
          have ht2 := ht.grow hb4
          go_wp2_with fail
          refine (aw _ ht2).mono ?_
          rintro e w3 ⟨rfl, hb3⟩
          go_wp2
          go_ret
          exact ⟨rfl, hb4.trans (hb3.mono hb4.size)⟩
      refine main _ _ _ _ rfl rfl rfl rfl ?_
      simp
      omega
/-- What the law needs of the chart. -/
def ChartOf (n T : Nat) : Prop :=
  (16 * (T : Int) < (n : Int) ∧ ∀ w, Calls Tryz.prog 16 #[.int .i64 (n : Int), .int .i64 (T : Int)] w (RetPost (.tuple #[.slice none 0 0, .int .i64 5]) w)) ∨
  (((n : Int) == 0) = true ∧ ∀ w, Calls Tryz.prog 16 #[.int .i64 (n : Int), .int .i64 (T : Int)] w (Charted 44 [] w)) ∨
  (((n : Int) == 0) = false ∧ ∃ (F : List (Int × Int × Int)) (U : List Int), U.length = F.length ∧ F.length ≤ 17 ∧ Falls (T : Int) (n : Int) U ∧ (∀ w, Calls Tryz.prog 16 #[.int .i64 (n : Int), .int .i64 (T : Int)] w (Charted 44 F w)) ∧
    ∀ (w : World) (A : Option Addr) (c : Nat), Rnds w w.heap.size A F.length F → Calls Tryz.prog 17 #[.int .i64 (n : Int), .int .i64 (T : Int), .slice A F.length c] w (NumPost (U, 0) w))
theorem chartN_len16 (lanes : Int) (h : Nat) (hh : h ≤ 16) : (chartN lanes h).length ≤ 16 := by
  by_cases h1 : h ≤ 1
  · rw [chartN_one lanes h h1]; simp
  · rw [chartN_more lanes h (by omega)]
    have := chartN_len lanes ((h + 1) / 2)
    simp only [List.length_cons]
    omega
theorem chartOf (n T : Nat) (hn : n ≤ 160) (h2 : 1 ≤ T) (h3 : T ≤ 10) : ChartOf n T := by
  by_cases h4 : 16 < ((n : Int) + (T : Int) - 1) / (T : Int)
  · refine .inl ⟨?_, fun w => Chart_many (n : Int) (T : Int) w (by omega) (by omega) (by omega) (by omega) h4⟩
    have e1 := Int.mul_ediv_add_emod ((n : Int) + (T : Int) - 1) (T : Int)
    have e2 := Int.emod_nonneg ((n : Int) + (T : Int) - 1) (show (T : Int) ≠ 0 by omega)
    have e3 : (T : Int) * 17 ≤ (T : Int) * (((n : Int) + (T : Int) - 1) / (T : Int)) := Int.mul_le_mul_of_nonneg_left (by omega) (by omega)
    omega
  · by_cases h0 : n = 0
    · subst h0
      exact .inr (.inl ⟨by decide, fun w => Chart_none (T : Int) w (by omega) (by omega)⟩)
    · obtain ⟨h, hh⟩ : ∃ h : Nat, ((n : Int) + (T : Int) - 1) / (T : Int) = h := ⟨(((n : Int) + (T : Int) - 1) / (T : Int)).toNat, by
        have : 0 ≤ ((n : Int) + (T : Int) - 1) / (T : Int) := Int.ediv_nonneg (by omega) (by omega)
        omega⟩
      obtain ⟨g1, g2, g3⟩ := chart_nums (T : Int) (by omega) (by omega) h (n : Int) (by omega) (by omega) hh (by omega)
      have hl := chartN_len16 (T : Int) h (by omega)
      have hp := chartN_pos (T : Int) h
      refine .inr (.inr ⟨by rw [beq_eq_false_iff_ne]; omega, chartN (T : Int) h, numsN (T : Int) (n : Int) h, g2, by omega, g3, fun w => Chart_ok (n : Int) (T : Int) h w (by omega) (by omega) (by omega) (by omega) hh (by omega), fun w A c hR => ?_⟩)
      have := Numbers_any (chartN (T : Int) h) (n : Int) (T : Int) (chartN (T : Int) h).length c A _ w (by omega) (by omega) (by omega) (by omega) hR hp hl
      rwa [g1] at this
theorem take_flat_len (LL : List (List Int)) (k : Nat) (l : List Int) (h : LL[k]? = some l) : (LL.take (k + 1)).flatten.length = (LL.take k).flatten.length + l.length ∧ (LL.take k).flatten.length + l.length ≤ LL.flatten.length := by
  obtain ⟨hk, e⟩ := List.getElem?_eq_some_iff.1 h
  have h1 : (LL.take (k + 1)).flatten = (LL.take k).flatten ++ l := by
    rw [List.take_succ_eq_append_getElem hk, e, List.flatten_append]
    simp
  refine ⟨by rw [h1, List.length_append], ?_⟩
  rw [← List.length_append, ← h1]
  conv => rhs; rw [← List.take_append_drop (k + 1) LL, List.flatten_append, List.length_append]
  omega
set_option maxHeartbeats 8000000 in
theorem tracks_law (LL : List (List Int)) (N cap : Nat) (A : Option Addr) (B : Nat) (n : Nat) (key : Int) (w : World) (ht : Tabs w) (hZ : Zss w B A N LL) (hwd : wideB LL 10 10 = false) (hp : patE LL = 0) (hk1 : 1 ≤ key) (hk2 : key ≤ 1000000) (hn : n ≤ 160) :
    Calls Tryz.prog 6 #[.slice A N cap, .int .i64 (n : Int), .int .i64 key] w (Yes w) := by
  obtain ⟨hN10, hs⟩ := wideB_no hwd
  have hlen := hZ.1
  rw [hlen] at hN10
  have hW := fun w hZ => l4wide_any LL N cap A B 10 10 w hZ (by omega) (by decide)
  rw [hwd] at hW
  have hP := fun w hZ => refPattern_any LL N cap A B w hZ (fun l hl => Nat.le_trans (hs l hl) (by decide))
  rw [hp] at hP
  obtain ⟨hnd, _, hT10, hT1⟩ := pat_flat hp
  obtain ⟨T, hT⟩ : ∃ T, LL.flatten.length = T := ⟨_, rfl⟩
  rw [hT] at hT10 hT1
  have hD0 := drawnE_ok LL key hk1 (by omega)
  have hDp := drawnL_perm LL key
  have hDl : (drawnL key LL).length = T := by rw [hDp.length_eq, hT]
  have hDn : (drawnL key LL).Nodup := hDp.nodup_iff.2 hnd
  have hDat := drawnL_at LL key
  obtain ⟨K, hK1, hK2, HMn⟩ : ∃ K : Nat, K ≤ T ∧ K ≤ n ∧ Hid ((n ≤ T ∧ K = n) ∨ (T < n ∧ K = T)) := by
    by_cases q : n ≤ T
    · exact ⟨n, q, Nat.le_refl _, Lib.hid (.inl ⟨q, rfl⟩)⟩
    · exact ⟨T, Nat.le_refl _, by omega, Lib.hid (.inr ⟨by omega, rfl⟩)⟩
  have hR : lanesR LL (K : Int) key = ((drawnL key LL).take K, 0) := by
    unfold lanesR
    rw [hD0]
    simp only [ne_eq, not_true, if_false]
    rw [if_neg (by omega)]
    simp
  have hL := fun w hZ => seedLanes_ok LL N cap A B (K : Int) key w hZ (by omega) (fun l hl => Nat.le_trans (hs l hl) (by decide)) hp (by omega) (by omega) (by omega) (by omega)
  rw [hR] at hL
  generalize drawnL key LL = D at *
  have HD : Hid (∀ (i j : Nat) (l : List Int), LL[i]? = some l → j < l.length → ∃ x, D[(LL.take i).flatten.length + j]? = some x ∧ x ∈ l) := hDat
  have HDn := Lib.hid hDn
  have HDl := Lib.hid hDl
  have HTl := Lib.hid hT
  have HM : Hid (∀ w', Below w.heap.size w w' → Zss w' B A N LL) := fun w' hb => hZ.below hb hZ.2.1
  have HF : Hid (∀ k, k < N → ∃ b off l A' c', A = some ⟨b, off, none⟩ ∧ b < B ∧ LL[k]? = some l ∧ ∀ w', Below w.heap.size w w' → w'.cell? ⟨b, off + k, none⟩ = some (.slice A' l.length c') ∧ Zi w' B A' l.length l) := fun k hk => hZ.fix hk
  have HS := Lib.hid hs
  have Hlen := Lib.hid hlen
  have HC := Lib.hid (chartOf n T hn hT1 hT10)
  have hNi : (N : Int) ≤ 10 := by omega
  have hTi : (T : Int) ≤ 10 := by omega
  have hKi : (K : Int) ≤ 10 := by omega
  have hKn : (0 : Int) ≤ (K : Int) := by omega
  have e1 : decide (key < 1) = false := decide_eq_false (by omega)
  have e2 : decide (1000000 < key) = false := decide_eq_false (by omega)
  have e3 : decide ((n : Int) < 0) = false := decide_eq_false (by omega)
  have e4 : decide (160 < (n : Int)) = false := decide_eq_false (by omega)
  clear hZ hwd hp hnd hT hD0 hDp hDl hDn hDat hR hs hlen
  go_enter Tryz.func6, Tryz.ntmps6
  go_wp2_with fail
  refine (aw _ ht).mono ?_
  rintro e w1 ⟨rfl, hb1⟩
  have hW1 := hW _ (HM.out _ hb1)
  clear ht hW
  go_wp2_with fail
  refine hW1.mono ?_
  rintro e w2 ⟨rfl, hb2⟩
  replace hb2 := hb1.trans (hb2.mono hb1.size)
  have hP1 := hP _ (HM.out _ hb2)
  clear hP hW1 hb1
  go_wp2_with fail
  refine hP1.mono ?_
  rintro e w3 ⟨rfl, hb3⟩
  replace hb3 := hb2.trans (hb3.mono hb2.size)
  clear hP1 hb2
  go_wp2
  go_loopw [53, 7] (fun i c wr => ∃ k : Nat, k ≤ N ∧ i = .int .i64 k ∧ c = .int .i64 (((LL.take k).flatten.length : Nat) : Int) ∧ Below w.heap.size w wr) (fun i _ _ => N - (intOf i).toNat)
  case atStart => exact ⟨0, by omega, rfl, by simp, hb3⟩
  case round =>
    obtain ⟨k, hk, rfl, rfl, hb⟩ := hrel
    by_cases hlt : k < N
    · obtain ⟨b, off, l, A', c', rfl, hbl, hLk, hall⟩ := HF.out k hlt
      obtain ⟨hc, _⟩ := hall wr hb
      obtain ⟨t1, t2⟩ := take_flat_len LL k l hLk
      rw [HTl.out] at t2
      obtain ⟨y, hy⟩ : ∃ y, (LL.take k).flatten.length = y := ⟨_, rfl⟩
      obtain ⟨m, hm⟩ : ∃ m, l.length = m := ⟨_, rfl⟩
      rw [hy, hm] at t1 t2
      rw [hm] at hc
      rw [hy]
      have Ht1 := Lib.hid t1
      have hki : (k : Int) < (N : Int) := by omega
      clear hall hLk hm hy t1
      go_wp2
      go_roundw
      case rel => exact ⟨k + 1, by omega, by go_num, by rw [Ht1.out]; go_num, hb⟩
      case measure => simp [intOf]; omega
    · have hke : (LL.take k).flatten.length = T := by
        rw [List.take_of_length_le (by rw [Hlen.out]; omega)]
        exact HTl.out
      rw [hke]
      clear hke hb3
      have hLL := hL _ (HM.out _ hb)
      clear hL
      go_wp2_with fail
      all_goals
        rcases HMn.out with ⟨qm, qk⟩ | ⟨qm, qk⟩ <;> first | (exfalso; omega; done) | skip
        subst qk
        with_reducible refine hLL.mono ?_
        rintro e w4 ⟨v4, rfl, _, ho4, hb4⟩
        replace hb4 := hb.trans (hb4.mono hb.size)
        obtain ⟨A4, c4, rfl, hI4⟩ := IntsZ.of_own ho4
        have hl4 : (D.take K).length = K := by rw [List.length_take, HDl.out]; omega
        simp only at hI4 ⊢
        rw [hl4] at hI4 ⊢
        have HI : Hid (∀ w', Below w4.heap.size w4 w' → IntsZ w' A4 K (D.take K)) := fun w' hb => hI4.below hb
        have g4 : Below w4.heap.size w4 w4 := Below.refl _ _
        clear hLL hb ho4 hI4 hl4
        go_wp2
        go_loopw [84, 12] (fun i a wr => ∃ i2 : Nat, i2 ≤ N ∧ i = .int .i64 i2 ∧ a = .int .i64 (((LL.take i2).flatten.length : Nat) : Int) ∧ Below w4.heap.size w4 wr) (fun i _ _ => N - (intOf i).toNat)
        case atStart => exact ⟨0, by omega, rfl, by simp, g4⟩
        case round =>
          obtain ⟨i, hi, rfl, rfl, hbi⟩ := hrel
          by_cases hiN : i < N
          · obtain ⟨b, off, l, A', c', rfl, hbl, hLi, hall⟩ := HF.out i hiN
            have hbw := hb4.trans (hbi.mono hb4.size)
            obtain ⟨hc, _⟩ := hall wr hbw
            obtain ⟨t1, t2⟩ := take_flat_len LL i l hLi
            rw [HTl.out] at t2
            have hDi := fun j => HD.out i j l hLi
            obtain ⟨y, hy⟩ : ∃ y, (LL.take i).flatten.length = y := ⟨_, rfl⟩
            obtain ⟨m, hm⟩ : ∃ m, l.length = m := ⟨_, rfl⟩
            rw [hy, hm] at t1 t2
            rw [hm] at hc
            rw [hm] at hall
            rw [hy, hm] at hDi
            rw [hy]
            have HA := Lib.hid hall
            have Ht1 := Lib.hid t1
            have HDi := Lib.hid hDi
            have Hm := Lib.hid hm
            have hii : (i : Int) < (N : Int) := by omega
            clear hall hLi hm hy t1 hDi hbw
            go_wp2
            go_loopw [92] (fun q wr => ∃ j : Nat, j ≤ m ∧ q = .int .i64 j ∧ Below w4.heap.size w4 wr) (fun q _ => m - (intOf q).toNat)
            case atStart => exact ⟨0, by omega, rfl, hbi⟩
            case round =>
              obtain ⟨j, hj, rfl, hbj⟩ := hrel
              have hbw := hb4.trans (hbj.mono hb4.size)
              obtain ⟨hc, _⟩ := HA.out wr hbw
              by_cases hjm : j < m
              · have hji : (j : Int) < (m : Int) := by omega
                by_cases hbr : y + j < K
                · have hbri : (y : Int) + (j : Int) < (K : Int) := by omega
                  obtain ⟨x, hx1, hx2⟩ := HDi.out j hjm
                  have hxK : (D.take K)[y + j]? = some x := by rw [List.getElem?_take_of_lt hbr]; exact hx1
                  have HX1 := Lib.hid hx1
                  have HX2 := Lib.hid hx2
                  have HXK := Lib.hid hxK
                  obtain ⟨s, hs⟩ : ∃ s, y + j = s := ⟨_, rfl⟩
                  rw [hs] at hbr HX1 HXK
                  have hwy : IntKind.i64.wrap ((y : Int) + (j : Int)) = (s : Int) := by rw [IntWalk.i64_in _ (by omega)]; omega
                  have hsum : (y : Int) + (j : Int) = (s : Int) := by omega
                  have hsK : (s : Int) < (K : Int) := by omega
                  have hs0 : (0 : Int) ≤ (s : Int) := by omega
                  have hst : ((s : Int)).toNat = s := by omega
                  clear hx1 hx2 hxK
                  go_wp2
                  go_loopw [105, 15] (fun q v wr => ∃ p : Nat, p ≤ m ∧ q = .int .i64 p ∧ v = .bool (decide (x ∈ l.take p)) ∧ Below w4.heap.size w4 wr) (fun q _ _ => m - (intOf q).toNat)
                  case atStart => exact ⟨0, by omega, rfl, by simp, hbj⟩
                  case round =>
                    obtain ⟨p, hp, rfl, rfl, hbp⟩ := hrel
                    have hbw := hb4.trans (hbp.mono hb4.size)
                    obtain ⟨hc, hZl⟩ := HA.out wr hbw
                    by_cases hpm : p < m
                    · obtain ⟨b2, off2, z, rfl, _, hz, hcz⟩ := hZl.at_ hpm
                      have htk : l.take (p + 1) = l.take p ++ [z] := by
                        obtain ⟨hq', e⟩ := List.getElem?_eq_some_iff.1 hz
                        rw [List.take_succ_eq_append_getElem hq', e]
                      obtain ⟨g5, off5, rfl, _, hcells⟩ := (HI.out _ hbp).2 (by omega)
                      have hcx := hcells s x HXK.out
                      have hpi : (p : Int) < (m : Int) := by omega
                      have hp0 : (0 : Int) ≤ (p : Int) := by omega
                      have hpt : ((p : Int)).toNat = p := by omega
                      have hi0 : (0 : Int) ≤ (i : Int) := by omega
                      have hit : ((i : Int)).toNat = i := by omega
                      cases hin : decide (x ∈ l.take p) with
                      | true =>
                        have hnx : Hid (decide (x ∈ l.take (p + 1)) = true) := (show _ = _ by
                          rw [htk]
                          simp only [decide_eq_true_eq] at hin
                          simp [hin])
                        clear htk hin hcells hZl hz
                        as_aux_lemma =>
                          go_wp2_with fail
                          go_quiet (fail)
                          go_wp2
                          exact ⟨⟨p + 1, by omega, by go_num, by rw [hnx.out], below_drewN hbp _⟩, by simp [intOf]; omega⟩
                      | false =>
                        have hnx : Hid (decide (x ∈ l.take (p + 1)) = (z == x)) := (show _ = _ by
                          rw [htk]
                          simp only [decide_eq_false_iff_not] at hin
                          by_cases e : z = x
                          · subst e; simp
                          · have e' : ¬ x = z := fun q => e q.symm
                            simp [hin, e, e'])
                        clear htk hin hcells hZl hz
                        as_aux_lemma =>
                          go_wp2_with fail
                          go_quiet (fail)
                          go_wp2
                          exact ⟨⟨p + 1, by omega, by go_num, by rw [hnx.out], below_drewN hbp _⟩, by simp [intOf]; omega⟩
                    · have hpe : p = m := by omega
                      subst hpe
                      have hin : decide (x ∈ l.take p) = true := by
                        rw [List.take_of_length_le (by rw [Hm.out]; exact Nat.le_refl _)]
                        exact decide_eq_true HX2.out
                      rw [hin]
                      clear hZl hc hin
                      go_wp2
                      go_loopw [17, 15] (fun q v wr => ∃ p : Nat, p ≤ s ∧ q = .int .i64 p ∧ v = .bool true ∧ Below w4.heap.size w4 wr) (fun q _ _ => s - (intOf q).toNat)
                      case atStart => exact ⟨0, by omega, rfl, rfl, hbp⟩
                      case round =>
                        obtain ⟨r, hr, rfl, rfl, hbr2⟩ := hrel
                        by_cases hrs : r < s
                        · obtain ⟨g5, off5, rfl, _, hcells⟩ := (HI.out _ hbr2).2 (by omega)
                          have hcx := hcells s x HXK.out
                          have hrl : r < (D.take K).length := by rw [List.length_take, HDl.out]; omega
                          have hru := List.getElem?_eq_getElem hrl
                          obtain ⟨u, hu⟩ : ∃ u, (D.take K)[r] = u := ⟨_, rfl⟩
                          rw [hu] at hru
                          have hcu := hcells r u hru
                          have hDu : D[r]? = some u := by rw [← hru, List.getElem?_take_of_lt (by omega)]
                          have hne : (u != x) = true := by rw [bne_iff_ne]; exact nodup_apart HDn.out hrs hDu HX1.out
                          have hri : (r : Int) < (s : Int) := by omega
                          have hrK : (r : Int) < (K : Int) := by omega
                          have hr0 : (0 : Int) ≤ (r : Int) := by omega
                          have hrt : ((r : Int)).toNat = r := by omega
                          clear hcells hru hu hDu hrl
                          as_aux_lemma =>
                            go_wp2_with fail
                            go_quiet (fail)
                            go_wp2
                            exact ⟨⟨r + 1, by omega, by go_num, by first | rfl | simp [hne], below_drewN hbr2 _⟩, by simp [intOf]; omega⟩
                        · have hri : ¬ (r : Int) < (s : Int) := by omega
                          go_wp2
                          go_roundw
                          case rel => exact ⟨j + 1, by omega, by go_num, hbr2⟩
                          case measure => simp [intOf]; omega
                · have hbri : ¬ (y : Int) + (j : Int) < (K : Int) := by omega
                  have hge : (K : Int) ≤ (y : Int) + (j : Int) := by omega
                  clear hbw
                  go_wp2
                  go_roundw
                  case rel => exact ⟨i + 1, by omega, by go_num, by rw [Ht1.out]; go_num, hbj⟩
                  case measure => simp [intOf]; omega
              · go_wp2
                go_roundw
                case rel => exact ⟨i + 1, by omega, by go_num, by rw [Ht1.out]; go_num, hbj⟩
                case measure => simp [intOf]; omega
          · have hcb : Below w.heap.size w w4 := hb4
            rcases HC.out with ⟨hgt, hCh⟩ | ⟨h0, hCh⟩ | ⟨h0, F, U, hUF, hFl, hFa, hCh, hNu⟩
            · as_aux_lemma =>
                have hg := decide_eq_true hgt
                go_wp2_with fail
                refine (hCh _).mono ?_
                rintro e w6 ⟨rfl, hb6⟩
                go_wp2
                go_ret
                exact ⟨rfl, (hb4.trans (hbi.mono hb4.size)).trans (hb6.mono (hb4.trans (hbi.mono hb4.size)).size)⟩
            · as_aux_lemma =>
                go_wp2_with fail
                refine (hCh _).mono ?_
                rintro e w6 ⟨v6, rfl, ho6, hb6⟩
                obtain ⟨A6, c6, rfl, _⟩ := Rnds.of_own ho6 rfl
                go_wp2
                go_ret
                exact ⟨rfl, (hb4.trans (hbi.mono hb4.size)).trans (hb6.mono (hb4.trans (hbi.mono hb4.size)).size)⟩
            · as_aux_lemma =>
                go_wp2_with fail
                refine (hCh _).mono ?_
                rintro e w6 ⟨v6, rfl, ho6, hb6⟩
                obtain ⟨A6, c6, rfl, hR6⟩ := Rnds.of_own ho6 rfl
                replace hb6 := (hb4.trans (hbi.mono hb4.size)).trans (hb6.mono (hb4.trans (hbi.mono hb4.size)).size)
                have hN6 := hNu _ A6 c6 hR6
                obtain ⟨m, hm⟩ : ∃ m, F.length = m := ⟨_, rfl⟩
                rw [hm] at hN6 hUF hFl ⊢
                clear hCh hNu hR6 ho6 hm
                go_wp2_with fail
                refine hN6.mono ?_
                rintro e w7 ⟨v7, rfl, _, ho7, hb7⟩
                replace hb7 := hb6.trans (hb7.mono hb6.size)
                obtain ⟨A7, c7, rfl, hI7⟩ := IntsZ.of_own ho7
                simp only at hI7 ⊢
                rw [hUF] at hI7 ⊢
                obtain ⟨fa1, fa2, fa3, fa4⟩ := hFa
                rw [hUF] at fa2 fa3 fa4
                obtain ⟨m1, hm1⟩ : ∃ m1, m = m1 + 1 := ⟨m - 1, by omega⟩
                have hat : ∀ j, j < m → U[j]? = some (U.getD j 0) := fun j hj => by
                  have hjl : j < U.length := by omega
                  rw [List.getD_eq_getElem?_getD, List.getElem?_eq_getElem hjl]
                  rfl
                have HI7 : Hid (∀ w', Below w7.heap.size w7 w' → IntsZ w' A7 m U) := fun w' hb => hI7.below hb
                have HAT := Lib.hid hat
                have HFA := Lib.hid fa4
                obtain ⟨g7, off7, rfl, _, hcells⟩ := hI7.2 (by omega)
                have q0 := hcells 0 _ (hat 0 (by omega))
                have q1 := hcells m1 _ (hat m1 (by omega))
                rw [fa1, Nat.add_zero] at q0
                rw [show m - 1 = m1 from by omega] at fa3
                obtain ⟨z1, hz1'⟩ : ∃ z, U.getD m1 0 = z := ⟨_, rfl⟩
                rw [hz1'] at q1 fa3
                have hmi : (m : Int) ≤ 17 := by omega
                have hmm : (m : Int) - 1 = (m1 : Int) := by omega
                have hm0 : ((m : Int) == 0) = false := by rw [beq_eq_false_iff_ne]; omega
                have hm2 : (m1 : Int) < (m : Int) := by omega
                have hmp : (0 : Int) < (m : Int) := by omega
                have hn1 := Int.not_lt.2 fa3
                clear hat fa4 hI7 hcells hN6 ho7 hb6 fa1 hz1' hUF hm1
                go_wp2_with fail
                go_loopw [22] (fun q wr => ∃ r : Nat, 1 ≤ r ∧ r ≤ m ∧ q = .int .i64 r ∧ Below w7.heap.size w7 wr) (fun q _ => m - (intOf q).toNat)
                case atStart => exact ⟨1, by omega, by omega, rfl, Below.refl _ _⟩
                case round =>
                  obtain ⟨r, hr1, hr2, rfl, hbr⟩ := hrel
                  by_cases hrm : r < m
                  · obtain ⟨r1, hrr⟩ : ∃ r1, r = r1 + 1 := ⟨r - 1, by omega⟩
                    obtain ⟨g8, off8, e8, _, hcells⟩ := (HI7.out _ hbr).2 (by omega)
                    obtain ⟨rfl, rfl⟩ : g7 = g8 ∧ off7 = off8 := by simpa using e8
                    have p0 := hcells r _ (HAT.out r hrm)
                    have p1 := hcells r1 _ (HAT.out r1 (by omega))
                    obtain ⟨f1, f2⟩ := HFA.out r1 (by omega)
                    rw [← hrr] at f1 f2
                    obtain ⟨y, hy⟩ : ∃ y, U.getD r 0 = y := ⟨_, rfl⟩
                    obtain ⟨z, hz⟩ : ∃ z, U.getD r1 0 = z := ⟨_, rfl⟩
                    rw [hy] at p0 f1 f2
                    rw [hz] at p1 f1
                    have hwr : IntKind.i64.wrap ((r : Int) - 1) = (r1 : Int) := by rw [IntWalk.i64_in _ (by omega)]; omega
                    have hri : (r : Int) < (m : Int) := by omega
                    have hr1i : (r1 : Int) < (m : Int) := by omega
                    have hr0 : (0 : Int) ≤ (r : Int) := by omega
                    have hr10 : (0 : Int) ≤ (r1 : Int) := by omega
                    have hrt : ((r : Int)).toNat = r := by omega
                    have hr1t : ((r1 : Int)).toNat = r1 := by omega
                    have d1 : decide (z ≤ y) = false := decide_eq_false (by omega)
                    have d2 : decide (y < 1) = false := decide_eq_false (by omega)
                    clear hcells hy hz e8 hrr f1 f2 q0 q1
                    as_aux_lemma =>
                      go_wp2_with fail
                      go_quiet (fail)
                      go_wp2
                      exact ⟨⟨r + 1, by omega, by omega, by go_num, below_drewN hbr _⟩, by simp [intOf]; omega⟩
                  · have hri : ¬ (r : Int) < (m : Int) := by omega
                    go_wp2
                    go_ret
                    exact ⟨rfl, hb7.trans (hbr.mono hb7.size)⟩
theorem tracks_any (n key : Int) (LL : List (List Int)) (N cap : Nat) (A : Option Addr) (B : Nat) (w : World) (ht : Tabs w) (hm : (N : Int) ≤ 9223372036854775807) (hZ : Zss w B A N LL) : Calls Tryz.prog 6 #[.slice A N cap, .int .i64 n, .int .i64 key] w (Yes w) := by
  by_cases hx : wideB LL 10 10 = true ∨ patE LL ≠ 0 ∨ key < 1 ∨ 1000000 < key ∨ n < 0 ∨ 160 < n
  · exact tracks_exit LL N cap A B n key w ht hZ hm hx
  · have hw : wideB LL 10 10 = false := by
      cases h : wideB LL 10 10 with
      | true => exact absurd (.inl h) hx
      | false => rfl
    have hp : patE LL = 0 := Classical.byContradiction fun q => hx (.inr (.inl q))
    have hr : 1 ≤ key ∧ key ≤ 1000000 ∧ 0 ≤ n ∧ n ≤ 160 := by
      refine Classical.byContradiction fun q => hx (.inr (.inr ?_))
      omega
    obtain ⟨k, rfl⟩ : ∃ k : Nat, n = (k : Int) := ⟨n.toNat, by omega⟩
    exact tracks_law LL N cap A B k key w ht hZ hw hp hr.1 hr.2.1 (by omega)
end Go.Mk
