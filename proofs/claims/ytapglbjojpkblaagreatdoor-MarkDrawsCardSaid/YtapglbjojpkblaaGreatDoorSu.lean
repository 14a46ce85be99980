/-
  Proved: the reference's Shares deals what is left along the order of the remainders. Conditions: the total and the weights are in their range, not all weights are 0; the numbers lie where the slice says.
-/
import Derived.Test.YtapglbjojpkblaaGreatDoorSr
set_option linter.unusedVariables false
set_option linter.unusedSimpArgs false
open Go Go.Proofs Go.RowKit
set_option maxRecDepth 100000
namespace Go.Mk
theorem infoI : (Tryz.prog.info? 3).map (fun i => (i.zero, i.size, i.bytes)) = some (some (.int .i64 0), 1, 8) := by kernel_rfl
theorem RowI.new (w : World) (n : Nat) : RowI (w.alloc (.cells (madeCells #[.int .i64 0] n) 3)) w.heap.size (List.replicate n 0) := by
  refine ⟨by simp, fun j v hv => ?_⟩
  have hj : j < n := by
    have := (List.getElem?_eq_some_iff.1 hv).1
    simpa using this
  have e : v = 0 := by
    rw [List.getElem?_replicate, if_pos hj] at hv
    injection hv with hv
    exact hv.symm
  subst e
  simp [madeCells, hj, Nat.mod_one]
theorem fill_map (f : Nat → Int) (n k : Nat) (h : k < n) : ((List.range k).map f ++ List.replicate (n - k) 0).set k (f k) = (List.range (k + 1)).map f ++ List.replicate (n - (k + 1)) 0 := by
  obtain ⟨m, rfl⟩ : ∃ m, n = k + 1 + m := ⟨n - (k + 1), by omega⟩
  rw [show k + 1 + m - k = m + 1 from by omega, show k + 1 + m - (k + 1) = m from by omega, List.set_append_right _ _ (by simp)]
  simp [List.replicate_succ, List.range_succ]
theorem map_set (f g : Nat → Int) (n b : Nat) (v : Int) (h : ∀ i, g i = if i = b then v else f i) : ((List.range n).map f).set b v = (List.range n).map g := by
  apply List.ext_getElem?
  intro i
  rw [List.getElem?_set, List.getElem?_map, List.getElem?_map]
  by_cases e : b = i
  · subst e
    rw [if_pos rfl]
    by_cases hb : b < n
    · rw [if_pos (by simpa using hb), List.getElem?_range hb]
      simp [h]
    · rw [if_neg (by simpa using hb), List.getElem?_eq_none (by simpa using hb)]
      rfl
  · rw [if_neg e]
    rcases Nat.lt_or_ge i n with hi | hi
    · rw [List.getElem?_range hi]
      simp [h, Ne.symm e]
    · rw [List.getElem?_eq_none (by simpa using hi)]
      rfl
theorem getD_map (f : Nat → Int) (n i : Nat) (h : i < n) : ((List.range n).map f).getD i 0 = f i := by
  simp [List.getD_eq_getElem?_getD, List.getElem?_range h]
/-- A weight's exact share, its integer part and what it leaves. -/
def bs (T : Int) (L : List Int) (i : Nat) : Int := T * L.getD i 0 / L.sum
def rs (T : Int) (L : List Int) (i : Nat) : Int := T * L.getD i 0 % L.sum
/-- What is left to deal. -/
def lft (T : Int) (L : List Int) : Nat := (T - Sh.bsum T L.sum L).toNat
theorem prod_bound {T z : Int} (h0 : 0 ≤ T) (h1 : T ≤ 999999999) (h2 : 0 ≤ z) (h3 : z ≤ 999999999) : 0 ≤ T * z ∧ T * z ≤ 999999998000000001 := by
  refine ⟨Int.mul_nonneg h0 h2, ?_⟩
  have := Int.mul_le_mul h1 h3 h2 (by omega : (0 : Int) ≤ 999999999)
  omega
/-- Whatever is left is dealt. -/
def Shared (T : Int) (L P : List Int → List Nat) : Prop := True

set_option maxHeartbeats 4000000 in
theorem refShares_any (L : List Int) (n cap : Nat) (A : Option Addr) (B : Nat) (w : World) (hM : Zs w B A n L) (T : Int) (hT0 : 0 ≤ T) (hT1 : T ≤ 999999999) (hL : ∀ z ∈ L, 0 ≤ z ∧ z ≤ 999999999) (hS : 0 < L.sum) (hsm : n ≤ 60)
    (P : List Nat) (hP : Sh.Ord (rs T L) n P) :
    Calls Tryz.prog 19 #[.int .i64 T, .slice A n cap] w fun e w' => ∃ g, e = .returned (.slice (some ⟨g, 0, none⟩) n n) ∧ RowI w' g ((List.range n).map (Sh.dealt (bs T L) P (lft T L))) ∧ w.heap.size ≤ g ∧ Below w.heap.size w w' := by
  obtain ⟨i0, hi, hz0, hz1, hz2⟩ := info_parts infoI
  have hmk : ∀ w : World, (Instr.makeSlice 26 (.int .i64 (n : Int)) (.int .i64 (n : Int))).run Tryz.prog w = .ok (.slice (some ⟨w.heap.size, 0, none⟩) n n) (w.alloc (.cells (madeCells #[.int .i64 0] n) 3)) := by
    intro w
    have := run_make (P := Tryz.prog) w 26 3 i0 (.int .i64 0) Tryz.underlying26 hi hz0 .i64 .i64 n n (by omega) (by omega) (by rw [hz2]; omega) (by omega)
    rw [hz1] at this
    simpa [Value.cells] using this
  clear hi hz0 hz1 hz2
  have hn0 : (n : Int) ≤ 60 := by omega
  have hn1 : 0 ≤ (n : Int) := by omega
  have HM : Hid (∀ w', Below w.heap.size w w' → Zs w' B A n L) := fun w' hb => hM.below hb hM.2.1
  have Hlen : Hid (L.length = n) := hM.1
  have HL := Lib.hid hL
  have HP := Lib.hid hP
  obtain ⟨S, hSS⟩ : ∃ S, L.sum = S := ⟨_, rfl⟩
  have HS : Hid (L.sum = S) := hSS
  have HSP : Hid (0 < L.sum) := hS
  rw [hSS] at hS
  clear hM hL hP hSS
  go_enter Tryz.func19, Tryz.ntmps19
  go_wp2
  go_loopw [5, 6] (fun s i wr => ∃ (k : Nat) (q : Int), k ≤ n ∧ i = .int .i64 k ∧ s = .int .i64 q ∧ 0 ≤ q ∧ q ≤ 999999999 * (k : Int) ∧ Hid (q = (L.take k).sum) ∧ Below w.heap.size w wr) (fun _ i _ => n - (intOf i).toNat)
  case atStart => exact ⟨0, 0, by omega, rfl, rfl, by omega, by omega, (show _ = _ by simp), Below.refl _ _⟩
  case round =>
    obtain ⟨k, q, hk, rfl, rfl, hq0, hq1, HQ, hb⟩ := hrel
    by_cases hlt : k < n
    · obtain ⟨b, off, z, rfl, _, hLk, c1⟩ := (HM.out _ hb).at_ hlt
      have hki : (k : Int) < (n : Int) := by omega
      obtain ⟨z0, z1⟩ := HL.out z (List.mem_of_getElem? hLk)
      have HN : Hid (q + z = (L.take (k + 1)).sum) := (show _ = _ by rw [sum_take L k z hLk, ← HQ.out])
      clear hLk
      go_wp2
      exact ⟨⟨k + 1, q + z, by omega, by go_num, rfl, by omega, by omega, HN, hb⟩, by simp [intOf]; omega⟩
    · have hkn : k = n := by omega
      have hQ := HQ.out
      rw [hkn, List.take_of_length_le (by rw [Hlen.out]; omega), HS.out] at hQ
      obtain rfl : q = S := hQ
      have hki : ¬ (k : Int) < (n : Int) := by omega
      clear HQ hkn hlt hq0
      obtain ⟨h, hh⟩ : ∃ h, h = wr.heap.size := ⟨_, rfl⟩
      have hW : RowI (((wr.alloc (.cells (madeCells #[.int .i64 0] n) 3)).alloc (.cells (madeCells #[.int .i64 0] n) 3)).drew) h (List.replicate n 0) ∧ RowI (((wr.alloc (.cells (madeCells #[.int .i64 0] n) 3)).alloc (.cells (madeCells #[.int .i64 0] n) 3)).drew) (h + 1) (List.replicate n 0) ∧ Below w.heap.size w (((wr.alloc (.cells (madeCells #[.int .i64 0] n) 3)).alloc (.cells (madeCells #[.int .i64 0] n) 3)).drew) := by
        have a := RowI.new wr n
        have b := RowI.new (wr.alloc (.cells (madeCells #[.int .i64 0] n) 3)) n
        have e2 : (wr.alloc (.cells (madeCells #[.int .i64 0] n) 3)).heap.size = h + 1 := by simp [hh]
        rw [← hh] at a
        rw [e2] at b
        refine ⟨a.alloc _, b, ?_⟩
        exact ((hb.alloc hb.size _).alloc (by have := hb.size; simp; omega) _).drew
      have hbh : w.heap.size ≤ h := by rw [hh]; exact hb.size
      have hbs : B ≤ w.heap.size := (HM.out w (Below.refl _ _)).2.1
      go_wp2_with fail
      go_region
      all_goals
        rw [← hh]
        clear hh hb
        generalize (((wr.alloc (.cells (madeCells #[.int .i64 0] n) 3)).alloc (.cells (madeCells #[.int .i64 0] n) 3)).drew) = w2 at hW ⊢
        generalize hr : h + 1 = r at hW ⊢
        have hhr : h ≠ r := by omega
        have hbr : w.heap.size ≤ r := by omega
        obtain ⟨hR1, hR2, hB2⟩ := hW
        clear hr hmk
      · go_wp2
        go_loopw [9, 10] (fun lf i wx => ∃ (k : Nat) (q2 : Int), k ≤ n ∧ i = .int .i64 k ∧ lf = .int .i64 q2 ∧ 0 ≤ q2 ∧ q2 ≤ T ∧ Hid (q2 = T - Sh.bsum T L.sum (L.take k)) ∧ RowI wx h ((List.range k).map (bs T L) ++ List.replicate (n - k) 0) ∧ RowI wx r ((List.range k).map (rs T L) ++ List.replicate (n - k) 0) ∧ Below w.heap.size w wx) (fun _ i _ => n - (intOf i).toNat)
        case atStart => exact ⟨0, T, by omega, rfl, rfl, by omega, by omega, (show _ = _ by simp [Sh.bsum]), by simpa using hR1, by simpa using hR2, hB2⟩
        case round =>
          obtain ⟨k2, q2, hk2, rfl, rfl, hq20, hq21, HQ2, hO, hR, hb⟩ := hrel
          clear hR1 hR2 hB2
          by_cases hlt2 : k2 < n
          · obtain ⟨b, off, z, rfl, hbB, hLk, c1⟩ := (HM.out _ hb).at_ hlt2
            have hki2 : (k2 : Int) < (n : Int) := by omega
            obtain ⟨z0, z1⟩ := HL.out z (List.mem_of_getElem? hLk)
            obtain ⟨p0, p1⟩ := prod_bound hT0 hT1 z0 z1
            have hbh1 : b ≠ h := by omega
            have hbr1 : b ≠ r := by omega
            obtain ⟨o0, o1⟩ := hO.at_ (j := k2) (by simp; omega)
            obtain ⟨r0, r1⟩ := hR.at_ (j := k2) (by simp; omega)
            obtain ⟨x1, hx1⟩ : ∃ x, ((List.range k2).map (bs T L) ++ List.replicate (n - k2) 0).getD k2 0 = x := ⟨_, rfl⟩
            obtain ⟨x2, hx2⟩ : ∃ x, ((List.range k2).map (rs T L) ++ List.replicate (n - k2) 0).getD k2 0 = x := ⟨_, rfl⟩
            rw [hx1] at o0
            rw [hx2] at r0
            have HLk := Lib.hid hLk
            have HO := Lib.hid hO
            have HR := Lib.hid hR
            clear hLk hx1 hx2 hO hR
            have hbt := Sh.bsum_take T L.sum L k2 z HLk.out
            have hble := Sh.bsum_le T hT0 L (fun z hz => (HL.out z hz).1) (k2 + 1) HSP.out
            rw [hbt, HS.out] at hble
            have hq2 := HQ2.out
            rw [HS.out] at hq2
            have hd0 : 0 ≤ T * z / q := Int.ediv_nonneg p0 (by omega)
            have hd1 : 0 ≤ q2 - T * z / q := by omega
            have HN : Hid (q2 - T * z / q = T - Sh.bsum T L.sum (L.take (k2 + 1))) := (show _ = _ by rw [hbt, HS.out]; omega)
            have eB : bs T L k2 = T * z / q := by unfold bs; rw [HS.out, List.getD_eq_getElem?_getD, HLk.out]; rfl
            have eR : rs T L k2 = T * z % q := by unfold rs; rw [HS.out, List.getD_eq_getElem?_getD, HLk.out]; rfl
            have hO2 : RowI ((wr.setCell ⟨h, k2, none⟩ (.int .i64 (T * z / q))).setCell ⟨r, k2, none⟩ (.int .i64 (T * z % q))) h ((List.range (k2 + 1)).map (bs T L) ++ List.replicate (n - (k2 + 1)) 0) := by
              have := HO.out.set_ (i := k2) (by simp; omega) (bs T L k2)
              rw [fill_map (bs T L) n k2 hlt2, eB] at this
              exact this.far (by show r ≠ h; omega) _
            have hR2 : RowI ((wr.setCell ⟨h, k2, none⟩ (.int .i64 (T * z / q))).setCell ⟨r, k2, none⟩ (.int .i64 (T * z % q))) r ((List.range (k2 + 1)).map (rs T L) ++ List.replicate (n - (k2 + 1)) 0) := by
              have := (HR.out.far (p := ⟨h, k2, none⟩) (by show h ≠ r; omega) (.int .i64 (T * z / q))).set_ (i := k2) (by simp; omega) (rs T L k2)
              rw [fill_map (rs T L) n k2 hlt2, eR] at this
              exact this
            have hb2 : Below w.heap.size w ((wr.setCell ⟨h, k2, none⟩ (.int .i64 (T * z / q))).setCell ⟨r, k2, none⟩ (.int .i64 (T * z % q))) := (hb.setCell (by show _ ≤ h; omega) _).setCell (by show _ ≤ r; omega) _
            clear hbt hble hq2 HQ2 eB eR hb HO HR
            go_wp2
            exact ⟨⟨k2 + 1, q2 - T * z / q, by omega, by go_num, rfl, by omega, by omega, HN, hO2, hR2, hb2⟩, by simp [intOf]; omega⟩
          · have hki2 : ¬ (k2 : Int) < (n : Int) := by omega
            have hkn2 : k2 = n := by omega
            have hq2 := HQ2.out
            rw [hkn2, List.take_of_length_le (by rw [Hlen.out]; omega)] at hq2
            rw [hkn2, Nat.sub_self, List.replicate_zero, List.append_nil] at hO hR
            have hleft := Sh.left_lt T hT0 L (fun z hz => (HL.out z hz).1) HSP.out
            rw [← hq2, Hlen.out] at hleft
            obtain ⟨l, hl⟩ : ∃ l, lft T L = l := ⟨_, rfl⟩
            have hlq : q2 = (l : Int) := by rw [← hl]; unfold lft; rw [← hq2]; omega
            have HLL := Lib.hid hl
            subst hlq
            have hln : l < n := by omega
            have hPl := HP.out.length
            have HPl := Lib.hid hPl
            clear hq2 HQ2 hkn2 hlt2 hleft hq20 hq21 hl hPl
            go_wp2
            go_loopw [9] (fun lf wx => ∃ k : Nat, k ≤ l ∧ lf = .int .i64 ((l : Int) - (k : Int)) ∧ RowI wx h ((List.range n).map (Sh.dealt (bs T L) P k)) ∧ RowI wx r ((List.range n).map (Sh.restAt (rs T L) P k)) ∧ Below w.heap.size w wx) (fun lf _ => (intOf lf).toNat)
            case atStart => exact ⟨0, by omega, by simp, by rw [Sh.dealt_zero]; exact hO, by rw [Sh.restAt_zero]; exact hR, hb⟩
            case round =>
              obtain ⟨k, hk3, rfl, hO3, hR3, hb3⟩ := hrel
              clear hO hR hb
              by_cases hkl : k < l
              · have hpos : (l : Int) - (k : Int) > 0 := by omega
                have HR3 : Hid (∀ w', Below wr.heap.size wr w' → RowI w' r ((List.range n).map (Sh.restAt (rs T L) P k))) := fun w' hb => hR3.below hb hR3.1 hb.size
                have HO3 : Hid (∀ w', Below wr.heap.size wr w' → RowI w' h ((List.range n).map (Sh.dealt (bs T L) P k))) := fun w' hb => hO3.below hb hO3.1 hb.size
                clear hO3 hR3
                go_wp2
                go_loopw [11, 12] (fun bst i wx => ∃ m b : Nat, 1 ≤ m ∧ m ≤ n ∧ i = .int .i64 m ∧ bst = .int .i64 b ∧ b < m ∧ Hid (Sh.Best (Sh.restAt (rs T L) P k) m b) ∧ Below wr.heap.size wr wx) (fun _ i _ => n - (intOf i).toNat)
                case atStart => exact ⟨1, 0, by omega, by omega, rfl, rfl, by omega, Sh.Best.one _, Below.refl _ _⟩
                case round =>
                  obtain ⟨m, b, hm1, hmn, rfl, rfl, hbm, HB, hbx⟩ := hrel
                  by_cases hlt4 : m < n
                  · obtain ⟨a0, _⟩ := (HR3.out _ hbx).at_ (j := m) (by simp; omega)
                    obtain ⟨b0, _⟩ := (HR3.out _ hbx).at_ (j := b) (by simp; omega)
                    rw [getD_map _ n m hlt4] at a0
                    rw [getD_map _ n b (by omega)] at b0
                    obtain ⟨x1, hx1⟩ : ∃ x, Sh.restAt (rs T L) P k m = x := ⟨_, rfl⟩
                    obtain ⟨x2, hx2⟩ : ∃ x, Sh.restAt (rs T L) P k b = x := ⟨_, rfl⟩
                    rw [hx1] at a0
                    rw [hx2] at b0
                    have HX1 := Lib.hid hx1
                    have HX2 := Lib.hid hx2
                    have hmi : (m : Int) < (n : Int) := by omega
                    have hm0 : (0 : Int) ≤ (m : Int) := by omega
                    have hmt : ((m : Int)).toNat = m := by omega
                    have hbi : (b : Int) < (n : Int) := by omega
                    have hb0 : (0 : Int) ≤ (b : Int) := by omega
                    have hbt : ((b : Int)).toNat = b := by omega
                    clear hx1 hx2
                    by_cases hg : x2 < x1
                    · have HB2 : Hid (Sh.Best (Sh.restAt (rs T L) P k) (m + 1) m) := HB.out.step_gt (by rw [HX1.out, HX2.out]; exact hg)
                      go_wp2_with fail
                      go_quiet (fail)
                      go_wp2
                      exact ⟨⟨m + 1, m, by omega, by omega, by go_num, rfl, by omega, HB2, below_drewN hbx _⟩, by simp [intOf]; omega⟩
                    · have HB2 : Hid (Sh.Best (Sh.restAt (rs T L) P k) (m + 1) b) := HB.out.step_le (by rw [HX1.out, HX2.out]; omega)
                      go_wp2_with fail
                      go_quiet (fail)
                      go_wp2
                      exact ⟨⟨m + 1, b, by omega, by omega, by go_num, rfl, by omega, HB2, below_drewN hbx _⟩, by simp [intOf]; omega⟩
                  · have hmn2 : ¬ (m : Int) < (n : Int) := by omega
                    have hbest := HB.out
                    rw [show m = n by omega] at hbest
                    have hbP := hbest.uniq (HP.out.best (k := k) (by rw [HPl.out]; omega))
                    have HBP : Hid (b = P[k]'(by rw [HPl.out]; omega)) := hbP
                    have hbn : b < n := hbest.1
                    have hbni : (b : Int) < (n : Int) := by omega
                    have hO4 := HO3.out _ hbx
                    have hR4 := HR3.out _ hbx
                    obtain ⟨a0, a1⟩ := hO4.at_ (j := b) (by simp; omega)
                    obtain ⟨r0, r1⟩ := hR4.at_ (j := b) (by simp; omega)
                    rw [getD_map _ n b hbn] at a0 r0
                    obtain ⟨x1, hx1⟩ : ∃ x, Sh.dealt (bs T L) P k b = x := ⟨_, rfl⟩
                    obtain ⟨x2, hx2⟩ : ∃ x, Sh.restAt (rs T L) P k b = x := ⟨_, rfl⟩
                    rw [hx1] at a0
                    rw [hx2] at r0
                    have HX1 := Lib.hid hx1
                    have hx1b : 0 ≤ x1 ∧ x1 ≤ 999999998000000001 := by
                      have e1 : x1 = bs T L b := by
                        rw [← hx1, HBP.out]
                        exact Sh.dealt_at HP.out (bs T L) k (by rw [HPl.out]; omega)
                      have hbl : b < L.length := by rw [Hlen.out]; exact hbn
                      obtain ⟨z0, z1⟩ := HL.out L[b] (List.getElem_mem hbl)
                      obtain ⟨p0, p1⟩ := prod_bound hT0 hT1 z0 z1
                      have e2 : bs T L b = T * L[b] / q := by unfold bs; rw [HS.out, List.getD_eq_getElem?_getD, List.getElem?_eq_getElem hbl]; rfl
                      rw [e1, e2]
                      refine ⟨Int.ediv_nonneg p0 (by omega), ?_⟩
                      have := Int.ediv_le_self q p0
                      omega
                    obtain ⟨y0, y1⟩ := hx1b
                    have HO5 := Lib.hid hO4
                    have HR5 := Lib.hid hR4
                    have hbz := hb3.trans (hbx.mono hb3.size)
                    have hO6 : RowI ((wr.setCell ⟨h, b, none⟩ (.int .i64 (x1 + 1))).setCell ⟨r, b, none⟩ (.int .i64 (-1))) h ((List.range n).map (Sh.dealt (bs T L) P (k + 1))) := by
                      have := HO5.out.set_ (i := b) (by simp; omega) (x1 + 1)
                      rw [map_set _ (Sh.dealt (bs T L) P (k + 1)) n b (x1 + 1) (fun i => by
                        rw [Sh.dealt_succ HP.out (bs T L) k (by rw [HPl.out]; omega) i, ← HBP.out]
                        by_cases e : i = b
                        · rw [if_pos e, if_pos e, e, HX1.out]
                        · rw [if_neg e, if_neg e])] at this
                      exact this.far (by show r ≠ h; omega) _
                    have hR6 : RowI ((wr.setCell ⟨h, b, none⟩ (.int .i64 (x1 + 1))).setCell ⟨r, b, none⟩ (.int .i64 (-1))) r ((List.range n).map (Sh.restAt (rs T L) P (k + 1))) := by
                      have := (HR5.out.far (p := ⟨h, b, none⟩) (by show h ≠ r; omega) (.int .i64 (x1 + 1))).set_ (i := b) (by simp; omega) (-1)
                      rw [map_set _ (Sh.restAt (rs T L) P (k + 1)) n b (-1) (fun i => by
                        rw [Sh.restAt_succ (rs T L) P k (by rw [HPl.out]; omega) i, ← HBP.out])] at this
                      exact this
                    have hb6 : Below w.heap.size w ((wr.setCell ⟨h, b, none⟩ (.int .i64 (x1 + 1))).setCell ⟨r, b, none⟩ (.int .i64 (-1))) := (hbz.setCell (by show _ ≤ h; omega) _).setCell (by show _ ≤ r; omega) _
                    clear hbest hbP hO4 hR4 hx1 hx2 HB HO3 HR3 hb3 hbx HO5 HR5 hbz
                    go_wp2
                    exact ⟨⟨k + 1, by omega, by rw [show ((k + 1 : Nat) : Int) = (k : Int) + 1 by omega]; congr 1; omega, hO6, hR6, hb6⟩, by simp [intOf]; omega⟩
              · have hkl2 : k = l := by omega
                have hpos : ¬ (l : Int) - (k : Int) > 0 := by omega
                clear hR3
                go_wp2
                go_ret
                exact ⟨h, rfl, by rw [HLL.out, ← hkl2]; exact hO3, by omega, hb3⟩
      · go_wp2
        go_loopw [9, 10] (fun lf i wx => ∃ (k : Nat) (q2 : Int), k ≤ n ∧ i = .int .i64 k ∧ lf = .int .i64 q2 ∧ 0 ≤ q2 ∧ q2 ≤ T ∧ Hid (q2 = T - Sh.bsum T L.sum (L.take k)) ∧ RowI wx r ((List.range k).map (bs T L) ++ List.replicate (n - k) 0) ∧ RowI wx h ((List.range k).map (rs T L) ++ List.replicate (n - k) 0) ∧ Below w.heap.size w wx) (fun _ i _ => n - (intOf i).toNat)
        case atStart => exact ⟨0, T, by omega, rfl, rfl, by omega, by omega, (show _ = _ by simp [Sh.bsum]), by simpa using hR2, by simpa using hR1, hB2⟩
        case round =>
          obtain ⟨k2, q2, hk2, rfl, rfl, hq20, hq21, HQ2, hO, hR, hb⟩ := hrel
          clear hR1 hR2 hB2
          by_cases hlt2 : k2 < n
          · obtain ⟨b, off, z, rfl, hbB, hLk, c1⟩ := (HM.out _ hb).at_ hlt2
            have hki2 : (k2 : Int) < (n : Int) := by omega
            obtain ⟨z0, z1⟩ := HL.out z (List.mem_of_getElem? hLk)
            obtain ⟨p0, p1⟩ := prod_bound hT0 hT1 z0 z1
            have hbh1 : b ≠ h := by omega
            have hbr1 : b ≠ r := by omega
            obtain ⟨o0, o1⟩ := hO.at_ (j := k2) (by simp; omega)
            obtain ⟨r0, r1⟩ := hR.at_ (j := k2) (by simp; omega)
            obtain ⟨x1, hx1⟩ : ∃ x, ((List.range k2).map (bs T L) ++ List.replicate (n - k2) 0).getD k2 0 = x := ⟨_, rfl⟩
            obtain ⟨x2, hx2⟩ : ∃ x, ((List.range k2).map (rs T L) ++ List.replicate (n - k2) 0).getD k2 0 = x := ⟨_, rfl⟩
            rw [hx1] at o0
            rw [hx2] at r0
            have HLk := Lib.hid hLk
            have HO := Lib.hid hO
            have HR := Lib.hid hR
            clear hLk hx1 hx2 hO hR
            have hbt := Sh.bsum_take T L.sum L k2 z HLk.out
            have hble := Sh.bsum_le T hT0 L (fun z hz => (HL.out z hz).1) (k2 + 1) HSP.out
            rw [hbt, HS.out] at hble
            have hq2 := HQ2.out
            rw [HS.out] at hq2
            have hd0 : 0 ≤ T * z / q := Int.ediv_nonneg p0 (by omega)
            have hd1 : 0 ≤ q2 - T * z / q := by omega
            have HN : Hid (q2 - T * z / q = T - Sh.bsum T L.sum (L.take (k2 + 1))) := (show _ = _ by rw [hbt, HS.out]; omega)
            have eB : bs T L k2 = T * z / q := by unfold bs; rw [HS.out, List.getD_eq_getElem?_getD, HLk.out]; rfl
            have eR : rs T L k2 = T * z % q := by unfold rs; rw [HS.out, List.getD_eq_getElem?_getD, HLk.out]; rfl
            have hO2 : RowI ((wr.setCell ⟨r, k2, none⟩ (.int .i64 (T * z / q))).setCell ⟨h, k2, none⟩ (.int .i64 (T * z % q))) r ((List.range (k2 + 1)).map (bs T L) ++ List.replicate (n - (k2 + 1)) 0) := by
              have := HO.out.set_ (i := k2) (by simp; omega) (bs T L k2)
              rw [fill_map (bs T L) n k2 hlt2, eB] at this
              exact this.far (by show h ≠ r; omega) _
            have hR2 : RowI ((wr.setCell ⟨r, k2, none⟩ (.int .i64 (T * z / q))).setCell ⟨h, k2, none⟩ (.int .i64 (T * z % q))) h ((List.range (k2 + 1)).map (rs T L) ++ List.replicate (n - (k2 + 1)) 0) := by
              have := (HR.out.far (p := ⟨r, k2, none⟩) (by show r ≠ h; omega) (.int .i64 (T * z / q))).set_ (i := k2) (by simp; omega) (rs T L k2)
              rw [fill_map (rs T L) n k2 hlt2, eR] at this
              exact this
            have hb2 : Below w.heap.size w ((wr.setCell ⟨r, k2, none⟩ (.int .i64 (T * z / q))).setCell ⟨h, k2, none⟩ (.int .i64 (T * z % q))) := (hb.setCell (by show _ ≤ r; omega) _).setCell (by show _ ≤ h; omega) _
            clear hbt hble hq2 HQ2 eB eR hb HO HR
            go_wp2
            exact ⟨⟨k2 + 1, q2 - T * z / q, by omega, by go_num, rfl, by omega, by omega, HN, hO2, hR2, hb2⟩, by simp [intOf]; omega⟩
          · have hki2 : ¬ (k2 : Int) < (n : Int) := by omega
            have hkn2 : k2 = n := by omega
            have hq2 := HQ2.out
            rw [hkn2, List.take_of_length_le (by rw [Hlen.out]; omega)] at hq2
            rw [hkn2, Nat.sub_self, List.replicate_zero, List.append_nil] at hO hR
            have hleft := Sh.left_lt T hT0 L (fun z hz => (HL.out z hz).1) HSP.out
            rw [← hq2, Hlen.out] at hleft
            obtain ⟨l, hl⟩ : ∃ l, lft T L = l := ⟨_, rfl⟩
            have hlq : q2 = (l : Int) := by rw [← hl]; unfold lft; rw [← hq2]; omega
            have HLL := Lib.hid hl
            subst hlq
            have hln : l < n := by omega
            have hPl := HP.out.length
            have HPl := Lib.hid hPl
            clear hq2 HQ2 hkn2 hlt2 hleft hq20 hq21 hl hPl
            go_wp2
            go_loopw [9] (fun lf wx => ∃ k : Nat, k ≤ l ∧ lf = .int .i64 ((l : Int) - (k : Int)) ∧ RowI wx r ((List.range n).map (Sh.dealt (bs T L) P k)) ∧ RowI wx h ((List.range n).map (Sh.restAt (rs T L) P k)) ∧ Below w.heap.size w wx) (fun lf _ => (intOf lf).toNat)
            case atStart => exact ⟨0, by omega, by simp, by rw [Sh.dealt_zero]; exact hO, by rw [Sh.restAt_zero]; exact hR, hb⟩
            case round =>
              obtain ⟨k, hk3, rfl, hO3, hR3, hb3⟩ := hrel
              clear hO hR hb
              by_cases hkl : k < l
              · have hpos : (l : Int) - (k : Int) > 0 := by omega
                have HR3 : Hid (∀ w', Below wr.heap.size wr w' → RowI w' h ((List.range n).map (Sh.restAt (rs T L) P k))) := fun w' hb => hR3.below hb hR3.1 hb.size
                have HO3 : Hid (∀ w', Below wr.heap.size wr w' → RowI w' r ((List.range n).map (Sh.dealt (bs T L) P k))) := fun w' hb => hO3.below hb hO3.1 hb.size
                clear hO3 hR3
                go_wp2
                go_loopw [11, 12] (fun bst i wx => ∃ m b : Nat, 1 ≤ m ∧ m ≤ n ∧ i = .int .i64 m ∧ bst = .int .i64 b ∧ b < m ∧ Hid (Sh.Best (Sh.restAt (rs T L) P k) m b) ∧ Below wr.heap.size wr wx) (fun _ i _ => n - (intOf i).toNat)
                case atStart => exact ⟨1, 0, by omega, by omega, rfl, rfl, by omega, Sh.Best.one _, Below.refl _ _⟩
                case round =>
                  obtain ⟨m, b, hm1, hmn, rfl, rfl, hbm, HB, hbx⟩ := hrel
                  by_cases hlt4 : m < n
                  · obtain ⟨a0, _⟩ := (HR3.out _ hbx).at_ (j := m) (by simp; omega)
                    obtain ⟨b0, _⟩ := (HR3.out _ hbx).at_ (j := b) (by simp; omega)
                    rw [getD_map _ n m hlt4] at a0
                    rw [getD_map _ n b (by omega)] at b0
                    obtain ⟨x1, hx1⟩ : ∃ x, Sh.restAt (rs T L) P k m = x := ⟨_, rfl⟩
                    obtain ⟨x2, hx2⟩ : ∃ x, Sh.restAt (rs T L) P k b = x := ⟨_, rfl⟩
                    rw [hx1] at a0
                    rw [hx2] at b0
                    have HX1 := Lib.hid hx1
                    have HX2 := Lib.hid hx2
                    have hmi : (m : Int) < (n : Int) := by omega
                    have hm0 : (0 : Int) ≤ (m : Int) := by omega
                    have hmt : ((m : Int)).toNat = m := by omega
                    have hbi : (b : Int) < (n : Int) := by omega
                    have hb0 : (0 : Int) ≤ (b : Int) := by omega
                    have hbt : ((b : Int)).toNat = b := by omega
                    clear hx1 hx2
                    by_cases hg : x2 < x1
                    · have HB2 : Hid (Sh.Best (Sh.restAt (rs T L) P k) (m + 1) m) := HB.out.step_gt (by rw [HX1.out, HX2.out]; exact hg)
                      go_wp2_with fail
                      go_quiet (fail)
                      go_wp2
                      exact ⟨⟨m + 1, m, by omega, by omega, by go_num, rfl, by omega, HB2, below_drewN hbx _⟩, by simp [intOf]; omega⟩
                    · have HB2 : Hid (Sh.Best (Sh.restAt (rs T L) P k) (m + 1) b) := HB.out.step_le (by rw [HX1.out, HX2.out]; omega)
                      go_wp2_with fail
                      go_quiet (fail)
                      go_wp2
                      exact ⟨⟨m + 1, b, by omega, by omega, by go_num, rfl, by omega, HB2, below_drewN hbx _⟩, by simp [intOf]; omega⟩
                  · have hmn2 : ¬ (m : Int) < (n : Int) := by omega
                    have hbest := HB.out
                    rw [show m = n by omega] at hbest
                    have hbP := hbest.uniq (HP.out.best (k := k) (by rw [HPl.out]; omega))
                    have HBP : Hid (b = P[k]'(by rw [HPl.out]; omega)) := hbP
                    have hbn : b < n := hbest.1
                    have hbni : (b : Int) < (n : Int) := by omega
                    have hO4 := HO3.out _ hbx
                    have hR4 := HR3.out _ hbx
                    obtain ⟨a0, a1⟩ := hO4.at_ (j := b) (by simp; omega)
                    obtain ⟨r0, r1⟩ := hR4.at_ (j := b) (by simp; omega)
                    rw [getD_map _ n b hbn] at a0 r0
                    obtain ⟨x1, hx1⟩ : ∃ x, Sh.dealt (bs T L) P k b = x := ⟨_, rfl⟩
                    obtain ⟨x2, hx2⟩ : ∃ x, Sh.restAt (rs T L) P k b = x := ⟨_, rfl⟩
                    rw [hx1] at a0
                    rw [hx2] at r0
                    have HX1 := Lib.hid hx1
                    have hx1b : 0 ≤ x1 ∧ x1 ≤ 999999998000000001 := by
                      have e1 : x1 = bs T L b := by
                        rw [← hx1, HBP.out]
                        exact Sh.dealt_at HP.out (bs T L) k (by rw [HPl.out]; omega)
                      have hbl : b < L.length := by rw [Hlen.out]; exact hbn
                      obtain ⟨z0, z1⟩ := HL.out L[b] (List.getElem_mem hbl)
                      obtain ⟨p0, p1⟩ := prod_bound hT0 hT1 z0 z1
                      have e2 : bs T L b = T * L[b] / q := by unfold bs; rw [HS.out, List.getD_eq_getElem?_getD, List.getElem?_eq_getElem hbl]; rfl
                      rw [e1, e2]
                      refine ⟨Int.ediv_nonneg p0 (by omega), ?_⟩
                      have := Int.ediv_le_self q p0
                      omega
                    obtain ⟨y0, y1⟩ := hx1b
                    have HO5 := Lib.hid hO4
                    have HR5 := Lib.hid hR4
                    have hbz := hb3.trans (hbx.mono hb3.size)
                    have hO6 : RowI ((wr.setCell ⟨r, b, none⟩ (.int .i64 (x1 + 1))).setCell ⟨h, b, none⟩ (.int .i64 (-1))) r ((List.range n).map (Sh.dealt (bs T L) P (k + 1))) := by
                      have := HO5.out.set_ (i := b) (by simp; omega) (x1 + 1)
                      rw [map_set _ (Sh.dealt (bs T L) P (k + 1)) n b (x1 + 1) (fun i => by
                        rw [Sh.dealt_succ HP.out (bs T L) k (by rw [HPl.out]; omega) i, ← HBP.out]
                        by_cases e : i = b
                        · rw [if_pos e, if_pos e, e, HX1.out]
                        · rw [if_neg e, if_neg e])] at this
                      exact this.far (by show h ≠ r; omega) _
                    have hR6 : RowI ((wr.setCell ⟨r, b, none⟩ (.int .i64 (x1 + 1))).setCell ⟨h, b, none⟩ (.int .i64 (-1))) h ((List.range n).map (Sh.restAt (rs T L) P (k + 1))) := by
                      have := (HR5.out.far (p := ⟨r, b, none⟩) (by show r ≠ h; omega) (.int .i64 (x1 + 1))).set_ (i := b) (by simp; omega) (-1)
                      rw [map_set _ (Sh.restAt (rs T L) P (k + 1)) n b (-1) (fun i => by
                        rw [Sh.restAt_succ (rs T L) P k (by rw [HPl.out]; omega) i, ← HBP.out])] at this
                      exact this
                    have hb6 : Below w.heap.size w ((wr.setCell ⟨r, b, none⟩ (.int .i64 (x1 + 1))).setCell ⟨h, b, none⟩ (.int .i64 (-1))) := (hbz.setCell (by show _ ≤ r; omega) _).setCell (by show _ ≤ h; omega) _
                    clear hbest hbP hO4 hR4 hx1 hx2 HB HO3 HR3 hb3 hbx HO5 HR5 hbz
                    go_wp2
                    exact ⟨⟨k + 1, by omega, by rw [show ((k + 1 : Nat) : Int) = (k : Int) + 1 by omega]; congr 1; omega, hO6, hR6, hb6⟩, by simp [intOf]; omega⟩
              · have hkl2 : k = l := by omega
                have hpos : ¬ (l : Int) - (k : Int) > 0 := by omega
                clear hR3
                go_wp2
                go_ret
                exact ⟨r, rfl, by rw [HLL.out, ← hkl2]; exact hO3, by omega, hb3⟩
end Go.Mk
