/-
  Proved: mark.Shares deals what is left along an order of the remainders. Conditions: the total and the weights are in their range, not all weights are 0; the numbers lie where the slice says; the sort is as its contract says.
-/
import Derived.Test.YtapglbjojpkblaaGreatDoorSw
set_option linter.unusedVariables false
set_option linter.unusedSimpArgs false
open Go Go.Proofs Go.RowKit
set_option maxRecDepth 100000
namespace Go.Mk
theorem infoRem : (Tryz.prog.info? 87).map (fun i => (i.zero, i.size, i.bytes)) = some (some (.agg #[.int .i64 0, .int .i64 0]), 2, 16) := by kernel_rfl
theorem RowP.new (w : World) (n : Nat) : RowP (w.alloc (.cells (madeCells #[.int .i64 0, .int .i64 0] (n * 2)) 87)) w.heap.size (List.replicate n (0, 0)) := by
  refine ⟨by simp, fun j x hx => ?_⟩
  have hj : j < n := by
    have := (List.getElem?_eq_some_iff.1 hx).1
    simpa using this
  have e : x = (0, 0) := by
    rw [List.getElem?_replicate, if_pos hj] at hx
    injection hx with hx
    exact hx.symm
  subst e
  have h1 : j * 2 < n * 2 := by omega
  have h2 : j * 2 + 1 < n * 2 := by omega
  have m1 : j * 2 % 2 = 0 := by omega
  have m2 : (j * 2 + 1) % 2 = 1 := by omega
  refine ⟨?_, ?_, ?_, ?_⟩ <;> simp [madeCells, h1, h2, m1, m2]
theorem fill_pairs (r : Nat → Int) (n k : Nat) (h : k < n) : ((List.range k).map (fun i => (((i : Nat) : Int), r i)) ++ List.replicate (n - k) (0, 0)).set k ((k : Int), r k) = (List.range (k + 1)).map (fun i => (((i : Nat) : Int), r i)) ++ List.replicate (n - (k + 1)) (0, 0) := by
  obtain ⟨m, rfl⟩ : ∃ m, n = k + 1 + m := ⟨n - (k + 1), by omega⟩
  rw [show k + 1 + m - k = m + 1 from by omega, show k + 1 + m - (k + 1) = m from by omega, List.set_append_right _ _ (by simp)]
  simp [List.replicate_succ, List.range_succ]
/-- What the sort of the remainders leaves. -/
def SortOK : Prop := ∀ (W : World) (blk n cap : Nat) (D : List (Int × Int)), D.length = n → n ≤ 300 → RowP W blk D →
  Calls Tryz.prog 43 #[.slice (some ⟨blk, 0, none⟩) n cap, .func (.func 44) #[] #[]] W fun e w' => e = .returned (.tuple #[]) ∧ ∃ D', D'.Perm D ∧ D'.Pairwise (fun x y => 0 ≤ cmpR y x) ∧ RowP w' blk D' ∧ Below blk W w'

set_option maxHeartbeats 4000000 in
theorem Shares_any (hsort : SortOK) (L : List Int) (n cap : Nat) (A : Option Addr) (B : Nat) (w : World) (hM : Zs w B A n L) (T : Int) (hT0 : 0 ≤ T) (hT1 : T ≤ 999999999) (hL : ∀ z ∈ L, 0 ≤ z ∧ z ≤ 999999999) (hS : 0 < L.sum) (hsm : n ≤ 256) (hck : ckW L = 0) :
    Calls Tryz.prog 15 #[.int .i64 T, .slice A n cap] w fun e w' => ∃ g P, Sh.Ord (rs T L) n P ∧ e = .returned (.tuple #[.slice (some ⟨g, 0, none⟩) n n, .int .i64 0]) ∧ RowI w' g ((List.range n).map (Sh.dealt (bs T L) P (lft T L))) ∧ w.heap.size ≤ g ∧ Below w.heap.size w w' := by
  have hn0 : (n : Int) ≤ 256 := by omega
  have hn1 : 0 ≤ (n : Int) := by omega
  obtain ⟨i0, hi, hz0, hz1, hz2⟩ := info_parts infoI
  have hmk : ∀ w : World, (Instr.makeSlice 26 (.int .i64 (n : Int)) (.int .i64 (n : Int))).run Tryz.prog w = .ok (.slice (some ⟨w.heap.size, 0, none⟩) n n) (w.alloc (.cells (madeCells #[.int .i64 0] n) 3)) := by
    intro w
    have := run_make (P := Tryz.prog) w 26 3 i0 (.int .i64 0) Tryz.underlying26 hi hz0 .i64 .i64 n n (by omega) (by omega) (by rw [hz2]; omega) (by omega)
    rw [hz1] at this
    simpa [Value.cells] using this
  obtain ⟨j0, ji, jz0, jz1, jz2⟩ := info_parts infoRem
  have hmr : ∀ w : World, (Instr.makeSlice 85 (.int .i64 (n : Int)) (.int .i64 (n : Int))).run Tryz.prog w = .ok (.slice (some ⟨w.heap.size, 0, none⟩) n n) (w.alloc (.cells (madeCells #[.int .i64 0, .int .i64 0] (n * 2)) 87)) := by
    intro w
    have := run_make (P := Tryz.prog) w 85 87 j0 (.agg #[.int .i64 0, .int .i64 0]) Tryz.underlying85 ji jz0 .i64 .i64 n n (by omega) (by omega) (by rw [jz2]; omega) (by omega)
    rw [jz1] at this
    simpa [Value.cells] using this
  clear hi hz0 hz1 hz2 ji jz0 jz1 jz2
  have HM : Hid (∀ w', Below w.heap.size w w' → Zs w' B A n L) := fun w' hb => hM.below hb hM.2.1
  have Hlen : Hid (L.length = n) := hM.1
  have hC : ∀ w', Below w.heap.size w w' → Calls Tryz.prog 42 #[.slice A n cap] w' (RetPost (.int .i64 0) w') := fun w' hb => by
    have := checkWeights_any L n cap A B w' (hM.below hb hM.2.1) (by omega)
    rwa [hck] at this
  have HL := Lib.hid hL
  obtain ⟨S, hSS⟩ : ∃ S, L.sum = S := ⟨_, rfl⟩
  have HS : Hid (L.sum = S) := hSS
  have HSP : Hid (0 < L.sum) := hS
  rw [hSS] at hS
  have HSO := Lib.hid hsort
  clear hM hL hSS hck hsort
  go_enter Tryz.func15, Tryz.ntmps15
  go_wp2_with fail
  refine (hC _ (Below.refl _ _)).mono ?_
  rintro e w1 ⟨rfl, hb1⟩
  clear hC
  go_wp2_with fail
  go_loopw [7, 30] (fun s i wr => ∃ (k : Nat) (q : Int), k ≤ n ∧ i = .int .i64 k ∧ s = .int .i64 q ∧ 0 ≤ q ∧ q ≤ 999999999 * (k : Int) ∧ Hid (q = (L.take k).sum) ∧ Below w.heap.size w wr) (fun _ i _ => n - (RowKit.intOf i).toNat)
  case atStart => exact ⟨0, 0, by omega, rfl, rfl, by omega, by omega, (show _ = _ by simp), hb1⟩
  case round =>
    obtain ⟨k, q, hk, rfl, rfl, hq0, hq1, HQ, hb⟩ := hrel
    clear hb1
    by_cases hlt : k < n
    · obtain ⟨b, off, z, rfl, _, hLk, c1⟩ := (HM.out _ hb).at_ hlt
      have hki : (k : Int) < (n : Int) := by omega
      obtain ⟨z0, z1⟩ := HL.out z (List.mem_of_getElem? hLk)
      have HN : Hid (q + z = (L.take (k + 1)).sum) := (show _ = _ by rw [sum_take L k z hLk, ← HQ.out])
      clear hLk
      go_wp2
      exact ⟨⟨k + 1, q + z, by omega, by go_num, rfl, by omega, by omega, HN, hb⟩, by simp [RowKit.intOf]; omega⟩
    · have hkn : k = n := by omega
      have hQ := HQ.out
      rw [hkn, List.take_of_length_le (by rw [Hlen.out]; omega), HS.out] at hQ
      obtain rfl : q = S := hQ
      have hki : ¬ (k : Int) < (n : Int) := by omega
      obtain ⟨h, hh⟩ : ∃ h, h = wr.heap.size := ⟨_, rfl⟩
      have hbh : w.heap.size ≤ h := by rw [hh]; exact hb.size
      have hW : RowI ((wr.alloc (.cells (madeCells #[.int .i64 0] n) 3)).alloc (.cells (madeCells #[.int .i64 0, .int .i64 0] (n * 2)) 87)) h (List.replicate n 0) ∧ RowP ((wr.alloc (.cells (madeCells #[.int .i64 0] n) 3)).alloc (.cells (madeCells #[.int .i64 0, .int .i64 0] (n * 2)) 87)) (h + 1) (List.replicate n (0, 0)) ∧ Below w.heap.size w ((wr.alloc (.cells (madeCells #[.int .i64 0] n) 3)).alloc (.cells (madeCells #[.int .i64 0, .int .i64 0] (n * 2)) 87)) := by
        have a := RowI.new wr n
        have b := RowP.new (wr.alloc (.cells (madeCells #[.int .i64 0] n) 3)) n
        have e2 : (wr.alloc (.cells (madeCells #[.int .i64 0] n) 3)).heap.size = h + 1 := by simp [hh]
        rw [← hh] at a
        rw [e2] at b
        exact ⟨a.alloc _, b, (hb.alloc hb.size _).alloc (by have := hb.size; simp; omega) _⟩
      have hbs : B ≤ w.heap.size := (HM.out w (Below.refl _ _)).2.1
      clear HQ hkn hlt hq0
      go_wp2
      rw [← hh]
      clear hh hb hmk hmr
      generalize (wr.alloc (.cells (madeCells #[.int .i64 0] n) 3)).alloc (.cells (madeCells #[.int .i64 0, .int .i64 0] (n * 2)) 87) = w2 at hW ⊢
      generalize hr : h + 1 = r at hW ⊢
      have hhr : h < r := by omega
      obtain ⟨hR1, hR2, hB2⟩ := hW
      clear hr
      go_loopw [12, 47] (fun lf i wx => ∃ (k : Nat) (q2 : Int), k ≤ n ∧ i = .int .i64 k ∧ lf = .int .i64 q2 ∧ 0 ≤ q2 ∧ q2 ≤ T ∧ Hid (q2 = T - Sh.bsum T L.sum (L.take k)) ∧ RowI wx h ((List.range k).map (bs T L) ++ List.replicate (n - k) 0) ∧ RowP wx r ((List.range k).map (fun i => (((i : Nat) : Int), rs T L i)) ++ List.replicate (n - k) (0, 0)) ∧ Below w.heap.size w wx) (fun _ i _ => n - (RowKit.intOf i).toNat)
      case atStart => exact ⟨0, T, by omega, rfl, rfl, by omega, by omega, (show _ = _ by simp [Sh.bsum]), by simpa using hR1, by simpa using hR2, hB2⟩
      case round =>
        obtain ⟨k2, q2, hk2, rfl, rfl, hq20, hq21, HQ2, hO, hR, hb⟩ := hrel
        clear hR1 hR2 hB2
        by_cases hlt2 : k2 < n
        · obtain ⟨b, off, z, rfl, hbB, hLk, c1⟩ := (HM.out _ hb).at_ hlt2
          have hki2 : (k2 : Int) < (n : Int) := by omega
          obtain ⟨z0, z1⟩ := HL.out z (List.mem_of_getElem? hLk)
          obtain ⟨p0, p1⟩ := prod_bound hT0 hT1 z0 z1
          have hbh1 : b ≠ h := by omega
          have hbr1 : b ≠ r := by omega
          obtain ⟨o0, o1⟩ := hO.at_ (j := k2) (by simp; omega)
          obtain ⟨y, hy⟩ : ∃ y, ((List.range k2).map (fun i => (((i : Nat) : Int), rs T L i)) ++ List.replicate (n - k2) ((0 : Int), (0 : Int)))[k2]? = some y := ⟨_, List.getElem?_eq_getElem (by simp; omega)⟩
          obtain ⟨r0, r1, r2, r3⟩ := hR.2 k2 y hy
          obtain ⟨x1, hx1⟩ : ∃ x, ((List.range k2).map (bs T L) ++ List.replicate (n - k2) 0).getD k2 0 = x := ⟨_, rfl⟩
          rw [hx1] at o0
          have HLk := Lib.hid hLk
          have HO := Lib.hid hO
          have HR := Lib.hid hR
          have hbt := Sh.bsum_take T L.sum L k2 z HLk.out
          have hble := Sh.bsum_le T hT0 L (fun z hz => (HL.out z hz).1) (k2 + 1) HSP.out
          rw [hbt, HS.out] at hble
          have hq2 := HQ2.out
          rw [HS.out] at hq2
          have hd0 : 0 ≤ T * z / q := Int.ediv_nonneg p0 (by omega)
          have hd1 : 0 ≤ q2 - T * z / q := by omega
          have HN : Hid (q2 - T * z / q = T - Sh.bsum T L.sum (L.take (k2 + 1))) := (show _ = _ by rw [hbt, HS.out]; omega)
          have eB : bs T L k2 = T * z / q := by unfold bs; rw [HS.out, List.getD_eq_getElem?_getD, HLk.out]; rfl
          have eR : rs T L k2 = T * z % q := by unfold rs; rw [HS.out, List.getD_eq_getElem?_getD, HLk.out]; rfl
          have HEB := Lib.hid eB
          have HER := Lib.hid eR
          clear hLk hx1 hO hR hbt hble hq2 HQ2 eB eR hy
          have hO2 : RowI (((wr.setCell ⟨h, k2, none⟩ (.int .i64 (T * z / q))).setCell ⟨r, k2 * 2, none⟩ (.int .i64 (k2 : Int))).setCell ⟨r, k2 * 2 + 1, none⟩ (.int .i64 (T * z % q))) h ((List.range (k2 + 1)).map (bs T L) ++ List.replicate (n - (k2 + 1)) 0) := by
            have := HO.out.set_ (i := k2) (by simp; omega) (bs T L k2)
            rw [fill_map (bs T L) n k2 hlt2, HEB.out] at this
            exact (this.far (by show r ≠ h; omega) _).far (by show r ≠ h; omega) _
          have hR2 : RowP (((wr.setCell ⟨h, k2, none⟩ (.int .i64 (T * z / q))).setCell ⟨r, k2 * 2, none⟩ (.int .i64 (k2 : Int))).setCell ⟨r, k2 * 2 + 1, none⟩ (.int .i64 (T * z % q))) r ((List.range (k2 + 1)).map (fun i => (((i : Nat) : Int), rs T L i)) ++ List.replicate (n - (k2 + 1)) (0, 0)) := by
            have := (HR.out.far (p := ⟨h, k2, none⟩) (by show h ≠ r; omega) (.int .i64 (T * z / q))).set_ (i := k2) (by simp; omega) (k2 : Int) (rs T L k2)
            rw [fill_pairs (rs T L) n k2 hlt2, HER.out] at this
            exact this
          have hb2 : Below w.heap.size w (((wr.setCell ⟨h, k2, none⟩ (.int .i64 (T * z / q))).setCell ⟨r, k2 * 2, none⟩ (.int .i64 (k2 : Int))).setCell ⟨r, k2 * 2 + 1, none⟩ (.int .i64 (T * z % q))) := ((hb.setCell (by show _ ≤ h; omega) _).setCell (by show _ ≤ r; omega) _).setCell (by show _ ≤ r; omega) _
          clear hb HO HR HEB HER
          go_wp2
          exact ⟨⟨k2 + 1, q2 - T * z / q, by omega, by go_num, rfl, by omega, by omega, HN, hO2, hR2, hb2⟩, by simp [RowKit.intOf]; omega⟩
        · have hki2 : ¬ (k2 : Int) < (n : Int) := by omega
          have hkn2 : k2 = n := by omega
          have hq2 := HQ2.out
          rw [hkn2, List.take_of_length_le (by rw [Hlen.out]; omega)] at hq2
          rw [hkn2, Nat.sub_self, List.replicate_zero, List.append_nil] at hO hR
          have hleft := Sh.left_lt T hT0 L (fun z hz => (HL.out z hz).1) HSP.out
          rw [← hq2, Hlen.out] at hleft
          obtain ⟨l, hl⟩ : ∃ l, lft T L = l := ⟨_, rfl⟩
          have hlq : q2 = (l : Int) := by rw [← hl]; unfold lft; rw [← hq2]; omega
          have HLL := Lib.hid hl
          subst hlq
          have hln : l < n := by omega
          have hlni : (l : Int) ≤ (n : Int) := by omega
          have hl0 : (0 : Int) ≤ (l : Int) := by omega
          have hsrt := HSO.out wr r n n _ (by simp) (by omega) hR
          clear hq2 HQ2 hkn2 hlt2 hleft hq20 hq21 hl hR
          go_wp2_with fail
          refine hsrt.mono ?_
          rintro e w3 ⟨rfl, D, hp, hs, hRP, hB3⟩
          have hOrd := ord_of (rs T L) n D hp hs (fun i _ => Int.emod_nonneg _ (by have := HSP.out; omega))
          have hO3 := hO.below hB3 hhr hB3.size
          have hb3 : Below w.heap.size w w3 := hb.trans (hB3.mono (by omega))
          have HD : Hid (∀ x ∈ D, ∃ i : Nat, i < n ∧ x = ((i : Int), rs T L i)) := fun x hx => by
            obtain ⟨i, hi, rfl⟩ := List.mem_map.1 (hp.mem_iff.1 hx)
            exact ⟨i, by simpa using hi, rfl⟩
          have HDl : Hid (D.length = n) := (show _ = _ by rw [hp.length_eq]; simp)
          have HOrd := Lib.hid hOrd
          have hPl := hOrd.length
          have HPl := Lib.hid hPl
          clear hsrt hp hs hOrd hO hb hB3 hPl
          go_wp2
          go_loopw [83] (fun i wx => ∃ k : Nat, k ≤ l ∧ i = .int .i64 k ∧ RowI wx h ((List.range n).map (Sh.dealt (bs T L) (D.map fun x => x.1.toNat) k)) ∧ RowP wx r D ∧ Below w.heap.size w wx) (fun i _ => l - (RowKit.intOf i).toNat)
          case atStart => exact ⟨0, by omega, rfl, by rw [Sh.dealt_zero]; simpa using hO3, hRP, hb3⟩
          case round =>
            obtain ⟨k, hk3, rfl, hO4, hRP4, hb4⟩ := hrel
            clear hO3 hRP hb3
            by_cases hkl : k < l
            · have hkli : (k : Int) < (l : Int) := by omega
              have hkD : k < D.length := by rw [HDl.out]; omega
              obtain ⟨p, hpn, hx⟩ := HD.out D[k] (List.getElem_mem hkD)
              obtain ⟨r0, r1, r2, r3⟩ := hRP4.2 k D[k] (List.getElem?_eq_getElem hkD)
              rw [hx] at r0 r1
              have hPk : (D.map fun x => x.1.toNat)[k]'(by simpa using hkD) = p := by simp [hx]
              have HPk := Lib.hid hPk
              obtain ⟨o0, o1⟩ := hO4.at_ (j := p) (by simp; omega)
              rw [getD_map _ n p hpn] at o0
              obtain ⟨x1, hx1⟩ : ∃ x, Sh.dealt (bs T L) (D.map fun x => x.1.toNat) k p = x := ⟨_, rfl⟩
              obtain ⟨x2, hx2⟩ : ∃ x, rs T L p = x := ⟨_, rfl⟩
              rw [hx1] at o0
              rw [hx2] at r1
              have HX1 := Lib.hid hx1
              have hpi : (p : Int) < (n : Int) := by omega
              have hx1b : 0 ≤ x1 ∧ x1 ≤ 999999998000000001 := by
                have e1 : x1 = bs T L p := by
                  rw [← hx1, ← hPk]
                  exact Sh.dealt_at HOrd.out (bs T L) k (by rw [HPl.out]; omega)
                have hbl : p < L.length := by rw [Hlen.out]; exact hpn
                obtain ⟨z0, z1⟩ := HL.out L[p] (List.getElem_mem hbl)
                obtain ⟨p0, p1⟩ := prod_bound hT0 hT1 z0 z1
                have e2 : bs T L p = T * L[p] / q := by unfold bs; rw [HS.out, List.getD_eq_getElem?_getD, List.getElem?_eq_getElem hbl]; rfl
                rw [e1, e2]
                refine ⟨Int.ediv_nonneg p0 (by omega), ?_⟩
                have := Int.ediv_le_self q p0
                omega
              obtain ⟨y0, y1⟩ := hx1b
              have hzh : h < wr.heap.size := hO4.1
              have hnh : h ≠ wr.heap.size := by omega
              have hsz4 := hb4.size
              have hO5 : RowI ((wr.setCell ⟨h, p, none⟩ (.int .i64 (x1 + 1))).alloc (.cells #[.int .i64 (p : Int), .int .i64 x2] 87)) h ((List.range n).map (Sh.dealt (bs T L) (D.map fun x => x.1.toNat) (k + 1))) := by
                have := hO4.set_ (i := p) (by simp; omega) (x1 + 1)
                rw [map_set _ (Sh.dealt (bs T L) (D.map fun x => x.1.toNat) (k + 1)) n p (x1 + 1) (fun i => by
                  rw [Sh.dealt_succ HOrd.out (bs T L) k (by rw [HPl.out]; omega) i, HPk.out]
                  by_cases e : i = p
                  · rw [if_pos e, if_pos e, e, HX1.out]
                  · rw [if_neg e, if_neg e])] at this
                exact this.alloc _
              have hRP5 : RowP ((wr.setCell ⟨h, p, none⟩ (.int .i64 (x1 + 1))).alloc (.cells #[.int .i64 (p : Int), .int .i64 x2] 87)) r D := (hRP4.far (by show h ≠ r; omega) _).below ((Below.refl (wr.setCell ⟨h, p, none⟩ (.int .i64 (x1 + 1))).heap.size _).alloc (Nat.le_refl _) _) (by simpa using hRP4.1)
              have hb5 : Below w.heap.size w ((wr.setCell ⟨h, p, none⟩ (.int .i64 (x1 + 1))).alloc (.cells #[.int .i64 (p : Int), .int .i64 x2] 87)) := (hb4.setCell (p := ⟨h, p, none⟩) (by show _ ≤ h; omega) _).alloc (by simpa using hb4.size) _
              clear hx hPk hx1 hx2 hO4 hRP4 hb4 HX1 HPk
              go_wp2
              exact ⟨⟨k + 1, by omega, by go_num, hO5, hRP5, hb5⟩, by simp [RowKit.intOf]; omega⟩
            · have hkli : ¬ (k : Int) < (l : Int) := by omega
              have hkl2 : k = l := by omega
              clear hRP4
              go_wp2
              go_ret2
              exact ⟨h, _, HOrd.out, rfl, by rw [HLL.out, ← hkl2]; exact hO4, by omega, hb4⟩
end Go.Mk
