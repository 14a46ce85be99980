/-
  Proved: the law TrackHands returns true and leaves all that was there. Conditions: the tables that awake and the rational numbers read lie where the program lays them; the legs lie where the slice says; the numbers are below 256.
-/
import Derived.Test.YtickjnahdeikfaaGreatDoorXaw
import Derived.Test.YtickjnahdeikfaaGreatDoorVn
import Derived.Test.YtickjnahdeikfaaGreatDoorVp
import Derived.Test.YtickjnahdeikfaaGreatDoorVk
import Derived.Test.YtickjnahdeikfaaGreatDoorYl
set_option linter.unusedVariables false
set_option linter.unusedSimpArgs false
open Go Go.Proofs Go.RowKit
set_option maxRecDepth 100000
namespace Go.Mk
theorem flat_set : ∀ (L : List (Int × Int)) (i : Nat) (q : Int × Int) (x : Int), L[i]? = some q → (L.flatMap pairC).set (i * 2) (.int .i64 x) = (L.set i (x, q.2)).flatMap pairC
  | [], i, q, x, h => by simp at h
  | p :: L, 0, q, x, h => by obtain rfl : p = q := by simpa using h
                             simp [pairC]
  | p :: L, i + 1, q, x, h => by
    rw [List.flatMap_cons, List.set_cons_succ, List.flatMap_cons, ← flat_set L i q x (by simpa using h)]
    simp [pairC, show (i + 1) * 2 = i * 2 + 1 + 1 by omega]
theorem checkG {g : Int × Int} (h : okG g) (w : World) : Calls Tryz.prog 73 #[.string (ratG g)] w (RetPost (.int .i64 0) w) := by
  obtain ⟨a, b⟩ := g
  obtain ⟨h1, h2, h3, h4⟩ := h
  have h1 : 0 ≤ a := h1
  have h2 : a ≤ 999999999 := h2
  have h3 : 0 < b := h3
  have h4 : b ≤ 999999999 := h4
  obtain ⟨N, rfl⟩ := Int.eq_ofNat_of_zero_le h1
  obtain ⟨D, rfl⟩ := Int.eq_ofNat_of_zero_le (Int.le_of_lt h3)
  have hN : N ≤ 999999999 := by omega
  have hD : D ≤ 999999999 := by omega
  have hD0 : 0 < D := by omega
  show Calls Tryz.prog 73 #[.string (ratT (N / Nat.gcd D N) (D / Nat.gcd D N))] w (RetPost (.int .i64 0) w)
  have g0 : 0 < Nat.gcd D N := Nat.gcd_pos_of_pos_left _ hD0
  refine rfCheck_any _ _ (Nat.le_trans (Nat.div_le_self _ _) hN) (Nat.div_pos (Nat.gcd_le_left _ hD0) g0) (Nat.le_trans (Nat.div_le_self _ _) hD) ?_ w
  rw [Nat.gcd_comm D N]
  exact Nat.gcd_div_gcd_div_gcd_of_pos_right hD0
theorem place_wraps (z : Int) (p : Nat) (hz : 1 ≤ z ∧ z ≤ 999999) (hp : p < 256) : ∃ q : Int, IntKind.i64.wrap (z * (p : Int)) = z * (p : Int) ∧ Int.tdiv (z * (p : Int)) 255 = q ∧ IntKind.i64.wrap q = q ∧ 0 ≤ q ∧ q ≤ z := by
  have h0 : 0 ≤ z * (p : Int) := Int.mul_nonneg (by omega) (by omega)
  have h1 : z * (p : Int) ≤ z * 255 := Int.mul_le_mul_of_nonneg_left (by omega) (by omega)
  refine ⟨z * (p : Int) / 255, IntWalk.i64_in _ (by omega), Int.tdiv_eq_ediv_of_nonneg h0, IntWalk.i64_in _ (by omega), by omega, by omega⟩
theorem Pairs.of_rowX {w : World} {base k : Nat} {T : TypeId} {v : Value} {L : List (Int × Int)} (h : w.ownsRow base T 2 v k (L.flatMap pairC)) (hk : L.length = k) : ∃ A c, v = .slice A k c ∧ Pairs w A k L ∧ (A = none → k = 0 ∧ c = 0) := by
  subst hk
  by_cases h0 : 0 < L.length
  · obtain ⟨g, c, rfl, hg1, hg2⟩ := ownSome h h0
    refine ⟨_, _, rfl, ⟨rfl, fun _ => ⟨g, 0, rfl, hg2, fun i p hp => ?_⟩⟩, fun q => by cases q⟩
    have hi := (List.getElem?_eq_some_iff.1 hp).1
    constructor
    · rw [Nat.zero_add, World.ownsRow.cellAt h (i * 2) (by omega)]
      exact (pairC_at L i p 0 hp (by decide)).trans rfl
    · rw [Nat.zero_add, World.ownsRow.cellAt h (i * 2 + 1) (by omega)]
      exact (pairC_at L i p 1 hp (by decide)).trans rfl
  · obtain rfl : L = [] := List.length_eq_zero_iff.1 (by omega)
    rcases h.2 with ⟨e, _⟩ | ⟨g, c, cur, e, _⟩
    · exact ⟨none, 0, e, ⟨rfl, fun q => absurd q (by simp)⟩, fun _ => ⟨rfl, rfl⟩⟩
    · exact ⟨_, c, e, ⟨rfl, fun q => absurd q (by simp)⟩, fun q => by cases q⟩
theorem infoEx : (Tryz.prog.info? 68).map (fun i => (i.zero, i.size, i.bytes)) = some (some (.agg #[.int .i64 0, .int .i64 0]), 2, 16) := by kernel_rfl
theorem tn_wraps (tm : Int) (t k : Nat) (h : 0 ≤ tm ∧ tm ≤ 256 * (k : Int)) (ht : t < 256) (hk : k < 8) : IntKind.i64.wrap (1 + (t : Int)) = 1 + (t : Int) ∧ wrap64 (1 + (t : Int)) = 1 + (t : Int) ∧ IntKind.i64.wrap (tm + (1 + (t : Int))) = tm + (1 + (t : Int)) ∧ wrap64 (tm + (1 + (t : Int))) = tm + (1 + (t : Int)) := by
  refine ⟨IntWalk.i64_in _ (by omega), IntWalk.wrap64_in _ (by omega), IntWalk.i64_in _ (by omega), IntWalk.wrap64_in _ (by omega)⟩
set_option maxHeartbeats 16000000 in
theorem hands_main (G : List Int) (n cap : Nat) (A : Option Addr) (z b : Int) (P T : Nat → Nat) (w : World)
    (hG : IntsZ w A n G) (hn : (n : Int) ≤ 9223372036854775807) (hc : n ≤ cap) (hP : ∀ j, P j < 256) (hT : ∀ j, T j < 256) (ht : Tabs w) (hGt : Gt w) (h1 : n ≤ 11) (h3 : relW G z b = 0) : Calls Tryz.prog 5 #[.agg #[.slice A n cap, .int .i64 z, .int .i64 b], .agg #[.int .u8 (P 0 : Int), .int .u8 (P 1 : Int), .int .u8 (P 2 : Int), .int .u8 (P 3 : Int), .int .u8 (P 4 : Int), .int .u8 (P 5 : Int), .int .u8 (P 6 : Int), .int .u8 (P 7 : Int)], .agg #[.int .u8 (T 0 : Int), .int .u8 (T 1 : Int), .int .u8 (T 2 : Int), .int .u8 (T 3 : Int), .int .u8 (T 4 : Int), .int .u8 (T 5 : Int), .int .u8 (T 6 : Int), .int .u8 (T 7 : Int)]] w (Yes w) := by
  obtain ⟨i0, hi, hz0, hz1, hz2⟩ := info_parts infoEx
  have HB := Lib.hid (Box4.new w A n cap z b P T 24 66 66 26)
  have HAW : Hid (∀ w', Below w.heap.size w w' → Calls Tryz.prog 9 #[] w' (RetPost (.bool true) w')) := Lib.hid fun w' hb => aw w' (ht.grow hb)
  have HSR := Lib.hid fun w' => r7ShortH_any A n cap z b w'
  have HCR : Hid (∀ w', Below w.heap.size w w' → Calls Tryz.prog 10 #[.agg #[.slice A n cap, .int .i64 z, .int .i64 b]] w' (RetPost (.int .i64 0) w')) := Lib.hid fun w' hb => by rw [← h3]; exact r7CheckRelay_any G n cap A z b w' (hG.below hb) hn
  obtain ⟨m, hl, _, _⟩ := relW_len h3
  obtain ⟨⟨hm1, hm7⟩, hz, hbz, hGx, hsum, hs0, hs8, hZO, hZat⟩ := relW_facts h3 hl
  have hnm : n = m + 1 := by rw [← hG.1]; exact hl
  have HZO : Hid (∀ w', Below w.heap.size w w' → Calls Tryz.prog 11 #[.agg #[.slice A n cap, .int .i64 z, .int .i64 b]] w' (fun e w'' => ∃ v B, e = .returned (.tuple #[v, .int .i64 0]) ∧ w'.heap.size ≤ B ∧ OwnPairs w'' B v (zonesW z b (G.take m) 0) ∧ Below w'.heap.size w' w'')) := Lib.hid fun w' hb => by subst hnm; exact trZones_ok G m cap A z b w' (hG.below hb) (by omega) hc h3
  have hzl : (zonesW z b (G.take m) 0).length = m := by rw [zonesW_len, List.length_take]; omega
  have HCW : Hid (∀ (L : List (Int × Int)) (t f : Int), RunOK L (zonesW z b (G.take m) 0) m t → t < f → f ≤ 863999999 → crW G z b L f = (0, 0)) := Lib.hid fun L t f hR h1 h2 => crW_made h3 hl hm1 hZO (by omega) hR h1 h2
  have HCL : Hid (∀ (L : List (Int × Int)) (t f : Int) (k0 : Nat) (q zz : Int × Int), RunOK L (zonesW z b (G.take m) 0) m t → t ≤ 863999999 → 1 ≤ f → f ≤ 863999999 → k0 < m → L[k0]? = some q → (zonesW z b (G.take m) 0)[k0]? = some zz → crW G z b (L.set k0 (zz.2 + 1, q.2)) f = ((k0 : Int), 18)) := Lib.hid fun L t f k0 q zz hR a1 a2 a3 a4 a5 a6 => crW_late h3 hl hZO (by omega) hR a1 a2 a3 a4 a5 a6
  have HOK : Hid (∀ (L : List (Int × Int)) (f : Int), crW G z b L f = (0, 0) → ∀ g ∈ gapF (0, 0) (L ++ [(sumW G 0, f)]), okG g) := Lib.hid fun L f h => (crW_ok h3 h).2
  obtain ⟨Z, hZe⟩ : ∃ Z, zonesW z b (G.take m) 0 = Z := ⟨_, rfl⟩
  rw [hZe] at HZO hzl HCW HCL hZO hZat
  have HGw : Hid (∀ w', Below w.heap.size w w' → IntsZ w' A n G) := Lib.hid fun w' hb => hG.below hb
  have HTw : Hid (∀ w', Below w.heap.size w w' → Gt w') := Lib.hid fun w' hb => hGt.below hb (Nat.le_refl _)
  have h1i : (n : Int) ≤ 11 := by omega
  have hnmi : (m : Int) = (n : Int) - 1 := by omega
  have HNM := Lib.hid hnm
  have HGl := Lib.hid hG.1
  have HZL := Lib.hid hzl
  have HZAT := Lib.hid hZat
  have HZOK := Lib.hid hZO
  have HSUM := Lib.hid hsum
  have HGX := Lib.hid hGx
  have HP := Lib.hid hP
  have HT := Lib.hid hT
  clear hG hn ht hGt hP hT hnm hl hzl hZat hZO hZe hsum hGx h3 hnmi
  go_enter Tryz.func5, Tryz.ntmps5
  go_wp2_with fail
  refine (HSR.out _).mono ?_
  rintro e1 w1 ⟨rfl, hb1⟩
  have HB1 := Lib.hid (HB.out.next hb1)
  obtain ⟨_, _, _, ⟨b0, b1, b2⟩, _, _⟩ := HB1.out
  clear hb1
  go_wp2_with fail
  refine (HCR.out _ HB1.out.2.2.2.2.2).mono ?_
  rintro e2 w2 ⟨rfl, hb2⟩
  have HB2 := Lib.hid (HB1.out.next hb2)
  clear hb2 b0 b1 b2
  obtain ⟨⟨a0, a1, a2⟩, _, _, _, _, _⟩ := HB2.out
  go_wp2_with fail
  refine (HZO.out _ HB2.out.2.2.2.2.2).mono ?_
  rintro e3 w3 ⟨vz, Bz, rfl, hBz, hoz, hb3⟩
  have HB3 := Lib.hid (HB2.out.next hb3)
  obtain ⟨AZ, cZ, rfl, hPZ⟩ := Pairs.of_own hoz
  rw [HZL.out] at hPZ ⊢
  have HPZ : Hid (∀ w', Below w3.heap.size w3 w' → Pairs w' AZ m Z) := Lib.hid fun w' hb => hPZ.below hb
  clear hoz hPZ hBz hb3 a0 a1 a2
  obtain ⟨⟨a0, a1, a2⟩, _, _, _, hl3, hbw3⟩ := HB3.out
  obtain ⟨bg, og, x0, rfl, hbg, hx0, y0⟩ := (HGw.out _ hbw3).cellAt (show 0 < n by have := HNM.out; omega)
  have hni0 : (0 : Int) < (n : Int) := by have := HNM.out; omega
  have hmn : (m : Int) = (n : Int) - 1 := by have := HNM.out; omega
  have hw0 : IntKind.i64.wrap ((n : Int) - 1) = (m : Int) := by rw [hmn]; exact IntWalk.i64_in _ (by omega)
  have y0' : w3.cell? ⟨bg, og, none⟩ = some (.int .i64 x0) := y0
  clear hmn y0
  go_wp2_with fail
  go_quiet (fail)
  go_wp2
  go_loopw [10, 11, 12, 60] (fun l t s i wr => ∃ (k : Nat) (L : List (Int × Int)) (tm : Int), k ≤ m ∧ i = .int .i64 k ∧ t = .int .i64 tm ∧ s = .int .i64 (G.take (k + 1)).sum ∧ Hid (RunOK L Z k tm) ∧ (0 ≤ tm ∧ tm ≤ 256 * k) ∧ wr.ownsRow w3.heap.size 68 2 l k (L.flatMap pairC) ∧ Below w3.heap.size w3 wr) (fun _ _ _ i _ => m - (intOf i).toNat)
  case atStart => exact ⟨0, [], 0, by omega, rfl, rfl, by rw [take_sum hx0]; simp, Lib.hid (RunOK.nil Z), by decide, World.ownsRow_nil _ _ _ _, below_drewN (Below.refl _ _) _⟩
  case round =>
    obtain ⟨k, L, tm, hk, rfl, rfl, rfl, HR, htm, hown, hb⟩ := hrel
    have HB4 := Lib.hid (HB3.out.next hb)
    have hwr := hb.size
    by_cases hlt : k < m
    · obtain ⟨bz', oz, zz, rfl, hbz', hzz, z0, z1⟩ := (HPZ.out _ hb).at_ hlt
      have hze := HZAT.out k hlt
      rw [hzz] at hze
      obtain ⟨S, hS⟩ : ∃ S, (G.take (k + 1)).sum = S := ⟨_, rfl⟩
      rw [hS] at hze ⊢
      obtain ⟨y0, hy0⟩ : ∃ y0, S - b = y0 := ⟨_, rfl⟩
      rw [hy0] at hze
      obtain rfl : zz = (y0, y0 + z) := Option.some.inj hze
      obtain ⟨q1, q2, q3⟩ := HZOK.out.1 k _ hzz
      replace q1 : 0 ≤ y0 := q1
      replace q3 : y0 + z ≤ sumW G 0 := q3
      rw [HSUM.out] at q3
      obtain ⟨y1, hy1⟩ : ∃ y1, y0 + z = y1 := ⟨_, rfl⟩
      replace z0 : wr.cell? ⟨bz', oz + k * 2, none⟩ = some (.int .i64 y0) := z0
      replace z1 : wr.cell? ⟨bz', oz + k * 2 + 1, none⟩ = some (.int .i64 (y0 + z)) := z1
      rw [hy1] at z1
      obtain ⟨wa, hwa⟩ : ∃ wa, wr.alloc (.cells #[.int .i64 y0, .int .i64 y1] 47) = wa := ⟨_, rfl⟩
      have hba : Below wr.heap.size wr wa := by rw [← hwa]; exact balloc _ (Below.refl _ _)
      have hsa : wa.heap.size = wr.heap.size + 1 := by rw [← hwa]; simp
      have p0 : wa.cell? ⟨wr.heap.size, 0, none⟩ = some (.int .i64 y0) := by rw [← hwa]; simp
      have p1 : wa.cell? ⟨wr.heap.size, 1, none⟩ = some (.int .i64 y1) := by rw [← hwa]; simp
      obtain ⟨⟨a0, a1, a2⟩, hPc, hTc, _, hl5, hbwa⟩ := HB4.out.next hba
      have hPk := hPc k (by omega)
      have hTk := hTc k (by omega)
      have hP256 := HP.out k
      have hT256 := HT.out k
      obtain ⟨bg', og', x, hAg, hbg', hxk, hxc⟩ := (HGw.out _ hbwa).cellAt (show k + 1 < n by have := HNM.out; omega)
      cases hAg
      have hxr := HGX.out x (List.mem_of_getElem? hxk)
      have hnn := HNM.out
      have hSn : (G.take (k + 1 + 1)).sum = S + x := by rw [take_sum hxk, hS]
      have HSn := Lib.hid hSn
      have hki : (k : Int) < (m : Int) := by omega
      have hk0 : (0 : Int) ≤ (k : Int) := by omega
      have hkt : ((k : Int)).toNat = k := by omega
      have hk1t : ((k : Int) + 1).toNat = k + 1 := by omega
      have hk1n : (k : Int) + 1 < (n : Int) := by omega
      have hk10 : (0 : Int) ≤ (k : Int) + 1 := by omega
      have hk8 : (k : Int) < 8 := by omega
      have hr8 : Int.tmod (k : Int) 8 = (k : Int) := by rw [Int.tmod_eq_emod_of_nonneg hk0]; omega
      have hr8' : (k : Int) % 8 = (k : Int) := by omega
      have v1 : IntKind.i64.wrap (y1 - y0) = z := by rw [← hy1, show y0 + z - y0 = z by omega]; exact IntWalk.i64_in _ (by omega)
      have v1' : wrap64 (y1 - y0) = z := by rw [← IntWalk.i64_left]; exact v1
      have v2 : IntKind.i64.wrap (S - b) = y0 := by rw [hy0]; exact IntWalk.i64_in _ (by omega)
      have v2' : wrap64 (S - b) = y0 := by rw [← IntWalk.i64_left]; exact v2
      have v3 : wrap64 (S + x) = S + x := IntWalk.wrap64_in _ (by omega)
      have v4 : IntKind.i64.wrap (S + x) = S + x := IntWalk.i64_in _ (by omega)
      have v5 : IntKind.i64.wrap ((k : Int) + 1) = (k : Int) + 1 := IntWalk.i64_in _ (by omega)
      have v6 : IntKind.i64.wrap (T k : Int) = (T k : Int) := IntWalk.i64_in _ (by omega)
      have v7 : IntKind.i64.wrap (P k : Int) = (P k : Int) := IntWalk.i64_in _ (by omega)
      obtain ⟨v8, v8', v9, v9'⟩ := tn_wraps tm (T k) k htm hT256 (by omega)
      obtain ⟨tn, htn⟩ : ∃ tn, tm + (1 + (T k : Int)) = tn := ⟨_, rfl⟩
      replace v9 := v9.trans htn
      obtain ⟨qp, u1, u2, u3, u4, u5⟩ := place_wraps z (P k) hz hP256
      obtain ⟨xp, hxp⟩ : ∃ xp, y0 + qp = xp := ⟨_, rfl⟩
      have u6 : IntKind.i64.wrap (y0 + qp) = xp := by rw [← hxp]; exact IntWalk.i64_in _ (by clear v9 v8 u1 u2 u3; omega)
      have u7 : IntKind.i64.wrap xp = xp := by rw [← hxp]; exact IntWalk.i64_in _ (by clear v9 v8 u1 u2 u3 u6; omega)
      have hBa := Lib.hid (hb.trans (hba.mono hwr))
      have HS : Hid (∀ w', Below wa.heap.size wa w' → w'.cell? ⟨wr.heap.size, 0, none⟩ = some (.int .i64 y0) ∧ w'.cell? ⟨w.heap.size, 1, none⟩ = some (.int .i64 z) ∧ w'.cell? ⟨w.heap.size + 1, k, none⟩ = some (.int .u8 (P k : Int)) ∧ Below wa.heap.size wa w') := Lib.hid fun w' h' => ⟨(h'.cell (p := ⟨wr.heap.size, 0, none⟩) (by show wr.heap.size < _; omega)).trans p0, (h'.cell (p := ⟨w.heap.size, 1, none⟩) (by show w.heap.size < _; omega)).trans a1, (h'.cell (p := ⟨w.heap.size + 1, k, none⟩) (by show w.heap.size + 1 < _; omega)).trans hPk, h'⟩
      have Hown := Lib.hid hown
      have Hy1 := Lib.hid hy1
      have Htn := Lib.hid htn
      have Hzz := Lib.hid hzz
      clear hS hy0 hze hzz hown hxk hSn hnn hy1 htn hPc hTc
      have HBa := hBa
      by_cases hkz : k = 0
      · have hkd : decide (0 < k) = false := decide_eq_false (by omega)
        have hkd2 : decide ((0 : Int) < (k : Int)) = false := decide_eq_false (by omega)
        clear hkz
        go_wp2_with fail
        clear hwa
        go_quiet (fail)
        clear v3 v8' v9' v1 v1' v2 v2' hr8'
        go_wp2_with fail
        have HS2 : Hid (∀ w', Below w3.heap.size wa w' → w'.cell? ⟨wr.heap.size, 0, none⟩ = some (.int .i64 y0) → w'.cell? ⟨wr.heap.size, 0, none⟩ = some (.int .i64 y0) ∧ w'.cell? ⟨w.heap.size, 1, none⟩ = some (.int .i64 z) ∧ w'.cell? ⟨w.heap.size + 1, k, none⟩ = some (.int .u8 (P k : Int)) ∧ Below w3.heap.size wa w') := Lib.hid fun w' h' hp' => ⟨hp', (h'.cell (p := ⟨w.heap.size, 1, none⟩) (by show w.heap.size < _; omega)).trans a1, (h'.cell (p := ⟨w.heap.size + 1, k, none⟩) (by show w.heap.size + 1 < _; omega)).trans hPk, h'⟩
        have HP0D : Hid (∀ nq, (wa.drewN nq).drew.cell? ⟨wr.heap.size, 0, none⟩ = some (.int .i64 y0)) := Lib.hid fun nq => ((below_drewN (Below.refl wa.heap.size wa) nq).drew.cell (p := ⟨wr.heap.size, 0, none⟩) (by show wr.heap.size < _; omega)).trans p0
        have HRWD : Hid (∀ nq, (wa.drewN nq).drew.ownsRow w3.heap.size 68 2 _ k (L.flatMap pairC)) := Lib.hid fun nq => own_belowN Hown.out (hba.trans ((below_drewN (Below.refl wa.heap.size wa) nq).drew.mono (by omega)))
        have HLk := Lib.hid HR.out.1
        refine wp_region_held_drew (S := (fun w' => w'.cell? ⟨wr.heap.size, 0, none⟩ = some (.int .i64 y0) ∧ w'.cell? ⟨w.heap.size, 1, none⟩ = some (.int .i64 z) ∧ w'.cell? ⟨w.heap.size + 1, k, none⟩ = some (.int .u8 (P k : Int)) ∧ Below w3.heap.size wa w')) (by kernel_rfl) ?_ (fun hHeld => ?_)
        · exact HS2.out _ ((below_drewN (Below.refl _ _) _).drew) (HP0D.out _)
        have hrow := HRWD.out nq
        obtain ⟨wd, hwd⟩ : ∃ wd, World.drew (wa.drewN nq) = wd := ⟨_, rfl⟩
        rw [hwd] at hHeld hrow ⊢
        clear hwd
        refine wpAnyH_take (i := 0) (oi := _) (v := ?_) rfl (by kernel_rfl) (by kernel_rfl) (by kernel_rfl) (fun _ _ _ h => h) (Or.inl ⟨by kernel_rfl, ?_⟩) (by assumption) ?_
        rotate_left
        · rintro w ⟨s1, s2, s3, s4⟩
          go_simp
          try with_reducible rfl
        try simp only [Act.put, List.setIfInBounds_toArray, List.set_cons_zero, List.set_cons_succ, List.getElem_toArray, List.getElem_cons_zero, List.getElem_cons_succ]
        refine wpAnyH_take (i := 1) (oi := _) (v := ?_) rfl (by kernel_rfl) (by kernel_rfl) (by kernel_rfl) (fun _ _ _ h => h) (Or.inl ⟨by kernel_rfl, ?_⟩) (by assumption) ?_
        rotate_left
        · rintro w ⟨s1, s2, s3, s4⟩
          go_simp
          try with_reducible rfl
        try simp only [Act.put, List.setIfInBounds_toArray, List.set_cons_zero, List.set_cons_succ, List.getElem_toArray, List.getElem_cons_zero, List.getElem_cons_succ]
        refine wpAnyH_take (i := 2) (oi := _) (v := ?_) rfl (by kernel_rfl) (by kernel_rfl) (by kernel_rfl) (fun _ _ _ h => h) (Or.inl ⟨by kernel_rfl, ?_⟩) (by assumption) ?_
        rotate_left
        · rintro w ⟨s1, s2, s3, s4⟩
          go_simp
          try with_reducible rfl
        try simp only [Act.put, List.setIfInBounds_toArray, List.set_cons_zero, List.set_cons_succ, List.getElem_toArray, List.getElem_cons_zero, List.getElem_cons_succ]
        refine wpAnyH_take (i := 3) (oi := _) (v := ?_) rfl (by kernel_rfl) (by kernel_rfl) (by kernel_rfl) (fun _ _ _ h => h) (Or.inl ⟨by kernel_rfl, ?_⟩) (by assumption) ?_
        rotate_left
        · rintro w ⟨s1, s2, s3, s4⟩
          go_simp
          try with_reducible rfl
        try simp only [Act.put, List.setIfInBounds_toArray, List.set_cons_zero, List.set_cons_succ, List.getElem_toArray, List.getElem_cons_zero, List.getElem_cons_succ]
        refine wpAnyH_take (i := 4) (oi := _) (v := ?_) rfl (by kernel_rfl) (by kernel_rfl) (by kernel_rfl) (fun _ _ _ h => h) (Or.inl ⟨by kernel_rfl, ?_⟩) (by assumption) ?_
        rotate_left
        · rintro w ⟨s1, s2, s3, s4⟩
          go_simp
          try with_reducible rfl
        try simp only [Act.put, List.setIfInBounds_toArray, List.set_cons_zero, List.set_cons_succ, List.getElem_toArray, List.getElem_cons_zero, List.getElem_cons_succ]
        refine wpAnyH_take (i := 5) (oi := _) (v := ?_) rfl (by kernel_rfl) (by kernel_rfl) (by kernel_rfl) (fun _ _ _ h => h) (Or.inl ⟨by kernel_rfl, ?_⟩) (by assumption) ?_
        rotate_left
        · rintro w ⟨s1, s2, s3, s4⟩
          go_simp
          try with_reducible rfl
        try simp only [Act.put, List.setIfInBounds_toArray, List.set_cons_zero, List.set_cons_succ, List.getElem_toArray, List.getElem_cons_zero, List.getElem_cons_succ]
        refine wpAnyH_take (i := 6) (oi := _) (v := ?_) rfl (by kernel_rfl) (by kernel_rfl) (by kernel_rfl) (fun _ _ _ h => h) (Or.inl ⟨by kernel_rfl, ?_⟩) (by assumption) ?_
        rotate_left
        · rintro w ⟨s1, s2, s3, s4⟩
          go_simp
          try with_reducible rfl
        try simp only [Act.put, List.setIfInBounds_toArray, List.set_cons_zero, List.set_cons_succ, List.getElem_toArray, List.getElem_cons_zero, List.getElem_cons_succ]
        refine wpAnyH_take (i := 7) (oi := _) (v := ?_) rfl (by kernel_rfl) (by kernel_rfl) (by kernel_rfl) (fun _ _ _ h => h) (Or.inl ⟨by kernel_rfl, ?_⟩) (by assumption) ?_
        rotate_left
        · rintro w ⟨s1, s2, s3, s4⟩
          go_simp
          try with_reducible rfl
        try simp only [Act.put, List.setIfInBounds_toArray, List.set_cons_zero, List.set_cons_succ, List.getElem_toArray, List.getElem_cons_zero, List.getElem_cons_succ]
        refine wpAnyH_take (i := 8) (oi := _) (v := ?_) rfl (by kernel_rfl) (by kernel_rfl) (by kernel_rfl) (fun _ _ _ h => h) (Or.inl ⟨by kernel_rfl, ?_⟩) (by assumption) ?_
        rotate_left
        · rintro w ⟨s1, s2, s3, s4⟩
          go_simp
          try with_reducible rfl
        try simp only [Act.put, List.setIfInBounds_toArray, List.set_cons_zero, List.set_cons_succ, List.getElem_toArray, List.getElem_cons_zero, List.getElem_cons_succ]
        refine wpAnyH_take (i := 9) (oi := _) (v := ?_) rfl (by kernel_rfl) (by kernel_rfl) (by kernel_rfl) (fun _ _ _ h => h) (Or.inl ⟨by kernel_rfl, ?_⟩) (by assumption) ?_
        rotate_left
        · rintro w ⟨s1, s2, s3, s4⟩
          go_simp
          try with_reducible rfl
        try simp only [Act.put, List.setIfInBounds_toArray, List.set_cons_zero, List.set_cons_succ, List.getElem_toArray, List.getElem_cons_zero, List.getElem_cons_succ]
        refine wpAnyH_take (i := 10) (oi := _) (v := ?_) rfl (by kernel_rfl) (by kernel_rfl) (by kernel_rfl) (fun _ _ _ h => h) (Or.inl ⟨by kernel_rfl, ?_⟩) (by assumption) ?_
        rotate_left
        · rintro w ⟨s1, s2, s3, s4⟩
          go_simp
          try with_reducible rfl
        try simp only [Act.put, List.setIfInBounds_toArray, List.set_cons_zero, List.set_cons_succ, List.getElem_toArray, List.getElem_cons_zero, List.getElem_cons_succ]
        refine wpAnyH_take (i := 11) (oi := _) (v := ?_) rfl (by kernel_rfl) (by kernel_rfl) (by kernel_rfl) (fun _ _ _ h => h) (Or.inl ⟨by kernel_rfl, ?_⟩) (by assumption) ?_
        rotate_left
        · rintro w ⟨s1, s2, s3, s4⟩
          go_simp
          try with_reducible rfl
        try simp only [Act.put, List.setIfInBounds_toArray, List.set_cons_zero, List.set_cons_succ, List.getElem_toArray, List.getElem_cons_zero, List.getElem_cons_succ]
        refine wpAnyH_take (i := 12) (oi := _) (v := ?_) rfl (by kernel_rfl) (by kernel_rfl) (by kernel_rfl) (fun _ _ _ h => h) (Or.inl ⟨by kernel_rfl, ?_⟩) (by assumption) ?_
        rotate_left
        · rintro w ⟨s1, s2, s3, s4⟩
          go_simp
          try with_reducible rfl
        try simp only [Act.put, List.setIfInBounds_toArray, List.set_cons_zero, List.set_cons_succ, List.getElem_toArray, List.getElem_cons_zero, List.getElem_cons_succ]
        refine wpAnyH_take (i := 13) (oi := _) (v := ?_) rfl (by kernel_rfl) (by kernel_rfl) (by kernel_rfl) (fun _ _ _ h => h) (Or.inl ⟨by kernel_rfl, ?_⟩) (by assumption) ?_
        rotate_left
        · rintro w ⟨s1, s2, s3, s4⟩
          go_simp
          try with_reducible rfl
        try simp only [Act.put, List.setIfInBounds_toArray, List.set_cons_zero, List.set_cons_succ, List.getElem_toArray, List.getElem_cons_zero, List.getElem_cons_succ]
        refine wpAnyH_take (i := 14) (oi := _) (v := ?_) rfl (by kernel_rfl) (by kernel_rfl) (by kernel_rfl) (fun _ _ _ h => h) (Or.inl ⟨by kernel_rfl, ?_⟩) (by assumption) ?_
        rotate_left
        · rintro w ⟨s1, s2, s3, s4⟩
          go_simp
          try with_reducible rfl
        try simp only [Act.put, List.setIfInBounds_toArray, List.set_cons_zero, List.set_cons_succ, List.getElem_toArray, List.getElem_cons_zero, List.getElem_cons_succ]
        refine wpAnyH_ready (rs := [15]) (by kernel_rfl) (by simp) ?_
        refine AllReadyH.cons (o := _) rfl (fun K hKK => ?_) AllReadyH.nil
        go_simp
        have hsd := hHeld.2.2.2.size
        have hNb := hHeld.2.2.2.alloc (by omega) (.cells #[.int .i64 xp, .int .i64 tn] 68)
        have hNc : (wd.alloc (.cells #[.int .i64 xp, .int .i64 tn] 68)).cell? ⟨wr.heap.size, 0, none⟩ = some (.int .i64 y0) := ((balloc (.cells #[.int .i64 xp, .int .i64 tn] 68) (Below.refl wd.heap.size wd)).cell (p := ⟨wr.heap.size, 0, none⟩) (by show wr.heap.size < _; omega)).trans hHeld.1
        have hrow := World.ownsRow.alloc hrow (.cells #[.int .i64 xp, .int .i64 tn] 68)
        have hc8 : ∀ (j : Nat) (u : Value), [Value.int .i64 xp, .int .i64 tn][j]? = some u → (wd.alloc (.cells #[.int .i64 xp, .int .i64 tn] 68)).cell? ((⟨wd.heap.size, 0, none⟩ : Addr).add j) = some u := fun j u hu => by
          match j, hu with
          | 0, hu => simp at hu; subst hu; simp [Addr.add]
          | 1, hu => simp at hu; subst hu; simp [Addr.add]
        clear hHeld
        skip
        refine hKK.out _ _ ?_ (fun hHeld => ?_)
        · exact HS2.out _ hNb hNc
        clear hKK K
        try simp only [Act.put, List.setIfInBounds_toArray, List.set_cons_zero, List.set_cons_succ, List.getElem_toArray, List.getElem_cons_zero, List.getElem_cons_succ]
        clear hNb hNc
        refine wpAnyH_ready (rs := [16]) (by kernel_rfl) (by simp) ?_
        refine AllReadyH.cons (o := _) rfl (fun K hKK => ?_) AllReadyH.nil
        refine step_append_src rfl (.tmp 113) (.tmp 128) 25 rfl w3.heap.size 68 i0 (.agg #[.int .i64 0, .int .i64 0]) 2 16 Tryz.underlying25 hi hz0 hz1 hz2 rfl (by decide) _ _ _ rfl hrow _ _ _ [.int .i64 xp, .int .i64 tn] rfl rfl (fun q => by cases q) (fun ad had j u hu => by cases had; exact hc8 j u hu) (by intro u hu; simp at hu; rcases hu with rfl | rfl <;> rfl) (by unfold maxLen; omega) (by omega) (by have := hHeld.2.2.2.size; omega) ?_
        intro v9 w9 hown9 hgrow hat
        have n0 := own_ne (b := wr.heap.size) Hown.out (.inr (Nat.le_refl _))
        have hNb := hHeld.2.2.2.grown hgrow (by have := hHeld.2.2.2.size; omega) (fun r hr => (World.ownsRow.lt hrow r hr).1)
        have hNc := (World.cell?_of_block (a := ⟨wr.heap.size, 0, none⟩) (hgrow.block wr.heap.size (by have := hHeld.2.2.2.size; omega) (by first | exact n0 | exact fun q => n0 q.symm))).trans hHeld.1
        clear hHeld hrow hat hgrow hc8
        have hrow := hown9
        clear hown9
        refine hKK.out _ _ ?_ (fun hHeld => ?_)
        · exact HS2.out _ hNb hNc
        clear hKK K
        try simp only [Act.put, List.setIfInBounds_toArray, List.set_cons_zero, List.set_cons_succ, List.getElem_toArray, List.getElem_cons_zero, List.getElem_cons_succ]
        clear hNb hNc
        refine wpAnyH_ready (rs := [17]) (by kernel_rfl) (by simp) ?_
        refine AllReadyH.cons (o := _) rfl (fun K hKK => ?_) AllReadyH.nil
        go_simp
        refine hKK.out _ _ ?_ (fun hHeld => ?_)
        · exact hHeld
        clear hKK K
        try simp only [Act.put, List.setIfInBounds_toArray, List.set_cons_zero, List.set_cons_succ, List.getElem_toArray, List.getElem_cons_zero, List.getElem_cons_succ]
        refine wpAnyH_done (by kernel_rfl) ?_ _
        have hbw : Below w3.heap.size w3 w9 := hBa.out.trans hHeld.2.2.2
        have HRN : Hid (RunOK (L ++ [(xp, tn)]) Z (k + 1) tn) := Lib.hid (HR.out.step htm.1 Hzz.out (by show y0 ≤ xp; omega) (by show xp ≤ y0 + z; omega) (by have := Htn.out; omega))
        have HOW : Hid (w9.ownsRow w3.heap.size 68 2 v9 (k + 1) ((L ++ [(xp, tn)]).flatMap pairC)) := Lib.hid (by rw [List.flatMap_append]; exact hrow)
        have htn2 : 0 ≤ tn ∧ tn ≤ 256 * ((k + 1 : Nat) : Int) := by have := Htn.out; omega
        have HSN2 := HSn.out
        clear hHeld hrow
        go_wp2
        go_roundw
        case rel => exact ⟨k + 1, _, tn, by omega, by go_num, rfl, by rw [HSN2], HRN, htn2, HOW.out, hbw⟩
        case measure => simp [intOf]; omega
      · have hkN : 0 < k := by omega
        have hkd : decide (0 < k) = true := decide_eq_true hkN
        have hkd2 : decide ((0 : Int) < (k : Int)) = true := decide_eq_true (by omega)
        obtain ⟨j, hj⟩ : ∃ j, k = j + 1 := ⟨k - 1, by omega⟩
        obtain ⟨b5, o5, zp, hA5, hb5, hzp, _, zp1⟩ := (HPZ.out _ HBa.out).at_ (show j < m by omega)
        cases hA5
        have hasc := HZOK.out.2 j zp _ hzp (by rw [← hj]; exact Hzz.out)
        have hasc : zp.2 < y0 := hasc
        have hle : ¬ y0 ≤ zp.2 := by omega
        have hled : decide (y0 ≤ zp.2) = false := decide_eq_false hle
        have hj1 : (k : Int) - 1 = (j : Int) := by omega
        have hj0 : (0 : Int) ≤ (j : Int) := by omega
        have hjt : ((j : Int)).toNat = j := by omega
        have hjm : (j : Int) < (m : Int) := by omega
        have hwj : IntKind.i64.wrap (j : Int) = (j : Int) := IntWalk.i64_in _ (by clear v9 v8 u1 u2 u3 u6 u7; omega)
        clear hj hkN hkz hzp hasc
        go_wp2_with fail
        clear hwa
        go_quiet (fail)
        clear v3 v8' v9' v1 v1' v2 v2' hr8'
        go_wp2_with fail
        have HS2 : Hid (∀ w', Below w3.heap.size wa w' → w'.cell? ⟨wr.heap.size, 0, none⟩ = some (.int .i64 y0) → w'.cell? ⟨wr.heap.size, 0, none⟩ = some (.int .i64 y0) ∧ w'.cell? ⟨w.heap.size, 1, none⟩ = some (.int .i64 z) ∧ w'.cell? ⟨w.heap.size + 1, k, none⟩ = some (.int .u8 (P k : Int)) ∧ Below w3.heap.size wa w') := Lib.hid fun w' h' hp' => ⟨hp', (h'.cell (p := ⟨w.heap.size, 1, none⟩) (by show w.heap.size < _; omega)).trans a1, (h'.cell (p := ⟨w.heap.size + 1, k, none⟩) (by show w.heap.size + 1 < _; omega)).trans hPk, h'⟩
        have HP0D : Hid (∀ nq, (wa.drewN nq).drew.cell? ⟨wr.heap.size, 0, none⟩ = some (.int .i64 y0)) := Lib.hid fun nq => ((below_drewN (Below.refl wa.heap.size wa) nq).drew.cell (p := ⟨wr.heap.size, 0, none⟩) (by show wr.heap.size < _; omega)).trans p0
        have HRWD : Hid (∀ nq, (wa.drewN nq).drew.ownsRow w3.heap.size 68 2 _ k (L.flatMap pairC)) := Lib.hid fun nq => own_belowN Hown.out (hba.trans ((below_drewN (Below.refl wa.heap.size wa) nq).drew.mono (by omega)))
        have HLk := Lib.hid HR.out.1
        refine wp_region_held_drew (S := (fun w' => w'.cell? ⟨wr.heap.size, 0, none⟩ = some (.int .i64 y0) ∧ w'.cell? ⟨w.heap.size, 1, none⟩ = some (.int .i64 z) ∧ w'.cell? ⟨w.heap.size + 1, k, none⟩ = some (.int .u8 (P k : Int)) ∧ Below w3.heap.size wa w')) (by kernel_rfl) ?_ (fun hHeld => ?_)
        · exact HS2.out _ ((below_drewN (Below.refl _ _) _).drew) (HP0D.out _)
        have hrow := HRWD.out nq
        obtain ⟨wd, hwd⟩ : ∃ wd, World.drew (wa.drewN nq) = wd := ⟨_, rfl⟩
        rw [hwd] at hHeld hrow ⊢
        clear hwd
        refine wpAnyH_take (i := 0) (oi := _) (v := ?_) rfl (by kernel_rfl) (by kernel_rfl) (by kernel_rfl) (fun _ _ _ h => h) (Or.inl ⟨by kernel_rfl, ?_⟩) (by assumption) ?_
        rotate_left
        · rintro w ⟨s1, s2, s3, s4⟩
          go_simp
          try with_reducible rfl
        try simp only [Act.put, List.setIfInBounds_toArray, List.set_cons_zero, List.set_cons_succ, List.getElem_toArray, List.getElem_cons_zero, List.getElem_cons_succ]
        refine wpAnyH_take (i := 1) (oi := _) (v := ?_) rfl (by kernel_rfl) (by kernel_rfl) (by kernel_rfl) (fun _ _ _ h => h) (Or.inl ⟨by kernel_rfl, ?_⟩) (by assumption) ?_
        rotate_left
        · rintro w ⟨s1, s2, s3, s4⟩
          go_simp
          try with_reducible rfl
        try simp only [Act.put, List.setIfInBounds_toArray, List.set_cons_zero, List.set_cons_succ, List.getElem_toArray, List.getElem_cons_zero, List.getElem_cons_succ]
        refine wpAnyH_take (i := 2) (oi := _) (v := ?_) rfl (by kernel_rfl) (by kernel_rfl) (by kernel_rfl) (fun _ _ _ h => h) (Or.inl ⟨by kernel_rfl, ?_⟩) (by assumption) ?_
        rotate_left
        · rintro w ⟨s1, s2, s3, s4⟩
          go_simp
          try with_reducible rfl
        try simp only [Act.put, List.setIfInBounds_toArray, List.set_cons_zero, List.set_cons_succ, List.getElem_toArray, List.getElem_cons_zero, List.getElem_cons_succ]
        refine wpAnyH_take (i := 3) (oi := _) (v := ?_) rfl (by kernel_rfl) (by kernel_rfl) (by kernel_rfl) (fun _ _ _ h => h) (Or.inl ⟨by kernel_rfl, ?_⟩) (by assumption) ?_
        rotate_left
        · rintro w ⟨s1, s2, s3, s4⟩
          go_simp
          try with_reducible rfl
        try simp only [Act.put, List.setIfInBounds_toArray, List.set_cons_zero, List.set_cons_succ, List.getElem_toArray, List.getElem_cons_zero, List.getElem_cons_succ]
        refine wpAnyH_take (i := 4) (oi := _) (v := ?_) rfl (by kernel_rfl) (by kernel_rfl) (by kernel_rfl) (fun _ _ _ h => h) (Or.inl ⟨by kernel_rfl, ?_⟩) (by assumption) ?_
        rotate_left
        · rintro w ⟨s1, s2, s3, s4⟩
          go_simp
          try with_reducible rfl
        try simp only [Act.put, List.setIfInBounds_toArray, List.set_cons_zero, List.set_cons_succ, List.getElem_toArray, List.getElem_cons_zero, List.getElem_cons_succ]
        refine wpAnyH_take (i := 5) (oi := _) (v := ?_) rfl (by kernel_rfl) (by kernel_rfl) (by kernel_rfl) (fun _ _ _ h => h) (Or.inl ⟨by kernel_rfl, ?_⟩) (by assumption) ?_
        rotate_left
        · rintro w ⟨s1, s2, s3, s4⟩
          go_simp
          try with_reducible rfl
        try simp only [Act.put, List.setIfInBounds_toArray, List.set_cons_zero, List.set_cons_succ, List.getElem_toArray, List.getElem_cons_zero, List.getElem_cons_succ]
        refine wpAnyH_take (i := 6) (oi := _) (v := ?_) rfl (by kernel_rfl) (by kernel_rfl) (by kernel_rfl) (fun _ _ _ h => h) (Or.inl ⟨by kernel_rfl, ?_⟩) (by assumption) ?_
        rotate_left
        · rintro w ⟨s1, s2, s3, s4⟩
          go_simp
          try with_reducible rfl
        try simp only [Act.put, List.setIfInBounds_toArray, List.set_cons_zero, List.set_cons_succ, List.getElem_toArray, List.getElem_cons_zero, List.getElem_cons_succ]
        refine wpAnyH_take (i := 7) (oi := _) (v := ?_) rfl (by kernel_rfl) (by kernel_rfl) (by kernel_rfl) (fun _ _ _ h => h) (Or.inl ⟨by kernel_rfl, ?_⟩) (by assumption) ?_
        rotate_left
        · rintro w ⟨s1, s2, s3, s4⟩
          go_simp
          try with_reducible rfl
        try simp only [Act.put, List.setIfInBounds_toArray, List.set_cons_zero, List.set_cons_succ, List.getElem_toArray, List.getElem_cons_zero, List.getElem_cons_succ]
        refine wpAnyH_take (i := 8) (oi := _) (v := ?_) rfl (by kernel_rfl) (by kernel_rfl) (by kernel_rfl) (fun _ _ _ h => h) (Or.inl ⟨by kernel_rfl, ?_⟩) (by assumption) ?_
        rotate_left
        · rintro w ⟨s1, s2, s3, s4⟩
          go_simp
          try with_reducible rfl
        try simp only [Act.put, List.setIfInBounds_toArray, List.set_cons_zero, List.set_cons_succ, List.getElem_toArray, List.getElem_cons_zero, List.getElem_cons_succ]
        refine wpAnyH_take (i := 9) (oi := _) (v := ?_) rfl (by kernel_rfl) (by kernel_rfl) (by kernel_rfl) (fun _ _ _ h => h) (Or.inl ⟨by kernel_rfl, ?_⟩) (by assumption) ?_
        rotate_left
        · rintro w ⟨s1, s2, s3, s4⟩
          go_simp
          try with_reducible rfl
        try simp only [Act.put, List.setIfInBounds_toArray, List.set_cons_zero, List.set_cons_succ, List.getElem_toArray, List.getElem_cons_zero, List.getElem_cons_succ]
        refine wpAnyH_take (i := 10) (oi := _) (v := ?_) rfl (by kernel_rfl) (by kernel_rfl) (by kernel_rfl) (fun _ _ _ h => h) (Or.inl ⟨by kernel_rfl, ?_⟩) (by assumption) ?_
        rotate_left
        · rintro w ⟨s1, s2, s3, s4⟩
          go_simp
          try with_reducible rfl
        try simp only [Act.put, List.setIfInBounds_toArray, List.set_cons_zero, List.set_cons_succ, List.getElem_toArray, List.getElem_cons_zero, List.getElem_cons_succ]
        refine wpAnyH_take (i := 11) (oi := _) (v := ?_) rfl (by kernel_rfl) (by kernel_rfl) (by kernel_rfl) (fun _ _ _ h => h) (Or.inl ⟨by kernel_rfl, ?_⟩) (by assumption) ?_
        rotate_left
        · rintro w ⟨s1, s2, s3, s4⟩
          go_simp
          try with_reducible rfl
        try simp only [Act.put, List.setIfInBounds_toArray, List.set_cons_zero, List.set_cons_succ, List.getElem_toArray, List.getElem_cons_zero, List.getElem_cons_succ]
        refine wpAnyH_take (i := 12) (oi := _) (v := ?_) rfl (by kernel_rfl) (by kernel_rfl) (by kernel_rfl) (fun _ _ _ h => h) (Or.inl ⟨by kernel_rfl, ?_⟩) (by assumption) ?_
        rotate_left
        · rintro w ⟨s1, s2, s3, s4⟩
          go_simp
          try with_reducible rfl
        try simp only [Act.put, List.setIfInBounds_toArray, List.set_cons_zero, List.set_cons_succ, List.getElem_toArray, List.getElem_cons_zero, List.getElem_cons_succ]
        refine wpAnyH_take (i := 13) (oi := _) (v := ?_) rfl (by kernel_rfl) (by kernel_rfl) (by kernel_rfl) (fun _ _ _ h => h) (Or.inl ⟨by kernel_rfl, ?_⟩) (by assumption) ?_
        rotate_left
        · rintro w ⟨s1, s2, s3, s4⟩
          go_simp
          try with_reducible rfl
        try simp only [Act.put, List.setIfInBounds_toArray, List.set_cons_zero, List.set_cons_succ, List.getElem_toArray, List.getElem_cons_zero, List.getElem_cons_succ]
        refine wpAnyH_take (i := 14) (oi := _) (v := ?_) rfl (by kernel_rfl) (by kernel_rfl) (by kernel_rfl) (fun _ _ _ h => h) (Or.inl ⟨by kernel_rfl, ?_⟩) (by assumption) ?_
        rotate_left
        · rintro w ⟨s1, s2, s3, s4⟩
          go_simp
          try with_reducible rfl
        try simp only [Act.put, List.setIfInBounds_toArray, List.set_cons_zero, List.set_cons_succ, List.getElem_toArray, List.getElem_cons_zero, List.getElem_cons_succ]
        refine wpAnyH_ready (rs := [15]) (by kernel_rfl) (by simp) ?_
        refine AllReadyH.cons (o := _) rfl (fun K hKK => ?_) AllReadyH.nil
        go_simp
        have hsd := hHeld.2.2.2.size
        have hNb := hHeld.2.2.2.alloc (by omega) (.cells #[.int .i64 xp, .int .i64 tn] 68)
        have hNc : (wd.alloc (.cells #[.int .i64 xp, .int .i64 tn] 68)).cell? ⟨wr.heap.size, 0, none⟩ = some (.int .i64 y0) := ((balloc (.cells #[.int .i64 xp, .int .i64 tn] 68) (Below.refl wd.heap.size wd)).cell (p := ⟨wr.heap.size, 0, none⟩) (by show wr.heap.size < _; omega)).trans hHeld.1
        have hrow := World.ownsRow.alloc hrow (.cells #[.int .i64 xp, .int .i64 tn] 68)
        have hc8 : ∀ (j : Nat) (u : Value), [Value.int .i64 xp, .int .i64 tn][j]? = some u → (wd.alloc (.cells #[.int .i64 xp, .int .i64 tn] 68)).cell? ((⟨wd.heap.size, 0, none⟩ : Addr).add j) = some u := fun j u hu => by
          match j, hu with
          | 0, hu => simp at hu; subst hu; simp [Addr.add]
          | 1, hu => simp at hu; subst hu; simp [Addr.add]
        clear hHeld
        skip
        refine hKK.out _ _ ?_ (fun hHeld => ?_)
        · exact HS2.out _ hNb hNc
        clear hKK K
        try simp only [Act.put, List.setIfInBounds_toArray, List.set_cons_zero, List.set_cons_succ, List.getElem_toArray, List.getElem_cons_zero, List.getElem_cons_succ]
        clear hNb hNc
        refine wpAnyH_ready (rs := [16]) (by kernel_rfl) (by simp) ?_
        refine AllReadyH.cons (o := _) rfl (fun K hKK => ?_) AllReadyH.nil
        refine step_append_src rfl (.tmp 113) (.tmp 128) 25 rfl w3.heap.size 68 i0 (.agg #[.int .i64 0, .int .i64 0]) 2 16 Tryz.underlying25 hi hz0 hz1 hz2 rfl (by decide) _ _ _ rfl hrow _ _ _ [.int .i64 xp, .int .i64 tn] rfl rfl (fun q => by cases q) (fun ad had j u hu => by cases had; exact hc8 j u hu) (by intro u hu; simp at hu; rcases hu with rfl | rfl <;> rfl) (by unfold maxLen; omega) (by omega) (by have := hHeld.2.2.2.size; omega) ?_
        intro v9 w9 hown9 hgrow hat
        have n0 := own_ne (b := wr.heap.size) Hown.out (.inr (Nat.le_refl _))
        have hNb := hHeld.2.2.2.grown hgrow (by have := hHeld.2.2.2.size; omega) (fun r hr => (World.ownsRow.lt hrow r hr).1)
        have hNc := (World.cell?_of_block (a := ⟨wr.heap.size, 0, none⟩) (hgrow.block wr.heap.size (by have := hHeld.2.2.2.size; omega) (by first | exact n0 | exact fun q => n0 q.symm))).trans hHeld.1
        clear hHeld hrow hat hgrow hc8
        have hrow := hown9
        clear hown9
        refine hKK.out _ _ ?_ (fun hHeld => ?_)
        · exact HS2.out _ hNb hNc
        clear hKK K
        try simp only [Act.put, List.setIfInBounds_toArray, List.set_cons_zero, List.set_cons_succ, List.getElem_toArray, List.getElem_cons_zero, List.getElem_cons_succ]
        clear hNb hNc
        refine wpAnyH_ready (rs := [17]) (by kernel_rfl) (by simp) ?_
        refine AllReadyH.cons (o := _) rfl (fun K hKK => ?_) AllReadyH.nil
        go_simp
        refine hKK.out _ _ ?_ (fun hHeld => ?_)
        · exact hHeld
        clear hKK K
        try simp only [Act.put, List.setIfInBounds_toArray, List.set_cons_zero, List.set_cons_succ, List.getElem_toArray, List.getElem_cons_zero, List.getElem_cons_succ]
        refine wpAnyH_done (by kernel_rfl) ?_ _
        have hbw : Below w3.heap.size w3 w9 := hBa.out.trans hHeld.2.2.2
        have HRN : Hid (RunOK (L ++ [(xp, tn)]) Z (k + 1) tn) := Lib.hid (HR.out.step htm.1 Hzz.out (by show y0 ≤ xp; omega) (by show xp ≤ y0 + z; omega) (by have := Htn.out; omega))
        have HOW : Hid (w9.ownsRow w3.heap.size 68 2 v9 (k + 1) ((L ++ [(xp, tn)]).flatMap pairC)) := Lib.hid (by rw [List.flatMap_append]; exact hrow)
        have htn2 : 0 ≤ tn ∧ tn ≤ 256 * ((k + 1 : Nat) : Int) := by have := Htn.out; omega
        have HSN2 := HSn.out
        clear hHeld hrow
        go_wp2
        go_roundw
        case rel => exact ⟨k + 1, _, tn, by omega, by go_num, rfl, by rw [HSN2], HRN, htn2, HOW.out, hbw⟩
        case measure => simp [intOf]; omega
    · have HB34 := Lib.hid hb
      have hkm : k = m := by omega
      subst hkm
      have hki : ¬ (k : Int) < (k : Int) := by omega
      obtain ⟨⟨a0, a1, a2⟩, hPc, hTc, _, hl5, hbw4⟩ := HB4.out
      have hT7 := hTc 7 (by omega)
      have hT7' : wr.cell? ⟨w.heap.size + 1 + 1, 7, none⟩ = some (.int .u8 (T 7 : Int)) := hT7
      have hT256 := HT.out 7
      obtain ⟨AL, cL, rfl, hPL, hnL⟩ := Pairs.of_rowX (L := L) hown HR.out.1
      obtain ⟨f, hf⟩ : ∃ f, tm + 1 + (T 7 : Int) = f := ⟨_, rfl⟩
      have f1 : IntKind.i64.wrap (tm + 1) = tm + 1 := IntWalk.i64_in _ (by omega)
      have f2 : IntKind.i64.wrap (T 7 : Int) = (T 7 : Int) := IntWalk.i64_in _ (by omega)
      have f3 : IntKind.i64.wrap (tm + 1 + (T 7 : Int)) = f := by rw [← hf]; exact IntWalk.i64_in _ (by omega)
      have hfb : tm < f ∧ f ≤ 863999999 ∧ 1 ≤ f := by omega
      have Hf := Lib.hid hf
      have Hfb := Lib.hid hfb
      have HPL := Lib.hid hPL
      have hrun := HCW.out L tm f HR.out hfb.1 hfb.2.1
      have hok := HOK.out L f hrun
      have hnk : n = k + 1 := HNM.out
      have HC1 : Hid (∀ w', Below wr.heap.size wr w' → Calls Tryz.prog 12 #[.agg #[.slice (some ⟨bg, og, none⟩) n cap, .int .i64 z, .int .i64 b], .slice AL k cL, .int .i64 f] w' (RetPost (.tuple #[.int .i64 0, .int .i64 0]) w')) := Lib.hid fun w' hb => by
        have := trCheckRun_any G n cap _ z b L k cL AL f w' (HGw.out w' (bstep hbw4 hb)) (Nat.le_trans h1 (by decide)) hc (hPL.below hb) (Nat.le_trans hm7 (by decide))
        rw [hrun] at this; exact this
      have HLE : Hid (∀ w', Below wr.heap.size wr w' → Calls Tryz.prog 13 #[.agg #[.slice (some ⟨bg, og, none⟩) n cap, .int .i64 z, .int .i64 b], .slice AL k cL, .int .i64 f] w' (fun e w'' => ∃ v B, e = .returned (.tuple #[v, .int .i64 0]) ∧ w'.heap.size ≤ B ∧ OwnV w'' B 3 v ((gapF (0, 0) (L ++ [(sumW G 0, f)])).map legV) ∧ Below w'.heap.size w' w'')) := Lib.hid fun w' hb => trLegs_ok G n cap _ z b L k cL AL f w' (HGw.out w' (bstep hbw4 hb)) (Nat.le_trans h1 (by decide)) hc (hPL.below hb) hnk.symm hrun
      have HSP : Hid (∀ w', Below wr.heap.size wr w' → Calls Tryz.prog 14 #[.agg #[.slice (some ⟨bg, og, none⟩) n cap, .int .i64 z, .int .i64 b], .slice AL k cL, .int .i64 f] w' (fun e w'' => ∃ v B, e = .returned (.tuple #[v, .int .i64 0]) ∧ w'.heap.size ≤ B ∧ OwnV w'' B 70 v ((gapF (0, 0) (L ++ [(sumW G 0, f)])).map spdV) ∧ Below w'.heap.size w' w'')) := Lib.hid fun w' hb => trSplits_ok G n cap _ z b L k cL AL f w' (HGw.out w' (bstep hbw4 hb)) (Nat.le_trans h1 (by decide)) hc (hPL.below hb) hnk.symm hrun hok (HTw.out w' (bstep hbw4 hb))
      obtain ⟨M, hMe⟩ : ∃ M, gapF (0, 0) (L ++ [(sumW G 0, f)]) = M := ⟨_, rfl⟩
      have hML : M.length = n := by rw [← hMe, gapF_len, List.length_append, HR.out.1, hnk]; rfl
      have HMe := Lib.hid hMe
      rw [hMe] at HLE HSP hok
      have HOKM := Lib.hid hok
      have HMX : Hid (M.length = n) := Lib.hid hML
      have HB40 := Lib.hid (Below.refl wr.heap.size wr)
      clear hown hPc hTc hf hfb hT7 hPL hMe hML hok hrun hnk
      go_wp2_with fail
      refine (HC1.out wr HB40.out).mono ?_
      rintro e5 w5 ⟨rfl, hb5⟩
      have HB5 := Lib.hid hb5
      have HX5 := Lib.hid (HB4.out.next hb5)
      clear hb5 a0 a1 a2
      obtain ⟨⟨a0, a1, a2⟩, _, _, _, _, _⟩ := HX5.out
      go_wp2_with fail
      refine (HLE.out w5 HB5.out).mono ?_
      rintro e6 w6 ⟨v6, B6, rfl, hB6, ho6, hb6⟩
      have HB6 := Lib.hid (bstep HB5.out hb6)
      have HX6 := Lib.hid (HX5.out.next hb6)
      obtain ⟨A6, c6, rfl, ht6⟩ := ints_ofV (w := w6) ho6
      rw [HMX.out] at ht6 ⊢
      have HT6 := Lib.hid ht6
      clear hb6 ho6 ht6 hB6 a0 a1 a2
      obtain ⟨⟨a0, a1, a2⟩, _, _, _, _, _⟩ := HX6.out
      go_wp2_with fail
      refine (HSP.out w6 HB6.out).mono ?_
      rintro e7 w7 ⟨v7, B7, rfl, hB7, ho7, hb7⟩
      have HB7 := Lib.hid (bstep HB6.out hb7)
      have HB67 := Lib.hid hb7
      have HX7 := Lib.hid (HX6.out.next hb7)
      obtain ⟨A7, c7, rfl, ht7⟩ := rats_ofV (w := w7) ho7
      have hc7 : Calls Tryz.prog 31 #[.slice A7 M.length c7] w7 (RetPost (.int .i64 0) w7) := rfCheckRow_any (M.map ratG) A7 M.length c7 w7 (by rw [HMX.out]; exact Nat.le_trans h1 (by decide)) ht7 (fun x hx w' => by obtain ⟨g, hg, rfl⟩ := List.mem_map.1 hx; exact checkG (HOKM.out g hg) w')
      rw [HMX.out] at hc7 ht7 ⊢
      have HC7 := Lib.hid hc7
      have HT7 := Lib.hid ht7
      clear hb7 ho7 hB7 hc7 ht7 a0 a1 a2
      obtain ⟨⟨a0, a1, a2⟩, _, _, _, _, _⟩ := HX7.out
      go_wp2_with fail
      refine HC7.out.mono ?_
      rintro e8 w8 ⟨rfl, hb8⟩
      have HB8 := Lib.hid (bstep HB7.out hb8)
      have HX8 := Lib.hid (HX7.out.next hb8)
      have HI8 := Lib.hid ((HT6.out.below HB67.out).below hb8)
      have HT8 := Lib.hid (HT7.out.below hb8)
      clear hb8 a0 a1 a2
      obtain ⟨⟨a0, a1, a2⟩, _, _, _, _, _⟩ := HX8.out
      go_wp2_with fail
      have HQB := Lib.hid (runBds (f := f) HZOK.out HZL.out HR.out (show (0 : Int) ≤ sumW G 0 by rw [HSUM.out]; exact hs0) (show sumW G 0 ≤ 999999999 by rw [HSUM.out]; omega) Hfb.out.1 (by have := Hfb.out.2.2; omega) (by have := Hfb.out.2.1; omega))
      obtain ⟨Q, hQ⟩ : ∃ Q, L ++ [(sumW G 0, f)] = Q := ⟨_, rfl⟩
      have hQl : Q.length = n := by rw [← hQ, List.length_append, HR.out.1, HNM.out]; rfl
      have HQL := Lib.hid hQl
      have HQE := Lib.hid hQ
      rw [hQ] at HMe HQB
      clear hQ hQl
      have HOKQ : Hid (∀ g ∈ gapF (0, 0) Q, okG g) := Lib.hid (by rw [HMe.out]; exact HOKM.out)
      go_loopw [22, 23, 194] (fun tot way i wr2 => ∃ (j : Nat) (a : Int × Int), j ≤ n ∧ ((0, 0) :: Q)[j]? = some a ∧ i = .int .i64 j ∧ tot = .int .i64 a.2 ∧ way = .string (digT a.1.toNat) ∧ Below w8.heap.size w8 wr2) (fun _ _ i _ => n - (intOf i).toNat)
      case atStart => exact ⟨0, (0, 0), by omega, rfl, rfl, rfl, by rfl, Below.refl _ _⟩
      case round =>
        obtain ⟨j, a, hj, ha, rfl, rfl, rfl, hb⟩ := hrel
        by_cases hlt : j < n
        · obtain ⟨c, g, hQj, hQj1, hMg, hokg, e1, p1, p2, p3, p4, p5⟩ := gap_step HQB.out HOKQ.out (show j < Q.length by rw [HQL.out]; exact hlt) ha
          rw [HMe.out] at hMg
          have hmu := mulG hokg
          have hgb := hokg.2.2.2
          obtain ⟨ap, at2⟩ := a
          obtain ⟨cp, ct⟩ := c
          obtain ⟨gp, gt⟩ := g
          dsimp only at e1 p1 p2 p3 p4 p5 hmu hgb ⊢
          obtain ⟨b6, o6, x6, hA6, hb6, hx6, hc6⟩ := (HI8.out.below hb).cellAt hlt
          obtain ⟨b7, o7, hA7, hb7, hc7⟩ := (HT8.out.below hb).2 (by omega)
          rw [List.getElem?_map, hMg] at hx6
          obtain rfl : gt = x6 := Option.some.inj hx6
          replace hc7 := hc7 j (ratG (gp, gt)) (by rw [List.getElem?_map, hMg]; rfl)
          have hfi : ∀ w, Calls Tryz.prog 34 #[.int .i64 gt] w (RetPost (.string (digT gt.toNat)) w) := fun w => by
            have := rfFromInt_any gt.toNat w (by omega)
            rwa [← p5] at this
          have had : ∀ w, Calls Tryz.prog 32 #[.string (digT ap.toNat), .string (digT gp.toNat)] w (RetPost (.string (digT cp.toNat)) w) := fun w => by
            have := rfAddI_any ap.toNat gp.toNat w (by omega)
            rwa [p1] at this
          obtain ⟨sG, hsG⟩ : ∃ s, ratG (gp, gt) = s := ⟨_, rfl⟩
          obtain ⟨sT, hsT⟩ : ∃ s, digT gt.toNat = s := ⟨_, rfl⟩
          obtain ⟨sM, hsM⟩ : ∃ s, digT gp.toNat = s := ⟨_, rfl⟩
          obtain ⟨sA, hsA⟩ : ∃ s, digT ap.toNat = s := ⟨_, rfl⟩
          obtain ⟨sC, hsC⟩ : ∃ s, digT cp.toNat = s := ⟨_, rfl⟩
          rw [hsG] at hc7 hmu
          rw [hsT] at hfi hmu
          rw [hsM] at hmu had
          rw [hsA, hsC] at had
          rw [hsA]
          have HFI := Lib.hid hfi
          have HMU := Lib.hid hmu
          have HAD := Lib.hid had
          have HSC := Lib.hid hsC
          have HQ1 := Lib.hid hQj1
          obtain ⟨w2, hw2⟩ : ∃ w2, w2 = wr := ⟨_, rfl⟩
          subst hw2
          have HS3 : Hid (∀ w', Below w2.heap.size w2 w' → w'.cell? ⟨b7, o7 + j, none⟩ = some (.string sG) ∧ w'.cell? ⟨b6, o6 + j, none⟩ = some (.int .i64 gt) ∧ Below w2.heap.size w2 w') := Lib.hid fun w' h' => ⟨(h'.cell (p := ⟨b7, o7 + j, none⟩) hb7).trans hc7, (h'.cell (p := ⟨b6, o6 + j, none⟩) hb6).trans hc6, h'⟩
          have HB2 := Lib.hid hb
          have e2 : wrap64 (at2 + gt) = ct := by rw [← IntWalk.i64_left]; exact e1
          have hji : (j : Int) < (n : Int) := by omega
          have hj0 : (0 : Int) ≤ (j : Int) := by omega
          have hjt : ((j : Int)).toNat = j := by omega
          subst hA6
          subst hA7
          clear hfi hmu had hsG hsT hsM hsA hsC hQj hQj1 hMg hokg ha p1 p2 p3 p4 p5 hgb hx6 hc7 hb7 hb6 hb
          go_wp2_with fail
          refine wp_region_held_drew (S := (fun w' => w'.cell? ⟨b7, o7 + j, none⟩ = some (.string sG) ∧ w'.cell? ⟨b6, o6 + j, none⟩ = some (.int .i64 gt) ∧ Below w2.heap.size w2 w')) (by kernel_rfl) ?_ (fun hHeld => ?_)
          · exact HS3.out _ (Below.drew (Below.refl _ _))
          obtain ⟨wd, hwd⟩ : ∃ wd, World.drew w2 = wd := ⟨_, rfl⟩
          rw [hwd] at hHeld ⊢
          clear hwd
          refine wpAnyH_take (i := 0) (oi := _) (v := ?_) rfl (by kernel_rfl) (by kernel_rfl) (by kernel_rfl) (fun _ _ _ h => h) (Or.inl ⟨by kernel_rfl, ?_⟩) (by assumption) ?_
          rotate_left
          · rintro w ⟨s1, s2, s3⟩
            go_simp
            try with_reducible rfl
          try simp only [Act.put, List.setIfInBounds_toArray, List.set_cons_zero, List.set_cons_succ, List.getElem_toArray, List.getElem_cons_zero, List.getElem_cons_succ]
          refine wpAnyH_take (i := 1) (oi := _) (v := ?_) rfl (by kernel_rfl) (by kernel_rfl) (by kernel_rfl) (fun _ _ _ h => h) (Or.inl ⟨by kernel_rfl, ?_⟩) (by assumption) ?_
          rotate_left
          · rintro w ⟨s1, s2, s3⟩
            go_simp
            try with_reducible rfl
          try simp only [Act.put, List.setIfInBounds_toArray, List.set_cons_zero, List.set_cons_succ, List.getElem_toArray, List.getElem_cons_zero, List.getElem_cons_succ]
          refine wpAnyH_take (i := 2) (oi := _) (v := ?_) rfl (by kernel_rfl) (by kernel_rfl) (by kernel_rfl) (fun _ _ _ h => h) (Or.inl ⟨by kernel_rfl, ?_⟩) (by assumption) ?_
          rotate_left
          · rintro w ⟨s1, s2, s3⟩
            go_simp
            try with_reducible rfl
          try simp only [Act.put, List.setIfInBounds_toArray, List.set_cons_zero, List.set_cons_succ, List.getElem_toArray, List.getElem_cons_zero, List.getElem_cons_succ]
          refine wpAnyH_take (i := 3) (oi := _) (v := ?_) rfl (by kernel_rfl) (by kernel_rfl) (by kernel_rfl) (fun _ _ _ h => h) (Or.inl ⟨by kernel_rfl, ?_⟩) (by assumption) ?_
          rotate_left
          · rintro w ⟨s1, s2, s3⟩
            go_simp
            try with_reducible rfl
          try simp only [Act.put, List.setIfInBounds_toArray, List.set_cons_zero, List.set_cons_succ, List.getElem_toArray, List.getElem_cons_zero, List.getElem_cons_succ]
          refine wpAnyH_take (i := 4) (oi := _) (v := ?_) rfl (by kernel_rfl) (by kernel_rfl) (by kernel_rfl) (fun _ _ _ h => h) (Or.inl ⟨by kernel_rfl, ?_⟩) (by assumption) ?_
          rotate_left
          · rintro w ⟨s1, s2, s3⟩
            go_simp
            try with_reducible rfl
          try simp only [Act.put, List.setIfInBounds_toArray, List.set_cons_zero, List.set_cons_succ, List.getElem_toArray, List.getElem_cons_zero, List.getElem_cons_succ]
          refine wpAnyH_take (i := 5) (oi := _) (v := ?_) rfl (by kernel_rfl) (by kernel_rfl) (by kernel_rfl) (fun _ _ _ h => h) (Or.inl ⟨by kernel_rfl, ?_⟩) (by assumption) ?_
          rotate_left
          · rintro w ⟨s1, s2, s3⟩
            go_simp
            try with_reducible rfl
          try simp only [Act.put, List.setIfInBounds_toArray, List.set_cons_zero, List.set_cons_succ, List.getElem_toArray, List.getElem_cons_zero, List.getElem_cons_succ]
          refine wpAnyH_take (i := 6) (oi := _) (v := ?_) rfl (by kernel_rfl) (by kernel_rfl) (by kernel_rfl) (fun _ _ _ h => h) (Or.inl ⟨by kernel_rfl, ?_⟩) (by assumption) ?_
          rotate_left
          · rintro w ⟨s1, s2, s3⟩
            go_simp
            try with_reducible rfl
          try simp only [Act.put, List.setIfInBounds_toArray, List.set_cons_zero, List.set_cons_succ, List.getElem_toArray, List.getElem_cons_zero, List.getElem_cons_succ]
          refine wpAnyH_take (i := 7) (oi := _) (v := ?_) rfl (by kernel_rfl) (by kernel_rfl) (by kernel_rfl) (fun _ _ _ h => h) (Or.inl ⟨by kernel_rfl, ?_⟩) (by assumption) ?_
          rotate_left
          · rintro w ⟨s1, s2, s3⟩
            go_simp
            try with_reducible rfl
          try simp only [Act.put, List.setIfInBounds_toArray, List.set_cons_zero, List.set_cons_succ, List.getElem_toArray, List.getElem_cons_zero, List.getElem_cons_succ]
          refine wpAnyH_take (i := 8) (oi := _) (v := ?_) rfl (by kernel_rfl) (by kernel_rfl) (by kernel_rfl) (fun _ _ _ h => h) (Or.inl ⟨by kernel_rfl, ?_⟩) (by assumption) ?_
          rotate_left
          · rintro w ⟨s1, s2, s3⟩
            go_simp
            try with_reducible rfl
          try simp only [Act.put, List.setIfInBounds_toArray, List.set_cons_zero, List.set_cons_succ, List.getElem_toArray, List.getElem_cons_zero, List.getElem_cons_succ]
          refine wpAnyH_ready (rs := [9]) (by kernel_rfl) (by simp) ?_
          refine AllReadyH.cons (o := _) rfl (fun K hKK => ?_) AllReadyH.nil
          go_simp
          go_at_call 34
          with_reducible refine (HFI.out _).mono ?_
          rintro e' w' ⟨rfl, hbz⟩
          go_wp2_with fail
          refine hKK.out _ _ ?_ (fun hHeld => ?_)
          · exact HS3.out _ (bstep hHeld.2.2 hbz)
          clear hKK K
          try simp only [Act.put, List.setIfInBounds_toArray, List.set_cons_zero, List.set_cons_succ, List.getElem_toArray, List.getElem_cons_zero, List.getElem_cons_succ]
          refine wpAnyH_ready (rs := [10]) (by kernel_rfl) (by simp) ?_
          refine AllReadyH.cons (o := _) rfl (fun K hKK => ?_) AllReadyH.nil
          go_simp
          go_at_call 33
          with_reducible refine (HMU.out _).mono ?_
          rintro e' w' ⟨rfl, hbz⟩
          go_wp2_with fail
          refine hKK.out _ _ ?_ (fun hHeld => ?_)
          · exact HS3.out _ (bstep hHeld.2.2 hbz)
          clear hKK K
          try simp only [Act.put, List.setIfInBounds_toArray, List.set_cons_zero, List.set_cons_succ, List.getElem_toArray, List.getElem_cons_zero, List.getElem_cons_succ]
          refine wpAnyH_ready (rs := [11]) (by kernel_rfl) (by simp) ?_
          refine AllReadyH.cons (o := _) rfl (fun K hKK => ?_) AllReadyH.nil
          go_simp
          go_at_call 32
          with_reducible refine (HAD.out _).mono ?_
          rintro e' w' ⟨rfl, hbz⟩
          go_wp2_with fail
          refine hKK.out _ _ ?_ (fun hHeld => ?_)
          · exact HS3.out _ (bstep hHeld.2.2 hbz)
          clear hKK K
          try simp only [Act.put, List.setIfInBounds_toArray, List.set_cons_zero, List.set_cons_succ, List.getElem_toArray, List.getElem_cons_zero, List.getElem_cons_succ]
          refine wpAnyH_ready (rs := [12]) (by kernel_rfl) (by simp) ?_
          refine AllReadyH.cons (o := _) rfl (fun K hKK => ?_) AllReadyH.nil
          go_simp
          refine hKK.out _ _ ?_ (fun hHeld => ?_)
          · exact hHeld
          clear hKK K
          try simp only [Act.put, List.setIfInBounds_toArray, List.set_cons_zero, List.set_cons_succ, List.getElem_toArray, List.getElem_cons_zero, List.getElem_cons_succ]
          refine wpAnyH_done (by kernel_rfl) ?_ _
          have hbw := HB2.out.trans (hHeld.2.2.mono HB2.out.size)
          clear hHeld
          go_wp2
          go_roundw
          case rel => exact ⟨j + 1, (cp, ct), by omega, HQ1.out, by go_num, rfl, by rw [← HSC.out], hbw⟩
          case measure => simp [intOf]; omega
        · have hjn : j = n := by omega
          have hji : ¬ (j : Int) < (n : Int) := by omega
          have hlast := gap_last (d := sumW G 0) (f := f) HR.out.1
          rw [HQE.out, ← HNM.out, ← hjn, ha] at hlast
          obtain rfl : a = (sumW G 0, f) := Option.some.inj hlast
          have hts : (List.take (k + 1) G).sum = sumW G 0 := by rw [List.take_of_length_le (by rw [HGl.out, HNM.out]; exact Nat.le_refl _), HSUM.out]
          rw [hts]
          dsimp only
          have hdb : 0 ≤ sumW G 0 ∧ sumW G 0 ≤ 999999999 := by rw [HSUM.out]; omega
          have hfs : ∀ w, Calls Tryz.prog 34 #[.int .i64 (sumW G 0)] w (RetPost (.string (digT (sumW G 0).toNat)) w) := fun w => by
            have := rfFromInt_any (sumW G 0).toNat w (by omega)
            rwa [show (((sumW G 0).toNat : Nat) : Int) = sumW G 0 by omega] at this
          obtain ⟨dd, hdd⟩ : ∃ dd, sumW G 0 = dd := ⟨_, rfl⟩
          rw [hdd] at hfs ⊢
          obtain ⟨sD, hsD⟩ : ∃ s, digT dd.toNat = s := ⟨_, rfl⟩
          rw [hsD] at hfs ⊢
          have HFS := Lib.hid hfs
          have HXr := Lib.hid (HX8.out.next hb)
          have HWr := Lib.hid (bstep HB8.out hb)
          have hk0 : 0 < k := by omega
          obtain ⟨i, hi⟩ : ∃ i, P 7 % k = i := ⟨_, rfl⟩
          have hik : i < k := by rw [← hi]; exact Nat.mod_lt _ hk0
          have r2 : (P 7 : Int) % (k : Int) = (i : Int) := by rw [← hi]; exact (Int.natCast_emod _ _).symm
          have r1 : Int.tmod (P 7 : Int) (k : Int) = (i : Int) := by rw [Int.tmod_eq_emod_of_nonneg (by omega)]; exact r2
          have rk : ¬ (k : Int) = 0 := by omega
          have rkb : ((k : Int) == 0) = false := by simp; omega
          have hP256 := HP.out 7
          have rp : IntKind.i64.wrap (P 7 : Int) = (P 7 : Int) := IntWalk.i64_in _ (by omega)
          have hi0 : (0 : Int) ≤ (i : Int) := by omega
          have hit : ((i : Int)).toNat = i := by omega
          have hii : (i : Int) < (k : Int) := by omega
          have riw : IntKind.i64.wrap (i : Int) = (i : Int) := IntWalk.i64_in _ (by omega)
          obtain ⟨q, hq⟩ : ∃ q, L[i]? = some q := ⟨L[i]'(by rw [HR.out.1]; exact hik), List.getElem?_eq_getElem _⟩
          have HBz := Lib.hid (HB34.out.trans (HWr.out.mono HB34.out.size))
          obtain ⟨bz, oz, zz, hAZ, _, hzz, _, _⟩ := (HPZ.out wr HBz.out).at_ hik
          cases hAZ
          obtain ⟨q1, q2, q3⟩ := HZOK.out.1 i zz hzz
          have HLATE := Lib.hid (HCL.out L tm f i q zz HR.out (by have := Hfb.out; omega) Hfb.out.2.2 Hfb.out.2.1 hik hq hzz)
          obtain ⟨zx, hzx⟩ : ∃ zx, zz.2 = zx := ⟨_, rfl⟩
          have hzb : 0 ≤ zx ∧ zx ≤ 999999999 := by rw [hdd] at q3; omega
          have v1 : IntKind.i64.wrap (zx + 1) = zx + 1 := IntWalk.i64_in _ (by omega)
          have v1' : wrap64 (zx + 1) = zx + 1 := by rw [← IntWalk.i64_left]; exact v1
          have HZX := Lib.hid hzx
          have HZZ := Lib.hid hzz
          have HQI := Lib.hid hq
          have HJN := Lib.hid hjn
          clear hlast ha hts hdb hfs hdd hsD hi hq hzz q1 q2 q3 hP256 hzx hjn
          go_wp2_with fail
          refine (HFS.out _).mono ?_
          rintro e10 w10 ⟨rfl, hb10⟩
          have HX10 := Lib.hid (HXr.out.next hb10)
          have HW10 := Lib.hid (bstep HWr.out hb10)
          have HZ10 := Lib.hid (HBz.out.trans (hb10.mono HBz.out.size))
          clear hb10
          obtain ⟨⟨a0, a1, a2⟩, hPc, _, _, hl10, hbw10⟩ := HX10.out
          have hP7 : w10.cell? ⟨w.heap.size + 1, 7, none⟩ = some (.int .u8 (P 7 : Int)) := hPc 7 (by omega)
          clear hPc
          have hrow0 : (w10.alloc (.cells #[] 68)).ownsRow w10.heap.size 68 2 (.slice (some ⟨w10.heap.size, 0, none⟩) 0 0) 0 [] := World.ownsRow_lit w10 #[] 0 (Nat.le_refl _) (by decide) rfl
          have hbA : Below w10.heap.size w10 (w10.alloc (.cells #[] 68)) := balloc _ (Below.refl _ _)
          have hNEWS : ∀ ad, AL = some ad → ∀ (j : Nat) (u : Value), (L.flatMap pairC)[j]? = some u → (w10.alloc (.cells #[] 68)).cell? (ad.add j) = some u := fun ad e j u h => pairs_cell ((HPL.out.below HW10.out).below hbA) ad e j u h
          have HNEWS := Lib.hid hNEWS
          have HRow0 := Lib.hid hrow0
          have HBA := Lib.hid hbA
          have hlen : (L.flatMap pairC).length = k * 2 := by rw [pairs_len, HR.out.1]
          have HLEN := Lib.hid hlen
          have HNL := Lib.hid hnL
          clear hrow0 hbA hNEWS hlen hnL
          go_wp2_with (at_builtin; refine wpList_append_src _ rfl _ _ 25 rfl w10.heap.size 68 i0 (.agg #[.int .i64 0, .int .i64 0]) 2 16 Tryz.underlying25 hi hz0 hz1 hz2 rfl (by decide) _ _ _ rfl HRow0.out AL k cL (L.flatMap pairC) rfl HLEN.out HNL.out HNEWS.out (pairs_one _) ?c3 ?c4 ?c5 ?_)
          case c3 => unfold maxLen; omega
          case c4 => omega
          case c5 => exact HBA.out.size
          intro v11 w11 hrow hgrow _
          obtain ⟨gv, cv, rfl, hgv, hgv2⟩ := ownSome hrow hk0
          have hb11 := HBA.out.grown hgrow HBA.out.size (fun r hr => (World.ownsRow.lt HRow0.out r hr).1)
          have hfz := World.ownsRow.frozenAt hrow (i * 2)
          have hcl := (World.ownsRow.cellAt hrow (i * 2) (by omega)).trans ((pairC_at L i q 0 HQI.out (by decide)).trans rfl)
          obtain ⟨b9, o9, p9, hA9, _, hp9, _, hz1⟩ := (HPZ.out w11 (HZ10.out.trans (hb11.mono HZ10.out.size))).at_ hik
          cases hA9
          obtain rfl : zz = p9 := Option.some.inj (HZZ.out.symm.trans hp9)
          rw [HZX.out] at hz1
          obtain ⟨hs1, hs2⟩ := World.ownsRow.stored hrow (i * 2) (.int .i64 (zx + 1))
          obtain ⟨w12, hw12⟩ : ∃ w12, w11.setCell ⟨gv, i * 2, none⟩ (.int .i64 (zx + 1)) = w12 := ⟨_, rfl⟩
          rw [hw12] at hs1 hs2
          have hb12 := hb11.grown hs2 hb11.size (fun r hr => by cases hr; exact hgv)
          have HX12 := Lib.hid (HX10.out.next hb12)
          obtain ⟨A9, c9, e9, hP9, _⟩ := Pairs.of_rowX (L := L.set i (zx + 1, q.2)) (by rw [← flat_set L i q (zx + 1) HQI.out]; exact hs1) (by rw [List.length_set, HR.out.1])
          cases e9
          have hC2 : Calls Tryz.prog 12 #[.agg #[.slice (some ⟨bg, og, none⟩) n cap, .int .i64 z, .int .i64 b], .slice (some ⟨gv, 0, none⟩) k cv, .int .i64 f] w12 (RetPost (.tuple #[.int .i64 (i : Int), .int .i64 18]) w12) := by
            have := trCheckRun_any G n cap _ z b (L.set i (zx + 1, q.2)) k cv (some ⟨gv, 0, none⟩) f w12 (HGw.out w12 HX12.out.2.2.2.2.2) (Nat.le_trans h1 (by decide)) hc hP9 (by omega)
            rw [← HZX.out, HLATE.out] at this; exact this
          have HC2 := Lib.hid hC2
          obtain ⟨⟨a0, a1, a2⟩, _, _, _, _, _⟩ := HX12.out
          clear hrow hgrow hb11 hp9 hs1 hs2 hP9 hC2 hb12
          go_wp2_with fail
          refine HC2.out.mono ?_
          rintro e13 w13 ⟨rfl, hb13⟩
          have HX13 := Lib.hid (HX12.out.next hb13)
          clear hb13 a0 a1 a2 hw12
          go_wp2_with fail
          refine (HAW.out _ HX13.out.2.2.2.2.2).mono ?_
          rintro e14 w14 ⟨rfl, hb14⟩
          have hfin := bstep HX13.out.2.2.2.2.2 hb14
          clear hb14
          go_wp2
          go_ret
          exact ⟨rfl, hfin⟩
end Go.Mk
