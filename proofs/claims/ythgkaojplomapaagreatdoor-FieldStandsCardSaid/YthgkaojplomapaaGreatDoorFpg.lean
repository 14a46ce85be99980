/-
  Proved: slices.symMergeCmpFunc of places merges two sorted neighbours in place, where both ranges have more
-/
import Derived.Test.YthgkaojplomapaaGreatDoorFpa
set_option maxHeartbeats 32000000
set_option linter.unusedVariables false
set_option linter.unusedSimpArgs false
open Go Go.Proofs Go.RowKit Go.Sort
set_option maxRecDepth 100000
namespace Go.Mk
theorem CmpP.next {w w' : World} {g bx : Nat} {F : Int → Plc} {cm : Int → Int → Int} {L M : List Int} (h : CmpP F w g bx cm L) (hg : w.grownBy w' (some g)) (hp : M.Perm L) : CmpP F w' g bx cm M :=
 fun w2 h2 x y hx hy => h w2 (hg.trans h2) x y (hp.mem_iff.1 hx) (hp.mem_iff.1 hy)
def SymIHP (F : Int → Plc) (lt : Int → Int → Prop) (cm : Int → Int → Int) (B g n cap bx d : Nat) : Prop :=
 ∀ (L : List Int) (a m b : Nat) (w : World), b - a < d → RowP F w B g n cap L → L.Nodup → a < m → m < b → b ≤ n → CmpP F w g bx cm L → Srt lt L a m → Srt lt L m b → Tst cm lt L a m b →
  Calls Tryz.prog 259 #[.slice (some ⟨g, 0, none⟩) n cap, .int .i64 (a : Nat), .int .i64 (m : Nat), .int .i64 (b : Nat), cmpP bx] w (SortP F w B g n cap lt L a b)
theorem symCP_any (F : Int → Plc) {lt : Int → Int → Prop} (ho : Ord lt) (cm : Int → Int → Int) (L : List Int) (B g n cap bx a m b mid : Nat) (w : World) (hr : RowP F w B g n cap L) (hn : L.Nodup) (ham : a + 1 < m) (hmb : m + 1 < b) (hmid : (a + b) / 2 = mid) (hb : b ≤ n) (hn1 : n ≤ 100000) (hC : CmpP F w g bx cm L)
  (hs1 : Srt lt L a m) (hs2 : Srt lt L m b) (hT : Tst cm lt L a m b) (ih : SymIHP F lt cm B g n cap bx (b - a)) :
  Calls Tryz.prog 259 #[.slice (some ⟨g, 0, none⟩) n cap, .int .i64 (a : Nat), .int .i64 (m : Nat), .int .i64 (b : Nat), cmpP bx] w (SortP F w B g n cap lt L a b) := by
 have hni : (n : Int) ≤ 100000 := by omega
 have hbi : (b : Int) ≤ (n : Int) := by omega
 obtain ⟨D, hD⟩ : ∃ D : Int, (m : Int) - (a : Int) = D := ⟨_, rfl⟩
 have hD1 : (D == 1) = false := by simp; omega
 have hD2 : ¬ D = 1 := by omega
 obtain ⟨D', hD'⟩ : ∃ D' : Int, (b : Int) - (m : Int) = D' := ⟨_, rfl⟩
 have hD'1 : (D' == 1) = false := by simp; omega
 have hD'2 : ¬ D' = 1 := by omega
 have hmi : ((a : Int) + (b : Int)) / 2 = (mid : Int) := by omega
 have HC := Lib.hid hC
 have HT := Lib.hid hT
 have HS1 := Lib.hid hs1
 have HS2 := Lib.hid hs2
 have HIH := Lib.hid ih
 have HL := Lib.hid hr.1
 have HN := Lib.hid hn
 have HR := Lib.hid hr
 have HMID := Lib.hid hmid
 obtain ⟨lo, hlo⟩ : ∃ lo, loS a m b = lo := ⟨_, rfl⟩
 obtain ⟨hi, hhi⟩ : ∃ hi, hiS a m b = hi := ⟨_, rfl⟩
 obtain ⟨k1, k2, k3, k4, k5⟩ := srch_lohi (a := a) (m := m) (b := b) (by omega) (by omega)
 have hcase : (mid < m ∧ lo + b = mid + m ∧ hi = mid) ∨ (¬ mid < m ∧ lo = a ∧ hi = m) := by
  rw [← hlo, ← hhi]
  unfold loS hiS
  rw [hmid]
  by_cases c : mid < m
  ·left; rw [if_pos c, if_pos c]; omega
  ·right; rw [if_neg c, if_neg c]; exact ⟨c, rfl, rfl⟩
 rw [hlo, hhi] at k1
 rw [hlo] at k2 k5
 rw [hhi] at k3 k4
 rw [hmid] at k4 k5
 have HLH := Lib.hid (And.intro hlo hhi)
 unfold cmpP SortP
 clear hC hT hn hr hs1 hs2 ih hmid hlo hhi
 rcases hcase with ⟨q1, q2, q3⟩ | ⟨q1, q2, q3⟩
 ·subst q3
  have q1i : (hi : Int) < (m : Int) := by omega
  have q2i : (hi : Int) + (m : Int) - (b : Int) = (lo : Int) := by omega
  go_enter Tryz.func259, Tryz.ntmps259
  go_wp2
  go_loopw [20, 21] (fun sv rv wr => ∃ (s r : Nat), sv = .int .i64 s ∧ rv = .int .i64 r ∧ Hid (Srch lt L (hi + m) lo hi s r) ∧ lo ≤ s ∧ s ≤ r ∧ r ≤ hi ∧ RowP F wr B g n cap L ∧ w.grownBy wr (some g)) (fun sv rv _ => (RowKit.intOf rv).toNat - (RowKit.intOf sv).toNat)
  case atStart => exact ⟨lo, hi, rfl, rfl, Lib.hid (Srch.start k1), Nat.le_refl _, k1, Nat.le_refl _, HR.out, World.grownBy.refl _ _⟩
  case round =>
   obtain ⟨s, r, rfl, rfl, HI, hi1, hij, hj1, hrow, hg⟩ := hrel
   by_cases hlt : s < r
   ·have hki : (s : Int) < (r : Int) := by omega
    obtain ⟨h, hh⟩ : ∃ h : Nat, ((s : Int) + (r : Int)) / 2 = (h : Int) := ⟨(s + r) / 2, by omega⟩
    have hih : s ≤ h := by omega
    have hhj : h < r := by omega
    obtain ⟨g1, g2, g3, g4⟩ := srch_range (a := a) (m := m) (b := b) (c := h) (by omega) (by omega) (by rw [HLH.out.1]; omega) (by rw [HLH.out.2]; omega)
    rw [HMID.out] at g3 g4
    obtain ⟨k, hk⟩ : ∃ k : Nat, hi + m - 1 - h = k := ⟨_, rfl⟩
    rw [hk] at g3 g4
    have hpk : (hi : Int) + (m : Int) - 1 - (h : Int) = (k : Int) := by omega
    have hw1 : IntKind.i64.wrap ((hi : Int) + (m : Int) - 1 - (h : Int)) = (k : Int) := by rw [hpk]; exact wrapQ _ (by omega)
    have h0 : (0 : Int) ≤ (h : Int) := by omega
    have h1 : (h : Int) < (n : Int) := by omega
    have h2 : ((h : Int)).toNat = h := by omega
    have a0 : (0 : Int) ≤ (k : Int) := by omega
    have a1 : (k : Int) < (n : Int) := by omega
    have hk2 : ((k : Int)).toNat = k := by omega
    have hkk := And.intro a0 a1
    have hwk : IntKind.i64.wrap (k : Int) = (k : Int) := wrapQ _ (by omega)
    have c1 := hrow.cell (i := k) (by omega)
    have c2 := hrow.cell (i := h) (by omega)
    have t1 := HT.out h k g1 g2 g3 g4
    have hK : ∀ w', Below wr.heap.size wr w' → Calls Tryz.prog 107 #[(F (ga L k)).val, (F (ga L h)).val, .pointer (some ⟨bx, 0, none⟩)] w' (RetPost (.int .i64 (cm (ga L k) (ga L h))) w') := fun w' hb' => HC.out w' (gb_below hg hb') _ _ (List.mem_of_getElem? (ga_at (by rw [HL.out]; omega))) (List.mem_of_getElem? (ga_at (by rw [HL.out]; omega)))
    have hU := fun q => HI.out.up (c := h) hih hhj (by rw [hk]; exact q)
    have hDn := fun q => HI.out.down (c := h) hih hhj (by rw [hk]; exact q)
    obtain ⟨x, hx⟩ : ∃ x, ga L k = x := ⟨_, rfl⟩
    obtain ⟨y, hy⟩ : ∃ y, ga L h = y := ⟨_, rfl⟩
    rw [hx] at c1
    rw [hy] at c2
    rw [hx, hy] at hK t1 hU hDn
    obtain ⟨p1, hp1⟩ : ∃ p, F x = p := ⟨_, rfl⟩
    obtain ⟨p2, hp2⟩ : ∃ p, F y = p := ⟨_, rfl⟩
    rw [hp1] at c1 hK
    rw [hp2] at c2 hK
    have HP := Lib.hid (And.intro hp1 hp2)
    obtain ⟨na1, rk1, kd1, vl1, rs1⟩ := p1
    obtain ⟨na2, rk2, kd2, vl2, rs2⟩ := p2
    obtain ⟨c10, c11, c12, c13, c14⟩ := c1
    obtain ⟨c20, c21, c22, c23, c24⟩ := c2
    unfold Plc.val at hK
    dsimp only at c10 c11 c12 c13 c14 c20 c21 c22 c23 c24 hK
    clear hp1 hp2
    have HX := Lib.hid (And.intro hx hy)
    have HRW := Lib.hid hrow
    have HGG := Lib.hid hg
    clear hx hy hrow hg hk
    obtain ⟨v, hsv⟩ : ∃ v, cm x y = v := ⟨_, rfl⟩
    rw [hsv] at hK t1
    clear hsv
    by_cases hlt0 : v < 0
    ·have HB := Lib.hid (hDn (t1.1 hlt0))
     have hdt : decide (v < 0) = true := decide_eq_true hlt0
     clear hU hDn t1
     go_wp2
     refine wp_region_held_drew (S := fun w' => (w'.cell? ⟨g, k * 5, none⟩ = some (.string na1) ∧ w'.cell? ⟨g, k * 5 + 1, none⟩ = some (.int .i64 rk1) ∧ w'.cell? ⟨g, k * 5 + 2, none⟩ = some (.string kd1) ∧ w'.cell? ⟨g, k * 5 + 3, none⟩ = some (.int .i64 vl1) ∧ w'.cell? ⟨g, k * 5 + 4, none⟩ = some (.string rs1)) ∧ w'.cell? ⟨g, h * 5, none⟩ = some (.string na2) ∧ w'.cell? ⟨g, h * 5 + 1, none⟩ = some (.int .i64 rk2) ∧ w'.cell? ⟨g, h * 5 + 2, none⟩ = some (.string kd2) ∧ w'.cell? ⟨g, h * 5 + 3, none⟩ = some (.int .i64 vl2) ∧ w'.cell? ⟨g, h * 5 + 4, none⟩ = some (.string rs2)) (by kernel_rfl) ?_ (fun hHeld => ?_)
     ·exact ⟨⟨c10, c11, c12, c13, c14⟩, c20, c21, c22, c23, c24⟩
     refine zV 0 (h := zV 1 (h := zV 2 (h := zV 3 (h := ?_))))
     try simp only [zP, zQ, zA2, zA3]
     refine zU 4 ?_ rfl ?_ ?_
     rotate_left
     ·rintro w ⟨⟨x1, x2, x3, x4, x5⟩, x6, x7, x8, x9, x10⟩
      go_simp
      try simp only [hw1, hwk, hpk, hk2, if_pos hkk]
      try with_reducible rfl
     try simp only [zP, zQ, zA2, zA3]
     refine zU 5 ?_ rfl ?_ ?_
     rotate_left
     ·rintro w ⟨⟨x1, x2, x3, x4, x5⟩, x6, x7, x8, x9, x10⟩
      go_simp
      try simp only [hw1, hwk, hpk, hk2, if_pos hkk]
      try with_reducible rfl
     try simp only [zP, zQ, zA2, zA3]
     refine zU 6 ?_ rfl ?_ ?_
     rotate_left
     ·rintro w ⟨⟨x1, x2, x3, x4, x5⟩, x6, x7, x8, x9, x10⟩
      go_simp
      try simp only [hw1, hwk, hpk, hk2, if_pos hkk]
      try with_reducible rfl
     try simp only [zP, zQ, zA2, zA3]
     refine zV 7 (h := zV 8 (h := zV 9 (h := zV 10 (h := ?_))))
     try simp only [zP, zQ, zA2, zA3]
     refine zN 11 fun K hKK => ?_
     go_simp
     go_at_call 107
     refine (hK _ (Below.refl _ _).drew).mono ?_
     rintro e w5 ⟨rfl, hb5⟩
     have hr5 := (HRW.out.below (Below.refl _ _).drew).below hb5
     have d1 := hr5.cell (i := k) (by omega)
     have d2 := hr5.cell (i := h) (by omega)
     rw [HX.out.1, HP.out.1] at d1
     rw [HX.out.2, HP.out.2] at d2
     have hg5 := gb_below HGG.out (bstep (Below.refl _ _).drew hb5)
     go_wp2_with fail
     refine hKK.out _ _ ?_ (fun hHeld => ?_)
     ·exact ⟨d1, d2⟩
     clear hKK K
     try simp only [zP, zQ, zA2, zA3]
     refine zN 12 fun K hKK => ?_
     go_simp
     refine hKK.out _ _ ?_ (fun hHeld => ?_)
     ·exact hHeld
     clear hKK K
     try simp only [zP, zQ, zA2, zA3]
     refine zN 13 fun K hKK => ?_
     go_simp
     refine hKK.out _ _ ?_ (fun hHeld => ?_)
     ·exact hHeld
     clear hKK K
     try simp only [zP, zQ, zA2, zA3]
     refine wpAnyH_done (by kernel_rfl) ?_ _
     have HR5 := Lib.hid hr5
     have HG5 := Lib.hid hg5
     clear c10 c11 c12 c13 c14 c20 c21 c22 c23 c24 hK hb5 hr5 hg5 hHeld
     go_wp2
     go_roundw
     case rel => exact ⟨s, h, rfl, by go_num, HB, hi1, by omega, by omega, HR5.out, HG5.out⟩
     case measure => simp [RowKit.intOf]; omega
    ·have HB := Lib.hid (hU (fun q => hlt0 (t1.2 q)))
     have hge : 0 ≤ v := by omega
     have hdf : decide (v < 0) = false := decide_eq_false hlt0
     clear hU hDn t1
     go_wp2
     refine wp_region_held_drew (S := fun w' => (w'.cell? ⟨g, k * 5, none⟩ = some (.string na1) ∧ w'.cell? ⟨g, k * 5 + 1, none⟩ = some (.int .i64 rk1) ∧ w'.cell? ⟨g, k * 5 + 2, none⟩ = some (.string kd1) ∧ w'.cell? ⟨g, k * 5 + 3, none⟩ = some (.int .i64 vl1) ∧ w'.cell? ⟨g, k * 5 + 4, none⟩ = some (.string rs1)) ∧ w'.cell? ⟨g, h * 5, none⟩ = some (.string na2) ∧ w'.cell? ⟨g, h * 5 + 1, none⟩ = some (.int .i64 rk2) ∧ w'.cell? ⟨g, h * 5 + 2, none⟩ = some (.string kd2) ∧ w'.cell? ⟨g, h * 5 + 3, none⟩ = some (.int .i64 vl2) ∧ w'.cell? ⟨g, h * 5 + 4, none⟩ = some (.string rs2)) (by kernel_rfl) ?_ (fun hHeld => ?_)
     ·exact ⟨⟨c10, c11, c12, c13, c14⟩, c20, c21, c22, c23, c24⟩
     refine zV 0 (h := zV 1 (h := zV 2 (h := zV 3 (h := ?_))))
     try simp only [zP, zQ, zA2, zA3]
     refine zU 4 ?_ rfl ?_ ?_
     rotate_left
     ·rintro w ⟨⟨x1, x2, x3, x4, x5⟩, x6, x7, x8, x9, x10⟩
      go_simp
      try simp only [hw1, hwk, hpk, hk2, if_pos hkk]
      try with_reducible rfl
     try simp only [zP, zQ, zA2, zA3]
     refine zU 5 ?_ rfl ?_ ?_
     rotate_left
     ·rintro w ⟨⟨x1, x2, x3, x4, x5⟩, x6, x7, x8, x9, x10⟩
      go_simp
      try simp only [hw1, hwk, hpk, hk2, if_pos hkk]
      try with_reducible rfl
     try simp only [zP, zQ, zA2, zA3]
     refine zU 6 ?_ rfl ?_ ?_
     rotate_left
     ·rintro w ⟨⟨x1, x2, x3, x4, x5⟩, x6, x7, x8, x9, x10⟩
      go_simp
      try simp only [hw1, hwk, hpk, hk2, if_pos hkk]
      try with_reducible rfl
     try simp only [zP, zQ, zA2, zA3]
     refine zV 7 (h := zV 8 (h := zV 9 (h := zV 10 (h := ?_))))
     try simp only [zP, zQ, zA2, zA3]
     refine zN 11 fun K hKK => ?_
     go_simp
     go_at_call 107
     refine (hK _ (Below.refl _ _).drew).mono ?_
     rintro e w5 ⟨rfl, hb5⟩
     have hr5 := (HRW.out.below (Below.refl _ _).drew).below hb5
     have d1 := hr5.cell (i := k) (by omega)
     have d2 := hr5.cell (i := h) (by omega)
     rw [HX.out.1, HP.out.1] at d1
     rw [HX.out.2, HP.out.2] at d2
     have hg5 := gb_below HGG.out (bstep (Below.refl _ _).drew hb5)
     go_wp2_with fail
     refine hKK.out _ _ ?_ (fun hHeld => ?_)
     ·exact ⟨d1, d2⟩
     clear hKK K
     try simp only [zP, zQ, zA2, zA3]
     refine zN 12 fun K hKK => ?_
     go_simp
     refine hKK.out _ _ ?_ (fun hHeld => ?_)
     ·exact hHeld
     clear hKK K
     try simp only [zP, zQ, zA2, zA3]
     refine zN 13 fun K hKK => ?_
     go_simp
     refine hKK.out _ _ ?_ (fun hHeld => ?_)
     ·exact hHeld
     clear hKK K
     try simp only [zP, zQ, zA2, zA3]
     refine wpAnyH_done (by kernel_rfl) ?_ _
     have HR5 := Lib.hid hr5
     have HG5 := Lib.hid hg5
     clear c10 c11 c12 c13 c14 c20 c21 c22 c23 c24 hK hb5 hr5 hg5 hHeld
     go_wp2
     go_roundw
     case rel => exact ⟨h + 1, r, by go_num, rfl, HB, by omega, by omega, hj1, HR5.out, HG5.out⟩
     case measure => simp [RowKit.intOf]; omega
   ·obtain rfl : s = r := by omega
    have hd := Srch.done ho HN.out (by rw [HL.out]; exact hb) (show a < m by omega) (show m < b by omega) (by rw [HMID.out, HLH.out.1, HLH.out.2]; exact HI.out)
    rw [HMID.out] at hd
    obtain ⟨e, he⟩ : ∃ e, hi + m - s = e := ⟨_, rfl⟩
    rw [he] at hd
    obtain ⟨f1, f2, f3, f4, f5, f6, f7⟩ := hd
    have hei : (hi : Int) + (m : Int) - (s : Int) = (e : Int) := by omega
    have hR0 := fun (h1 : s < m) (h2 : m < e) => rotateP_any F L B g n cap bx s m e wr hrow h1 h2 (by omega) hn1
    have HR0 := Lib.hid hR0
    have HRW0 := Lib.hid hrow
    have HGG0 := Lib.hid hg
    clear hR0 hrow hg HI he
    rcases (show (s < m ∧ m < e) ∨ (s < m ∧ ¬ m < e) ∨ ¬ s < m by omega) with ⟨z1, z2⟩ | ⟨z1, z2⟩ | z1
    all_goals
     first
     |have q8 : m < e := z2
      have z1i : (s : Int) < (m : Int) := by omega
      have z2i : (m : Int) < (e : Int) := by omega
      have hR := HR0.out z1 z2
      unfold RowPostP cmpP at hR
      clear HR0
      go_wp2_with fail
      with_reducible refine hR.mono ?_
      rintro e5 w5 ⟨M, rfl, hrot, hr5, hg5⟩
      have HRW := Lib.hid hr5
      have HGG := Lib.hid (HGG0.out.trans hg5)
      clear hR hr5 hg5 HRW0 HGG0
      have hH := halves_of ho HS1.out HS2.out HT.out f1 f2 f3 f4 f6 f7 hrot
      obtain ⟨v1, v2, v3, v4, v5, v6, v7⟩ := hH
      rw [f5] at v2 v3 v5 v6 v7
      have HPM := Lib.hid (hrot.perm.wide f1 f4)
      have HNDM := Lib.hid (HPM.out.perm.nodup_iff.2 HN.out)
      have HBEL := Lib.hid v5
      have HV := Lib.hid (And.intro v1 (And.intro v2 (And.intro v3 (And.intro v4 (And.intro v6 v7)))))
      clear v1 v2 v3 v4 v5 v6 v7 hrot
      clear q8
     |have q8 : ¬ m < e := z2
      have z1i : (s : Int) < (m : Int) := by omega
      have z2i : ¬ (m : Int) < (e : Int) := by omega
      obtain ⟨M, hML⟩ : ∃ M, L = M := ⟨_, rfl⟩
      have hrot0 := RotR.refl (s := s) (m := m) (e := e) f2 f3 L (.inr (by omega))
      have hrot : RotR s m e L M := by rw [← hML]; exact hrot0
      have HRWm : Hid (RowP F wr B g n cap M) := by rw [← hML]; exact HRW0
      clear hML hrot0
      have HRW := HRWm
      have HGG := HGG0
      clear HR0
      have hH := halves_of ho HS1.out HS2.out HT.out f1 f2 f3 f4 f6 f7 hrot
      obtain ⟨v1, v2, v3, v4, v5, v6, v7⟩ := hH
      rw [f5] at v2 v3 v5 v6 v7
      have HPM := Lib.hid (hrot.perm.wide f1 f4)
      have HNDM := Lib.hid (HPM.out.perm.nodup_iff.2 HN.out)
      have HBEL := Lib.hid v5
      have HV := Lib.hid (And.intro v1 (And.intro v2 (And.intro v3 (And.intro v4 (And.intro v6 v7)))))
      clear v1 v2 v3 v4 v5 v6 v7 hrot
      clear q8
     |have q8 : ¬ s < m := z1
      have z1i : ¬ (s : Int) < (m : Int) := by omega
      obtain ⟨M, hML⟩ : ∃ M, L = M := ⟨_, rfl⟩
      have hrot0 := RotR.refl (s := s) (m := m) (e := e) f2 f3 L (.inl (by omega))
      have hrot : RotR s m e L M := by rw [← hML]; exact hrot0
      have HRWm : Hid (RowP F wr B g n cap M) := by rw [← hML]; exact HRW0
      clear hML hrot0
      have HRW := HRWm
      have HGG := HGG0
      clear HR0
      have hH := halves_of ho HS1.out HS2.out HT.out f1 f2 f3 f4 f6 f7 hrot
      obtain ⟨v1, v2, v3, v4, v5, v6, v7⟩ := hH
      rw [f5] at v2 v3 v5 v6 v7
      have HPM := Lib.hid (hrot.perm.wide f1 f4)
      have HNDM := Lib.hid (HPM.out.perm.nodup_iff.2 HN.out)
      have HBEL := Lib.hid v5
      have HV := Lib.hid (And.intro v1 (And.intro v2 (And.intro v3 (And.intro v4 (And.intro v6 v7)))))
      clear v1 v2 v3 v4 v5 v6 v7 hrot
      clear q8
     rcases (show (a < s ∧ s < hi) ∨ (a < s ∧ ¬ s < hi) ∨ ¬ a < s by omega) with ⟨y1, y2⟩ | ⟨y1, y2⟩ | y1
     all_goals
      first
      |have q9 : s < hi := y2
       have y1i : (a : Int) < (s : Int) := by omega
       have y2i : (s : Int) < (hi : Int) := by omega
       have hI := HIH.out M a s hi _ (by omega) HRW.out HNDM.out y1 y2 (by omega) (HC.out.next HGG.out HPM.out.perm) HV.out.1 HV.out.2.1 HV.out.2.2.2.2.1
       unfold SortP cmpP at hI
       go_wp2_with fail
       with_reducible refine hI.mono ?_
       rintro e6 w6 ⟨M1, rfl, p1, s1, r1, g1⟩
       have HP1 := Lib.hid p1
       have HRW1 := Lib.hid r1
       have HGW1 := Lib.hid (HGG.out.trans g1)
       have HPW1 := Lib.hid (HPM.out.trans (HP1.out.wide (Nat.le_refl a) (show hi ≤ b by omega)))
       have HND1 := Lib.hid (HPW1.out.perm.nodup_iff.2 HN.out)
       have hsame : ∀ q, hi ≤ q → ga M1 q = ga M q := fun q hq => HP1.out.out q (by omega)
       have HH := Lib.hid (And.intro (show Srt lt M1 a hi from s1) (And.intro (HV.out.2.2.1.same (fun q h1 _ => hsame q h1)) (And.intro (HV.out.2.2.2.1.same (fun q h1 _ => hsame q (by omega))) (show Tst cm lt M1 hi e b from fun p q h1 h2 h3 h4 => by rw [hsame p h1, hsame q (by omega)]; exact HV.out.2.2.2.2.2 p q h1 h2 h3 h4))))
       clear hsame p1 s1 r1 g1 hI
       clear q9
      |have q9 : ¬ s < hi := y2
       have y1i : (a : Int) < (s : Int) := by omega
       have y2i : ¬ (s : Int) < (hi : Int) := by omega
       obtain ⟨M1, hM1⟩ : ∃ M1, M1 = M := ⟨_, rfl⟩
       subst hM1
       have HP1 := Lib.hid (PermIn.refl a hi M1)
       have HRW1 := Lib.hid HRW.out
       have HGW1 := Lib.hid HGG.out
       have HPW1 := Lib.hid (HPM.out.trans (HP1.out.wide (Nat.le_refl a) (show hi ≤ b by omega)))
       have HND1 := Lib.hid (HPW1.out.perm.nodup_iff.2 HN.out)
       have hsame : ∀ q, hi ≤ q → ga M1 q = ga M1 q := fun q hq => HP1.out.out q (by omega)
       have HH := Lib.hid (And.intro (show Srt lt M1 a hi from (HV.out.1.sub (Nat.le_refl _) (by omega))) (And.intro (HV.out.2.2.1.same (fun q h1 _ => hsame q h1)) (And.intro (HV.out.2.2.2.1.same (fun q h1 _ => hsame q (by omega))) (show Tst cm lt M1 hi e b from fun p q h1 h2 h3 h4 => by rw [hsame p h1, hsame q (by omega)]; exact HV.out.2.2.2.2.2 p q h1 h2 h3 h4))))
       clear hsame
       clear q9
      |have q9 : ¬ a < s := y1
       have y1i : ¬ (a : Int) < (s : Int) := by omega
       obtain ⟨M1, hM1⟩ : ∃ M1, M1 = M := ⟨_, rfl⟩
       subst hM1
       have HP1 := Lib.hid (PermIn.refl a hi M1)
       have HRW1 := Lib.hid HRW.out
       have HGW1 := Lib.hid HGG.out
       have HPW1 := Lib.hid (HPM.out.trans (HP1.out.wide (Nat.le_refl a) (show hi ≤ b by omega)))
       have HND1 := Lib.hid (HPW1.out.perm.nodup_iff.2 HN.out)
       have hsame : ∀ q, hi ≤ q → ga M1 q = ga M1 q := fun q hq => HP1.out.out q (by omega)
       have HH := Lib.hid (And.intro (show Srt lt M1 a hi from (HV.out.2.1.sub (by omega) (Nat.le_refl _))) (And.intro (HV.out.2.2.1.same (fun q h1 _ => hsame q h1)) (And.intro (HV.out.2.2.2.1.same (fun q h1 _ => hsame q (by omega))) (show Tst cm lt M1 hi e b from fun p q h1 h2 h3 h4 => by rw [hsame p h1, hsame q (by omega)]; exact HV.out.2.2.2.2.2 p q h1 h2 h3 h4))))
       clear hsame
       clear q9
      by_cases x1 : hi < e
      ·have x1i : (hi : Int) < (e : Int) := by omega
       by_cases x2 : e < b
       ·have x2i : (e : Int) < (b : Int) := by omega
        have hI := HIH.out M1 hi e b _ (by omega) HRW1.out HND1.out (by omega) (by omega) hb (HC.out.next HGW1.out HPW1.out.perm) HH.out.2.1 HH.out.2.2.1 HH.out.2.2.2
        unfold SortP cmpP at hI
        go_wp2_with fail
        with_reducible refine hI.mono ?_
        rintro e7 w7 ⟨M2, rfl, p2, s2, r2, g2⟩
        have hF := halves_done HNDM.out (by rw [HPM.out.len, HL.out]; exact hb) (by omega) (by omega) HBEL.out HP1.out HH.out.1 p2 s2
        have HF := Lib.hid (And.intro (HPW1.out.trans (p2.wide (by omega) (Nat.le_refl _))) (And.intro hF (And.intro r2 (HGW1.out.trans g2))))
        clear hI hF p2 s2 r2 g2
        go_wp2
        go_end0
        first | exact ⟨M2, rfl, HF.out⟩ | exact ⟨rfl, M2, HF.out⟩
       ·have x2i : ¬ (e : Int) < (b : Int) := by omega
        have hF := halves_done HNDM.out (by rw [HPM.out.len, HL.out]; exact hb) (by omega) (by omega) HBEL.out HP1.out HH.out.1 (PermIn.refl hi b M1) (HH.out.2.1.sub (Nat.le_refl _) (by omega))
        have HF := Lib.hid (And.intro HPW1.out (And.intro hF (And.intro HRW1.out HGW1.out)))
        clear hF
        go_wp2
        go_end0
        first | exact ⟨M1, rfl, HF.out⟩ | exact ⟨rfl, M1, HF.out⟩
      ·have x1i : ¬ (hi : Int) < (e : Int) := by omega
       have hF := halves_done HNDM.out (by rw [HPM.out.len, HL.out]; exact hb) (by omega) (by omega) HBEL.out HP1.out HH.out.1 (PermIn.refl hi b M1) (HH.out.2.2.1.sub (by omega) (Nat.le_refl _))
       have HF := Lib.hid (And.intro HPW1.out (And.intro hF (And.intro HRW1.out HGW1.out)))
       clear hF
       go_wp2
       go_end0
       first | exact ⟨M1, rfl, HF.out⟩ | exact ⟨rfl, M1, HF.out⟩
 ·have q2' := q2.symm
  have q3' := q3.symm
  subst q2' q3'
  have q1i : ¬ (mid : Int) < (m : Int) := by omega
  go_enter Tryz.func259, Tryz.ntmps259
  go_wp2
  go_loopw [20, 21] (fun sv rv wr => ∃ (s r : Nat), sv = .int .i64 s ∧ rv = .int .i64 r ∧ Hid (Srch lt L (mid + m) a m s r) ∧ a ≤ s ∧ s ≤ r ∧ r ≤ m ∧ RowP F wr B g n cap L ∧ w.grownBy wr (some g)) (fun sv rv _ => (RowKit.intOf rv).toNat - (RowKit.intOf sv).toNat)
  case atStart => exact ⟨a, m, rfl, rfl, Lib.hid (Srch.start k1), Nat.le_refl _, k1, Nat.le_refl _, HR.out, World.grownBy.refl _ _⟩
  case round =>
   obtain ⟨s, r, rfl, rfl, HI, hi1, hij, hj1, hrow, hg⟩ := hrel
   by_cases hlt : s < r
   ·have hki : (s : Int) < (r : Int) := by omega
    obtain ⟨h, hh⟩ : ∃ h : Nat, ((s : Int) + (r : Int)) / 2 = (h : Int) := ⟨(s + r) / 2, by omega⟩
    have hih : s ≤ h := by omega
    have hhj : h < r := by omega
    obtain ⟨g1, g2, g3, g4⟩ := srch_range (a := a) (m := m) (b := b) (c := h) (by omega) (by omega) (by rw [HLH.out.1]; omega) (by rw [HLH.out.2]; omega)
    rw [HMID.out] at g3 g4
    obtain ⟨k, hk⟩ : ∃ k : Nat, mid + m - 1 - h = k := ⟨_, rfl⟩
    rw [hk] at g3 g4
    have hpk : (mid : Int) + (m : Int) - 1 - (h : Int) = (k : Int) := by omega
    have hw1 : IntKind.i64.wrap ((mid : Int) + (m : Int) - 1 - (h : Int)) = (k : Int) := by rw [hpk]; exact wrapQ _ (by omega)
    have h0 : (0 : Int) ≤ (h : Int) := by omega
    have h1 : (h : Int) < (n : Int) := by omega
    have h2 : ((h : Int)).toNat = h := by omega
    have a0 : (0 : Int) ≤ (k : Int) := by omega
    have a1 : (k : Int) < (n : Int) := by omega
    have hk2 : ((k : Int)).toNat = k := by omega
    have hkk := And.intro a0 a1
    have hwk : IntKind.i64.wrap (k : Int) = (k : Int) := wrapQ _ (by omega)
    have c1 := hrow.cell (i := k) (by omega)
    have c2 := hrow.cell (i := h) (by omega)
    have t1 := HT.out h k g1 g2 g3 g4
    have hK : ∀ w', Below wr.heap.size wr w' → Calls Tryz.prog 107 #[(F (ga L k)).val, (F (ga L h)).val, .pointer (some ⟨bx, 0, none⟩)] w' (RetPost (.int .i64 (cm (ga L k) (ga L h))) w') := fun w' hb' => HC.out w' (gb_below hg hb') _ _ (List.mem_of_getElem? (ga_at (by rw [HL.out]; omega))) (List.mem_of_getElem? (ga_at (by rw [HL.out]; omega)))
    have hU := fun q => HI.out.up (c := h) hih hhj (by rw [hk]; exact q)
    have hDn := fun q => HI.out.down (c := h) hih hhj (by rw [hk]; exact q)
    obtain ⟨x, hx⟩ : ∃ x, ga L k = x := ⟨_, rfl⟩
    obtain ⟨y, hy⟩ : ∃ y, ga L h = y := ⟨_, rfl⟩
    rw [hx] at c1
    rw [hy] at c2
    rw [hx, hy] at hK t1 hU hDn
    obtain ⟨p1, hp1⟩ : ∃ p, F x = p := ⟨_, rfl⟩
    obtain ⟨p2, hp2⟩ : ∃ p, F y = p := ⟨_, rfl⟩
    rw [hp1] at c1 hK
    rw [hp2] at c2 hK
    have HP := Lib.hid (And.intro hp1 hp2)
    obtain ⟨na1, rk1, kd1, vl1, rs1⟩ := p1
    obtain ⟨na2, rk2, kd2, vl2, rs2⟩ := p2
    obtain ⟨c10, c11, c12, c13, c14⟩ := c1
    obtain ⟨c20, c21, c22, c23, c24⟩ := c2
    unfold Plc.val at hK
    dsimp only at c10 c11 c12 c13 c14 c20 c21 c22 c23 c24 hK
    clear hp1 hp2
    have HX := Lib.hid (And.intro hx hy)
    have HRW := Lib.hid hrow
    have HGG := Lib.hid hg
    clear hx hy hrow hg hk
    obtain ⟨v, hsv⟩ : ∃ v, cm x y = v := ⟨_, rfl⟩
    rw [hsv] at hK t1
    clear hsv
    by_cases hlt0 : v < 0
    ·have HB := Lib.hid (hDn (t1.1 hlt0))
     have hdt : decide (v < 0) = true := decide_eq_true hlt0
     clear hU hDn t1
     go_wp2
     refine wp_region_held_drew (S := fun w' => (w'.cell? ⟨g, k * 5, none⟩ = some (.string na1) ∧ w'.cell? ⟨g, k * 5 + 1, none⟩ = some (.int .i64 rk1) ∧ w'.cell? ⟨g, k * 5 + 2, none⟩ = some (.string kd1) ∧ w'.cell? ⟨g, k * 5 + 3, none⟩ = some (.int .i64 vl1) ∧ w'.cell? ⟨g, k * 5 + 4, none⟩ = some (.string rs1)) ∧ w'.cell? ⟨g, h * 5, none⟩ = some (.string na2) ∧ w'.cell? ⟨g, h * 5 + 1, none⟩ = some (.int .i64 rk2) ∧ w'.cell? ⟨g, h * 5 + 2, none⟩ = some (.string kd2) ∧ w'.cell? ⟨g, h * 5 + 3, none⟩ = some (.int .i64 vl2) ∧ w'.cell? ⟨g, h * 5 + 4, none⟩ = some (.string rs2)) (by kernel_rfl) ?_ (fun hHeld => ?_)
     ·exact ⟨⟨c10, c11, c12, c13, c14⟩, c20, c21, c22, c23, c24⟩
     refine zV 0 (h := zV 1 (h := zV 2 (h := zV 3 (h := ?_))))
     try simp only [zP, zQ, zA2, zA3]
     refine zU 4 ?_ rfl ?_ ?_
     rotate_left
     ·rintro w ⟨⟨x1, x2, x3, x4, x5⟩, x6, x7, x8, x9, x10⟩
      go_simp
      try simp only [hw1, hwk, hpk, hk2, if_pos hkk]
      try with_reducible rfl
     try simp only [zP, zQ, zA2, zA3]
     refine zU 5 ?_ rfl ?_ ?_
     rotate_left
     ·rintro w ⟨⟨x1, x2, x3, x4, x5⟩, x6, x7, x8, x9, x10⟩
      go_simp
      try simp only [hw1, hwk, hpk, hk2, if_pos hkk]
      try with_reducible rfl
     try simp only [zP, zQ, zA2, zA3]
     refine zU 6 ?_ rfl ?_ ?_
     rotate_left
     ·rintro w ⟨⟨x1, x2, x3, x4, x5⟩, x6, x7, x8, x9, x10⟩
      go_simp
      try simp only [hw1, hwk, hpk, hk2, if_pos hkk]
      try with_reducible rfl
     try simp only [zP, zQ, zA2, zA3]
     refine zV 7 (h := zV 8 (h := zV 9 (h := zV 10 (h := ?_))))
     try simp only [zP, zQ, zA2, zA3]
     refine zN 11 fun K hKK => ?_
     go_simp
     go_at_call 107
     refine (hK _ (Below.refl _ _).drew).mono ?_
     rintro e w5 ⟨rfl, hb5⟩
     have hr5 := (HRW.out.below (Below.refl _ _).drew).below hb5
     have d1 := hr5.cell (i := k) (by omega)
     have d2 := hr5.cell (i := h) (by omega)
     rw [HX.out.1, HP.out.1] at d1
     rw [HX.out.2, HP.out.2] at d2
     have hg5 := gb_below HGG.out (bstep (Below.refl _ _).drew hb5)
     go_wp2_with fail
     refine hKK.out _ _ ?_ (fun hHeld => ?_)
     ·exact ⟨d1, d2⟩
     clear hKK K
     try simp only [zP, zQ, zA2, zA3]
     refine zN 12 fun K hKK => ?_
     go_simp
     refine hKK.out _ _ ?_ (fun hHeld => ?_)
     ·exact hHeld
     clear hKK K
     try simp only [zP, zQ, zA2, zA3]
     refine zN 13 fun K hKK => ?_
     go_simp
     refine hKK.out _ _ ?_ (fun hHeld => ?_)
     ·exact hHeld
     clear hKK K
     try simp only [zP, zQ, zA2, zA3]
     refine wpAnyH_done (by kernel_rfl) ?_ _
     have HR5 := Lib.hid hr5
     have HG5 := Lib.hid hg5
     clear c10 c11 c12 c13 c14 c20 c21 c22 c23 c24 hK hb5 hr5 hg5 hHeld
     go_wp2
     go_roundw
     case rel => exact ⟨s, h, rfl, by go_num, HB, hi1, by omega, by omega, HR5.out, HG5.out⟩
     case measure => simp [RowKit.intOf]; omega
    ·have HB := Lib.hid (hU (fun q => hlt0 (t1.2 q)))
     have hge : 0 ≤ v := by omega
     have hdf : decide (v < 0) = false := decide_eq_false hlt0
     clear hU hDn t1
     go_wp2
     refine wp_region_held_drew (S := fun w' => (w'.cell? ⟨g, k * 5, none⟩ = some (.string na1) ∧ w'.cell? ⟨g, k * 5 + 1, none⟩ = some (.int .i64 rk1) ∧ w'.cell? ⟨g, k * 5 + 2, none⟩ = some (.string kd1) ∧ w'.cell? ⟨g, k * 5 + 3, none⟩ = some (.int .i64 vl1) ∧ w'.cell? ⟨g, k * 5 + 4, none⟩ = some (.string rs1)) ∧ w'.cell? ⟨g, h * 5, none⟩ = some (.string na2) ∧ w'.cell? ⟨g, h * 5 + 1, none⟩ = some (.int .i64 rk2) ∧ w'.cell? ⟨g, h * 5 + 2, none⟩ = some (.string kd2) ∧ w'.cell? ⟨g, h * 5 + 3, none⟩ = some (.int .i64 vl2) ∧ w'.cell? ⟨g, h * 5 + 4, none⟩ = some (.string rs2)) (by kernel_rfl) ?_ (fun hHeld => ?_)
     ·exact ⟨⟨c10, c11, c12, c13, c14⟩, c20, c21, c22, c23, c24⟩
     refine zV 0 (h := zV 1 (h := zV 2 (h := zV 3 (h := ?_))))
     try simp only [zP, zQ, zA2, zA3]
     refine zU 4 ?_ rfl ?_ ?_
     rotate_left
     ·rintro w ⟨⟨x1, x2, x3, x4, x5⟩, x6, x7, x8, x9, x10⟩
      go_simp
      try simp only [hw1, hwk, hpk, hk2, if_pos hkk]
      try with_reducible rfl
     try simp only [zP, zQ, zA2, zA3]
     refine zU 5 ?_ rfl ?_ ?_
     rotate_left
     ·rintro w ⟨⟨x1, x2, x3, x4, x5⟩, x6, x7, x8, x9, x10⟩
      go_simp
      try simp only [hw1, hwk, hpk, hk2, if_pos hkk]
      try with_reducible rfl
     try simp only [zP, zQ, zA2, zA3]
     refine zU 6 ?_ rfl ?_ ?_
     rotate_left
     ·rintro w ⟨⟨x1, x2, x3, x4, x5⟩, x6, x7, x8, x9, x10⟩
      go_simp
      try simp only [hw1, hwk, hpk, hk2, if_pos hkk]
      try with_reducible rfl
     try simp only [zP, zQ, zA2, zA3]
     refine zV 7 (h := zV 8 (h := zV 9 (h := zV 10 (h := ?_))))
     try simp only [zP, zQ, zA2, zA3]
     refine zN 11 fun K hKK => ?_
     go_simp
     go_at_call 107
     refine (hK _ (Below.refl _ _).drew).mono ?_
     rintro e w5 ⟨rfl, hb5⟩
     have hr5 := (HRW.out.below (Below.refl _ _).drew).below hb5
     have d1 := hr5.cell (i := k) (by omega)
     have d2 := hr5.cell (i := h) (by omega)
     rw [HX.out.1, HP.out.1] at d1
     rw [HX.out.2, HP.out.2] at d2
     have hg5 := gb_below HGG.out (bstep (Below.refl _ _).drew hb5)
     go_wp2_with fail
     refine hKK.out _ _ ?_ (fun hHeld => ?_)
     ·exact ⟨d1, d2⟩
     clear hKK K
     try simp only [zP, zQ, zA2, zA3]
     refine zN 12 fun K hKK => ?_
     go_simp
     refine hKK.out _ _ ?_ (fun hHeld => ?_)
     ·exact hHeld
     clear hKK K
     try simp only [zP, zQ, zA2, zA3]
     refine zN 13 fun K hKK => ?_
     go_simp
     refine hKK.out _ _ ?_ (fun hHeld => ?_)
     ·exact hHeld
     clear hKK K
     try simp only [zP, zQ, zA2, zA3]
     refine wpAnyH_done (by kernel_rfl) ?_ _
     have HR5 := Lib.hid hr5
     have HG5 := Lib.hid hg5
     clear c10 c11 c12 c13 c14 c20 c21 c22 c23 c24 hK hb5 hr5 hg5 hHeld
     go_wp2
     go_roundw
     case rel => exact ⟨h + 1, r, by go_num, rfl, HB, by omega, by omega, hj1, HR5.out, HG5.out⟩
     case measure => simp [RowKit.intOf]; omega
   ·obtain rfl : s = r := by omega
    have hd := Srch.done ho HN.out (by rw [HL.out]; exact hb) (show a < m by omega) (show m < b by omega) (by rw [HMID.out, HLH.out.1, HLH.out.2]; exact HI.out)
    rw [HMID.out] at hd
    obtain ⟨e, he⟩ : ∃ e, mid + m - s = e := ⟨_, rfl⟩
    rw [he] at hd
    obtain ⟨f1, f2, f3, f4, f5, f6, f7⟩ := hd
    have hei : (mid : Int) + (m : Int) - (s : Int) = (e : Int) := by omega
    have hR0 := fun (h1 : s < m) (h2 : m < e) => rotateP_any F L B g n cap bx s m e wr hrow h1 h2 (by omega) hn1
    have HR0 := Lib.hid hR0
    have HRW0 := Lib.hid hrow
    have HGG0 := Lib.hid hg
    clear hR0 hrow hg HI he
    rcases (show (s < m ∧ m < e) ∨ (s < m ∧ ¬ m < e) ∨ ¬ s < m by omega) with ⟨z1, z2⟩ | ⟨z1, z2⟩ | z1
    all_goals
     first
     |have q8 : m < e := z2
      have z1i : (s : Int) < (m : Int) := by omega
      have z2i : (m : Int) < (e : Int) := by omega
      have hR := HR0.out z1 z2
      unfold RowPostP cmpP at hR
      clear HR0
      go_wp2_with fail
      with_reducible refine hR.mono ?_
      rintro e5 w5 ⟨M, rfl, hrot, hr5, hg5⟩
      have HRW := Lib.hid hr5
      have HGG := Lib.hid (HGG0.out.trans hg5)
      clear hR hr5 hg5 HRW0 HGG0
      have hH := halves_of ho HS1.out HS2.out HT.out f1 f2 f3 f4 f6 f7 hrot
      obtain ⟨v1, v2, v3, v4, v5, v6, v7⟩ := hH
      rw [f5] at v2 v3 v5 v6 v7
      have HPM := Lib.hid (hrot.perm.wide f1 f4)
      have HNDM := Lib.hid (HPM.out.perm.nodup_iff.2 HN.out)
      have HBEL := Lib.hid v5
      have HV := Lib.hid (And.intro v1 (And.intro v2 (And.intro v3 (And.intro v4 (And.intro v6 v7)))))
      clear v1 v2 v3 v4 v5 v6 v7 hrot
      clear q8
     |have q8 : ¬ m < e := z2
      have z1i : (s : Int) < (m : Int) := by omega
      have z2i : ¬ (m : Int) < (e : Int) := by omega
      obtain ⟨M, hML⟩ : ∃ M, L = M := ⟨_, rfl⟩
      have hrot0 := RotR.refl (s := s) (m := m) (e := e) f2 f3 L (.inr (by omega))
      have hrot : RotR s m e L M := by rw [← hML]; exact hrot0
      have HRWm : Hid (RowP F wr B g n cap M) := by rw [← hML]; exact HRW0
      clear hML hrot0
      have HRW := HRWm
      have HGG := HGG0
      clear HR0
      have hH := halves_of ho HS1.out HS2.out HT.out f1 f2 f3 f4 f6 f7 hrot
      obtain ⟨v1, v2, v3, v4, v5, v6, v7⟩ := hH
      rw [f5] at v2 v3 v5 v6 v7
      have HPM := Lib.hid (hrot.perm.wide f1 f4)
      have HNDM := Lib.hid (HPM.out.perm.nodup_iff.2 HN.out)
      have HBEL := Lib.hid v5
      have HV := Lib.hid (And.intro v1 (And.intro v2 (And.intro v3 (And.intro v4 (And.intro v6 v7)))))
      clear v1 v2 v3 v4 v5 v6 v7 hrot
      clear q8
     |have q8 : ¬ s < m := z1
      have z1i : ¬ (s : Int) < (m : Int) := by omega
      obtain ⟨M, hML⟩ : ∃ M, L = M := ⟨_, rfl⟩
      have hrot0 := RotR.refl (s := s) (m := m) (e := e) f2 f3 L (.inl (by omega))
      have hrot : RotR s m e L M := by rw [← hML]; exact hrot0
      have HRWm : Hid (RowP F wr B g n cap M) := by rw [← hML]; exact HRW0
      clear hML hrot0
      have HRW := HRWm
      have HGG := HGG0
      clear HR0
      have hH := halves_of ho HS1.out HS2.out HT.out f1 f2 f3 f4 f6 f7 hrot
      obtain ⟨v1, v2, v3, v4, v5, v6, v7⟩ := hH
      rw [f5] at v2 v3 v5 v6 v7
      have HPM := Lib.hid (hrot.perm.wide f1 f4)
      have HNDM := Lib.hid (HPM.out.perm.nodup_iff.2 HN.out)
      have HBEL := Lib.hid v5
      have HV := Lib.hid (And.intro v1 (And.intro v2 (And.intro v3 (And.intro v4 (And.intro v6 v7)))))
      clear v1 v2 v3 v4 v5 v6 v7 hrot
      clear q8
     rcases (show (a < s ∧ s < mid) ∨ (a < s ∧ ¬ s < mid) ∨ ¬ a < s by omega) with ⟨y1, y2⟩ | ⟨y1, y2⟩ | y1
     all_goals
      first
      |have q9 : s < mid := y2
       have y1i : (a : Int) < (s : Int) := by omega
       have y2i : (s : Int) < (mid : Int) := by omega
       have hI := HIH.out M a s mid _ (by omega) HRW.out HNDM.out y1 y2 (by omega) (HC.out.next HGG.out HPM.out.perm) HV.out.1 HV.out.2.1 HV.out.2.2.2.2.1
       unfold SortP cmpP at hI
       go_wp2_with fail
       with_reducible refine hI.mono ?_
       rintro e6 w6 ⟨M1, rfl, p1, s1, r1, g1⟩
       have HP1 := Lib.hid p1
       have HRW1 := Lib.hid r1
       have HGW1 := Lib.hid (HGG.out.trans g1)
       have HPW1 := Lib.hid (HPM.out.trans (HP1.out.wide (Nat.le_refl a) (show mid ≤ b by omega)))
       have HND1 := Lib.hid (HPW1.out.perm.nodup_iff.2 HN.out)
       have hsame : ∀ q, mid ≤ q → ga M1 q = ga M q := fun q hq => HP1.out.out q (by omega)
       have HH := Lib.hid (And.intro (show Srt lt M1 a mid from s1) (And.intro (HV.out.2.2.1.same (fun q h1 _ => hsame q h1)) (And.intro (HV.out.2.2.2.1.same (fun q h1 _ => hsame q (by omega))) (show Tst cm lt M1 mid e b from fun p q h1 h2 h3 h4 => by rw [hsame p h1, hsame q (by omega)]; exact HV.out.2.2.2.2.2 p q h1 h2 h3 h4))))
       clear hsame p1 s1 r1 g1 hI
       clear q9
      |have q9 : ¬ s < mid := y2
       have y1i : (a : Int) < (s : Int) := by omega
       have y2i : ¬ (s : Int) < (mid : Int) := by omega
       obtain ⟨M1, hM1⟩ : ∃ M1, M1 = M := ⟨_, rfl⟩
       subst hM1
       have HP1 := Lib.hid (PermIn.refl a mid M1)
       have HRW1 := Lib.hid HRW.out
       have HGW1 := Lib.hid HGG.out
       have HPW1 := Lib.hid (HPM.out.trans (HP1.out.wide (Nat.le_refl a) (show mid ≤ b by omega)))
       have HND1 := Lib.hid (HPW1.out.perm.nodup_iff.2 HN.out)
       have hsame : ∀ q, mid ≤ q → ga M1 q = ga M1 q := fun q hq => HP1.out.out q (by omega)
       have HH := Lib.hid (And.intro (show Srt lt M1 a mid from (HV.out.1.sub (Nat.le_refl _) (by omega))) (And.intro (HV.out.2.2.1.same (fun q h1 _ => hsame q h1)) (And.intro (HV.out.2.2.2.1.same (fun q h1 _ => hsame q (by omega))) (show Tst cm lt M1 mid e b from fun p q h1 h2 h3 h4 => by rw [hsame p h1, hsame q (by omega)]; exact HV.out.2.2.2.2.2 p q h1 h2 h3 h4))))
       clear hsame
       clear q9
      |have q9 : ¬ a < s := y1
       have y1i : ¬ (a : Int) < (s : Int) := by omega
       obtain ⟨M1, hM1⟩ : ∃ M1, M1 = M := ⟨_, rfl⟩
       subst hM1
       have HP1 := Lib.hid (PermIn.refl a mid M1)
       have HRW1 := Lib.hid HRW.out
       have HGW1 := Lib.hid HGG.out
       have HPW1 := Lib.hid (HPM.out.trans (HP1.out.wide (Nat.le_refl a) (show mid ≤ b by omega)))
       have HND1 := Lib.hid (HPW1.out.perm.nodup_iff.2 HN.out)
       have hsame : ∀ q, mid ≤ q → ga M1 q = ga M1 q := fun q hq => HP1.out.out q (by omega)
       have HH := Lib.hid (And.intro (show Srt lt M1 a mid from (HV.out.2.1.sub (by omega) (Nat.le_refl _))) (And.intro (HV.out.2.2.1.same (fun q h1 _ => hsame q h1)) (And.intro (HV.out.2.2.2.1.same (fun q h1 _ => hsame q (by omega))) (show Tst cm lt M1 mid e b from fun p q h1 h2 h3 h4 => by rw [hsame p h1, hsame q (by omega)]; exact HV.out.2.2.2.2.2 p q h1 h2 h3 h4))))
       clear hsame
       clear q9
      by_cases x1 : mid < e
      ·have x1i : (mid : Int) < (e : Int) := by omega
       by_cases x2 : e < b
       ·have x2i : (e : Int) < (b : Int) := by omega
        have hI := HIH.out M1 mid e b _ (by omega) HRW1.out HND1.out (by omega) (by omega) hb (HC.out.next HGW1.out HPW1.out.perm) HH.out.2.1 HH.out.2.2.1 HH.out.2.2.2
        unfold SortP cmpP at hI
        go_wp2_with fail
        with_reducible refine hI.mono ?_
        rintro e7 w7 ⟨M2, rfl, p2, s2, r2, g2⟩
        have hF := halves_done HNDM.out (by rw [HPM.out.len, HL.out]; exact hb) (by omega) (by omega) HBEL.out HP1.out HH.out.1 p2 s2
        have HF := Lib.hid (And.intro (HPW1.out.trans (p2.wide (by omega) (Nat.le_refl _))) (And.intro hF (And.intro r2 (HGW1.out.trans g2))))
        clear hI hF p2 s2 r2 g2
        go_wp2
        go_end0
        first | exact ⟨M2, rfl, HF.out⟩ | exact ⟨rfl, M2, HF.out⟩
       ·have x2i : ¬ (e : Int) < (b : Int) := by omega
        have hF := halves_done HNDM.out (by rw [HPM.out.len, HL.out]; exact hb) (by omega) (by omega) HBEL.out HP1.out HH.out.1 (PermIn.refl mid b M1) (HH.out.2.1.sub (Nat.le_refl _) (by omega))
        have HF := Lib.hid (And.intro HPW1.out (And.intro hF (And.intro HRW1.out HGW1.out)))
        clear hF
        go_wp2
        go_end0
        first | exact ⟨M1, rfl, HF.out⟩ | exact ⟨rfl, M1, HF.out⟩
      ·have x1i : ¬ (mid : Int) < (e : Int) := by omega
       have hF := halves_done HNDM.out (by rw [HPM.out.len, HL.out]; exact hb) (by omega) (by omega) HBEL.out HP1.out HH.out.1 (PermIn.refl mid b M1) (HH.out.2.2.1.sub (by omega) (Nat.le_refl _))
       have HF := Lib.hid (And.intro HPW1.out (And.intro hF (And.intro HRW1.out HGW1.out)))
       clear hF
       go_wp2
       go_end0
       first | exact ⟨M1, rfl, HF.out⟩ | exact ⟨rfl, M1, HF.out⟩
end Go.Mk
