/-
  Proved: slices.symMergeCmpFunc of places merges two sorted neighbours in place, where the second range has one element. Conditions: the places lie in a row of the caller's own; the comparison leaves what was there.
  Proved: slices.symMergeCmpFunc of places merges two sorted neighbours in place, where both ranges have more elements. Conditions: the places lie in a row of the caller's own; the comparison leaves what was there.
  Proved: slices.stableCmpFunc and slices.SortStableFunc of up to 40 places sort them in place, where the comparison of one with an earlier one answers as a strict order does. Conditions: the places lie in a row of the caller's own; the comparison leaves what was there.
  Proved: slices.Values of places yields them in their order, as long as the body asks for more. Conditions: there are at most 1,000 places, in cells that lie where the slice says.
  Proved: slices.AppendSeq and slices.Collect of slices.Values of places make a row of the same places in new memory. Conditions: there are at most 1,000 places, in cells that lie where the slice says.
-/
import Derived.Test.YthgkaojplomapaaGreatDoorFpa
import Derived.RangeFuncNested
import Derived.RangeFuncBound
import Derived.RangeFuncCalls
import Derived.RangeFuncLeaves
import Derived.RangeFuncBox
import Derived.RangeFuncFrom
import Derived.Shelf.Abstract
import Derived.WalkKit
import Derived.OwnWalkIn
import Derived.TacticsInMore
import Derived.LoopNIn
import Derived.LoopIn
import Derived.Maps.AppendAt
section
set_option linter.unusedVariables false
set_option linter.unusedSimpArgs false
open Go Go.Proofs Go.RowKit Go.Sort
set_option maxRecDepth 100000
namespace Go.Mk
set_option maxHeartbeats 4000000 in
theorem symBP_any (F : Int → Plc) {lt : Int → Int → Prop} (ho : Ord lt) (cm : Int → Int → Int) (L : List Int) (B g n cap bx a m b : Nat) (w : World) (hr : RowP F w B g n cap L) (hn : L.Nodup) (hm : b = m + 1) (hab : a + 1 < m) (hb : b ≤ n) (hn1 : n ≤ 100000) (hC : CmpP F w g bx cm L)
  (hs : Srt lt L a m) (hT : Tst cm lt L a m b) :
  Calls Tryz.prog 259 #[.slice (some ⟨g, 0, none⟩) n cap, .int .i64 (a : Nat), .int .i64 (m : Nat), .int .i64 (b : Nat), cmpP bx] w (SortP F w B g n cap lt L a b) := by
 have hni : (n : Int) ≤ 100000 := by omega
 have hbi : (b : Int) ≤ (n : Int) := by omega
 have ham : (b : Int) - (m : Int) = 1 := by omega
 obtain ⟨D, hD⟩ : ∃ D : Int, (m : Int) - (a : Int) = D := ⟨_, rfl⟩
 have hD1 : (D == 1) = false := by simp; omega
 have hD2 : ¬ D = 1 := by omega
 have HMM := Lib.hid hm
 have HC := Lib.hid hC
 have HT := Lib.hid hT
 have HSR := Lib.hid hs
 have HL := Lib.hid hr.1
 have HN := Lib.hid hn
 have HR := Lib.hid hr
 unfold cmpP SortP
 clear hC hT hn hr hs hm
 go_enter Tryz.func259, Tryz.ntmps259
 go_wp2
 go_loopw [14, 15] (fun iv jv wr => ∃ (i j : Nat), iv = .int .i64 i ∧ jv = .int .i64 j ∧ Hid (Bin lt L (ga L m) a m i j) ∧ a ≤ i ∧ i ≤ j ∧ j ≤ m ∧ RowP F wr B g n cap L ∧ w.grownBy wr (some g)) (fun iv jv _ => (RowKit.intOf jv).toNat - (RowKit.intOf iv).toNat)
 case atStart => exact ⟨a, m, rfl, rfl, Lib.hid (Bin.start (by omega)), by omega, by omega, by omega, HR.out, World.grownBy.refl _ _⟩
 case round =>
  obtain ⟨i, j, rfl, rfl, HI, hi1, hij, hj1, hrow, hg⟩ := hrel
  by_cases hlt : i < j
  ·have hki : (i : Int) < (j : Int) := by omega
   obtain ⟨h, hh⟩ : ∃ h : Nat, ((i : Int) + (j : Int)) / 2 = (h : Int) := ⟨(i + j) / 2, by omega⟩
   have hih : i ≤ h := by omega
   have hhj : h < j := by omega
   have h0 : (0 : Int) ≤ (h : Int) := by omega
   have h1 : (h : Int) < (n : Int) := by omega
   have h2 : ((h : Int)).toNat = h := by omega
   have a0 : (0 : Int) ≤ (m : Int) := by omega
   have a1 : (m : Int) < (n : Int) := by omega
   have a2 : ((m : Int)).toNat = m := by omega
   have c1 := hrow.cell (i := h) (by omega)
   have c2 := hrow.cell (i := m) (by omega)
   have t1 := HT.out h m (by omega) (by omega) (by omega) (by omega)
   have hK : ∀ w', Below wr.heap.size wr w' → Calls Tryz.prog 107 #[(F (ga L m)).val, (F (ga L h)).val, .pointer (some ⟨bx, 0, none⟩)] w' (RetPost (.int .i64 (cm (ga L m) (ga L h))) w') := fun w' hb' => HC.out w' (gb_below hg hb') _ _ (List.mem_of_getElem? (ga_at (by rw [HL.out]; omega))) (List.mem_of_getElem? (ga_at (by rw [HL.out]; omega)))
   have hne : ga L h ≠ ga L m := fun q => by
    have e2 : L[h]? = L[m]? := by rw [ga_at (by rw [HL.out]; omega), ga_at (by rw [HL.out]; omega), q]
    have := (List.getElem?_inj (show h < L.length by rw [HL.out]; omega) HN.out).1 e2
    omega
   have hbR := fun q => HI.out.right ho HSR.out hih hhj q
   have hbL := fun q => HI.out.left ho HSR.out hih hhj q
   obtain ⟨x, hx⟩ : ∃ x, ga L h = x := ⟨_, rfl⟩
   obtain ⟨y, hy⟩ : ∃ y, ga L m = y := ⟨_, rfl⟩
   rw [hx] at c1 hK t1 hne hbR hbL
   rw [hy] at c2 hK t1 hne hbR hbL
   obtain ⟨p1, hp1⟩ : ∃ p, F x = p := ⟨_, rfl⟩
   obtain ⟨p2, hp2⟩ : ∃ p, F y = p := ⟨_, rfl⟩
   rw [hp1] at c1 hK
   rw [hp2] at c2 hK
   have HP := Lib.hid (And.intro hp1 hp2)
   obtain ⟨na1, rk1, kd1, vl1, rs1⟩ := p1
   obtain ⟨na2, rk2, kd2, vl2, rs2⟩ := p2
   obtain ⟨c10, c11, c12, c13, c14⟩ := c1
   obtain ⟨c20, c21, c22, c23, c24⟩ := c2
   unfold Plc.val at hK
   dsimp only at c10 c11 c12 c13 c14 c20 c21 c22 c23 c24 hK
   clear hp1 hp2
   have HX := Lib.hid (And.intro hx hy)
   have HRW := Lib.hid hrow
   have HGG := Lib.hid hg
   clear hx hy hrow hg
   obtain ⟨s, hsv⟩ : ∃ s, cm y x = s := ⟨_, rfl⟩
   rw [hsv] at hK t1
   clear hsv
   by_cases hlt0 : s < 0
   ·have HB := Lib.hid (hbL (t1.1 hlt0))
    clear hbR hbL t1 hne
    go_wp2
    refine wp_region_held_drew (S := fun w' => (w'.cell? ⟨g, h * 5, none⟩ = some (.string na1) ∧ w'.cell? ⟨g, h * 5 + 1, none⟩ = some (.int .i64 rk1) ∧ w'.cell? ⟨g, h * 5 + 2, none⟩ = some (.string kd1) ∧ w'.cell? ⟨g, h * 5 + 3, none⟩ = some (.int .i64 vl1) ∧ w'.cell? ⟨g, h * 5 + 4, none⟩ = some (.string rs1)) ∧ w'.cell? ⟨g, m * 5, none⟩ = some (.string na2) ∧ w'.cell? ⟨g, m * 5 + 1, none⟩ = some (.int .i64 rk2) ∧ w'.cell? ⟨g, m * 5 + 2, none⟩ = some (.string kd2) ∧ w'.cell? ⟨g, m * 5 + 3, none⟩ = some (.int .i64 vl2) ∧ w'.cell? ⟨g, m * 5 + 4, none⟩ = some (.string rs2)) (by kernel_rfl) ?_ (fun hHeld => ?_)
    ·exact ⟨⟨c10, c11, c12, c13, c14⟩, c20, c21, c22, c23, c24⟩
    refine zT (i := 0) (v := ?_) rfl (Or.inl ⟨by kernel_rfl, ?_⟩) ?_
    rotate_left
    ·rintro w ⟨⟨x1, x2, x3, x4, x5⟩, x6, x7, x8, x9, x10⟩
     go_simp
     try with_reducible rfl
    try simp only [Act.put, zA1, zA2, zA3, zA4, zA5, zA6]
    refine zT (i := 1) (v := ?_) rfl (Or.inl ⟨by kernel_rfl, ?_⟩) ?_
    rotate_left
    ·rintro w ⟨⟨x1, x2, x3, x4, x5⟩, x6, x7, x8, x9, x10⟩
     go_simp
     try with_reducible rfl
    try simp only [Act.put, zA1, zA2, zA3, zA4, zA5, zA6]
    refine zT (i := 2) (v := ?_) rfl (Or.inl ⟨by kernel_rfl, ?_⟩) ?_
    rotate_left
    ·rintro w ⟨⟨x1, x2, x3, x4, x5⟩, x6, x7, x8, x9, x10⟩
     go_simp
     try with_reducible rfl
    try simp only [Act.put, zA1, zA2, zA3, zA4, zA5, zA6]
    refine zT (i := 3) (v := ?_) rfl (Or.inl ⟨by kernel_rfl, ?_⟩) ?_
    rotate_left
    ·rintro w ⟨⟨x1, x2, x3, x4, x5⟩, x6, x7, x8, x9, x10⟩
     go_simp
     try with_reducible rfl
    try simp only [Act.put, zA1, zA2, zA3, zA4, zA5, zA6]
    refine zT (i := 4) (v := ?_) rfl (Or.inl ⟨by kernel_rfl, ?_⟩) ?_
    rotate_left
    ·rintro w ⟨⟨x1, x2, x3, x4, x5⟩, x6, x7, x8, x9, x10⟩
     go_simp
     try with_reducible rfl
    try simp only [Act.put, zA1, zA2, zA3, zA4, zA5, zA6]
    refine zT (i := 5) (v := ?_) rfl (Or.inl ⟨by kernel_rfl, ?_⟩) ?_
    rotate_left
    ·rintro w ⟨⟨x1, x2, x3, x4, x5⟩, x6, x7, x8, x9, x10⟩
     go_simp
     try with_reducible rfl
    try simp only [Act.put, zA1, zA2, zA3, zA4, zA5, zA6]
    refine zT (i := 6) (v := ?_) rfl (Or.inl ⟨by kernel_rfl, ?_⟩) ?_
    rotate_left
    ·rintro w ⟨⟨x1, x2, x3, x4, x5⟩, x6, x7, x8, x9, x10⟩
     go_simp
     try with_reducible rfl
    try simp only [Act.put, zA1, zA2, zA3, zA4, zA5, zA6]
    refine zT (i := 7) (v := ?_) rfl (Or.inl ⟨by kernel_rfl, ?_⟩) ?_
    rotate_left
    ·rintro w ⟨⟨x1, x2, x3, x4, x5⟩, x6, x7, x8, x9, x10⟩
     go_simp
     try with_reducible rfl
    try simp only [Act.put, zA1, zA2, zA3, zA4, zA5, zA6]
    refine zT (i := 8) (v := ?_) rfl (Or.inl ⟨by kernel_rfl, ?_⟩) ?_
    rotate_left
    ·rintro w ⟨⟨x1, x2, x3, x4, x5⟩, x6, x7, x8, x9, x10⟩
     go_simp
     try with_reducible rfl
    try simp only [Act.put, zA1, zA2, zA3, zA4, zA5, zA6]
    refine wpAnyH_ready (rs := [9]) (by kernel_rfl) (by simp) ?_
    refine AllReadyH.cons (o := _) rfl (fun K hKK => ?_) AllReadyH.nil
    go_simp
    go_at_call 107
    refine (hK _ (Below.refl _ _).drew).mono ?_
    rintro e w5 ⟨rfl, hb5⟩
    have hr5 := (HRW.out.below (Below.refl _ _).drew).below hb5
    have d1 := hr5.cell (i := h) (by omega)
    have d2 := hr5.cell (i := m) (by omega)
    rw [HX.out.1, HP.out.1] at d1
    rw [HX.out.2, HP.out.2] at d2
    have hg5 := gb_below HGG.out (bstep (Below.refl _ _).drew hb5)
    go_wp2_with fail
    refine hKK.out _ _ ?_ (fun hHeld => ?_)
    ·exact ⟨d1, d2⟩
    clear hKK K
    try simp only [Act.put, zA1, zA2, zA3, zA4, zA5, zA6]
    refine wpAnyH_ready (rs := [10]) (by kernel_rfl) (by simp) ?_
    refine AllReadyH.cons (o := _) rfl (fun K hKK => ?_) AllReadyH.nil
    go_simp
    refine hKK.out _ _ ?_ (fun hHeld => ?_)
    ·exact hHeld
    clear hKK K
    try simp only [Act.put, zA1, zA2, zA3, zA4, zA5, zA6]
    refine wpAnyH_ready (rs := [11]) (by kernel_rfl) (by simp) ?_
    refine AllReadyH.cons (o := _) rfl (fun K hKK => ?_) AllReadyH.nil
    go_simp
    refine hKK.out _ _ ?_ (fun hHeld => ?_)
    ·exact hHeld
    clear hKK K
    try simp only [Act.put, zA1, zA2, zA3, zA4, zA5, zA6]
    refine wpAnyH_done (by kernel_rfl) ?_ _
    have HR5 := Lib.hid hr5
    have HG5 := Lib.hid hg5
    clear c10 c11 c12 c13 c14 c20 c21 c22 c23 c24 hK hb5 hr5 hg5 hHeld
    go_wp2
    go_roundw
    case rel => exact ⟨i, h, rfl, by go_num, by rw [HX.out.2]; exact HB, hi1, by omega, by omega, HR5.out, HG5.out⟩
    case measure => simp [RowKit.intOf]; omega
   ·have HB := Lib.hid (hbR ((ho.tri hne).resolve_right (fun q => hlt0 (t1.2 q))))
    clear hbR hbL t1 hne
    have hge : 0 ≤ s := by omega
    have hdf : decide (s < 0) = false := decide_eq_false hlt0
    go_wp2
    refine wp_region_held_drew (S := fun w' => (w'.cell? ⟨g, h * 5, none⟩ = some (.string na1) ∧ w'.cell? ⟨g, h * 5 + 1, none⟩ = some (.int .i64 rk1) ∧ w'.cell? ⟨g, h * 5 + 2, none⟩ = some (.string kd1) ∧ w'.cell? ⟨g, h * 5 + 3, none⟩ = some (.int .i64 vl1) ∧ w'.cell? ⟨g, h * 5 + 4, none⟩ = some (.string rs1)) ∧ w'.cell? ⟨g, m * 5, none⟩ = some (.string na2) ∧ w'.cell? ⟨g, m * 5 + 1, none⟩ = some (.int .i64 rk2) ∧ w'.cell? ⟨g, m * 5 + 2, none⟩ = some (.string kd2) ∧ w'.cell? ⟨g, m * 5 + 3, none⟩ = some (.int .i64 vl2) ∧ w'.cell? ⟨g, m * 5 + 4, none⟩ = some (.string rs2)) (by kernel_rfl) ?_ (fun hHeld => ?_)
    ·exact ⟨⟨c10, c11, c12, c13, c14⟩, c20, c21, c22, c23, c24⟩
    refine zT (i := 0) (v := ?_) rfl (Or.inl ⟨by kernel_rfl, ?_⟩) ?_
    rotate_left
    ·rintro w ⟨⟨x1, x2, x3, x4, x5⟩, x6, x7, x8, x9, x10⟩
     go_simp
     try with_reducible rfl
    try simp only [Act.put, zA1, zA2, zA3, zA4, zA5, zA6]
    refine zT (i := 1) (v := ?_) rfl (Or.inl ⟨by kernel_rfl, ?_⟩) ?_
    rotate_left
    ·rintro w ⟨⟨x1, x2, x3, x4, x5⟩, x6, x7, x8, x9, x10⟩
     go_simp
     try with_reducible rfl
    try simp only [Act.put, zA1, zA2, zA3, zA4, zA5, zA6]
    refine zT (i := 2) (v := ?_) rfl (Or.inl ⟨by kernel_rfl, ?_⟩) ?_
    rotate_left
    ·rintro w ⟨⟨x1, x2, x3, x4, x5⟩, x6, x7, x8, x9, x10⟩
     go_simp
     try with_reducible rfl
    try simp only [Act.put, zA1, zA2, zA3, zA4, zA5, zA6]
    refine zT (i := 3) (v := ?_) rfl (Or.inl ⟨by kernel_rfl, ?_⟩) ?_
    rotate_left
    ·rintro w ⟨⟨x1, x2, x3, x4, x5⟩, x6, x7, x8, x9, x10⟩
     go_simp
     try with_reducible rfl
    try simp only [Act.put, zA1, zA2, zA3, zA4, zA5, zA6]
    refine zT (i := 4) (v := ?_) rfl (Or.inl ⟨by kernel_rfl, ?_⟩) ?_
    rotate_left
    ·rintro w ⟨⟨x1, x2, x3, x4, x5⟩, x6, x7, x8, x9, x10⟩
     go_simp
     try with_reducible rfl
    try simp only [Act.put, zA1, zA2, zA3, zA4, zA5, zA6]
    refine zT (i := 5) (v := ?_) rfl (Or.inl ⟨by kernel_rfl, ?_⟩) ?_
    rotate_left
    ·rintro w ⟨⟨x1, x2, x3, x4, x5⟩, x6, x7, x8, x9, x10⟩
     go_simp
     try with_reducible rfl
    try simp only [Act.put, zA1, zA2, zA3, zA4, zA5, zA6]
    refine zT (i := 6) (v := ?_) rfl (Or.inl ⟨by kernel_rfl, ?_⟩) ?_
    rotate_left
    ·rintro w ⟨⟨x1, x2, x3, x4, x5⟩, x6, x7, x8, x9, x10⟩
     go_simp
     try with_reducible rfl
    try simp only [Act.put, zA1, zA2, zA3, zA4, zA5, zA6]
    refine zT (i := 7) (v := ?_) rfl (Or.inl ⟨by kernel_rfl, ?_⟩) ?_
    rotate_left
    ·rintro w ⟨⟨x1, x2, x3, x4, x5⟩, x6, x7, x8, x9, x10⟩
     go_simp
     try with_reducible rfl
    try simp only [Act.put, zA1, zA2, zA3, zA4, zA5, zA6]
    refine zT (i := 8) (v := ?_) rfl (Or.inl ⟨by kernel_rfl, ?_⟩) ?_
    rotate_left
    ·rintro w ⟨⟨x1, x2, x3, x4, x5⟩, x6, x7, x8, x9, x10⟩
     go_simp
     try with_reducible rfl
    try simp only [Act.put, zA1, zA2, zA3, zA4, zA5, zA6]
    refine wpAnyH_ready (rs := [9]) (by kernel_rfl) (by simp) ?_
    refine AllReadyH.cons (o := _) rfl (fun K hKK => ?_) AllReadyH.nil
    go_simp
    go_at_call 107
    refine (hK _ (Below.refl _ _).drew).mono ?_
    rintro e w5 ⟨rfl, hb5⟩
    have hr5 := (HRW.out.below (Below.refl _ _).drew).below hb5
    have d1 := hr5.cell (i := h) (by omega)
    have d2 := hr5.cell (i := m) (by omega)
    rw [HX.out.1, HP.out.1] at d1
    rw [HX.out.2, HP.out.2] at d2
    have hg5 := gb_below HGG.out (bstep (Below.refl _ _).drew hb5)
    go_wp2_with fail
    refine hKK.out _ _ ?_ (fun hHeld => ?_)
    ·exact ⟨d1, d2⟩
    clear hKK K
    try simp only [Act.put, zA1, zA2, zA3, zA4, zA5, zA6]
    refine wpAnyH_ready (rs := [10]) (by kernel_rfl) (by simp) ?_
    refine AllReadyH.cons (o := _) rfl (fun K hKK => ?_) AllReadyH.nil
    go_simp
    refine hKK.out _ _ ?_ (fun hHeld => ?_)
    ·exact hHeld
    clear hKK K
    try simp only [Act.put, zA1, zA2, zA3, zA4, zA5, zA6]
    refine wpAnyH_ready (rs := [11]) (by kernel_rfl) (by simp) ?_
    refine AllReadyH.cons (o := _) rfl (fun K hKK => ?_) AllReadyH.nil
    go_simp
    refine hKK.out _ _ ?_ (fun hHeld => ?_)
    ·exact hHeld
    clear hKK K
    try simp only [Act.put, zA1, zA2, zA3, zA4, zA5, zA6]
    refine wpAnyH_done (by kernel_rfl) ?_ _
    have HR5 := Lib.hid hr5
    have HG5 := Lib.hid hg5
    clear c10 c11 c12 c13 c14 c20 c21 c22 c23 c24 hK hb5 hr5 hg5 hHeld
    go_wp2
    go_roundw
    case rel => exact ⟨h + 1, j, by go_num, rfl, by rw [HX.out.2]; exact HB, by omega, by omega, hj1, HR5.out, HG5.out⟩
    case measure => simp [RowKit.intOf]; omega
  ·obtain rfl : i = j := by omega
   have HRW := Lib.hid hrow
   have HGG := Lib.hid hg
   clear hrow hg
   go_wp2
   go_loopw [17] (fun kv wr => ∃ (k : Nat) (M : List Int), kv = .int .i64 k ∧ i ≤ k ∧ k ≤ m ∧ Hid (ShD a m k L M) ∧ RowP F wr B g n cap M ∧ w.grownBy wr (some g)) (fun kv _ => (RowKit.intOf kv).toNat)
   case atStart => exact ⟨m, L, rfl, by omega, by omega, Lib.hid (ShD.start _ _ _), HRW.out, HGG.out⟩
   case round =>
    obtain ⟨k, M, rfl, hk2, hk3, HS, hrow, hg⟩ := hrel
    by_cases hlt2 : i < k
    ·have hki : (i : Int) < (k : Int) := by omega
     have d1 := hrow.cell (i := k) (by omega)
     have d2 := hrow.cell (i := k - 1) (by omega)
     have fz := hrow.froz
     obtain ⟨x, hx⟩ : ∃ x, ga M k = x := ⟨_, rfl⟩
     obtain ⟨y, hy⟩ : ∃ y, ga M (k - 1) = y := ⟨_, rfl⟩
     rw [hx] at d1
     rw [hy] at d2
     have h1 := hrow.swapD (i := k - 1) (j := k) (by omega) (by omega)
     rw [hx, hy] at h1
     obtain ⟨p1, hp1⟩ : ∃ p, F x = p := ⟨_, rfl⟩
     obtain ⟨p2, hp2⟩ : ∃ p, F y = p := ⟨_, rfl⟩
     rw [hp1] at d1 h1
     rw [hp2] at d2 h1
     obtain ⟨na1, rk1, kd1, vl1, rs1⟩ := p1
     obtain ⟨na2, rk2, kd2, vl2, rs2⟩ := p2
     have gx := grown5 (grown5 (World.grownBy.refl wr (some g)) (k * 5) ⟨na2, rk2, kd2, vl2, rs2⟩) ((k - 1) * 5) ⟨na1, rk1, kd1, vl1, rs1⟩
     unfold set5 at h1 gx
     dsimp only at h1 gx
     have H1 := Lib.hid h1
     have GX := Lib.hid gx
     obtain ⟨d10, d11, d12, d13, d14⟩ := d1
     obtain ⟨d20, d21, d22, d23, d24⟩ := d2
     dsimp only at d10 d11 d12 d13 d14 d20 d21 d22 d23 d24
     have z10 := fz (k * 5)
     have z20 := fz ((k - 1) * 5)
     have z11 := fz (k * 5 + 1)
     have z21 := fz ((k - 1) * 5 + 1)
     have z12 := fz (k * 5 + 2)
     have z22 := fz ((k - 1) * 5 + 2)
     have z13 := fz (k * 5 + 3)
     have z23 := fz ((k - 1) * 5 + 3)
     have z14 := fz (k * 5 + 4)
     have z24 := fz ((k - 1) * 5 + 4)
     have i0 : ¬ k * 5 = (k - 1) * 5 := by omega
     have i1 : ¬ k * 5 = k * 5 + 1 := by omega
     have i2 : ¬ (k - 1) * 5 = (k - 1) * 5 + 1 := by omega
     have i3 : ¬ k * 5 = (k - 1) * 5 + 1 := by omega
     have i4 : ¬ k * 5 = k * 5 + 2 := by omega
     have i5 : ¬ (k - 1) * 5 = (k - 1) * 5 + 2 := by omega
     have i6 : ¬ k * 5 = (k - 1) * 5 + 2 := by omega
     have i7 : ¬ k * 5 = k * 5 + 3 := by omega
     have i8 : ¬ (k - 1) * 5 = (k - 1) * 5 + 3 := by omega
     have i9 : ¬ k * 5 = (k - 1) * 5 + 3 := by omega
     have i10 : ¬ k * 5 = k * 5 + 4 := by omega
     have i11 : ¬ (k - 1) * 5 = (k - 1) * 5 + 4 := by omega
     have i12 : ¬ k * 5 = (k - 1) * 5 + 4 := by omega
     have i13 : ¬ k * 5 + 1 = (k - 1) * 5 := by omega
     have i14 : ¬ k * 5 + 1 = (k - 1) * 5 + 1 := by omega
     have i15 : ¬ k * 5 + 1 = k * 5 + 2 := by omega
     have i16 : ¬ (k - 1) * 5 + 1 = (k - 1) * 5 + 2 := by omega
     have i17 : ¬ k * 5 + 1 = (k - 1) * 5 + 2 := by omega
     have i18 : ¬ k * 5 + 1 = k * 5 + 3 := by omega
     have i19 : ¬ (k - 1) * 5 + 1 = (k - 1) * 5 + 3 := by omega
     have i20 : ¬ k * 5 + 1 = (k - 1) * 5 + 3 := by omega
     have i21 : ¬ k * 5 + 1 = k * 5 + 4 := by omega
     have i22 : ¬ (k - 1) * 5 + 1 = (k - 1) * 5 + 4 := by omega
     have i23 : ¬ k * 5 + 1 = (k - 1) * 5 + 4 := by omega
     have i24 : ¬ k * 5 + 2 = (k - 1) * 5 := by omega
     have i25 : ¬ k * 5 + 2 = (k - 1) * 5 + 1 := by omega
     have i26 : ¬ k * 5 + 2 = (k - 1) * 5 + 2 := by omega
     have i27 : ¬ k * 5 + 2 = k * 5 + 3 := by omega
     have i28 : ¬ (k - 1) * 5 + 2 = (k - 1) * 5 + 3 := by omega
     have i29 : ¬ k * 5 + 2 = (k - 1) * 5 + 3 := by omega
     have i30 : ¬ k * 5 + 2 = k * 5 + 4 := by omega
     have i31 : ¬ (k - 1) * 5 + 2 = (k - 1) * 5 + 4 := by omega
     have i32 : ¬ k * 5 + 2 = (k - 1) * 5 + 4 := by omega
     have i33 : ¬ k * 5 + 3 = (k - 1) * 5 := by omega
     have i34 : ¬ k * 5 + 3 = (k - 1) * 5 + 1 := by omega
     have i35 : ¬ k * 5 + 3 = (k - 1) * 5 + 2 := by omega
     have i36 : ¬ k * 5 + 3 = (k - 1) * 5 + 3 := by omega
     have i37 : ¬ k * 5 + 3 = k * 5 + 4 := by omega
     have i38 : ¬ (k - 1) * 5 + 3 = (k - 1) * 5 + 4 := by omega
     have i39 : ¬ k * 5 + 3 = (k - 1) * 5 + 4 := by omega
     have i40 : ¬ k * 5 + 4 = (k - 1) * 5 := by omega
     have i41 : ¬ k * 5 + 4 = (k - 1) * 5 + 1 := by omega
     have i42 : ¬ k * 5 + 4 = (k - 1) * 5 + 2 := by omega
     have i43 : ¬ k * 5 + 4 = (k - 1) * 5 + 3 := by omega
     have i44 : ¬ k * 5 + 4 = (k - 1) * 5 + 4 := by omega
     clear fz gx hp1 hp2
     have HST := Lib.hid (HS.out.step (by omega) hk3 (by rw [HL.out]; omega))
     have HG := Lib.hid hg
     have ha0 : (0 : Int) ≤ (k : Int) := by omega
     have ha1 : (k : Int) < (n : Int) := by omega
     have ha2 : ((k : Int)).toNat = k := by omega
     have hb0 : (0 : Int) ≤ (k : Int) - 1 := by omega
     have hb1 : (k : Int) - 1 < (n : Int) := by omega
     have hb2 : ((k : Int) - 1).toNat = k - 1 := by omega
     clear h1 hx hy hrow hg HS
     go_wp2
     go_region
     go_wp2
     go_roundw
     case rel => exact ⟨k - 1, _, by go_num, by omega, by omega, HST, H1.out.below (Below.refl _ _).drew, gb_below (HG.out.trans GX.out) (Below.refl _ _).drew⟩
     case measure => simp [RowKit.intOf]; omega
    ·obtain rfl : k = i := by omega
     have hfin := HS.out.srt HSR.out hi1 hj1 HI.out.low HI.out.up
     have hpm := HS.out.perm
     rw [← HMM.out] at hfin hpm
     have HF := Lib.hid (And.intro hpm (And.intro hfin (And.intro hrow hg)))
     clear hfin hpm hrow hg
     go_wp2
     refine bodyPost_ret (results_none rfl _ _ _) rfl ?_
     exact ⟨M, rfl, HF.out⟩
end Go.Mk
end
section
set_option linter.unusedVariables false
set_option linter.unusedSimpArgs false
open Go Go.Proofs Go.RowKit Go.Sort
set_option maxRecDepth 100000
namespace Go.Mk
theorem CmpP.next {w w' : World} {g bx : Nat} {F : Int → Plc} {cm : Int → Int → Int} {L M : List Int} (h : CmpP F w g bx cm L) (hg : w.grownBy w' (some g)) (hp : M.Perm L) : CmpP F w' g bx cm M :=
 fun w2 h2 x y hx hy => h w2 (hg.trans h2) x y (hp.mem_iff.1 hx) (hp.mem_iff.1 hy)
def SymIHP (F : Int → Plc) (lt : Int → Int → Prop) (cm : Int → Int → Int) (B g n cap bx d : Nat) : Prop :=
 ∀ (L : List Int) (a m b : Nat) (w : World), b - a < d → RowP F w B g n cap L → L.Nodup → a < m → m < b → b ≤ n → CmpP F w g bx cm L → Srt lt L a m → Srt lt L m b → Tst cm lt L a m b →
  Calls Tryz.prog 259 #[.slice (some ⟨g, 0, none⟩) n cap, .int .i64 (a : Nat), .int .i64 (m : Nat), .int .i64 (b : Nat), cmpP bx] w (SortP F w B g n cap lt L a b)
set_option maxHeartbeats 8000000 in
theorem symCP_any (F : Int → Plc) {lt : Int → Int → Prop} (ho : Ord lt) (cm : Int → Int → Int) (L : List Int) (B g n cap bx a m b mid : Nat) (w : World) (hr : RowP F w B g n cap L) (hn : L.Nodup) (ham : a + 1 < m) (hmb : m + 1 < b) (hmid : (a + b) / 2 = mid) (hb : b ≤ n) (hn1 : n ≤ 100000) (hC : CmpP F w g bx cm L)
  (hs1 : Srt lt L a m) (hs2 : Srt lt L m b) (hT : Tst cm lt L a m b) (ih : SymIHP F lt cm B g n cap bx (b - a)) :
  Calls Tryz.prog 259 #[.slice (some ⟨g, 0, none⟩) n cap, .int .i64 (a : Nat), .int .i64 (m : Nat), .int .i64 (b : Nat), cmpP bx] w (SortP F w B g n cap lt L a b) := by
 have hni : (n : Int) ≤ 100000 := by omega
 have hbi : (b : Int) ≤ (n : Int) := by omega
 obtain ⟨D, hD⟩ : ∃ D : Int, (m : Int) - (a : Int) = D := ⟨_, rfl⟩
 have hD1 : (D == 1) = false := by simp; omega
 have hD2 : ¬ D = 1 := by omega
 obtain ⟨D', hD'⟩ : ∃ D' : Int, (b : Int) - (m : Int) = D' := ⟨_, rfl⟩
 have hD'1 : (D' == 1) = false := by simp; omega
 have hD'2 : ¬ D' = 1 := by omega
 have hmi : ((a : Int) + (b : Int)) / 2 = (mid : Int) := by omega
 have HC := Lib.hid hC
 have HT := Lib.hid hT
 have HS1 := Lib.hid hs1
 have HS2 := Lib.hid hs2
 have HIH := Lib.hid ih
 have HL := Lib.hid hr.1
 have HN := Lib.hid hn
 have HR := Lib.hid hr
 have HMID := Lib.hid hmid
 obtain ⟨lo, hlo⟩ : ∃ lo, loS a m b = lo := ⟨_, rfl⟩
 obtain ⟨hi, hhi⟩ : ∃ hi, hiS a m b = hi := ⟨_, rfl⟩
 obtain ⟨k1, k2, k3, k4, k5⟩ := srch_lohi (a := a) (m := m) (b := b) (by omega) (by omega)
 have hcase : (mid < m ∧ lo + b = mid + m ∧ hi = mid) ∨ (¬ mid < m ∧ lo = a ∧ hi = m) := by
  rw [← hlo, ← hhi]
  unfold loS hiS
  rw [hmid]
  by_cases c : mid < m
  ·left; rw [if_pos c, if_pos c]; omega
  ·right; rw [if_neg c, if_neg c]; exact ⟨c, rfl, rfl⟩
 rw [hlo, hhi] at k1
 rw [hlo] at k2 k5
 rw [hhi] at k3 k4
 rw [hmid] at k4 k5
 have HLH := Lib.hid (And.intro hlo hhi)
 unfold cmpP SortP
 clear hC hT hn hr hs1 hs2 ih hmid hlo hhi
 rcases hcase with ⟨q1, q2, q3⟩ | ⟨q1, q2, q3⟩
 ·subst q3
  have q1i : (hi : Int) < (m : Int) := by omega
  have q2i : (hi : Int) + (m : Int) - (b : Int) = (lo : Int) := by omega
  go_enter Tryz.func259, Tryz.ntmps259
  go_wp2
  go_loopw [20, 21] (fun sv rv wr => ∃ (s r : Nat), sv = .int .i64 s ∧ rv = .int .i64 r ∧ Hid (Srch lt L (hi + m) lo hi s r) ∧ lo ≤ s ∧ s ≤ r ∧ r ≤ hi ∧ RowP F wr B g n cap L ∧ w.grownBy wr (some g)) (fun sv rv _ => (RowKit.intOf rv).toNat - (RowKit.intOf sv).toNat)
  case atStart => exact ⟨lo, hi, rfl, rfl, Lib.hid (Srch.start k1), Nat.le_refl _, k1, Nat.le_refl _, HR.out, World.grownBy.refl _ _⟩
  case round =>
   obtain ⟨s, r, rfl, rfl, HI, hi1, hij, hj1, hrow, hg⟩ := hrel
   by_cases hlt : s < r
   ·have hki : (s : Int) < (r : Int) := by omega
    obtain ⟨h, hh⟩ : ∃ h : Nat, ((s : Int) + (r : Int)) / 2 = (h : Int) := ⟨(s + r) / 2, by omega⟩
    have hih : s ≤ h := by omega
    have hhj : h < r := by omega
    obtain ⟨g1, g2, g3, g4⟩ := srch_range (a := a) (m := m) (b := b) (c := h) (by omega) (by omega) (by rw [HLH.out.1]; omega) (by rw [HLH.out.2]; omega)
    rw [HMID.out] at g3 g4
    obtain ⟨k, hk⟩ : ∃ k : Nat, hi + m - 1 - h = k := ⟨_, rfl⟩
    rw [hk] at g3 g4
    have hpk : (hi : Int) + (m : Int) - 1 - (h : Int) = (k : Int) := by omega
    have hw1 : IntKind.i64.wrap ((hi : Int) + (m : Int) - 1 - (h : Int)) = (k : Int) := by rw [hpk]; exact wrapQ _ (by omega)
    have h0 : (0 : Int) ≤ (h : Int) := by omega
    have h1 : (h : Int) < (n : Int) := by omega
    have h2 : ((h : Int)).toNat = h := by omega
    have a0 : (0 : Int) ≤ (k : Int) := by omega
    have a1 : (k : Int) < (n : Int) := by omega
    have hk2 : ((k : Int)).toNat = k := by omega
    have hkk := And.intro a0 a1
    have hwk : IntKind.i64.wrap (k : Int) = (k : Int) := wrapQ _ (by omega)
    have c1 := hrow.cell (i := k) (by omega)
    have c2 := hrow.cell (i := h) (by omega)
    have t1 := HT.out h k g1 g2 g3 g4
    have hK : ∀ w', Below wr.heap.size wr w' → Calls Tryz.prog 107 #[(F (ga L k)).val, (F (ga L h)).val, .pointer (some ⟨bx, 0, none⟩)] w' (RetPost (.int .i64 (cm (ga L k) (ga L h))) w') := fun w' hb' => HC.out w' (gb_below hg hb') _ _ (List.mem_of_getElem? (ga_at (by rw [HL.out]; omega))) (List.mem_of_getElem? (ga_at (by rw [HL.out]; omega)))
    have hU := fun q => HI.out.up (c := h) hih hhj (by rw [hk]; exact q)
    have hDn := fun q => HI.out.down (c := h) hih hhj (by rw [hk]; exact q)
    obtain ⟨x, hx⟩ : ∃ x, ga L k = x := ⟨_, rfl⟩
    obtain ⟨y, hy⟩ : ∃ y, ga L h = y := ⟨_, rfl⟩
    rw [hx] at c1
    rw [hy] at c2
    rw [hx, hy] at hK t1 hU hDn
    obtain ⟨p1, hp1⟩ : ∃ p, F x = p := ⟨_, rfl⟩
    obtain ⟨p2, hp2⟩ : ∃ p, F y = p := ⟨_, rfl⟩
    rw [hp1] at c1 hK
    rw [hp2] at c2 hK
    have HP := Lib.hid (And.intro hp1 hp2)
    obtain ⟨na1, rk1, kd1, vl1, rs1⟩ := p1
    obtain ⟨na2, rk2, kd2, vl2, rs2⟩ := p2
    obtain ⟨c10, c11, c12, c13, c14⟩ := c1
    obtain ⟨c20, c21, c22, c23, c24⟩ := c2
    unfold Plc.val at hK
    dsimp only at c10 c11 c12 c13 c14 c20 c21 c22 c23 c24 hK
    clear hp1 hp2
    have HX := Lib.hid (And.intro hx hy)
    have HRW := Lib.hid hrow
    have HGG := Lib.hid hg
    clear hx hy hrow hg hk
    obtain ⟨v, hsv⟩ : ∃ v, cm x y = v := ⟨_, rfl⟩
    rw [hsv] at hK t1
    clear hsv
    by_cases hlt0 : v < 0
    ·have HB := Lib.hid (hDn (t1.1 hlt0))
     have hdt : decide (v < 0) = true := decide_eq_true hlt0
     clear hU hDn t1
     go_wp2
     refine wp_region_held_drew (S := fun w' => (w'.cell? ⟨g, k * 5, none⟩ = some (.string na1) ∧ w'.cell? ⟨g, k * 5 + 1, none⟩ = some (.int .i64 rk1) ∧ w'.cell? ⟨g, k * 5 + 2, none⟩ = some (.string kd1) ∧ w'.cell? ⟨g, k * 5 + 3, none⟩ = some (.int .i64 vl1) ∧ w'.cell? ⟨g, k * 5 + 4, none⟩ = some (.string rs1)) ∧ w'.cell? ⟨g, h * 5, none⟩ = some (.string na2) ∧ w'.cell? ⟨g, h * 5 + 1, none⟩ = some (.int .i64 rk2) ∧ w'.cell? ⟨g, h * 5 + 2, none⟩ = some (.string kd2) ∧ w'.cell? ⟨g, h * 5 + 3, none⟩ = some (.int .i64 vl2) ∧ w'.cell? ⟨g, h * 5 + 4, none⟩ = some (.string rs2)) (by kernel_rfl) ?_ (fun hHeld => ?_)
     ·exact ⟨⟨c10, c11, c12, c13, c14⟩, c20, c21, c22, c23, c24⟩
     refine zT (i := 0) (v := ?_) rfl (Or.inl ⟨by kernel_rfl, ?_⟩) ?_
     rotate_left
     ·rintro w ⟨⟨x1, x2, x3, x4, x5⟩, x6, x7, x8, x9, x10⟩
      go_simp
      try with_reducible rfl
     try simp only [Act.put, zA1, zA2, zA3, zA4, zA5, zA6]
     refine zT (i := 1) (v := ?_) rfl (Or.inl ⟨by kernel_rfl, ?_⟩) ?_
     rotate_left
     ·rintro w ⟨⟨x1, x2, x3, x4, x5⟩, x6, x7, x8, x9, x10⟩
      go_simp
      try with_reducible rfl
     try simp only [Act.put, zA1, zA2, zA3, zA4, zA5, zA6]
     refine zT (i := 2) (v := ?_) rfl (Or.inl ⟨by kernel_rfl, ?_⟩) ?_
     rotate_left
     ·rintro w ⟨⟨x1, x2, x3, x4, x5⟩, x6, x7, x8, x9, x10⟩
      go_simp
      try with_reducible rfl
     try simp only [Act.put, zA1, zA2, zA3, zA4, zA5, zA6]
     refine zT (i := 3) (v := ?_) rfl (Or.inl ⟨by kernel_rfl, ?_⟩) ?_
     rotate_left
     ·rintro w ⟨⟨x1, x2, x3, x4, x5⟩, x6, x7, x8, x9, x10⟩
      go_simp
      try with_reducible rfl
     try simp only [Act.put, zA1, zA2, zA3, zA4, zA5, zA6]
     refine zT (i := 4) (v := ?_) rfl (Or.inl ⟨by kernel_rfl, ?_⟩) ?_
     rotate_left
     ·rintro w ⟨⟨x1, x2, x3, x4, x5⟩, x6, x7, x8, x9, x10⟩
      go_simp
      try simp only [hw1, hwk, hpk, hk2, if_pos hkk]
      try with_reducible rfl
     try simp only [Act.put, zA1, zA2, zA3, zA4, zA5, zA6]
     refine zT (i := 5) (v := ?_) rfl (Or.inl ⟨by kernel_rfl, ?_⟩) ?_
     rotate_left
     ·rintro w ⟨⟨x1, x2, x3, x4, x5⟩, x6, x7, x8, x9, x10⟩
      go_simp
      try simp only [hw1, hwk, hpk, hk2, if_pos hkk]
      try with_reducible rfl
     try simp only [Act.put, zA1, zA2, zA3, zA4, zA5, zA6]
     refine zT (i := 6) (v := ?_) rfl (Or.inl ⟨by kernel_rfl, ?_⟩) ?_
     rotate_left
     ·rintro w ⟨⟨x1, x2, x3, x4, x5⟩, x6, x7, x8, x9, x10⟩
      go_simp
      try simp only [hw1, hwk, hpk, hk2, if_pos hkk]
      try with_reducible rfl
     try simp only [Act.put, zA1, zA2, zA3, zA4, zA5, zA6]
     refine zT (i := 7) (v := ?_) rfl (Or.inl ⟨by kernel_rfl, ?_⟩) ?_
     rotate_left
     ·rintro w ⟨⟨x1, x2, x3, x4, x5⟩, x6, x7, x8, x9, x10⟩
      go_simp
      try with_reducible rfl
     try simp only [Act.put, zA1, zA2, zA3, zA4, zA5, zA6]
     refine zT (i := 8) (v := ?_) rfl (Or.inl ⟨by kernel_rfl, ?_⟩) ?_
     rotate_left
     ·rintro w ⟨⟨x1, x2, x3, x4, x5⟩, x6, x7, x8, x9, x10⟩
      go_simp
      try with_reducible rfl
     try simp only [Act.put, zA1, zA2, zA3, zA4, zA5, zA6]
     refine zT (i := 9) (v := ?_) rfl (Or.inl ⟨by kernel_rfl, ?_⟩) ?_
     rotate_left
     ·rintro w ⟨⟨x1, x2, x3, x4, x5⟩, x6, x7, x8, x9, x10⟩
      go_simp
      try with_reducible rfl
     try simp only [Act.put, zA1, zA2, zA3, zA4, zA5, zA6]
     refine zT (i := 10) (v := ?_) rfl (Or.inl ⟨by kernel_rfl, ?_⟩) ?_
     rotate_left
     ·rintro w ⟨⟨x1, x2, x3, x4, x5⟩, x6, x7, x8, x9, x10⟩
      go_simp
      try with_reducible rfl
     try simp only [Act.put, zA1, zA2, zA3, zA4, zA5, zA6]
     refine wpAnyH_ready (rs := [11]) (by kernel_rfl) (by simp) ?_
     refine AllReadyH.cons (o := _) rfl (fun K hKK => ?_) AllReadyH.nil
     go_simp
     go_at_call 107
     refine (hK _ (Below.refl _ _).drew).mono ?_
     rintro e w5 ⟨rfl, hb5⟩
     have hr5 := (HRW.out.below (Below.refl _ _).drew).below hb5
     have d1 := hr5.cell (i := k) (by omega)
     have d2 := hr5.cell (i := h) (by omega)
     rw [HX.out.1, HP.out.1] at d1
     rw [HX.out.2, HP.out.2] at d2
     have hg5 := gb_below HGG.out (bstep (Below.refl _ _).drew hb5)
     go_wp2_with fail
     refine hKK.out _ _ ?_ (fun hHeld => ?_)
     ·exact ⟨d1, d2⟩
     clear hKK K
     try simp only [Act.put, zA1, zA2, zA3, zA4, zA5, zA6]
     refine wpAnyH_ready (rs := [12]) (by kernel_rfl) (by simp) ?_
     refine AllReadyH.cons (o := _) rfl (fun K hKK => ?_) AllReadyH.nil
     go_simp
     refine hKK.out _ _ ?_ (fun hHeld => ?_)
     ·exact hHeld
     clear hKK K
     try simp only [Act.put, zA1, zA2, zA3, zA4, zA5, zA6]
     refine wpAnyH_ready (rs := [13]) (by kernel_rfl) (by simp) ?_
     refine AllReadyH.cons (o := _) rfl (fun K hKK => ?_) AllReadyH.nil
     go_simp
     refine hKK.out _ _ ?_ (fun hHeld => ?_)
     ·exact hHeld
     clear hKK K
     try simp only [Act.put, zA1, zA2, zA3, zA4, zA5, zA6]
     refine wpAnyH_done (by kernel_rfl) ?_ _
     have HR5 := Lib.hid hr5
     have HG5 := Lib.hid hg5
     clear c10 c11 c12 c13 c14 c20 c21 c22 c23 c24 hK hb5 hr5 hg5 hHeld
     go_wp2
     go_roundw
     case rel => exact ⟨s, h, rfl, by go_num, HB, hi1, by omega, by omega, HR5.out, HG5.out⟩
     case measure => simp [RowKit.intOf]; omega
    ·have HB := Lib.hid (hU (fun q => hlt0 (t1.2 q)))
     have hge : 0 ≤ v := by omega
     have hdf : decide (v < 0) = false := decide_eq_false hlt0
     clear hU hDn t1
     go_wp2
     refine wp_region_held_drew (S := fun w' => (w'.cell? ⟨g, k * 5, none⟩ = some (.string na1) ∧ w'.cell? ⟨g, k * 5 + 1, none⟩ = some (.int .i64 rk1) ∧ w'.cell? ⟨g, k * 5 + 2, none⟩ = some (.string kd1) ∧ w'.cell? ⟨g, k * 5 + 3, none⟩ = some (.int .i64 vl1) ∧ w'.cell? ⟨g, k * 5 + 4, none⟩ = some (.string rs1)) ∧ w'.cell? ⟨g, h * 5, none⟩ = some (.string na2) ∧ w'.cell? ⟨g, h * 5 + 1, none⟩ = some (.int .i64 rk2) ∧ w'.cell? ⟨g, h * 5 + 2, none⟩ = some (.string kd2) ∧ w'.cell? ⟨g, h * 5 + 3, none⟩ = some (.int .i64 vl2) ∧ w'.cell? ⟨g, h * 5 + 4, none⟩ = some (.string rs2)) (by kernel_rfl) ?_ (fun hHeld => ?_)
     ·exact ⟨⟨c10, c11, c12, c13, c14⟩, c20, c21, c22, c23, c24⟩
     refine zT (i := 0) (v := ?_) rfl (Or.inl ⟨by kernel_rfl, ?_⟩) ?_
     rotate_left
     ·rintro w ⟨⟨x1, x2, x3, x4, x5⟩, x6, x7, x8, x9, x10⟩
      go_simp
      try with_reducible rfl
     try simp only [Act.put, zA1, zA2, zA3, zA4, zA5, zA6]
     refine zT (i := 1) (v := ?_) rfl (Or.inl ⟨by kernel_rfl, ?_⟩) ?_
     rotate_left
     ·rintro w ⟨⟨x1, x2, x3, x4, x5⟩, x6, x7, x8, x9, x10⟩
      go_simp
      try with_reducible rfl
     try simp only [Act.put, zA1, zA2, zA3, zA4, zA5, zA6]
     refine zT (i := 2) (v := ?_) rfl (Or.inl ⟨by kernel_rfl, ?_⟩) ?_
     rotate_left
     ·rintro w ⟨⟨x1, x2, x3, x4, x5⟩, x6, x7, x8, x9, x10⟩
      go_simp
      try with_reducible rfl
     try simp only [Act.put, zA1, zA2, zA3, zA4, zA5, zA6]
     refine zT (i := 3) (v := ?_) rfl (Or.inl ⟨by kernel_rfl, ?_⟩) ?_
     rotate_left
     ·rintro w ⟨⟨x1, x2, x3, x4, x5⟩, x6, x7, x8, x9, x10⟩
      go_simp
      try with_reducible rfl
     try simp only [Act.put, zA1, zA2, zA3, zA4, zA5, zA6]
     refine zT (i := 4) (v := ?_) rfl (Or.inl ⟨by kernel_rfl, ?_⟩) ?_
     rotate_left
     ·rintro w ⟨⟨x1, x2, x3, x4, x5⟩, x6, x7, x8, x9, x10⟩
      go_simp
      try simp only [hw1, hwk, hpk, hk2, if_pos hkk]
      try with_reducible rfl
     try simp only [Act.put, zA1, zA2, zA3, zA4, zA5, zA6]
     refine zT (i := 5) (v := ?_) rfl (Or.inl ⟨by kernel_rfl, ?_⟩) ?_
     rotate_left
     ·rintro w ⟨⟨x1, x2, x3, x4, x5⟩, x6, x7, x8, x9, x10⟩
      go_simp
      try simp only [hw1, hwk, hpk, hk2, if_pos hkk]
      try with_reducible rfl
     try simp only [Act.put, zA1, zA2, zA3, zA4, zA5, zA6]
     refine zT (i := 6) (v := ?_) rfl (Or.inl ⟨by kernel_rfl, ?_⟩) ?_
     rotate_left
     ·rintro w ⟨⟨x1, x2, x3, x4, x5⟩, x6, x7, x8, x9, x10⟩
      go_simp
      try simp only [hw1, hwk, hpk, hk2, if_pos hkk]
      try with_reducible rfl
     try simp only [Act.put, zA1, zA2, zA3, zA4, zA5, zA6]
     refine zT (i := 7) (v := ?_) rfl (Or.inl ⟨by kernel_rfl, ?_⟩) ?_
     rotate_left
     ·rintro w ⟨⟨x1, x2, x3, x4, x5⟩, x6, x7, x8, x9, x10⟩
      go_simp
      try with_reducible rfl
     try simp only [Act.put, zA1, zA2, zA3, zA4, zA5, zA6]
     refine zT (i := 8) (v := ?_) rfl (Or.inl ⟨by kernel_rfl, ?_⟩) ?_
     rotate_left
     ·rintro w ⟨⟨x1, x2, x3, x4, x5⟩, x6, x7, x8, x9, x10⟩
      go_simp
      try with_reducible rfl
     try simp only [Act.put, zA1, zA2, zA3, zA4, zA5, zA6]
     refine zT (i := 9) (v := ?_) rfl (Or.inl ⟨by kernel_rfl, ?_⟩) ?_
     rotate_left
     ·rintro w ⟨⟨x1, x2, x3, x4, x5⟩, x6, x7, x8, x9, x10⟩
      go_simp
      try with_reducible rfl
     try simp only [Act.put, zA1, zA2, zA3, zA4, zA5, zA6]
     refine zT (i := 10) (v := ?_) rfl (Or.inl ⟨by kernel_rfl, ?_⟩) ?_
     rotate_left
     ·rintro w ⟨⟨x1, x2, x3, x4, x5⟩, x6, x7, x8, x9, x10⟩
      go_simp
      try with_reducible rfl
     try simp only [Act.put, zA1, zA2, zA3, zA4, zA5, zA6]
     refine wpAnyH_ready (rs := [11]) (by kernel_rfl) (by simp) ?_
     refine AllReadyH.cons (o := _) rfl (fun K hKK => ?_) AllReadyH.nil
     go_simp
     go_at_call 107
     refine (hK _ (Below.refl _ _).drew).mono ?_
     rintro e w5 ⟨rfl, hb5⟩
     have hr5 := (HRW.out.below (Below.refl _ _).drew).below hb5
     have d1 := hr5.cell (i := k) (by omega)
     have d2 := hr5.cell (i := h) (by omega)
     rw [HX.out.1, HP.out.1] at d1
     rw [HX.out.2, HP.out.2] at d2
     have hg5 := gb_below HGG.out (bstep (Below.refl _ _).drew hb5)
     go_wp2_with fail
     refine hKK.out _ _ ?_ (fun hHeld => ?_)
     ·exact ⟨d1, d2⟩
     clear hKK K
     try simp only [Act.put, zA1, zA2, zA3, zA4, zA5, zA6]
     refine wpAnyH_ready (rs := [12]) (by kernel_rfl) (by simp) ?_
     refine AllReadyH.cons (o := _) rfl (fun K hKK => ?_) AllReadyH.nil
     go_simp
     refine hKK.out _ _ ?_ (fun hHeld => ?_)
     ·exact hHeld
     clear hKK K
     try simp only [Act.put, zA1, zA2, zA3, zA4, zA5, zA6]
     refine wpAnyH_ready (rs := [13]) (by kernel_rfl) (by simp) ?_
     refine AllReadyH.cons (o := _) rfl (fun K hKK => ?_) AllReadyH.nil
     go_simp
     refine hKK.out _ _ ?_ (fun hHeld => ?_)
     ·exact hHeld
     clear hKK K
     try simp only [Act.put, zA1, zA2, zA3, zA4, zA5, zA6]
     refine wpAnyH_done (by kernel_rfl) ?_ _
     have HR5 := Lib.hid hr5
     have HG5 := Lib.hid hg5
     clear c10 c11 c12 c13 c14 c20 c21 c22 c23 c24 hK hb5 hr5 hg5 hHeld
     go_wp2
     go_roundw
     case rel => exact ⟨h + 1, r, by go_num, rfl, HB, by omega, by omega, hj1, HR5.out, HG5.out⟩
     case measure => simp [RowKit.intOf]; omega
   ·obtain rfl : s = r := by omega
    have hd := Srch.done ho HN.out (by rw [HL.out]; exact hb) (show a < m by omega) (show m < b by omega) (by rw [HMID.out, HLH.out.1, HLH.out.2]; exact HI.out)
    rw [HMID.out] at hd
    obtain ⟨e, he⟩ : ∃ e, hi + m - s = e := ⟨_, rfl⟩
    rw [he] at hd
    obtain ⟨f1, f2, f3, f4, f5, f6, f7⟩ := hd
    have hei : (hi : Int) + (m : Int) - (s : Int) = (e : Int) := by omega
    have hR0 := fun (h1 : s < m) (h2 : m < e) => rotateP_any F L B g n cap bx s m e wr hrow h1 h2 (by omega) hn1
    have HR0 := Lib.hid hR0
    have HRW0 := Lib.hid hrow
    have HGG0 := Lib.hid hg
    clear hR0 hrow hg HI he
    by_cases z1 : s < m
    ·have z1i : (s : Int) < (m : Int) := by omega
     by_cases z2 : m < e
     ·have z2i : (m : Int) < (e : Int) := by omega
      have hR := HR0.out z1 z2
      unfold RowPostP cmpP at hR
      clear HR0
      go_wp2_with fail
      with_reducible refine hR.mono ?_
      rintro e5 w5 ⟨M, rfl, hrot, hr5, hg5⟩
      have HRW := Lib.hid hr5
      have HGG := Lib.hid (HGG0.out.trans hg5)
      clear hR hr5 hg5 HRW0 HGG0
      have hH := halves_of ho HS1.out HS2.out HT.out f1 f2 f3 f4 f6 f7 hrot
      obtain ⟨v1, v2, v3, v4, v5, v6, v7⟩ := hH
      rw [f5] at v2 v3 v5 v6 v7
      have HPM := Lib.hid (hrot.perm.wide f1 f4)
      have HNDM := Lib.hid (HPM.out.perm.nodup_iff.2 HN.out)
      have HBEL := Lib.hid v5
      have HV := Lib.hid (And.intro v1 (And.intro v2 (And.intro v3 (And.intro v4 (And.intro v6 v7)))))
      clear v1 v2 v3 v4 v5 v6 v7 hrot
      by_cases y1 : a < s
      ·have y1i : (a : Int) < (s : Int) := by omega
       by_cases y2 : s < hi
       ·have y2i : (s : Int) < (hi : Int) := by omega
        have hI := HIH.out M a s hi _ (by omega) HRW.out HNDM.out y1 y2 (by omega) (HC.out.next HGG.out HPM.out.perm) HV.out.1 HV.out.2.1 HV.out.2.2.2.2.1
        unfold SortP cmpP at hI
        go_wp2_with fail
        with_reducible refine hI.mono ?_
        rintro e6 w6 ⟨M1, rfl, p1, s1, r1, g1⟩
        have HP1 := Lib.hid p1
        have HRW1 := Lib.hid r1
        have HGW1 := Lib.hid (HGG.out.trans g1)
        have HPW1 := Lib.hid (HPM.out.trans (HP1.out.wide (Nat.le_refl a) (show hi ≤ b by omega)))
        have HND1 := Lib.hid (HPW1.out.perm.nodup_iff.2 HN.out)
        have hsame : ∀ q, hi ≤ q → ga M1 q = ga M q := fun q hq => HP1.out.out q (by omega)
        have HH := Lib.hid (And.intro (show Srt lt M1 a hi from s1) (And.intro (HV.out.2.2.1.same (fun q h1 _ => hsame q h1)) (And.intro (HV.out.2.2.2.1.same (fun q h1 _ => hsame q (by omega))) (show Tst cm lt M1 hi e b from fun p q h1 h2 h3 h4 => by rw [hsame p h1, hsame q (by omega)]; exact HV.out.2.2.2.2.2 p q h1 h2 h3 h4))))
        clear hsame p1 s1 r1 g1 hI
        by_cases x1 : hi < e
        ·have x1i : (hi : Int) < (e : Int) := by omega
         by_cases x2 : e < b
         ·have x2i : (e : Int) < (b : Int) := by omega
          have hI := HIH.out M1 hi e b _ (by omega) HRW1.out HND1.out (by omega) (by omega) hb (HC.out.next HGW1.out HPW1.out.perm) HH.out.2.1 HH.out.2.2.1 HH.out.2.2.2
          unfold SortP cmpP at hI
          go_wp2_with fail
          with_reducible refine hI.mono ?_
          rintro e7 w7 ⟨M2, rfl, p2, s2, r2, g2⟩
          have hF := halves_done HNDM.out (by rw [HPM.out.len, HL.out]; exact hb) (by omega) (by omega) HBEL.out HP1.out HH.out.1 p2 s2
          have HF := Lib.hid (And.intro (HPW1.out.trans (p2.wide (by omega) (Nat.le_refl _))) (And.intro hF (And.intro r2 (HGW1.out.trans g2))))
          clear hI hF p2 s2 r2 g2
          go_wp2
          go_end0
          first | exact ⟨M2, rfl, HF.out⟩ | exact ⟨rfl, M2, HF.out⟩
         ·have x2i : ¬ (e : Int) < (b : Int) := by omega
          have hF := halves_done HNDM.out (by rw [HPM.out.len, HL.out]; exact hb) (by omega) (by omega) HBEL.out HP1.out HH.out.1 (PermIn.refl hi b M1) (HH.out.2.1.sub (Nat.le_refl _) (by omega))
          have HF := Lib.hid (And.intro HPW1.out (And.intro hF (And.intro HRW1.out HGW1.out)))
          clear hF
          go_wp2
          go_end0
          first | exact ⟨M1, rfl, HF.out⟩ | exact ⟨rfl, M1, HF.out⟩
        ·have x1i : ¬ (hi : Int) < (e : Int) := by omega
         have hF := halves_done HNDM.out (by rw [HPM.out.len, HL.out]; exact hb) (by omega) (by omega) HBEL.out HP1.out HH.out.1 (PermIn.refl hi b M1) (HH.out.2.2.1.sub (by omega) (Nat.le_refl _))
         have HF := Lib.hid (And.intro HPW1.out (And.intro hF (And.intro HRW1.out HGW1.out)))
         clear hF
         go_wp2
         go_end0
         first | exact ⟨M1, rfl, HF.out⟩ | exact ⟨rfl, M1, HF.out⟩
       ·have y2i : ¬ (s : Int) < (hi : Int) := by omega
        obtain ⟨M1, hM1⟩ : ∃ M1, M1 = M := ⟨_, rfl⟩
        subst hM1
        have HP1 := Lib.hid (PermIn.refl a hi M1)
        have HRW1 := Lib.hid HRW.out
        have HGW1 := Lib.hid HGG.out
        have HPW1 := Lib.hid (HPM.out.trans (HP1.out.wide (Nat.le_refl a) (show hi ≤ b by omega)))
        have HND1 := Lib.hid (HPW1.out.perm.nodup_iff.2 HN.out)
        have hsame : ∀ q, hi ≤ q → ga M1 q = ga M1 q := fun q hq => HP1.out.out q (by omega)
        have HH := Lib.hid (And.intro (show Srt lt M1 a hi from (HV.out.1.sub (Nat.le_refl _) (by omega))) (And.intro (HV.out.2.2.1.same (fun q h1 _ => hsame q h1)) (And.intro (HV.out.2.2.2.1.same (fun q h1 _ => hsame q (by omega))) (show Tst cm lt M1 hi e b from fun p q h1 h2 h3 h4 => by rw [hsame p h1, hsame q (by omega)]; exact HV.out.2.2.2.2.2 p q h1 h2 h3 h4))))
        clear hsame
        by_cases x1 : hi < e
        ·have x1i : (hi : Int) < (e : Int) := by omega
         by_cases x2 : e < b
         ·have x2i : (e : Int) < (b : Int) := by omega
          have hI := HIH.out M1 hi e b _ (by omega) HRW1.out HND1.out (by omega) (by omega) hb (HC.out.next HGW1.out HPW1.out.perm) HH.out.2.1 HH.out.2.2.1 HH.out.2.2.2
          unfold SortP cmpP at hI
          go_wp2_with fail
          with_reducible refine hI.mono ?_
          rintro e7 w7 ⟨M2, rfl, p2, s2, r2, g2⟩
          have hF := halves_done HNDM.out (by rw [HPM.out.len, HL.out]; exact hb) (by omega) (by omega) HBEL.out HP1.out HH.out.1 p2 s2
          have HF := Lib.hid (And.intro (HPW1.out.trans (p2.wide (by omega) (Nat.le_refl _))) (And.intro hF (And.intro r2 (HGW1.out.trans g2))))
          clear hI hF p2 s2 r2 g2
          go_wp2
          go_end0
          first | exact ⟨M2, rfl, HF.out⟩ | exact ⟨rfl, M2, HF.out⟩
         ·have x2i : ¬ (e : Int) < (b : Int) := by omega
          have hF := halves_done HNDM.out (by rw [HPM.out.len, HL.out]; exact hb) (by omega) (by omega) HBEL.out HP1.out HH.out.1 (PermIn.refl hi b M1) (HH.out.2.1.sub (Nat.le_refl _) (by omega))
          have HF := Lib.hid (And.intro HPW1.out (And.intro hF (And.intro HRW1.out HGW1.out)))
          clear hF
          go_wp2
          go_end0
          first | exact ⟨M1, rfl, HF.out⟩ | exact ⟨rfl, M1, HF.out⟩
        ·have x1i : ¬ (hi : Int) < (e : Int) := by omega
         have hF := halves_done HNDM.out (by rw [HPM.out.len, HL.out]; exact hb) (by omega) (by omega) HBEL.out HP1.out HH.out.1 (PermIn.refl hi b M1) (HH.out.2.2.1.sub (by omega) (Nat.le_refl _))
         have HF := Lib.hid (And.intro HPW1.out (And.intro hF (And.intro HRW1.out HGW1.out)))
         clear hF
         go_wp2
         go_end0
         first | exact ⟨M1, rfl, HF.out⟩ | exact ⟨rfl, M1, HF.out⟩
      ·have y1i : ¬ (a : Int) < (s : Int) := by omega
       obtain ⟨M1, hM1⟩ : ∃ M1, M1 = M := ⟨_, rfl⟩
       subst hM1
       have HP1 := Lib.hid (PermIn.refl a hi M1)
       have HRW1 := Lib.hid HRW.out
       have HGW1 := Lib.hid HGG.out
       have HPW1 := Lib.hid (HPM.out.trans (HP1.out.wide (Nat.le_refl a) (show hi ≤ b by omega)))
       have HND1 := Lib.hid (HPW1.out.perm.nodup_iff.2 HN.out)
       have hsame : ∀ q, hi ≤ q → ga M1 q = ga M1 q := fun q hq => HP1.out.out q (by omega)
       have HH := Lib.hid (And.intro (show Srt lt M1 a hi from (HV.out.2.1.sub (by omega) (Nat.le_refl _))) (And.intro (HV.out.2.2.1.same (fun q h1 _ => hsame q h1)) (And.intro (HV.out.2.2.2.1.same (fun q h1 _ => hsame q (by omega))) (show Tst cm lt M1 hi e b from fun p q h1 h2 h3 h4 => by rw [hsame p h1, hsame q (by omega)]; exact HV.out.2.2.2.2.2 p q h1 h2 h3 h4))))
       clear hsame
       by_cases x1 : hi < e
       ·have x1i : (hi : Int) < (e : Int) := by omega
        by_cases x2 : e < b
        ·have x2i : (e : Int) < (b : Int) := by omega
         have hI := HIH.out M1 hi e b _ (by omega) HRW1.out HND1.out (by omega) (by omega) hb (HC.out.next HGW1.out HPW1.out.perm) HH.out.2.1 HH.out.2.2.1 HH.out.2.2.2
         unfold SortP cmpP at hI
         go_wp2_with fail
         with_reducible refine hI.mono ?_
         rintro e7 w7 ⟨M2, rfl, p2, s2, r2, g2⟩
         have hF := halves_done HNDM.out (by rw [HPM.out.len, HL.out]; exact hb) (by omega) (by omega) HBEL.out HP1.out HH.out.1 p2 s2
         have HF := Lib.hid (And.intro (HPW1.out.trans (p2.wide (by omega) (Nat.le_refl _))) (And.intro hF (And.intro r2 (HGW1.out.trans g2))))
         clear hI hF p2 s2 r2 g2
         go_wp2
         go_end0
         first | exact ⟨M2, rfl, HF.out⟩ | exact ⟨rfl, M2, HF.out⟩
        ·have x2i : ¬ (e : Int) < (b : Int) := by omega
         have hF := halves_done HNDM.out (by rw [HPM.out.len, HL.out]; exact hb) (by omega) (by omega) HBEL.out HP1.out HH.out.1 (PermIn.refl hi b M1) (HH.out.2.1.sub (Nat.le_refl _) (by omega))
         have HF := Lib.hid (And.intro HPW1.out (And.intro hF (And.intro HRW1.out HGW1.out)))
         clear hF
         go_wp2
         go_end0
         first | exact ⟨M1, rfl, HF.out⟩ | exact ⟨rfl, M1, HF.out⟩
       ·have x1i : ¬ (hi : Int) < (e : Int) := by omega
        have hF := halves_done HNDM.out (by rw [HPM.out.len, HL.out]; exact hb) (by omega) (by omega) HBEL.out HP1.out HH.out.1 (PermIn.refl hi b M1) (HH.out.2.2.1.sub (by omega) (Nat.le_refl _))
        have HF := Lib.hid (And.intro HPW1.out (And.intro hF (And.intro HRW1.out HGW1.out)))
        clear hF
        go_wp2
        go_end0
        first | exact ⟨M1, rfl, HF.out⟩ | exact ⟨rfl, M1, HF.out⟩
     ·have z2i : ¬ (m : Int) < (e : Int) := by omega
      obtain ⟨M, hML⟩ : ∃ M, L = M := ⟨_, rfl⟩
      have hrot0 := RotR.refl (s := s) (m := m) (e := e) f2 f3 L (.inr (by omega))
      have hrot : RotR s m e L M := by rw [← hML]; exact hrot0
      have HRWm : Hid (RowP F wr B g n cap M) := by rw [← hML]; exact HRW0
      clear hML hrot0
      have HRW := HRWm
      have HGG := HGG0
      clear HR0
      have hH := halves_of ho HS1.out HS2.out HT.out f1 f2 f3 f4 f6 f7 hrot
      obtain ⟨v1, v2, v3, v4, v5, v6, v7⟩ := hH
      rw [f5] at v2 v3 v5 v6 v7
      have HPM := Lib.hid (hrot.perm.wide f1 f4)
      have HNDM := Lib.hid (HPM.out.perm.nodup_iff.2 HN.out)
      have HBEL := Lib.hid v5
      have HV := Lib.hid (And.intro v1 (And.intro v2 (And.intro v3 (And.intro v4 (And.intro v6 v7)))))
      clear v1 v2 v3 v4 v5 v6 v7 hrot
      by_cases y1 : a < s
      ·have y1i : (a : Int) < (s : Int) := by omega
       by_cases y2 : s < hi
       ·have y2i : (s : Int) < (hi : Int) := by omega
        have hI := HIH.out M a s hi _ (by omega) HRW.out HNDM.out y1 y2 (by omega) (HC.out.next HGG.out HPM.out.perm) HV.out.1 HV.out.2.1 HV.out.2.2.2.2.1
        unfold SortP cmpP at hI
        go_wp2_with fail
        with_reducible refine hI.mono ?_
        rintro e6 w6 ⟨M1, rfl, p1, s1, r1, g1⟩
        have HP1 := Lib.hid p1
        have HRW1 := Lib.hid r1
        have HGW1 := Lib.hid (HGG.out.trans g1)
        have HPW1 := Lib.hid (HPM.out.trans (HP1.out.wide (Nat.le_refl a) (show hi ≤ b by omega)))
        have HND1 := Lib.hid (HPW1.out.perm.nodup_iff.2 HN.out)
        have hsame : ∀ q, hi ≤ q → ga M1 q = ga M q := fun q hq => HP1.out.out q (by omega)
        have HH := Lib.hid (And.intro (show Srt lt M1 a hi from s1) (And.intro (HV.out.2.2.1.same (fun q h1 _ => hsame q h1)) (And.intro (HV.out.2.2.2.1.same (fun q h1 _ => hsame q (by omega))) (show Tst cm lt M1 hi e b from fun p q h1 h2 h3 h4 => by rw [hsame p h1, hsame q (by omega)]; exact HV.out.2.2.2.2.2 p q h1 h2 h3 h4))))
        clear hsame p1 s1 r1 g1 hI
        by_cases x1 : hi < e
        ·have x1i : (hi : Int) < (e : Int) := by omega
         by_cases x2 : e < b
         ·have x2i : (e : Int) < (b : Int) := by omega
          have hI := HIH.out M1 hi e b _ (by omega) HRW1.out HND1.out (by omega) (by omega) hb (HC.out.next HGW1.out HPW1.out.perm) HH.out.2.1 HH.out.2.2.1 HH.out.2.2.2
          unfold SortP cmpP at hI
          go_wp2_with fail
          with_reducible refine hI.mono ?_
          rintro e7 w7 ⟨M2, rfl, p2, s2, r2, g2⟩
          have hF := halves_done HNDM.out (by rw [HPM.out.len, HL.out]; exact hb) (by omega) (by omega) HBEL.out HP1.out HH.out.1 p2 s2
          have HF := Lib.hid (And.intro (HPW1.out.trans (p2.wide (by omega) (Nat.le_refl _))) (And.intro hF (And.intro r2 (HGW1.out.trans g2))))
          clear hI hF p2 s2 r2 g2
          go_wp2
          go_end0
          first | exact ⟨M2, rfl, HF.out⟩ | exact ⟨rfl, M2, HF.out⟩
         ·have x2i : ¬ (e : Int) < (b : Int) := by omega
          have hF := halves_done HNDM.out (by rw [HPM.out.len, HL.out]; exact hb) (by omega) (by omega) HBEL.out HP1.out HH.out.1 (PermIn.refl hi b M1) (HH.out.2.1.sub (Nat.le_refl _) (by omega))
          have HF := Lib.hid (And.intro HPW1.out (And.intro hF (And.intro HRW1.out HGW1.out)))
          clear hF
          go_wp2
          go_end0
          first | exact ⟨M1, rfl, HF.out⟩ | exact ⟨rfl, M1, HF.out⟩
        ·have x1i : ¬ (hi : Int) < (e : Int) := by omega
         have hF := halves_done HNDM.out (by rw [HPM.out.len, HL.out]; exact hb) (by omega) (by omega) HBEL.out HP1.out HH.out.1 (PermIn.refl hi b M1) (HH.out.2.2.1.sub (by omega) (Nat.le_refl _))
         have HF := Lib.hid (And.intro HPW1.out (And.intro hF (And.intro HRW1.out HGW1.out)))
         clear hF
         go_wp2
         go_end0
         first | exact ⟨M1, rfl, HF.out⟩ | exact ⟨rfl, M1, HF.out⟩
       ·have y2i : ¬ (s : Int) < (hi : Int) := by omega
        obtain ⟨M1, hM1⟩ : ∃ M1, M1 = M := ⟨_, rfl⟩
        subst hM1
        have HP1 := Lib.hid (PermIn.refl a hi M1)
        have HRW1 := Lib.hid HRW.out
        have HGW1 := Lib.hid HGG.out
        have HPW1 := Lib.hid (HPM.out.trans (HP1.out.wide (Nat.le_refl a) (show hi ≤ b by omega)))
        have HND1 := Lib.hid (HPW1.out.perm.nodup_iff.2 HN.out)
        have hsame : ∀ q, hi ≤ q → ga M1 q = ga M1 q := fun q hq => HP1.out.out q (by omega)
        have HH := Lib.hid (And.intro (show Srt lt M1 a hi from (HV.out.1.sub (Nat.le_refl _) (by omega))) (And.intro (HV.out.2.2.1.same (fun q h1 _ => hsame q h1)) (And.intro (HV.out.2.2.2.1.same (fun q h1 _ => hsame q (by omega))) (show Tst cm lt M1 hi e b from fun p q h1 h2 h3 h4 => by rw [hsame p h1, hsame q (by omega)]; exact HV.out.2.2.2.2.2 p q h1 h2 h3 h4))))
        clear hsame
        by_cases x1 : hi < e
        ·have x1i : (hi : Int) < (e : Int) := by omega
         by_cases x2 : e < b
         ·have x2i : (e : Int) < (b : Int) := by omega
          have hI := HIH.out M1 hi e b _ (by omega) HRW1.out HND1.out (by omega) (by omega) hb (HC.out.next HGW1.out HPW1.out.perm) HH.out.2.1 HH.out.2.2.1 HH.out.2.2.2
          unfold SortP cmpP at hI
          go_wp2_with fail
          with_reducible refine hI.mono ?_
          rintro e7 w7 ⟨M2, rfl, p2, s2, r2, g2⟩
          have hF := halves_done HNDM.out (by rw [HPM.out.len, HL.out]; exact hb) (by omega) (by omega) HBEL.out HP1.out HH.out.1 p2 s2
          have HF := Lib.hid (And.intro (HPW1.out.trans (p2.wide (by omega) (Nat.le_refl _))) (And.intro hF (And.intro r2 (HGW1.out.trans g2))))
          clear hI hF p2 s2 r2 g2
          go_wp2
          go_end0
          first | exact ⟨M2, rfl, HF.out⟩ | exact ⟨rfl, M2, HF.out⟩
         ·have x2i : ¬ (e : Int) < (b : Int) := by omega
          have hF := halves_done HNDM.out (by rw [HPM.out.len, HL.out]; exact hb) (by omega) (by omega) HBEL.out HP1.out HH.out.1 (PermIn.refl hi b M1) (HH.out.2.1.sub (Nat.le_refl _) (by omega))
          have HF := Lib.hid (And.intro HPW1.out (And.intro hF (And.intro HRW1.out HGW1.out)))
          clear hF
          go_wp2
          go_end0
          first | exact ⟨M1, rfl, HF.out⟩ | exact ⟨rfl, M1, HF.out⟩
        ·have x1i : ¬ (hi : Int) < (e : Int) := by omega
         have hF := halves_done HNDM.out (by rw [HPM.out.len, HL.out]; exact hb) (by omega) (by omega) HBEL.out HP1.out HH.out.1 (PermIn.refl hi b M1) (HH.out.2.2.1.sub (by omega) (Nat.le_refl _))
         have HF := Lib.hid (And.intro HPW1.out (And.intro hF (And.intro HRW1.out HGW1.out)))
         clear hF
         go_wp2
         go_end0
         first | exact ⟨M1, rfl, HF.out⟩ | exact ⟨rfl, M1, HF.out⟩
      ·have y1i : ¬ (a : Int) < (s : Int) := by omega
       obtain ⟨M1, hM1⟩ : ∃ M1, M1 = M := ⟨_, rfl⟩
       subst hM1
       have HP1 := Lib.hid (PermIn.refl a hi M1)
       have HRW1 := Lib.hid HRW.out
       have HGW1 := Lib.hid HGG.out
       have HPW1 := Lib.hid (HPM.out.trans (HP1.out.wide (Nat.le_refl a) (show hi ≤ b by omega)))
       have HND1 := Lib.hid (HPW1.out.perm.nodup_iff.2 HN.out)
       have hsame : ∀ q, hi ≤ q → ga M1 q = ga M1 q := fun q hq => HP1.out.out q (by omega)
       have HH := Lib.hid (And.intro (show Srt lt M1 a hi from (HV.out.2.1.sub (by omega) (Nat.le_refl _))) (And.intro (HV.out.2.2.1.same (fun q h1 _ => hsame q h1)) (And.intro (HV.out.2.2.2.1.same (fun q h1 _ => hsame q (by omega))) (show Tst cm lt M1 hi e b from fun p q h1 h2 h3 h4 => by rw [hsame p h1, hsame q (by omega)]; exact HV.out.2.2.2.2.2 p q h1 h2 h3 h4))))
       clear hsame
       by_cases x1 : hi < e
       ·have x1i : (hi : Int) < (e : Int) := by omega
        by_cases x2 : e < b
        ·have x2i : (e : Int) < (b : Int) := by omega
         have hI := HIH.out M1 hi e b _ (by omega) HRW1.out HND1.out (by omega) (by omega) hb (HC.out.next HGW1.out HPW1.out.perm) HH.out.2.1 HH.out.2.2.1 HH.out.2.2.2
         unfold SortP cmpP at hI
         go_wp2_with fail
         with_reducible refine hI.mono ?_
         rintro e7 w7 ⟨M2, rfl, p2, s2, r2, g2⟩
         have hF := halves_done HNDM.out (by rw [HPM.out.len, HL.out]; exact hb) (by omega) (by omega) HBEL.out HP1.out HH.out.1 p2 s2
         have HF := Lib.hid (And.intro (HPW1.out.trans (p2.wide (by omega) (Nat.le_refl _))) (And.intro hF (And.intro r2 (HGW1.out.trans g2))))
         clear hI hF p2 s2 r2 g2
         go_wp2
         go_end0
         first | exact ⟨M2, rfl, HF.out⟩ | exact ⟨rfl, M2, HF.out⟩
        ·have x2i : ¬ (e : Int) < (b : Int) := by omega
         have hF := halves_done HNDM.out (by rw [HPM.out.len, HL.out]; exact hb) (by omega) (by omega) HBEL.out HP1.out HH.out.1 (PermIn.refl hi b M1) (HH.out.2.1.sub (Nat.le_refl _) (by omega))
         have HF := Lib.hid (And.intro HPW1.out (And.intro hF (And.intro HRW1.out HGW1.out)))
         clear hF
         go_wp2
         go_end0
         first | exact ⟨M1, rfl, HF.out⟩ | exact ⟨rfl, M1, HF.out⟩
       ·have x1i : ¬ (hi : Int) < (e : Int) := by omega
        have hF := halves_done HNDM.out (by rw [HPM.out.len, HL.out]; exact hb) (by omega) (by omega) HBEL.out HP1.out HH.out.1 (PermIn.refl hi b M1) (HH.out.2.2.1.sub (by omega) (Nat.le_refl _))
        have HF := Lib.hid (And.intro HPW1.out (And.intro hF (And.intro HRW1.out HGW1.out)))
        clear hF
        go_wp2
        go_end0
        first | exact ⟨M1, rfl, HF.out⟩ | exact ⟨rfl, M1, HF.out⟩
    ·have z1i : ¬ (s : Int) < (m : Int) := by omega
     obtain ⟨M, hML⟩ : ∃ M, L = M := ⟨_, rfl⟩
     have hrot0 := RotR.refl (s := s) (m := m) (e := e) f2 f3 L (.inl (by omega))
     have hrot : RotR s m e L M := by rw [← hML]; exact hrot0
     have HRWm : Hid (RowP F wr B g n cap M) := by rw [← hML]; exact HRW0
     clear hML hrot0
     have HRW := HRWm
     have HGG := HGG0
     clear HR0
     have hH := halves_of ho HS1.out HS2.out HT.out f1 f2 f3 f4 f6 f7 hrot
     obtain ⟨v1, v2, v3, v4, v5, v6, v7⟩ := hH
     rw [f5] at v2 v3 v5 v6 v7
     have HPM := Lib.hid (hrot.perm.wide f1 f4)
     have HNDM := Lib.hid (HPM.out.perm.nodup_iff.2 HN.out)
     have HBEL := Lib.hid v5
     have HV := Lib.hid (And.intro v1 (And.intro v2 (And.intro v3 (And.intro v4 (And.intro v6 v7)))))
     clear v1 v2 v3 v4 v5 v6 v7 hrot
     by_cases y1 : a < s
     ·have y1i : (a : Int) < (s : Int) := by omega
      by_cases y2 : s < hi
      ·have y2i : (s : Int) < (hi : Int) := by omega
       have hI := HIH.out M a s hi _ (by omega) HRW.out HNDM.out y1 y2 (by omega) (HC.out.next HGG.out HPM.out.perm) HV.out.1 HV.out.2.1 HV.out.2.2.2.2.1
       unfold SortP cmpP at hI
       go_wp2_with fail
       with_reducible refine hI.mono ?_
       rintro e6 w6 ⟨M1, rfl, p1, s1, r1, g1⟩
       have HP1 := Lib.hid p1
       have HRW1 := Lib.hid r1
       have HGW1 := Lib.hid (HGG.out.trans g1)
       have HPW1 := Lib.hid (HPM.out.trans (HP1.out.wide (Nat.le_refl a) (show hi ≤ b by omega)))
       have HND1 := Lib.hid (HPW1.out.perm.nodup_iff.2 HN.out)
       have hsame : ∀ q, hi ≤ q → ga M1 q = ga M q := fun q hq => HP1.out.out q (by omega)
       have HH := Lib.hid (And.intro (show Srt lt M1 a hi from s1) (And.intro (HV.out.2.2.1.same (fun q h1 _ => hsame q h1)) (And.intro (HV.out.2.2.2.1.same (fun q h1 _ => hsame q (by omega))) (show Tst cm lt M1 hi e b from fun p q h1 h2 h3 h4 => by rw [hsame p h1, hsame q (by omega)]; exact HV.out.2.2.2.2.2 p q h1 h2 h3 h4))))
       clear hsame p1 s1 r1 g1 hI
       by_cases x1 : hi < e
       ·have x1i : (hi : Int) < (e : Int) := by omega
        by_cases x2 : e < b
        ·have x2i : (e : Int) < (b : Int) := by omega
         have hI := HIH.out M1 hi e b _ (by omega) HRW1.out HND1.out (by omega) (by omega) hb (HC.out.next HGW1.out HPW1.out.perm) HH.out.2.1 HH.out.2.2.1 HH.out.2.2.2
         unfold SortP cmpP at hI
         go_wp2_with fail
         with_reducible refine hI.mono ?_
         rintro e7 w7 ⟨M2, rfl, p2, s2, r2, g2⟩
         have hF := halves_done HNDM.out (by rw [HPM.out.len, HL.out]; exact hb) (by omega) (by omega) HBEL.out HP1.out HH.out.1 p2 s2
         have HF := Lib.hid (And.intro (HPW1.out.trans (p2.wide (by omega) (Nat.le_refl _))) (And.intro hF (And.intro r2 (HGW1.out.trans g2))))
         clear hI hF p2 s2 r2 g2
         go_wp2
         go_end0
         first | exact ⟨M2, rfl, HF.out⟩ | exact ⟨rfl, M2, HF.out⟩
        ·have x2i : ¬ (e : Int) < (b : Int) := by omega
         have hF := halves_done HNDM.out (by rw [HPM.out.len, HL.out]; exact hb) (by omega) (by omega) HBEL.out HP1.out HH.out.1 (PermIn.refl hi b M1) (HH.out.2.1.sub (Nat.le_refl _) (by omega))
         have HF := Lib.hid (And.intro HPW1.out (And.intro hF (And.intro HRW1.out HGW1.out)))
         clear hF
         go_wp2
         go_end0
         first | exact ⟨M1, rfl, HF.out⟩ | exact ⟨rfl, M1, HF.out⟩
       ·have x1i : ¬ (hi : Int) < (e : Int) := by omega
        have hF := halves_done HNDM.out (by rw [HPM.out.len, HL.out]; exact hb) (by omega) (by omega) HBEL.out HP1.out HH.out.1 (PermIn.refl hi b M1) (HH.out.2.2.1.sub (by omega) (Nat.le_refl _))
        have HF := Lib.hid (And.intro HPW1.out (And.intro hF (And.intro HRW1.out HGW1.out)))
        clear hF
        go_wp2
        go_end0
        first | exact ⟨M1, rfl, HF.out⟩ | exact ⟨rfl, M1, HF.out⟩
      ·have y2i : ¬ (s : Int) < (hi : Int) := by omega
       obtain ⟨M1, hM1⟩ : ∃ M1, M1 = M := ⟨_, rfl⟩
       subst hM1
       have HP1 := Lib.hid (PermIn.refl a hi M1)
       have HRW1 := Lib.hid HRW.out
       have HGW1 := Lib.hid HGG.out
       have HPW1 := Lib.hid (HPM.out.trans (HP1.out.wide (Nat.le_refl a) (show hi ≤ b by omega)))
       have HND1 := Lib.hid (HPW1.out.perm.nodup_iff.2 HN.out)
       have hsame : ∀ q, hi ≤ q → ga M1 q = ga M1 q := fun q hq => HP1.out.out q (by omega)
       have HH := Lib.hid (And.intro (show Srt lt M1 a hi from (HV.out.1.sub (Nat.le_refl _) (by omega))) (And.intro (HV.out.2.2.1.same (fun q h1 _ => hsame q h1)) (And.intro (HV.out.2.2.2.1.same (fun q h1 _ => hsame q (by omega))) (show Tst cm lt M1 hi e b from fun p q h1 h2 h3 h4 => by rw [hsame p h1, hsame q (by omega)]; exact HV.out.2.2.2.2.2 p q h1 h2 h3 h4))))
       clear hsame
       by_cases x1 : hi < e
       ·have x1i : (hi : Int) < (e : Int) := by omega
        by_cases x2 : e < b
        ·have x2i : (e : Int) < (b : Int) := by omega
         have hI := HIH.out M1 hi e b _ (by omega) HRW1.out HND1.out (by omega) (by omega) hb (HC.out.next HGW1.out HPW1.out.perm) HH.out.2.1 HH.out.2.2.1 HH.out.2.2.2
         unfold SortP cmpP at hI
         go_wp2_with fail
         with_reducible refine hI.mono ?_
         rintro e7 w7 ⟨M2, rfl, p2, s2, r2, g2⟩
         have hF := halves_done HNDM.out (by rw [HPM.out.len, HL.out]; exact hb) (by omega) (by omega) HBEL.out HP1.out HH.out.1 p2 s2
         have HF := Lib.hid (And.intro (HPW1.out.trans (p2.wide (by omega) (Nat.le_refl _))) (And.intro hF (And.intro r2 (HGW1.out.trans g2))))
         clear hI hF p2 s2 r2 g2
         go_wp2
         go_end0
         first | exact ⟨M2, rfl, HF.out⟩ | exact ⟨rfl, M2, HF.out⟩
        ·have x2i : ¬ (e : Int) < (b : Int) := by omega
         have hF := halves_done HNDM.out (by rw [HPM.out.len, HL.out]; exact hb) (by omega) (by omega) HBEL.out HP1.out HH.out.1 (PermIn.refl hi b M1) (HH.out.2.1.sub (Nat.le_refl _) (by omega))
         have HF := Lib.hid (And.intro HPW1.out (And.intro hF (And.intro HRW1.out HGW1.out)))
         clear hF
         go_wp2
         go_end0
         first | exact ⟨M1, rfl, HF.out⟩ | exact ⟨rfl, M1, HF.out⟩
       ·have x1i : ¬ (hi : Int) < (e : Int) := by omega
        have hF := halves_done HNDM.out (by rw [HPM.out.len, HL.out]; exact hb) (by omega) (by omega) HBEL.out HP1.out HH.out.1 (PermIn.refl hi b M1) (HH.out.2.2.1.sub (by omega) (Nat.le_refl _))
        have HF := Lib.hid (And.intro HPW1.out (And.intro hF (And.intro HRW1.out HGW1.out)))
        clear hF
        go_wp2
        go_end0
        first | exact ⟨M1, rfl, HF.out⟩ | exact ⟨rfl, M1, HF.out⟩
     ·have y1i : ¬ (a : Int) < (s : Int) := by omega
      obtain ⟨M1, hM1⟩ : ∃ M1, M1 = M := ⟨_, rfl⟩
      subst hM1
      have HP1 := Lib.hid (PermIn.refl a hi M1)
      have HRW1 := Lib.hid HRW.out
      have HGW1 := Lib.hid HGG.out
      have HPW1 := Lib.hid (HPM.out.trans (HP1.out.wide (Nat.le_refl a) (show hi ≤ b by omega)))
      have HND1 := Lib.hid (HPW1.out.perm.nodup_iff.2 HN.out)
      have hsame : ∀ q, hi ≤ q → ga M1 q = ga M1 q := fun q hq => HP1.out.out q (by omega)
      have HH := Lib.hid (And.intro (show Srt lt M1 a hi from (HV.out.2.1.sub (by omega) (Nat.le_refl _))) (And.intro (HV.out.2.2.1.same (fun q h1 _ => hsame q h1)) (And.intro (HV.out.2.2.2.1.same (fun q h1 _ => hsame q (by omega))) (show Tst cm lt M1 hi e b from fun p q h1 h2 h3 h4 => by rw [hsame p h1, hsame q (by omega)]; exact HV.out.2.2.2.2.2 p q h1 h2 h3 h4))))
      clear hsame
      by_cases x1 : hi < e
      ·have x1i : (hi : Int) < (e : Int) := by omega
       by_cases x2 : e < b
       ·have x2i : (e : Int) < (b : Int) := by omega
        have hI := HIH.out M1 hi e b _ (by omega) HRW1.out HND1.out (by omega) (by omega) hb (HC.out.next HGW1.out HPW1.out.perm) HH.out.2.1 HH.out.2.2.1 HH.out.2.2.2
        unfold SortP cmpP at hI
        go_wp2_with fail
        with_reducible refine hI.mono ?_
        rintro e7 w7 ⟨M2, rfl, p2, s2, r2, g2⟩
        have hF := halves_done HNDM.out (by rw [HPM.out.len, HL.out]; exact hb) (by omega) (by omega) HBEL.out HP1.out HH.out.1 p2 s2
        have HF := Lib.hid (And.intro (HPW1.out.trans (p2.wide (by omega) (Nat.le_refl _))) (And.intro hF (And.intro r2 (HGW1.out.trans g2))))
        clear hI hF p2 s2 r2 g2
        go_wp2
        go_end0
        first | exact ⟨M2, rfl, HF.out⟩ | exact ⟨rfl, M2, HF.out⟩
       ·have x2i : ¬ (e : Int) < (b : Int) := by omega
        have hF := halves_done HNDM.out (by rw [HPM.out.len, HL.out]; exact hb) (by omega) (by omega) HBEL.out HP1.out HH.out.1 (PermIn.refl hi b M1) (HH.out.2.1.sub (Nat.le_refl _) (by omega))
        have HF := Lib.hid (And.intro HPW1.out (And.intro hF (And.intro HRW1.out HGW1.out)))
        clear hF
        go_wp2
        go_end0
        first | exact ⟨M1, rfl, HF.out⟩ | exact ⟨rfl, M1, HF.out⟩
      ·have x1i : ¬ (hi : Int) < (e : Int) := by omega
       have hF := halves_done HNDM.out (by rw [HPM.out.len, HL.out]; exact hb) (by omega) (by omega) HBEL.out HP1.out HH.out.1 (PermIn.refl hi b M1) (HH.out.2.2.1.sub (by omega) (Nat.le_refl _))
       have HF := Lib.hid (And.intro HPW1.out (And.intro hF (And.intro HRW1.out HGW1.out)))
       clear hF
       go_wp2
       go_end0
       first | exact ⟨M1, rfl, HF.out⟩ | exact ⟨rfl, M1, HF.out⟩
 ·have q2' := q2.symm
  have q3' := q3.symm
  subst q2' q3'
  have q1i : ¬ (mid : Int) < (m : Int) := by omega
  go_enter Tryz.func259, Tryz.ntmps259
  go_wp2
  go_loopw [20, 21] (fun sv rv wr => ∃ (s r : Nat), sv = .int .i64 s ∧ rv = .int .i64 r ∧ Hid (Srch lt L (mid + m) a m s r) ∧ a ≤ s ∧ s ≤ r ∧ r ≤ m ∧ RowP F wr B g n cap L ∧ w.grownBy wr (some g)) (fun sv rv _ => (RowKit.intOf rv).toNat - (RowKit.intOf sv).toNat)
  case atStart => exact ⟨a, m, rfl, rfl, Lib.hid (Srch.start k1), Nat.le_refl _, k1, Nat.le_refl _, HR.out, World.grownBy.refl _ _⟩
  case round =>
   obtain ⟨s, r, rfl, rfl, HI, hi1, hij, hj1, hrow, hg⟩ := hrel
   by_cases hlt : s < r
   ·have hki : (s : Int) < (r : Int) := by omega
    obtain ⟨h, hh⟩ : ∃ h : Nat, ((s : Int) + (r : Int)) / 2 = (h : Int) := ⟨(s + r) / 2, by omega⟩
    have hih : s ≤ h := by omega
    have hhj : h < r := by omega
    obtain ⟨g1, g2, g3, g4⟩ := srch_range (a := a) (m := m) (b := b) (c := h) (by omega) (by omega) (by rw [HLH.out.1]; omega) (by rw [HLH.out.2]; omega)
    rw [HMID.out] at g3 g4
    obtain ⟨k, hk⟩ : ∃ k : Nat, mid + m - 1 - h = k := ⟨_, rfl⟩
    rw [hk] at g3 g4
    have hpk : (mid : Int) + (m : Int) - 1 - (h : Int) = (k : Int) := by omega
    have hw1 : IntKind.i64.wrap ((mid : Int) + (m : Int) - 1 - (h : Int)) = (k : Int) := by rw [hpk]; exact wrapQ _ (by omega)
    have h0 : (0 : Int) ≤ (h : Int) := by omega
    have h1 : (h : Int) < (n : Int) := by omega
    have h2 : ((h : Int)).toNat = h := by omega
    have a0 : (0 : Int) ≤ (k : Int) := by omega
    have a1 : (k : Int) < (n : Int) := by omega
    have hk2 : ((k : Int)).toNat = k := by omega
    have hkk := And.intro a0 a1
    have hwk : IntKind.i64.wrap (k : Int) = (k : Int) := wrapQ _ (by omega)
    have c1 := hrow.cell (i := k) (by omega)
    have c2 := hrow.cell (i := h) (by omega)
    have t1 := HT.out h k g1 g2 g3 g4
    have hK : ∀ w', Below wr.heap.size wr w' → Calls Tryz.prog 107 #[(F (ga L k)).val, (F (ga L h)).val, .pointer (some ⟨bx, 0, none⟩)] w' (RetPost (.int .i64 (cm (ga L k) (ga L h))) w') := fun w' hb' => HC.out w' (gb_below hg hb') _ _ (List.mem_of_getElem? (ga_at (by rw [HL.out]; omega))) (List.mem_of_getElem? (ga_at (by rw [HL.out]; omega)))
    have hU := fun q => HI.out.up (c := h) hih hhj (by rw [hk]; exact q)
    have hDn := fun q => HI.out.down (c := h) hih hhj (by rw [hk]; exact q)
    obtain ⟨x, hx⟩ : ∃ x, ga L k = x := ⟨_, rfl⟩
    obtain ⟨y, hy⟩ : ∃ y, ga L h = y := ⟨_, rfl⟩
    rw [hx] at c1
    rw [hy] at c2
    rw [hx, hy] at hK t1 hU hDn
    obtain ⟨p1, hp1⟩ : ∃ p, F x = p := ⟨_, rfl⟩
    obtain ⟨p2, hp2⟩ : ∃ p, F y = p := ⟨_, rfl⟩
    rw [hp1] at c1 hK
    rw [hp2] at c2 hK
    have HP := Lib.hid (And.intro hp1 hp2)
    obtain ⟨na1, rk1, kd1, vl1, rs1⟩ := p1
    obtain ⟨na2, rk2, kd2, vl2, rs2⟩ := p2
    obtain ⟨c10, c11, c12, c13, c14⟩ := c1
    obtain ⟨c20, c21, c22, c23, c24⟩ := c2
    unfold Plc.val at hK
    dsimp only at c10 c11 c12 c13 c14 c20 c21 c22 c23 c24 hK
    clear hp1 hp2
    have HX := Lib.hid (And.intro hx hy)
    have HRW := Lib.hid hrow
    have HGG := Lib.hid hg
    clear hx hy hrow hg hk
    obtain ⟨v, hsv⟩ : ∃ v, cm x y = v := ⟨_, rfl⟩
    rw [hsv] at hK t1
    clear hsv
    by_cases hlt0 : v < 0
    ·have HB := Lib.hid (hDn (t1.1 hlt0))
     have hdt : decide (v < 0) = true := decide_eq_true hlt0
     clear hU hDn t1
     go_wp2
     refine wp_region_held_drew (S := fun w' => (w'.cell? ⟨g, k * 5, none⟩ = some (.string na1) ∧ w'.cell? ⟨g, k * 5 + 1, none⟩ = some (.int .i64 rk1) ∧ w'.cell? ⟨g, k * 5 + 2, none⟩ = some (.string kd1) ∧ w'.cell? ⟨g, k * 5 + 3, none⟩ = some (.int .i64 vl1) ∧ w'.cell? ⟨g, k * 5 + 4, none⟩ = some (.string rs1)) ∧ w'.cell? ⟨g, h * 5, none⟩ = some (.string na2) ∧ w'.cell? ⟨g, h * 5 + 1, none⟩ = some (.int .i64 rk2) ∧ w'.cell? ⟨g, h * 5 + 2, none⟩ = some (.string kd2) ∧ w'.cell? ⟨g, h * 5 + 3, none⟩ = some (.int .i64 vl2) ∧ w'.cell? ⟨g, h * 5 + 4, none⟩ = some (.string rs2)) (by kernel_rfl) ?_ (fun hHeld => ?_)
     ·exact ⟨⟨c10, c11, c12, c13, c14⟩, c20, c21, c22, c23, c24⟩
     refine zT (i := 0) (v := ?_) rfl (Or.inl ⟨by kernel_rfl, ?_⟩) ?_
     rotate_left
     ·rintro w ⟨⟨x1, x2, x3, x4, x5⟩, x6, x7, x8, x9, x10⟩
      go_simp
      try with_reducible rfl
     try simp only [Act.put, zA1, zA2, zA3, zA4, zA5, zA6]
     refine zT (i := 1) (v := ?_) rfl (Or.inl ⟨by kernel_rfl, ?_⟩) ?_
     rotate_left
     ·rintro w ⟨⟨x1, x2, x3, x4, x5⟩, x6, x7, x8, x9, x10⟩
      go_simp
      try with_reducible rfl
     try simp only [Act.put, zA1, zA2, zA3, zA4, zA5, zA6]
     refine zT (i := 2) (v := ?_) rfl (Or.inl ⟨by kernel_rfl, ?_⟩) ?_
     rotate_left
     ·rintro w ⟨⟨x1, x2, x3, x4, x5⟩, x6, x7, x8, x9, x10⟩
      go_simp
      try with_reducible rfl
     try simp only [Act.put, zA1, zA2, zA3, zA4, zA5, zA6]
     refine zT (i := 3) (v := ?_) rfl (Or.inl ⟨by kernel_rfl, ?_⟩) ?_
     rotate_left
     ·rintro w ⟨⟨x1, x2, x3, x4, x5⟩, x6, x7, x8, x9, x10⟩
      go_simp
      try with_reducible rfl
     try simp only [Act.put, zA1, zA2, zA3, zA4, zA5, zA6]
     refine zT (i := 4) (v := ?_) rfl (Or.inl ⟨by kernel_rfl, ?_⟩) ?_
     rotate_left
     ·rintro w ⟨⟨x1, x2, x3, x4, x5⟩, x6, x7, x8, x9, x10⟩
      go_simp
      try simp only [hw1, hwk, hpk, hk2, if_pos hkk]
      try with_reducible rfl
     try simp only [Act.put, zA1, zA2, zA3, zA4, zA5, zA6]
     refine zT (i := 5) (v := ?_) rfl (Or.inl ⟨by kernel_rfl, ?_⟩) ?_
     rotate_left
     ·rintro w ⟨⟨x1, x2, x3, x4, x5⟩, x6, x7, x8, x9, x10⟩
      go_simp
      try simp only [hw1, hwk, hpk, hk2, if_pos hkk]
      try with_reducible rfl
     try simp only [Act.put, zA1, zA2, zA3, zA4, zA5, zA6]
     refine zT (i := 6) (v := ?_) rfl (Or.inl ⟨by kernel_rfl, ?_⟩) ?_
     rotate_left
     ·rintro w ⟨⟨x1, x2, x3, x4, x5⟩, x6, x7, x8, x9, x10⟩
      go_simp
      try simp only [hw1, hwk, hpk, hk2, if_pos hkk]
      try with_reducible rfl
     try simp only [Act.put, zA1, zA2, zA3, zA4, zA5, zA6]
     refine zT (i := 7) (v := ?_) rfl (Or.inl ⟨by kernel_rfl, ?_⟩) ?_
     rotate_left
     ·rintro w ⟨⟨x1, x2, x3, x4, x5⟩, x6, x7, x8, x9, x10⟩
      go_simp
      try with_reducible rfl
     try simp only [Act.put, zA1, zA2, zA3, zA4, zA5, zA6]
     refine zT (i := 8) (v := ?_) rfl (Or.inl ⟨by kernel_rfl, ?_⟩) ?_
     rotate_left
     ·rintro w ⟨⟨x1, x2, x3, x4, x5⟩, x6, x7, x8, x9, x10⟩
      go_simp
      try with_reducible rfl
     try simp only [Act.put, zA1, zA2, zA3, zA4, zA5, zA6]
     refine zT (i := 9) (v := ?_) rfl (Or.inl ⟨by kernel_rfl, ?_⟩) ?_
     rotate_left
     ·rintro w ⟨⟨x1, x2, x3, x4, x5⟩, x6, x7, x8, x9, x10⟩
      go_simp
      try with_reducible rfl
     try simp only [Act.put, zA1, zA2, zA3, zA4, zA5, zA6]
     refine zT (i := 10) (v := ?_) rfl (Or.inl ⟨by kernel_rfl, ?_⟩) ?_
     rotate_left
     ·rintro w ⟨⟨x1, x2, x3, x4, x5⟩, x6, x7, x8, x9, x10⟩
      go_simp
      try with_reducible rfl
     try simp only [Act.put, zA1, zA2, zA3, zA4, zA5, zA6]
     refine wpAnyH_ready (rs := [11]) (by kernel_rfl) (by simp) ?_
     refine AllReadyH.cons (o := _) rfl (fun K hKK => ?_) AllReadyH.nil
     go_simp
     go_at_call 107
     refine (hK _ (Below.refl _ _).drew).mono ?_
     rintro e w5 ⟨rfl, hb5⟩
     have hr5 := (HRW.out.below (Below.refl _ _).drew).below hb5
     have d1 := hr5.cell (i := k) (by omega)
     have d2 := hr5.cell (i := h) (by omega)
     rw [HX.out.1, HP.out.1] at d1
     rw [HX.out.2, HP.out.2] at d2
     have hg5 := gb_below HGG.out (bstep (Below.refl _ _).drew hb5)
     go_wp2_with fail
     refine hKK.out _ _ ?_ (fun hHeld => ?_)
     ·exact ⟨d1, d2⟩
     clear hKK K
     try simp only [Act.put, zA1, zA2, zA3, zA4, zA5, zA6]
     refine wpAnyH_ready (rs := [12]) (by kernel_rfl) (by simp) ?_
     refine AllReadyH.cons (o := _) rfl (fun K hKK => ?_) AllReadyH.nil
     go_simp
     refine hKK.out _ _ ?_ (fun hHeld => ?_)
     ·exact hHeld
     clear hKK K
     try simp only [Act.put, zA1, zA2, zA3, zA4, zA5, zA6]
     refine wpAnyH_ready (rs := [13]) (by kernel_rfl) (by simp) ?_
     refine AllReadyH.cons (o := _) rfl (fun K hKK => ?_) AllReadyH.nil
     go_simp
     refine hKK.out _ _ ?_ (fun hHeld => ?_)
     ·exact hHeld
     clear hKK K
     try simp only [Act.put, zA1, zA2, zA3, zA4, zA5, zA6]
     refine wpAnyH_done (by kernel_rfl) ?_ _
     have HR5 := Lib.hid hr5
     have HG5 := Lib.hid hg5
     clear c10 c11 c12 c13 c14 c20 c21 c22 c23 c24 hK hb5 hr5 hg5 hHeld
     go_wp2
     go_roundw
     case rel => exact ⟨s, h, rfl, by go_num, HB, hi1, by omega, by omega, HR5.out, HG5.out⟩
     case measure => simp [RowKit.intOf]; omega
    ·have HB := Lib.hid (hU (fun q => hlt0 (t1.2 q)))
     have hge : 0 ≤ v := by omega
     have hdf : decide (v < 0) = false := decide_eq_false hlt0
     clear hU hDn t1
     go_wp2
     refine wp_region_held_drew (S := fun w' => (w'.cell? ⟨g, k * 5, none⟩ = some (.string na1) ∧ w'.cell? ⟨g, k * 5 + 1, none⟩ = some (.int .i64 rk1) ∧ w'.cell? ⟨g, k * 5 + 2, none⟩ = some (.string kd1) ∧ w'.cell? ⟨g, k * 5 + 3, none⟩ = some (.int .i64 vl1) ∧ w'.cell? ⟨g, k * 5 + 4, none⟩ = some (.string rs1)) ∧ w'.cell? ⟨g, h * 5, none⟩ = some (.string na2) ∧ w'.cell? ⟨g, h * 5 + 1, none⟩ = some (.int .i64 rk2) ∧ w'.cell? ⟨g, h * 5 + 2, none⟩ = some (.string kd2) ∧ w'.cell? ⟨g, h * 5 + 3, none⟩ = some (.int .i64 vl2) ∧ w'.cell? ⟨g, h * 5 + 4, none⟩ = some (.string rs2)) (by kernel_rfl) ?_ (fun hHeld => ?_)
     ·exact ⟨⟨c10, c11, c12, c13, c14⟩, c20, c21, c22, c23, c24⟩
     refine zT (i := 0) (v := ?_) rfl (Or.inl ⟨by kernel_rfl, ?_⟩) ?_
     rotate_left
     ·rintro w ⟨⟨x1, x2, x3, x4, x5⟩, x6, x7, x8, x9, x10⟩
      go_simp
      try with_reducible rfl
     try simp only [Act.put, zA1, zA2, zA3, zA4, zA5, zA6]
     refine zT (i := 1) (v := ?_) rfl (Or.inl ⟨by kernel_rfl, ?_⟩) ?_
     rotate_left
     ·rintro w ⟨⟨x1, x2, x3, x4, x5⟩, x6, x7, x8, x9, x10⟩
      go_simp
      try with_reducible rfl
     try simp only [Act.put, zA1, zA2, zA3, zA4, zA5, zA6]
     refine zT (i := 2) (v := ?_) rfl (Or.inl ⟨by kernel_rfl, ?_⟩) ?_
     rotate_left
     ·rintro w ⟨⟨x1, x2, x3, x4, x5⟩, x6, x7, x8, x9, x10⟩
      go_simp
      try with_reducible rfl
     try simp only [Act.put, zA1, zA2, zA3, zA4, zA5, zA6]
     refine zT (i := 3) (v := ?_) rfl (Or.inl ⟨by kernel_rfl, ?_⟩) ?_
     rotate_left
     ·rintro w ⟨⟨x1, x2, x3, x4, x5⟩, x6, x7, x8, x9, x10⟩
      go_simp
      try with_reducible rfl
     try simp only [Act.put, zA1, zA2, zA3, zA4, zA5, zA6]
     refine zT (i := 4) (v := ?_) rfl (Or.inl ⟨by kernel_rfl, ?_⟩) ?_
     rotate_left
     ·rintro w ⟨⟨x1, x2, x3, x4, x5⟩, x6, x7, x8, x9, x10⟩
      go_simp
      try simp only [hw1, hwk, hpk, hk2, if_pos hkk]
      try with_reducible rfl
     try simp only [Act.put, zA1, zA2, zA3, zA4, zA5, zA6]
     refine zT (i := 5) (v := ?_) rfl (Or.inl ⟨by kernel_rfl, ?_⟩) ?_
     rotate_left
     ·rintro w ⟨⟨x1, x2, x3, x4, x5⟩, x6, x7, x8, x9, x10⟩
      go_simp
      try simp only [hw1, hwk, hpk, hk2, if_pos hkk]
      try with_reducible rfl
     try simp only [Act.put, zA1, zA2, zA3, zA4, zA5, zA6]
     refine zT (i := 6) (v := ?_) rfl (Or.inl ⟨by kernel_rfl, ?_⟩) ?_
     rotate_left
     ·rintro w ⟨⟨x1, x2, x3, x4, x5⟩, x6, x7, x8, x9, x10⟩
      go_simp
      try simp only [hw1, hwk, hpk, hk2, if_pos hkk]
      try with_reducible rfl
     try simp only [Act.put, zA1, zA2, zA3, zA4, zA5, zA6]
     refine zT (i := 7) (v := ?_) rfl (Or.inl ⟨by kernel_rfl, ?_⟩) ?_
     rotate_left
     ·rintro w ⟨⟨x1, x2, x3, x4, x5⟩, x6, x7, x8, x9, x10⟩
      go_simp
      try with_reducible rfl
     try simp only [Act.put, zA1, zA2, zA3, zA4, zA5, zA6]
     refine zT (i := 8) (v := ?_) rfl (Or.inl ⟨by kernel_rfl, ?_⟩) ?_
     rotate_left
     ·rintro w ⟨⟨x1, x2, x3, x4, x5⟩, x6, x7, x8, x9, x10⟩
      go_simp
      try with_reducible rfl
     try simp only [Act.put, zA1, zA2, zA3, zA4, zA5, zA6]
     refine zT (i := 9) (v := ?_) rfl (Or.inl ⟨by kernel_rfl, ?_⟩) ?_
     rotate_left
     ·rintro w ⟨⟨x1, x2, x3, x4, x5⟩, x6, x7, x8, x9, x10⟩
      go_simp
      try with_reducible rfl
     try simp only [Act.put, zA1, zA2, zA3, zA4, zA5, zA6]
     refine zT (i := 10) (v := ?_) rfl (Or.inl ⟨by kernel_rfl, ?_⟩) ?_
     rotate_left
     ·rintro w ⟨⟨x1, x2, x3, x4, x5⟩, x6, x7, x8, x9, x10⟩
      go_simp
      try with_reducible rfl
     try simp only [Act.put, zA1, zA2, zA3, zA4, zA5, zA6]
     refine wpAnyH_ready (rs := [11]) (by kernel_rfl) (by simp) ?_
     refine AllReadyH.cons (o := _) rfl (fun K hKK => ?_) AllReadyH.nil
     go_simp
     go_at_call 107
     refine (hK _ (Below.refl _ _).drew).mono ?_
     rintro e w5 ⟨rfl, hb5⟩
     have hr5 := (HRW.out.below (Below.refl _ _).drew).below hb5
     have d1 := hr5.cell (i := k) (by omega)
     have d2 := hr5.cell (i := h) (by omega)
     rw [HX.out.1, HP.out.1] at d1
     rw [HX.out.2, HP.out.2] at d2
     have hg5 := gb_below HGG.out (bstep (Below.refl _ _).drew hb5)
     go_wp2_with fail
     refine hKK.out _ _ ?_ (fun hHeld => ?_)
     ·exact ⟨d1, d2⟩
     clear hKK K
     try simp only [Act.put, zA1, zA2, zA3, zA4, zA5, zA6]
     refine wpAnyH_ready (rs := [12]) (by kernel_rfl) (by simp) ?_
     refine AllReadyH.cons (o := _) rfl (fun K hKK => ?_) AllReadyH.nil
     go_simp
     refine hKK.out _ _ ?_ (fun hHeld => ?_)
     ·exact hHeld
     clear hKK K
     try simp only [Act.put, zA1, zA2, zA3, zA4, zA5, zA6]
     refine wpAnyH_ready (rs := [13]) (by kernel_rfl) (by simp) ?_
     refine AllReadyH.cons (o := _) rfl (fun K hKK => ?_) AllReadyH.nil
     go_simp
     refine hKK.out _ _ ?_ (fun hHeld => ?_)
     ·exact hHeld
     clear hKK K
     try simp only [Act.put, zA1, zA2, zA3, zA4, zA5, zA6]
     refine wpAnyH_done (by kernel_rfl) ?_ _
     have HR5 := Lib.hid hr5
     have HG5 := Lib.hid hg5
     clear c10 c11 c12 c13 c14 c20 c21 c22 c23 c24 hK hb5 hr5 hg5 hHeld
     go_wp2
     go_roundw
     case rel => exact ⟨h + 1, r, by go_num, rfl, HB, by omega, by omega, hj1, HR5.out, HG5.out⟩
     case measure => simp [RowKit.intOf]; omega
   ·obtain rfl : s = r := by omega
    have hd := Srch.done ho HN.out (by rw [HL.out]; exact hb) (show a < m by omega) (show m < b by omega) (by rw [HMID.out, HLH.out.1, HLH.out.2]; exact HI.out)
    rw [HMID.out] at hd
    obtain ⟨e, he⟩ : ∃ e, mid + m - s = e := ⟨_, rfl⟩
    rw [he] at hd
    obtain ⟨f1, f2, f3, f4, f5, f6, f7⟩ := hd
    have hei : (mid : Int) + (m : Int) - (s : Int) = (e : Int) := by omega
    have hR0 := fun (h1 : s < m) (h2 : m < e) => rotateP_any F L B g n cap bx s m e wr hrow h1 h2 (by omega) hn1
    have HR0 := Lib.hid hR0
    have HRW0 := Lib.hid hrow
    have HGG0 := Lib.hid hg
    clear hR0 hrow hg HI he
    by_cases z1 : s < m
    ·have z1i : (s : Int) < (m : Int) := by omega
     by_cases z2 : m < e
     ·have z2i : (m : Int) < (e : Int) := by omega
      have hR := HR0.out z1 z2
      unfold RowPostP cmpP at hR
      clear HR0
      go_wp2_with fail
      with_reducible refine hR.mono ?_
      rintro e5 w5 ⟨M, rfl, hrot, hr5, hg5⟩
      have HRW := Lib.hid hr5
      have HGG := Lib.hid (HGG0.out.trans hg5)
      clear hR hr5 hg5 HRW0 HGG0
      have hH := halves_of ho HS1.out HS2.out HT.out f1 f2 f3 f4 f6 f7 hrot
      obtain ⟨v1, v2, v3, v4, v5, v6, v7⟩ := hH
      rw [f5] at v2 v3 v5 v6 v7
      have HPM := Lib.hid (hrot.perm.wide f1 f4)
      have HNDM := Lib.hid (HPM.out.perm.nodup_iff.2 HN.out)
      have HBEL := Lib.hid v5
      have HV := Lib.hid (And.intro v1 (And.intro v2 (And.intro v3 (And.intro v4 (And.intro v6 v7)))))
      clear v1 v2 v3 v4 v5 v6 v7 hrot
      by_cases y1 : a < s
      ·have y1i : (a : Int) < (s : Int) := by omega
       by_cases y2 : s < mid
       ·have y2i : (s : Int) < (mid : Int) := by omega
        have hI := HIH.out M a s mid _ (by omega) HRW.out HNDM.out y1 y2 (by omega) (HC.out.next HGG.out HPM.out.perm) HV.out.1 HV.out.2.1 HV.out.2.2.2.2.1
        unfold SortP cmpP at hI
        go_wp2_with fail
        with_reducible refine hI.mono ?_
        rintro e6 w6 ⟨M1, rfl, p1, s1, r1, g1⟩
        have HP1 := Lib.hid p1
        have HRW1 := Lib.hid r1
        have HGW1 := Lib.hid (HGG.out.trans g1)
        have HPW1 := Lib.hid (HPM.out.trans (HP1.out.wide (Nat.le_refl a) (show mid ≤ b by omega)))
        have HND1 := Lib.hid (HPW1.out.perm.nodup_iff.2 HN.out)
        have hsame : ∀ q, mid ≤ q → ga M1 q = ga M q := fun q hq => HP1.out.out q (by omega)
        have HH := Lib.hid (And.intro (show Srt lt M1 a mid from s1) (And.intro (HV.out.2.2.1.same (fun q h1 _ => hsame q h1)) (And.intro (HV.out.2.2.2.1.same (fun q h1 _ => hsame q (by omega))) (show Tst cm lt M1 mid e b from fun p q h1 h2 h3 h4 => by rw [hsame p h1, hsame q (by omega)]; exact HV.out.2.2.2.2.2 p q h1 h2 h3 h4))))
        clear hsame p1 s1 r1 g1 hI
        by_cases x1 : mid < e
        ·have x1i : (mid : Int) < (e : Int) := by omega
         by_cases x2 : e < b
         ·have x2i : (e : Int) < (b : Int) := by omega
          have hI := HIH.out M1 mid e b _ (by omega) HRW1.out HND1.out (by omega) (by omega) hb (HC.out.next HGW1.out HPW1.out.perm) HH.out.2.1 HH.out.2.2.1 HH.out.2.2.2
          unfold SortP cmpP at hI
          go_wp2_with fail
          with_reducible refine hI.mono ?_
          rintro e7 w7 ⟨M2, rfl, p2, s2, r2, g2⟩
          have hF := halves_done HNDM.out (by rw [HPM.out.len, HL.out]; exact hb) (by omega) (by omega) HBEL.out HP1.out HH.out.1 p2 s2
          have HF := Lib.hid (And.intro (HPW1.out.trans (p2.wide (by omega) (Nat.le_refl _))) (And.intro hF (And.intro r2 (HGW1.out.trans g2))))
          clear hI hF p2 s2 r2 g2
          go_wp2
          go_end0
          first | exact ⟨M2, rfl, HF.out⟩ | exact ⟨rfl, M2, HF.out⟩
         ·have x2i : ¬ (e : Int) < (b : Int) := by omega
          have hF := halves_done HNDM.out (by rw [HPM.out.len, HL.out]; exact hb) (by omega) (by omega) HBEL.out HP1.out HH.out.1 (PermIn.refl mid b M1) (HH.out.2.1.sub (Nat.le_refl _) (by omega))
          have HF := Lib.hid (And.intro HPW1.out (And.intro hF (And.intro HRW1.out HGW1.out)))
          clear hF
          go_wp2
          go_end0
          first | exact ⟨M1, rfl, HF.out⟩ | exact ⟨rfl, M1, HF.out⟩
        ·have x1i : ¬ (mid : Int) < (e : Int) := by omega
         have hF := halves_done HNDM.out (by rw [HPM.out.len, HL.out]; exact hb) (by omega) (by omega) HBEL.out HP1.out HH.out.1 (PermIn.refl mid b M1) (HH.out.2.2.1.sub (by omega) (Nat.le_refl _))
         have HF := Lib.hid (And.intro HPW1.out (And.intro hF (And.intro HRW1.out HGW1.out)))
         clear hF
         go_wp2
         go_end0
         first | exact ⟨M1, rfl, HF.out⟩ | exact ⟨rfl, M1, HF.out⟩
       ·have y2i : ¬ (s : Int) < (mid : Int) := by omega
        obtain ⟨M1, hM1⟩ : ∃ M1, M1 = M := ⟨_, rfl⟩
        subst hM1
        have HP1 := Lib.hid (PermIn.refl a mid M1)
        have HRW1 := Lib.hid HRW.out
        have HGW1 := Lib.hid HGG.out
        have HPW1 := Lib.hid (HPM.out.trans (HP1.out.wide (Nat.le_refl a) (show mid ≤ b by omega)))
        have HND1 := Lib.hid (HPW1.out.perm.nodup_iff.2 HN.out)
        have hsame : ∀ q, mid ≤ q → ga M1 q = ga M1 q := fun q hq => HP1.out.out q (by omega)
        have HH := Lib.hid (And.intro (show Srt lt M1 a mid from (HV.out.1.sub (Nat.le_refl _) (by omega))) (And.intro (HV.out.2.2.1.same (fun q h1 _ => hsame q h1)) (And.intro (HV.out.2.2.2.1.same (fun q h1 _ => hsame q (by omega))) (show Tst cm lt M1 mid e b from fun p q h1 h2 h3 h4 => by rw [hsame p h1, hsame q (by omega)]; exact HV.out.2.2.2.2.2 p q h1 h2 h3 h4))))
        clear hsame
        by_cases x1 : mid < e
        ·have x1i : (mid : Int) < (e : Int) := by omega
         by_cases x2 : e < b
         ·have x2i : (e : Int) < (b : Int) := by omega
          have hI := HIH.out M1 mid e b _ (by omega) HRW1.out HND1.out (by omega) (by omega) hb (HC.out.next HGW1.out HPW1.out.perm) HH.out.2.1 HH.out.2.2.1 HH.out.2.2.2
          unfold SortP cmpP at hI
          go_wp2_with fail
          with_reducible refine hI.mono ?_
          rintro e7 w7 ⟨M2, rfl, p2, s2, r2, g2⟩
          have hF := halves_done HNDM.out (by rw [HPM.out.len, HL.out]; exact hb) (by omega) (by omega) HBEL.out HP1.out HH.out.1 p2 s2
          have HF := Lib.hid (And.intro (HPW1.out.trans (p2.wide (by omega) (Nat.le_refl _))) (And.intro hF (And.intro r2 (HGW1.out.trans g2))))
          clear hI hF p2 s2 r2 g2
          go_wp2
          go_end0
          first | exact ⟨M2, rfl, HF.out⟩ | exact ⟨rfl, M2, HF.out⟩
         ·have x2i : ¬ (e : Int) < (b : Int) := by omega
          have hF := halves_done HNDM.out (by rw [HPM.out.len, HL.out]; exact hb) (by omega) (by omega) HBEL.out HP1.out HH.out.1 (PermIn.refl mid b M1) (HH.out.2.1.sub (Nat.le_refl _) (by omega))
          have HF := Lib.hid (And.intro HPW1.out (And.intro hF (And.intro HRW1.out HGW1.out)))
          clear hF
          go_wp2
          go_end0
          first | exact ⟨M1, rfl, HF.out⟩ | exact ⟨rfl, M1, HF.out⟩
        ·have x1i : ¬ (mid : Int) < (e : Int) := by omega
         have hF := halves_done HNDM.out (by rw [HPM.out.len, HL.out]; exact hb) (by omega) (by omega) HBEL.out HP1.out HH.out.1 (PermIn.refl mid b M1) (HH.out.2.2.1.sub (by omega) (Nat.le_refl _))
         have HF := Lib.hid (And.intro HPW1.out (And.intro hF (And.intro HRW1.out HGW1.out)))
         clear hF
         go_wp2
         go_end0
         first | exact ⟨M1, rfl, HF.out⟩ | exact ⟨rfl, M1, HF.out⟩
      ·have y1i : ¬ (a : Int) < (s : Int) := by omega
       obtain ⟨M1, hM1⟩ : ∃ M1, M1 = M := ⟨_, rfl⟩
       subst hM1
       have HP1 := Lib.hid (PermIn.refl a mid M1)
       have HRW1 := Lib.hid HRW.out
       have HGW1 := Lib.hid HGG.out
       have HPW1 := Lib.hid (HPM.out.trans (HP1.out.wide (Nat.le_refl a) (show mid ≤ b by omega)))
       have HND1 := Lib.hid (HPW1.out.perm.nodup_iff.2 HN.out)
       have hsame : ∀ q, mid ≤ q → ga M1 q = ga M1 q := fun q hq => HP1.out.out q (by omega)
       have HH := Lib.hid (And.intro (show Srt lt M1 a mid from (HV.out.2.1.sub (by omega) (Nat.le_refl _))) (And.intro (HV.out.2.2.1.same (fun q h1 _ => hsame q h1)) (And.intro (HV.out.2.2.2.1.same (fun q h1 _ => hsame q (by omega))) (show Tst cm lt M1 mid e b from fun p q h1 h2 h3 h4 => by rw [hsame p h1, hsame q (by omega)]; exact HV.out.2.2.2.2.2 p q h1 h2 h3 h4))))
       clear hsame
       by_cases x1 : mid < e
       ·have x1i : (mid : Int) < (e : Int) := by omega
        by_cases x2 : e < b
        ·have x2i : (e : Int) < (b : Int) := by omega
         have hI := HIH.out M1 mid e b _ (by omega) HRW1.out HND1.out (by omega) (by omega) hb (HC.out.next HGW1.out HPW1.out.perm) HH.out.2.1 HH.out.2.2.1 HH.out.2.2.2
         unfold SortP cmpP at hI
         go_wp2_with fail
         with_reducible refine hI.mono ?_
         rintro e7 w7 ⟨M2, rfl, p2, s2, r2, g2⟩
         have hF := halves_done HNDM.out (by rw [HPM.out.len, HL.out]; exact hb) (by omega) (by omega) HBEL.out HP1.out HH.out.1 p2 s2
         have HF := Lib.hid (And.intro (HPW1.out.trans (p2.wide (by omega) (Nat.le_refl _))) (And.intro hF (And.intro r2 (HGW1.out.trans g2))))
         clear hI hF p2 s2 r2 g2
         go_wp2
         go_end0
         first | exact ⟨M2, rfl, HF.out⟩ | exact ⟨rfl, M2, HF.out⟩
        ·have x2i : ¬ (e : Int) < (b : Int) := by omega
         have hF := halves_done HNDM.out (by rw [HPM.out.len, HL.out]; exact hb) (by omega) (by omega) HBEL.out HP1.out HH.out.1 (PermIn.refl mid b M1) (HH.out.2.1.sub (Nat.le_refl _) (by omega))
         have HF := Lib.hid (And.intro HPW1.out (And.intro hF (And.intro HRW1.out HGW1.out)))
         clear hF
         go_wp2
         go_end0
         first | exact ⟨M1, rfl, HF.out⟩ | exact ⟨rfl, M1, HF.out⟩
       ·have x1i : ¬ (mid : Int) < (e : Int) := by omega
        have hF := halves_done HNDM.out (by rw [HPM.out.len, HL.out]; exact hb) (by omega) (by omega) HBEL.out HP1.out HH.out.1 (PermIn.refl mid b M1) (HH.out.2.2.1.sub (by omega) (Nat.le_refl _))
        have HF := Lib.hid (And.intro HPW1.out (And.intro hF (And.intro HRW1.out HGW1.out)))
        clear hF
        go_wp2
        go_end0
        first | exact ⟨M1, rfl, HF.out⟩ | exact ⟨rfl, M1, HF.out⟩
     ·have z2i : ¬ (m : Int) < (e : Int) := by omega
      obtain ⟨M, hML⟩ : ∃ M, L = M := ⟨_, rfl⟩
      have hrot0 := RotR.refl (s := s) (m := m) (e := e) f2 f3 L (.inr (by omega))
      have hrot : RotR s m e L M := by rw [← hML]; exact hrot0
      have HRWm : Hid (RowP F wr B g n cap M) := by rw [← hML]; exact HRW0
      clear hML hrot0
      have HRW := HRWm
      have HGG := HGG0
      clear HR0
      have hH := halves_of ho HS1.out HS2.out HT.out f1 f2 f3 f4 f6 f7 hrot
      obtain ⟨v1, v2, v3, v4, v5, v6, v7⟩ := hH
      rw [f5] at v2 v3 v5 v6 v7
      have HPM := Lib.hid (hrot.perm.wide f1 f4)
      have HNDM := Lib.hid (HPM.out.perm.nodup_iff.2 HN.out)
      have HBEL := Lib.hid v5
      have HV := Lib.hid (And.intro v1 (And.intro v2 (And.intro v3 (And.intro v4 (And.intro v6 v7)))))
      clear v1 v2 v3 v4 v5 v6 v7 hrot
      by_cases y1 : a < s
      ·have y1i : (a : Int) < (s : Int) := by omega
       by_cases y2 : s < mid
       ·have y2i : (s : Int) < (mid : Int) := by omega
        have hI := HIH.out M a s mid _ (by omega) HRW.out HNDM.out y1 y2 (by omega) (HC.out.next HGG.out HPM.out.perm) HV.out.1 HV.out.2.1 HV.out.2.2.2.2.1
        unfold SortP cmpP at hI
        go_wp2_with fail
        with_reducible refine hI.mono ?_
        rintro e6 w6 ⟨M1, rfl, p1, s1, r1, g1⟩
        have HP1 := Lib.hid p1
        have HRW1 := Lib.hid r1
        have HGW1 := Lib.hid (HGG.out.trans g1)
        have HPW1 := Lib.hid (HPM.out.trans (HP1.out.wide (Nat.le_refl a) (show mid ≤ b by omega)))
        have HND1 := Lib.hid (HPW1.out.perm.nodup_iff.2 HN.out)
        have hsame : ∀ q, mid ≤ q → ga M1 q = ga M q := fun q hq => HP1.out.out q (by omega)
        have HH := Lib.hid (And.intro (show Srt lt M1 a mid from s1) (And.intro (HV.out.2.2.1.same (fun q h1 _ => hsame q h1)) (And.intro (HV.out.2.2.2.1.same (fun q h1 _ => hsame q (by omega))) (show Tst cm lt M1 mid e b from fun p q h1 h2 h3 h4 => by rw [hsame p h1, hsame q (by omega)]; exact HV.out.2.2.2.2.2 p q h1 h2 h3 h4))))
        clear hsame p1 s1 r1 g1 hI
        by_cases x1 : mid < e
        ·have x1i : (mid : Int) < (e : Int) := by omega
         by_cases x2 : e < b
         ·have x2i : (e : Int) < (b : Int) := by omega
          have hI := HIH.out M1 mid e b _ (by omega) HRW1.out HND1.out (by omega) (by omega) hb (HC.out.next HGW1.out HPW1.out.perm) HH.out.2.1 HH.out.2.2.1 HH.out.2.2.2
          unfold SortP cmpP at hI
          go_wp2_with fail
          with_reducible refine hI.mono ?_
          rintro e7 w7 ⟨M2, rfl, p2, s2, r2, g2⟩
          have hF := halves_done HNDM.out (by rw [HPM.out.len, HL.out]; exact hb) (by omega) (by omega) HBEL.out HP1.out HH.out.1 p2 s2
          have HF := Lib.hid (And.intro (HPW1.out.trans (p2.wide (by omega) (Nat.le_refl _))) (And.intro hF (And.intro r2 (HGW1.out.trans g2))))
          clear hI hF p2 s2 r2 g2
          go_wp2
          go_end0
          first | exact ⟨M2, rfl, HF.out⟩ | exact ⟨rfl, M2, HF.out⟩
         ·have x2i : ¬ (e : Int) < (b : Int) := by omega
          have hF := halves_done HNDM.out (by rw [HPM.out.len, HL.out]; exact hb) (by omega) (by omega) HBEL.out HP1.out HH.out.1 (PermIn.refl mid b M1) (HH.out.2.1.sub (Nat.le_refl _) (by omega))
          have HF := Lib.hid (And.intro HPW1.out (And.intro hF (And.intro HRW1.out HGW1.out)))
          clear hF
          go_wp2
          go_end0
          first | exact ⟨M1, rfl, HF.out⟩ | exact ⟨rfl, M1, HF.out⟩
        ·have x1i : ¬ (mid : Int) < (e : Int) := by omega
         have hF := halves_done HNDM.out (by rw [HPM.out.len, HL.out]; exact hb) (by omega) (by omega) HBEL.out HP1.out HH.out.1 (PermIn.refl mid b M1) (HH.out.2.2.1.sub (by omega) (Nat.le_refl _))
         have HF := Lib.hid (And.intro HPW1.out (And.intro hF (And.intro HRW1.out HGW1.out)))
         clear hF
         go_wp2
         go_end0
         first | exact ⟨M1, rfl, HF.out⟩ | exact ⟨rfl, M1, HF.out⟩
       ·have y2i : ¬ (s : Int) < (mid : Int) := by omega
        obtain ⟨M1, hM1⟩ : ∃ M1, M1 = M := ⟨_, rfl⟩
        subst hM1
        have HP1 := Lib.hid (PermIn.refl a mid M1)
        have HRW1 := Lib.hid HRW.out
        have HGW1 := Lib.hid HGG.out
        have HPW1 := Lib.hid (HPM.out.trans (HP1.out.wide (Nat.le_refl a) (show mid ≤ b by omega)))
        have HND1 := Lib.hid (HPW1.out.perm.nodup_iff.2 HN.out)
        have hsame : ∀ q, mid ≤ q → ga M1 q = ga M1 q := fun q hq => HP1.out.out q (by omega)
        have HH := Lib.hid (And.intro (show Srt lt M1 a mid from (HV.out.1.sub (Nat.le_refl _) (by omega))) (And.intro (HV.out.2.2.1.same (fun q h1 _ => hsame q h1)) (And.intro (HV.out.2.2.2.1.same (fun q h1 _ => hsame q (by omega))) (show Tst cm lt M1 mid e b from fun p q h1 h2 h3 h4 => by rw [hsame p h1, hsame q (by omega)]; exact HV.out.2.2.2.2.2 p q h1 h2 h3 h4))))
        clear hsame
        by_cases x1 : mid < e
        ·have x1i : (mid : Int) < (e : Int) := by omega
         by_cases x2 : e < b
         ·have x2i : (e : Int) < (b : Int) := by omega
          have hI := HIH.out M1 mid e b _ (by omega) HRW1.out HND1.out (by omega) (by omega) hb (HC.out.next HGW1.out HPW1.out.perm) HH.out.2.1 HH.out.2.2.1 HH.out.2.2.2
          unfold SortP cmpP at hI
          go_wp2_with fail
          with_reducible refine hI.mono ?_
          rintro e7 w7 ⟨M2, rfl, p2, s2, r2, g2⟩
          have hF := halves_done HNDM.out (by rw [HPM.out.len, HL.out]; exact hb) (by omega) (by omega) HBEL.out HP1.out HH.out.1 p2 s2
          have HF := Lib.hid (And.intro (HPW1.out.trans (p2.wide (by omega) (Nat.le_refl _))) (And.intro hF (And.intro r2 (HGW1.out.trans g2))))
          clear hI hF p2 s2 r2 g2
          go_wp2
          go_end0
          first | exact ⟨M2, rfl, HF.out⟩ | exact ⟨rfl, M2, HF.out⟩
         ·have x2i : ¬ (e : Int) < (b : Int) := by omega
          have hF := halves_done HNDM.out (by rw [HPM.out.len, HL.out]; exact hb) (by omega) (by omega) HBEL.out HP1.out HH.out.1 (PermIn.refl mid b M1) (HH.out.2.1.sub (Nat.le_refl _) (by omega))
          have HF := Lib.hid (And.intro HPW1.out (And.intro hF (And.intro HRW1.out HGW1.out)))
          clear hF
          go_wp2
          go_end0
          first | exact ⟨M1, rfl, HF.out⟩ | exact ⟨rfl, M1, HF.out⟩
        ·have x1i : ¬ (mid : Int) < (e : Int) := by omega
         have hF := halves_done HNDM.out (by rw [HPM.out.len, HL.out]; exact hb) (by omega) (by omega) HBEL.out HP1.out HH.out.1 (PermIn.refl mid b M1) (HH.out.2.2.1.sub (by omega) (Nat.le_refl _))
         have HF := Lib.hid (And.intro HPW1.out (And.intro hF (And.intro HRW1.out HGW1.out)))
         clear hF
         go_wp2
         go_end0
         first | exact ⟨M1, rfl, HF.out⟩ | exact ⟨rfl, M1, HF.out⟩
      ·have y1i : ¬ (a : Int) < (s : Int) := by omega
       obtain ⟨M1, hM1⟩ : ∃ M1, M1 = M := ⟨_, rfl⟩
       subst hM1
       have HP1 := Lib.hid (PermIn.refl a mid M1)
       have HRW1 := Lib.hid HRW.out
       have HGW1 := Lib.hid HGG.out
       have HPW1 := Lib.hid (HPM.out.trans (HP1.out.wide (Nat.le_refl a) (show mid ≤ b by omega)))
       have HND1 := Lib.hid (HPW1.out.perm.nodup_iff.2 HN.out)
       have hsame : ∀ q, mid ≤ q → ga M1 q = ga M1 q := fun q hq => HP1.out.out q (by omega)
       have HH := Lib.hid (And.intro (show Srt lt M1 a mid from (HV.out.2.1.sub (by omega) (Nat.le_refl _))) (And.intro (HV.out.2.2.1.same (fun q h1 _ => hsame q h1)) (And.intro (HV.out.2.2.2.1.same (fun q h1 _ => hsame q (by omega))) (show Tst cm lt M1 mid e b from fun p q h1 h2 h3 h4 => by rw [hsame p h1, hsame q (by omega)]; exact HV.out.2.2.2.2.2 p q h1 h2 h3 h4))))
       clear hsame
       by_cases x1 : mid < e
       ·have x1i : (mid : Int) < (e : Int) := by omega
        by_cases x2 : e < b
        ·have x2i : (e : Int) < (b : Int) := by omega
         have hI := HIH.out M1 mid e b _ (by omega) HRW1.out HND1.out (by omega) (by omega) hb (HC.out.next HGW1.out HPW1.out.perm) HH.out.2.1 HH.out.2.2.1 HH.out.2.2.2
         unfold SortP cmpP at hI
         go_wp2_with fail
         with_reducible refine hI.mono ?_
         rintro e7 w7 ⟨M2, rfl, p2, s2, r2, g2⟩
         have hF := halves_done HNDM.out (by rw [HPM.out.len, HL.out]; exact hb) (by omega) (by omega) HBEL.out HP1.out HH.out.1 p2 s2
         have HF := Lib.hid (And.intro (HPW1.out.trans (p2.wide (by omega) (Nat.le_refl _))) (And.intro hF (And.intro r2 (HGW1.out.trans g2))))
         clear hI hF p2 s2 r2 g2
         go_wp2
         go_end0
         first | exact ⟨M2, rfl, HF.out⟩ | exact ⟨rfl, M2, HF.out⟩
        ·have x2i : ¬ (e : Int) < (b : Int) := by omega
         have hF := halves_done HNDM.out (by rw [HPM.out.len, HL.out]; exact hb) (by omega) (by omega) HBEL.out HP1.out HH.out.1 (PermIn.refl mid b M1) (HH.out.2.1.sub (Nat.le_refl _) (by omega))
         have HF := Lib.hid (And.intro HPW1.out (And.intro hF (And.intro HRW1.out HGW1.out)))
         clear hF
         go_wp2
         go_end0
         first | exact ⟨M1, rfl, HF.out⟩ | exact ⟨rfl, M1, HF.out⟩
       ·have x1i : ¬ (mid : Int) < (e : Int) := by omega
        have hF := halves_done HNDM.out (by rw [HPM.out.len, HL.out]; exact hb) (by omega) (by omega) HBEL.out HP1.out HH.out.1 (PermIn.refl mid b M1) (HH.out.2.2.1.sub (by omega) (Nat.le_refl _))
        have HF := Lib.hid (And.intro HPW1.out (And.intro hF (And.intro HRW1.out HGW1.out)))
        clear hF
        go_wp2
        go_end0
        first | exact ⟨M1, rfl, HF.out⟩ | exact ⟨rfl, M1, HF.out⟩
    ·have z1i : ¬ (s : Int) < (m : Int) := by omega
     obtain ⟨M, hML⟩ : ∃ M, L = M := ⟨_, rfl⟩
     have hrot0 := RotR.refl (s := s) (m := m) (e := e) f2 f3 L (.inl (by omega))
     have hrot : RotR s m e L M := by rw [← hML]; exact hrot0
     have HRWm : Hid (RowP F wr B g n cap M) := by rw [← hML]; exact HRW0
     clear hML hrot0
     have HRW := HRWm
     have HGG := HGG0
     clear HR0
     have hH := halves_of ho HS1.out HS2.out HT.out f1 f2 f3 f4 f6 f7 hrot
     obtain ⟨v1, v2, v3, v4, v5, v6, v7⟩ := hH
     rw [f5] at v2 v3 v5 v6 v7
     have HPM := Lib.hid (hrot.perm.wide f1 f4)
     have HNDM := Lib.hid (HPM.out.perm.nodup_iff.2 HN.out)
     have HBEL := Lib.hid v5
     have HV := Lib.hid (And.intro v1 (And.intro v2 (And.intro v3 (And.intro v4 (And.intro v6 v7)))))
     clear v1 v2 v3 v4 v5 v6 v7 hrot
     by_cases y1 : a < s
     ·have y1i : (a : Int) < (s : Int) := by omega
      by_cases y2 : s < mid
      ·have y2i : (s : Int) < (mid : Int) := by omega
       have hI := HIH.out M a s mid _ (by omega) HRW.out HNDM.out y1 y2 (by omega) (HC.out.next HGG.out HPM.out.perm) HV.out.1 HV.out.2.1 HV.out.2.2.2.2.1
       unfold SortP cmpP at hI
       go_wp2_with fail
       with_reducible refine hI.mono ?_
       rintro e6 w6 ⟨M1, rfl, p1, s1, r1, g1⟩
       have HP1 := Lib.hid p1
       have HRW1 := Lib.hid r1
       have HGW1 := Lib.hid (HGG.out.trans g1)
       have HPW1 := Lib.hid (HPM.out.trans (HP1.out.wide (Nat.le_refl a) (show mid ≤ b by omega)))
       have HND1 := Lib.hid (HPW1.out.perm.nodup_iff.2 HN.out)
       have hsame : ∀ q, mid ≤ q → ga M1 q = ga M q := fun q hq => HP1.out.out q (by omega)
       have HH := Lib.hid (And.intro (show Srt lt M1 a mid from s1) (And.intro (HV.out.2.2.1.same (fun q h1 _ => hsame q h1)) (And.intro (HV.out.2.2.2.1.same (fun q h1 _ => hsame q (by omega))) (show Tst cm lt M1 mid e b from fun p q h1 h2 h3 h4 => by rw [hsame p h1, hsame q (by omega)]; exact HV.out.2.2.2.2.2 p q h1 h2 h3 h4))))
       clear hsame p1 s1 r1 g1 hI
       by_cases x1 : mid < e
       ·have x1i : (mid : Int) < (e : Int) := by omega
        by_cases x2 : e < b
        ·have x2i : (e : Int) < (b : Int) := by omega
         have hI := HIH.out M1 mid e b _ (by omega) HRW1.out HND1.out (by omega) (by omega) hb (HC.out.next HGW1.out HPW1.out.perm) HH.out.2.1 HH.out.2.2.1 HH.out.2.2.2
         unfold SortP cmpP at hI
         go_wp2_with fail
         with_reducible refine hI.mono ?_
         rintro e7 w7 ⟨M2, rfl, p2, s2, r2, g2⟩
         have hF := halves_done HNDM.out (by rw [HPM.out.len, HL.out]; exact hb) (by omega) (by omega) HBEL.out HP1.out HH.out.1 p2 s2
         have HF := Lib.hid (And.intro (HPW1.out.trans (p2.wide (by omega) (Nat.le_refl _))) (And.intro hF (And.intro r2 (HGW1.out.trans g2))))
         clear hI hF p2 s2 r2 g2
         go_wp2
         go_end0
         first | exact ⟨M2, rfl, HF.out⟩ | exact ⟨rfl, M2, HF.out⟩
        ·have x2i : ¬ (e : Int) < (b : Int) := by omega
         have hF := halves_done HNDM.out (by rw [HPM.out.len, HL.out]; exact hb) (by omega) (by omega) HBEL.out HP1.out HH.out.1 (PermIn.refl mid b M1) (HH.out.2.1.sub (Nat.le_refl _) (by omega))
         have HF := Lib.hid (And.intro HPW1.out (And.intro hF (And.intro HRW1.out HGW1.out)))
         clear hF
         go_wp2
         go_end0
         first | exact ⟨M1, rfl, HF.out⟩ | exact ⟨rfl, M1, HF.out⟩
       ·have x1i : ¬ (mid : Int) < (e : Int) := by omega
        have hF := halves_done HNDM.out (by rw [HPM.out.len, HL.out]; exact hb) (by omega) (by omega) HBEL.out HP1.out HH.out.1 (PermIn.refl mid b M1) (HH.out.2.2.1.sub (by omega) (Nat.le_refl _))
        have HF := Lib.hid (And.intro HPW1.out (And.intro hF (And.intro HRW1.out HGW1.out)))
        clear hF
        go_wp2
        go_end0
        first | exact ⟨M1, rfl, HF.out⟩ | exact ⟨rfl, M1, HF.out⟩
      ·have y2i : ¬ (s : Int) < (mid : Int) := by omega
       obtain ⟨M1, hM1⟩ : ∃ M1, M1 = M := ⟨_, rfl⟩
       subst hM1
       have HP1 := Lib.hid (PermIn.refl a mid M1)
       have HRW1 := Lib.hid HRW.out
       have HGW1 := Lib.hid HGG.out
       have HPW1 := Lib.hid (HPM.out.trans (HP1.out.wide (Nat.le_refl a) (show mid ≤ b by omega)))
       have HND1 := Lib.hid (HPW1.out.perm.nodup_iff.2 HN.out)
       have hsame : ∀ q, mid ≤ q → ga M1 q = ga M1 q := fun q hq => HP1.out.out q (by omega)
       have HH := Lib.hid (And.intro (show Srt lt M1 a mid from (HV.out.1.sub (Nat.le_refl _) (by omega))) (And.intro (HV.out.2.2.1.same (fun q h1 _ => hsame q h1)) (And.intro (HV.out.2.2.2.1.same (fun q h1 _ => hsame q (by omega))) (show Tst cm lt M1 mid e b from fun p q h1 h2 h3 h4 => by rw [hsame p h1, hsame q (by omega)]; exact HV.out.2.2.2.2.2 p q h1 h2 h3 h4))))
       clear hsame
       by_cases x1 : mid < e
       ·have x1i : (mid : Int) < (e : Int) := by omega
        by_cases x2 : e < b
        ·have x2i : (e : Int) < (b : Int) := by omega
         have hI := HIH.out M1 mid e b _ (by omega) HRW1.out HND1.out (by omega) (by omega) hb (HC.out.next HGW1.out HPW1.out.perm) HH.out.2.1 HH.out.2.2.1 HH.out.2.2.2
         unfold SortP cmpP at hI
         go_wp2_with fail
         with_reducible refine hI.mono ?_
         rintro e7 w7 ⟨M2, rfl, p2, s2, r2, g2⟩
         have hF := halves_done HNDM.out (by rw [HPM.out.len, HL.out]; exact hb) (by omega) (by omega) HBEL.out HP1.out HH.out.1 p2 s2
         have HF := Lib.hid (And.intro (HPW1.out.trans (p2.wide (by omega) (Nat.le_refl _))) (And.intro hF (And.intro r2 (HGW1.out.trans g2))))
         clear hI hF p2 s2 r2 g2
         go_wp2
         go_end0
         first | exact ⟨M2, rfl, HF.out⟩ | exact ⟨rfl, M2, HF.out⟩
        ·have x2i : ¬ (e : Int) < (b : Int) := by omega
         have hF := halves_done HNDM.out (by rw [HPM.out.len, HL.out]; exact hb) (by omega) (by omega) HBEL.out HP1.out HH.out.1 (PermIn.refl mid b M1) (HH.out.2.1.sub (Nat.le_refl _) (by omega))
         have HF := Lib.hid (And.intro HPW1.out (And.intro hF (And.intro HRW1.out HGW1.out)))
         clear hF
         go_wp2
         go_end0
         first | exact ⟨M1, rfl, HF.out⟩ | exact ⟨rfl, M1, HF.out⟩
       ·have x1i : ¬ (mid : Int) < (e : Int) := by omega
        have hF := halves_done HNDM.out (by rw [HPM.out.len, HL.out]; exact hb) (by omega) (by omega) HBEL.out HP1.out HH.out.1 (PermIn.refl mid b M1) (HH.out.2.2.1.sub (by omega) (Nat.le_refl _))
        have HF := Lib.hid (And.intro HPW1.out (And.intro hF (And.intro HRW1.out HGW1.out)))
        clear hF
        go_wp2
        go_end0
        first | exact ⟨M1, rfl, HF.out⟩ | exact ⟨rfl, M1, HF.out⟩
     ·have y1i : ¬ (a : Int) < (s : Int) := by omega
      obtain ⟨M1, hM1⟩ : ∃ M1, M1 = M := ⟨_, rfl⟩
      subst hM1
      have HP1 := Lib.hid (PermIn.refl a mid M1)
      have HRW1 := Lib.hid HRW.out
      have HGW1 := Lib.hid HGG.out
      have HPW1 := Lib.hid (HPM.out.trans (HP1.out.wide (Nat.le_refl a) (show mid ≤ b by omega)))
      have HND1 := Lib.hid (HPW1.out.perm.nodup_iff.2 HN.out)
      have hsame : ∀ q, mid ≤ q → ga M1 q = ga M1 q := fun q hq => HP1.out.out q (by omega)
      have HH := Lib.hid (And.intro (show Srt lt M1 a mid from (HV.out.2.1.sub (by omega) (Nat.le_refl _))) (And.intro (HV.out.2.2.1.same (fun q h1 _ => hsame q h1)) (And.intro (HV.out.2.2.2.1.same (fun q h1 _ => hsame q (by omega))) (show Tst cm lt M1 mid e b from fun p q h1 h2 h3 h4 => by rw [hsame p h1, hsame q (by omega)]; exact HV.out.2.2.2.2.2 p q h1 h2 h3 h4))))
      clear hsame
      by_cases x1 : mid < e
      ·have x1i : (mid : Int) < (e : Int) := by omega
       by_cases x2 : e < b
       ·have x2i : (e : Int) < (b : Int) := by omega
        have hI := HIH.out M1 mid e b _ (by omega) HRW1.out HND1.out (by omega) (by omega) hb (HC.out.next HGW1.out HPW1.out.perm) HH.out.2.1 HH.out.2.2.1 HH.out.2.2.2
        unfold SortP cmpP at hI
        go_wp2_with fail
        with_reducible refine hI.mono ?_
        rintro e7 w7 ⟨M2, rfl, p2, s2, r2, g2⟩
        have hF := halves_done HNDM.out (by rw [HPM.out.len, HL.out]; exact hb) (by omega) (by omega) HBEL.out HP1.out HH.out.1 p2 s2
        have HF := Lib.hid (And.intro (HPW1.out.trans (p2.wide (by omega) (Nat.le_refl _))) (And.intro hF (And.intro r2 (HGW1.out.trans g2))))
        clear hI hF p2 s2 r2 g2
        go_wp2
        go_end0
        first | exact ⟨M2, rfl, HF.out⟩ | exact ⟨rfl, M2, HF.out⟩
       ·have x2i : ¬ (e : Int) < (b : Int) := by omega
        have hF := halves_done HNDM.out (by rw [HPM.out.len, HL.out]; exact hb) (by omega) (by omega) HBEL.out HP1.out HH.out.1 (PermIn.refl mid b M1) (HH.out.2.1.sub (Nat.le_refl _) (by omega))
        have HF := Lib.hid (And.intro HPW1.out (And.intro hF (And.intro HRW1.out HGW1.out)))
        clear hF
        go_wp2
        go_end0
        first | exact ⟨M1, rfl, HF.out⟩ | exact ⟨rfl, M1, HF.out⟩
      ·have x1i : ¬ (mid : Int) < (e : Int) := by omega
       have hF := halves_done HNDM.out (by rw [HPM.out.len, HL.out]; exact hb) (by omega) (by omega) HBEL.out HP1.out HH.out.1 (PermIn.refl mid b M1) (HH.out.2.2.1.sub (by omega) (Nat.le_refl _))
       have HF := Lib.hid (And.intro HPW1.out (And.intro hF (And.intro HRW1.out HGW1.out)))
       clear hF
       go_wp2
       go_end0
       first | exact ⟨M1, rfl, HF.out⟩ | exact ⟨rfl, M1, HF.out⟩
end Go.Mk
end
section
set_option linter.unusedVariables false
set_option linter.unusedSimpArgs false
open Go Go.Proofs Go.RowKit Go.Sort
set_option maxRecDepth 100000
namespace Go.Mk
theorem symMergeP_ih (F : Int → Plc) {lt : Int → Int → Prop} (ho : Ord lt) (cm : Int → Int → Int) (B g n cap bx : Nat) (hn1 : n ≤ 100000) : ∀ d : Nat, SymIHP F lt cm B g n cap bx d := by
  intro d
  induction d with
  | zero => intro L a m b w hd; omega
  | succ d ih =>
    intro L a m b w hd hr hn h1 h2 hb hC hs1 hs2 hT
    by_cases c1 : m = a + 1
    · subst c1
      exact symAP_any F ho cm L B g n cap bx a (a + 1) b w hr hn rfl h2 hb hn1 hC hs2 hT
    · by_cases c2 : b = m + 1
      · subst c2
        exact symBP_any F ho cm L B g n cap bx a m (m + 1) w hr hn rfl (by omega) hb hn1 hC hs1 hT
      · exact symCP_any F ho cm L B g n cap bx a m b ((a + b) / 2) w hr hn (by omega) (by omega) rfl hb hn1 hC hs1 hs2 hT (fun L' a' m' b' w' hd' => ih L' a' m' b' w' (by omega))
theorem symP_any (F : Int → Plc) {lt : Int → Int → Prop} (ho : Ord lt) (cm : Int → Int → Int) (L : List Int) (B g n cap bx a m b : Nat) (w : World) (hr : RowP F w B g n cap L) (hn : L.Nodup) (h1 : a < m) (h2 : m < b) (hb : b ≤ n) (hn1 : n ≤ 100000) (hC : CmpP F w g bx cm L)
    (hs1 : Srt lt L a m) (hs2 : Srt lt L m b) (hT : Tst cm lt L a m b) :
    Calls Tryz.prog 259 #[.slice (some ⟨g, 0, none⟩) n cap, .int .i64 (a : Nat), .int .i64 (m : Nat), .int .i64 (b : Nat), cmpP bx] w (SortP F w B g n cap lt L a b) :=
  symMergeP_ih F ho cm B g n cap bx hn1 (b - a + 1) L a m b w (by omega) hr hn h1 h2 hb hC hs1 hs2 hT
set_option maxHeartbeats 4000000 in
theorem stableP_any (F : Int → Plc) {lt : Int → Int → Prop} (ho : Ord lt) (cm : Int → Int → Int) (L : List Int) (B g n cap bx : Nat) (w : World) (hr : RowP F w B g n cap L) (hn : L.Nodup) (hn1 : n ≤ 40) (hC : CmpP F w g bx cm L)
    (hT : ∀ p q, p < q → q < n → (cm (ga L q) (ga L p) < 0 ↔ lt (ga L q) (ga L p))) :
    Calls Tryz.prog 214 #[.slice (some ⟨g, 0, none⟩) n cap, .int .i64 (n : Nat), cmpP bx] w (SortP F w B g n cap lt L 0 n) := by
  have hni : (n : Int) ≤ 40 := by omega
  have hl := hr.1
  have HI : Hid (∀ (M : List Int) (c b : Nat) (w' : World), InsB lt L M c → RowP F w' B g n cap M → w.grownBy w' (some g) → b ≤ n → c ≤ n →
      Calls Tryz.prog 258 #[.slice (some ⟨g, 0, none⟩) n cap, .int .i64 (c : Nat), .int .i64 (b : Nat), cmpP bx] w' (SortP F w' B g n cap lt M c b)) :=
    Lib.hid fun M c b w' h1 h2 h3 h4 h5 => insertP_any F ho cm M B g n cap bx c b w' h2 (h1.perm.perm.nodup_iff.2 hn) h4 (by omega) (by omega) (hC.next h3 h1.perm.perm) (fun p q q1 q2 q3 => h1.ask hT p q q1 q2 (by omega))
  have HM : Hid (∀ (M : List Int) (w' : World) (z : Int), z = (n : Int) → InsB lt L M n → RowP F w' B g n cap M → w.grownBy w' (some g) → 20 < n →
      Calls Tryz.prog 259 #[.slice (some ⟨g, 0, none⟩) n cap, .int .i64 0, .int .i64 20, .int .i64 z, cmpP bx] w' (SortP F w' B g n cap lt M 0 n)) :=
    Lib.hid fun M w' z hz h1 h2 h3 h4 => hz ▸ symP_any F ho cm M B g n cap bx 0 20 n w' h2 (h1.perm.perm.nodup_iff.2 hn) (by omega) h4 (Nat.le_refl _) (by omega) (hC.next h3 h1.perm.perm) (h1.lo (by omega)) (h1.hi hn1) (h1.tst hn1 hT)
  have HL := Lib.hid hl
  have HN := Lib.hid hn
  have HR := Lib.hid hr
  unfold SortP at HI HM ⊢
  unfold cmpP at *
  clear hC hT hn hr hl
  go_enter Tryz.func214, Tryz.ntmps214
  go_wp2
  go_loopw [7, 8] (fun av bv wr => ∃ (c b k : Nat) (M : List Int), av = .int .i64 (c : Nat) ∧ bv = .int .i64 (b : Nat) ∧ c ≤ n ∧ b ≤ 60 ∧ Hid (b = c + 20 ∧ c = 20 * k) ∧ Hid (InsB lt L M c) ∧ Hid (RowP F wr B g n cap M) ∧ Hid (w.grownBy wr (some g))) (fun _ bv _ => 100 - (RowKit.intOf bv).toNat)
  case atStart => exact ⟨0, 20, 0, L, rfl, rfl, by omega, by omega, Lib.hid ⟨by omega, by omega⟩, Lib.hid (InsB.start L), HR, Lib.hid (World.grownBy.refl _ _)⟩
  case round =>
    obtain ⟨c, b, k, M, rfl, rfl, hc, hb60, HBK, HB, HW, HG⟩ := hrel
    by_cases hlt : b ≤ n
    · have hbi : (b : Int) ≤ (n : Int) := by omega
      have hK := HI.out M c b _ HB.out HW.out HG.out hlt hc
      go_wp2_with fail
      with_reducible refine hK.mono ?_
      rintro e w5 ⟨M', rfl, hp5, hs5, hr5, hg5⟩
      have HD := Lib.hid (And.intro (HB.out.step HN.out k HBK.out.2 (by have := HBK.out.1; omega) (by have := HBK.out.1; omega) (by rw [HL.out]; exact hlt) hp5 hs5) (And.intro hr5 (HG.out.trans hg5)))
      clear hp5 hs5 hr5 hg5 hK
      go_wp2
      go_roundw
      case rel => exact ⟨b, b + 20, k + 1, M', rfl, by go_num, hlt, by have := HBK.out.1; omega, Lib.hid ⟨rfl, by have := HBK.out; omega⟩, Lib.hid HD.out.1, Lib.hid HD.out.2.1, Lib.hid HD.out.2.2⟩
      case measure => simp [RowKit.intOf]; omega
    · have hbi : ¬ (b : Int) ≤ (n : Int) := by omega
      have hK := HI.out M c n _ HB.out HW.out HG.out (Nat.le_refl _) hc
      go_wp2_with fail
      with_reducible refine hK.mono ?_
      rintro e w5 ⟨M1, rfl, hp5, hs5, hr5, hg5⟩
      have HD := Lib.hid (And.intro (HB.out.step HN.out k HBK.out.2 hc (by have := HBK.out.1; omega) (by rw [HL.out]; exact Nat.le_refl _) hp5 hs5) (And.intro hr5 (HG.out.trans hg5)))
      clear hp5 hs5 hr5 hg5 hK
      go_wp2
      go_loopw [6, 7, 8] (fun sv av bv wr => ∃ (s : Nat) (x y : Int) (M : List Int), sv = .int .i64 (s : Nat) ∧ av = .int .i64 x ∧ bv = .int .i64 y ∧ Hid ((s = 20 ∧ InsB lt L M n) ∨ (s = 40 ∧ PermIn 0 n L M ∧ Srt lt M 0 n)) ∧ Hid (RowP F wr B g n cap M) ∧ Hid (w.grownBy wr (some g))) (fun sv _ _ _ => 100 - (RowKit.intOf sv).toNat)
      case atStart => exact ⟨20, _, _, M1, rfl, rfl, rfl, Lib.hid (.inl ⟨rfl, HD.out.1⟩), Lib.hid HD.out.2.1, Lib.hid HD.out.2.2⟩
      case round =>
        obtain ⟨s, x, y, M2, rfl, rfl, rfl, HS, HW2, HG2⟩ := hrel
        by_cases h40 : s = 40
        · subst h40
          have hP : PermIn 0 n L M2 ∧ Srt lt M2 0 n := by
            rcases HS.out with ⟨q, _⟩ | ⟨_, q⟩
            · cases q
            · exact q
          have HP := Lib.hid hP
          clear hP HS
          go_wp2
          go_end0
          exact ⟨M2, rfl, HP.out.1, HP.out.2, HW2.out, HG2.out⟩
        · have hS : s = 20 ∧ InsB lt L M2 n := by
            rcases HS.out with q | ⟨q, _⟩
            · exact q
            · exact absurd q h40
          obtain ⟨rfl, hS⟩ := hS
          rw [show ((20 : Nat) : Int) = 20 from rfl]
          have HP := Lib.hid hS
          clear hS HS h40
          by_cases h20 : 20 < n
          · have h20i : (20 : Int) < (n : Int) := by omega
            go_wp2
            go_loopw [7, 8] (fun av bv wr => ∃ (c : Nat) (M : List Int), av = .int .i64 (c : Nat) ∧ bv = .int .i64 ((c + 40 : Nat) : Int) ∧ Hid ((c = 0 ∧ InsB lt L M n) ∨ (c = 40 ∧ n = 40 ∧ PermIn 0 n L M ∧ Srt lt M 0 n)) ∧ Hid (RowP F wr B g n cap M) ∧ Hid (w.grownBy wr (some g))) (fun _ bv _ => 100 - (RowKit.intOf bv).toNat)
            case atStart => exact ⟨0, M2, rfl, rfl, Lib.hid (.inl ⟨rfl, HP.out⟩), HW2, HG2⟩
            case round =>
              obtain ⟨c3, M3, rfl, rfl, HS3, HW3, HG3⟩ := hrel
              by_cases hc3 : c3 = 40
              · subst hc3
                have hP : n = 40 ∧ PermIn 0 n L M3 ∧ Srt lt M3 0 n := by
                  rcases HS3.out with ⟨q, _⟩ | ⟨_, q⟩
                  · cases q
                  · exact q
                have HP3 := Lib.hid hP.2
                have hn40 := hP.1
                have hn40i : (n : Int) = 40 := by omega
                clear hP HS3
                go_wp2
                go_roundw
                case rel => exact ⟨40, _, _, M3, rfl, rfl, rfl, Lib.hid (.inr ⟨rfl, HP3.out⟩), HW3, HG3⟩
                case measure => simp [RowKit.intOf]
              · have hS : c3 = 0 ∧ InsB lt L M3 n := by
                  rcases HS3.out with q | ⟨q, _⟩
                  · exact q
                  · exact absurd q hc3
                obtain ⟨rfl, hS⟩ := hS
                have hK0 := fun z hz => HM.out M3 _ z hz hS HW3.out HG3.out h20
                have HP3 := Lib.hid hS
                clear hS HS3 hc3
                by_cases hn40 : n = 40
                · have hn40i : (40 : Int) ≤ (n : Int) := by omega
                  have hK := hK0 40 (by omega)
                  clear hK0
                  have HN40 := Lib.hid hn40
                  clear hn40
                  go_wp2_with fail
                  with_reducible refine hK.mono ?_
                  rintro e w5 ⟨M', rfl, hp5, hs5, hr5, hg5⟩
                  have HD := Lib.hid (And.intro (HP3.out.perm.trans hp5) (And.intro hs5 (And.intro hr5 (HG3.out.trans hg5))))
                  clear hp5 hs5 hr5 hg5 hK
                  go_wp2
                  go_roundw
                  case rel => exact ⟨40, M', rfl, rfl, Lib.hid (.inr ⟨rfl, HN40.out, HD.out.1, HD.out.2.1⟩), Lib.hid HD.out.2.2.1, Lib.hid HD.out.2.2.2⟩
                  case measure => simp [RowKit.intOf]
                · have hn40i : ¬ (40 : Int) ≤ (n : Int) := by omega
                  have hK := hK0 n rfl
                  clear hK0
                  go_wp2_with fail
                  with_reducible refine hK.mono ?_
                  rintro e w5 ⟨M', rfl, hp5, hs5, hr5, hg5⟩
                  have HD := Lib.hid (And.intro (HP3.out.perm.trans hp5) (And.intro hs5 (And.intro hr5 (HG3.out.trans hg5))))
                  clear hp5 hs5 hr5 hg5 hK
                  go_wp2
                  go_roundw
                  case rel => exact ⟨40, _, _, M', rfl, rfl, rfl, Lib.hid (.inr ⟨rfl, HD.out.1, HD.out.2.1⟩), Lib.hid HD.out.2.2.1, Lib.hid HD.out.2.2.2⟩
                  case measure => simp [RowKit.intOf]
          · have h20i : ¬ (20 : Int) < (n : Int) := by omega
            go_wp2
            go_end0
            exact ⟨rfl, M2, HP.out.perm, HP.out.all (by omega), HW2.out, HG2.out⟩
set_option maxHeartbeats 400000 in
theorem sortStableP_any (F : Int → Plc) {lt : Int → Int → Prop} (ho : Ord lt) (cm : Int → Int → Int) (L : List Int) (B g n cap bx : Nat) (w : World) (hr : RowP F w B g n cap L) (hn : L.Nodup) (hn1 : n ≤ 40) (hC : CmpP F w g bx cm L)
    (hT : ∀ p q, p < q → q < n → (cm (ga L q) (ga L p) < 0 ↔ lt (ga L q) (ga L p))) :
    Calls Tryz.prog 170 #[.slice (some ⟨g, 0, none⟩) n cap, cmpP bx] w (SortP F w B g n cap lt L 0 n) := by
  have hK := stableP_any F ho cm L B g n cap bx w hr hn hn1 hC hT
  unfold SortP at *
  unfold cmpP at *
  clear hC hT hn hr
  go_enter Tryz.func170, Tryz.ntmps170
  go_wp2_with fail
  with_reducible refine hK.mono ?_
  rintro e w5 ⟨M', rfl, h5⟩
  go_wp2
  go_end0
  exact ⟨M', rfl, h5⟩
end Go.Mk
end
section
set_option linter.unusedVariables false
set_option linter.unusedSimpArgs false
open Go Go.Proofs Go.RowKit Go.Sort Go.Shelf
set_option maxRecDepth 100000
namespace Go.Mk
attribute [local go_sem] Oper.semAt_some
theorem grown_of_belowP {W W' : World} (h : Below W.heap.size W W') : W.grownBy W' none := ⟨h.os, h.tape, h.output, h.size, fun k hk _ => h.block k hk⟩
theorem Cel5.below {w w' : World} {g o K : Nat} {p : Plc} (h : Cel5 w g o p) (hb : Below K w w') (hg : g < K) : Cel5 w' g o p :=
  ⟨(hb.cell (p := ⟨g, o, none⟩) hg).trans h.1, (hb.cell (p := ⟨g, o + 1, none⟩) hg).trans h.2.1, (hb.cell (p := ⟨g, o + 2, none⟩) hg).trans h.2.2.1, (hb.cell (p := ⟨g, o + 3, none⟩) hg).trans h.2.2.2.1, (hb.cell (p := ⟨g, o + 4, none⟩) hg).trans h.2.2.2.2⟩
set_option maxHeartbeats 2000000 in
theorem vals_in (n : Nat) (hn : 1 ≤ n) (l Bs len cap : Nat) (A : Option Addr) (L : List Plc) (hl : L.length = len) (hlen : len ≤ 1000) (w0 : World) (J Jx : List Plc → World → Prop) (hJ : ∀ pre W W', J pre W → Below W.heap.size W W' → J pre W')
    (hY : ∀ pre (x : Plc) W, J pre W → pre.length < len → YieldAt Fence.wide (n - 1) Tryz.prog l #[x.val] W fun e W' => (e = .returned (.bool true) ∧ J (pre ++ [x]) W' ∧ Below w0.heap.size W W') ∨ (e = .returned (.bool false) ∧ Jx (pre ++ [x]) W'))
    (W : World) (hBs : W.cell? ⟨Bs, 0, none⟩ = some (.slice A len cap)) (hW : Below w0.heap.size w0 W) (hc : 0 < len → ∃ b off, A = some ⟨b, off, none⟩ ∧ b < w0.heap.size ∧ ∀ (j : Nat) (p : Plc), L[j]? = some p → Cel5 w0 b (off + j * 5) p) (h0 : J [] W) :
    CallsIn Fence.wide n Tryz.prog 171 #[.func (.yield l) #[] #[], .pointer (some ⟨Bs, 0, none⟩)] W fun e W' => (∃ v, e = .returned v) ∧ ((∃ ys, ys = L ∧ J ys W') ∨ (∃ pre, pre <+: L ∧ Jx pre W')) := by
  have hni : (len : Int) ≤ 1000 := by omega
  have HC := Lib.hid hc
  have HL := Lib.hid hl
  clear hc hl
  refine callsIn_of_wp Tryz.func171 rfl trivial ?_ rfl
  simp only [Tryz.ntmps171, List.size_toArray, List.length_cons, List.length_nil, Nat.reduceAdd, Nat.reduceSub, Array.replicate_succ, Array.replicate_zero, List.push_toArray, List.append_toArray, List.nil_append, List.cons_append]
  gi_wp2
  gi_loopw [7] (fun i wr => ∃ k : Nat, k ≤ len ∧ i = .int .i64 k ∧ J (L.take k) wr ∧ Below w0.heap.size w0 wr) (fun i _ => len - (intOf i).toNat)
  case atStart => exact ⟨0, Nat.zero_le _, rfl, h0, hW⟩
  case round =>
    obtain ⟨k, hk, rfl, hJs, hb⟩ := hrel
    by_cases hlt : k < len
    · obtain ⟨b, off, rfl, hbw, hcc⟩ := HC.out (by omega)
      have hki : (k : Int) < (len : Int) := by omega
      have hk0 : (0 : Int) ≤ (k : Int) := by omega
      have hkt : ((k : Int)).toNat = k := by omega
      have hlk : k < L.length := by rw [HL.out]; exact hlt
      have hx : L[k]? = some (L[k]'hlk) := List.getElem?_eq_getElem hlk
      generalize L[k]'hlk = x at hx
      have hst : L.take (k + 1) = L.take k ++ [x] := by rw [List.take_add_one, hx]; rfl
      have Hst := Lib.hid hst
      have hpl : (L.take k).length < len := by rw [List.length_take]; omega
      obtain ⟨c0, c1, c2, c3, c4⟩ := (hcc k x hx).below hb hbw
      obtain ⟨p, hp⟩ : ∃ p, wr.heap.size = p := ⟨_, rfl⟩
      obtain ⟨wx, hwx⟩ : ∃ wx, wr.alloc (.cells #[.string x.nm, .int .i64 x.rk, .string x.kd, .int .i64 x.vl, .string x.rs] 61) = wx := ⟨_, rfl⟩
      have hbx : Below w0.heap.size w0 wx := by rw [← hwx]; exact hb.alloc hb.size _
      have hJx : J (L.take k) wx := hJ _ wr wx hJs (by rw [← hwx]; exact balloc _ (Below.refl _ _))
      have x0 : wx.cell? ⟨p, 0, none⟩ = some (.string x.nm) := by rw [← hwx, ← hp]; simp
      have x1 : wx.cell? ⟨p, 1, none⟩ = some (.int .i64 x.rk) := by rw [← hwx, ← hp]; simp
      have x2 : wx.cell? ⟨p, 2, none⟩ = some (.string x.kd) := by rw [← hwx, ← hp]; simp
      have x3 : wx.cell? ⟨p, 3, none⟩ = some (.int .i64 x.vl) := by rw [← hwx, ← hp]; simp
      have x4 : wx.cell? ⟨p, 4, none⟩ = some (.string x.rs) := by rw [← hwx, ← hp]; simp
      obtain ⟨fn, tmps, assign, body, hy, hR⟩ := hY _ x wx hJx hpl
      unfold Plc.val at hy
      clear hx hst hJs hb hJx hcc
      gi_wp2
      refine hR.mono ?_
      have HBX := Lib.hid hbx
      clear hy hR hbx
      rintro e W3 (⟨rfl, hJ3, hk3⟩ | ⟨rfl, hJx3⟩)
      · gi_wp2
        go_roundw
        case rel => exact ⟨k + 1, by omega, by go_num, by rw [Hst.out]; exact hJ3, HBX.out.trans hk3⟩
        case measure => simp [intOf]; omega
      · gi_wp2
        refine bodyPost_ret (results_none rfl _ _ _) rfl ?_
        exact ⟨⟨_, rfl⟩, .inr ⟨_, by rw [← Hst.out]; exact List.take_prefix _ _, hJx3⟩⟩
    · obtain rfl : k = len := by omega
      rw [List.take_of_length_le (by rw [HL.out]; omega)] at hJs
      gi_wp2
      go_end0
      exact ⟨⟨_, rfl⟩, .inl ⟨_, rfl, hJs⟩⟩
end Go.Mk
end
section
set_option linter.unusedVariables false
set_option linter.unusedSimpArgs false
open Go Go.Proofs Go.RowKit Go.Sort Go.Shelf
set_option maxRecDepth 100000
namespace Go.Mk
attribute [local go_sem] Oper.semAt_some
def PlcsZ (w : World) (A : Option Addr) (n : Nat) (L : List Plc) : Prop :=
  L.length = n ∧ (0 < n → ∃ b off, A = some ⟨b, off, none⟩ ∧ b < w.heap.size ∧ ∀ (j : Nat) (p : Plc), L[j]? = some p → Cel5 w b (off + j * 5) p)
theorem PlcsZ.below {w w' : World} {A : Option Addr} {n : Nat} {L : List Plc} (h : PlcsZ w A n L) (hb : Below w.heap.size w w') : PlcsZ w' A n L := by
  refine ⟨h.1, fun h0 => ?_⟩
  obtain ⟨b, off, e, hlt, hc⟩ := h.2 h0
  exact ⟨b, off, e, Nat.lt_of_lt_of_le hlt hb.size, fun j p hp => (hc j p hp).below hb hlt⟩
def OwnPlcs (w : World) (B : Nat) (v : Value) (L : List Plc) : Prop := w.ownsRow B 61 5 v L.length (L.flatMap Plc.cells)
theorem OwnPlcs.next {w1 : World} {B : Nat} {v' : Value} {L : List Plc} {p : Plc} (h : w1.ownsRow B 61 5 v' (L.length + 1) (L.flatMap Plc.cells ++ p.cells)) : OwnPlcs w1 B v' (L ++ [p]) := by
  unfold OwnPlcs
  rw [List.length_append, List.flatMap_append]
  simpa using h
theorem PlcsZ.of_own {w : World} {B : Nat} {v : Value} {L : List Plc} (h : OwnPlcs w B v L) : ∃ A c, v = .slice A L.length c ∧ PlcsZ w A L.length L := by
  rcases h.2 with ⟨a, b⟩ | ⟨g, cap, cur, a, b, c, d, e1, f, hx⟩
  · exact ⟨none, 0, by rw [a, b], rfl, fun hn => absurd hn (by omega)⟩
  · refine ⟨_, cap, a, rfl, fun _ => ⟨g, 0, rfl, (Array.getElem?_eq_some_iff.1 c).1, fun j p hp => ?_⟩⟩
    have hj := (List.getElem?_eq_some_iff.1 hp).1
    unfold OwnPlcs at h
    rw [a] at h
    refine ⟨?_, ?_, ?_, ?_, ?_⟩ <;> rw [Nat.zero_add]
    · rw [World.ownsRow.cellAt h (j * 5) (by omega)]; exact (plc_at _ j _ 0 hp (by decide)).trans rfl
    · rw [World.ownsRow.cellAt h (j * 5 + 1) (by omega)]; exact (plc_at _ j _ 1 hp (by decide)).trans rfl
    · rw [World.ownsRow.cellAt h (j * 5 + 2) (by omega)]; exact (plc_at _ j _ 2 hp (by decide)).trans rfl
    · rw [World.ownsRow.cellAt h (j * 5 + 3) (by omega)]; exact (plc_at _ j _ 3 hp (by decide)).trans rfl
    · rw [World.ownsRow.cellAt h (j * 5 + 4) (by omega)]; exact (plc_at _ j _ 4 hp (by decide)).trans rfl
theorem infoPlc : (Tryz.prog.info? 61).map (fun i => (i.zero, i.size, i.bytes)) = some (some (.agg #[.string ⟨#[]⟩, .int .i64 0, .string ⟨#[]⟩, .int .i64 0, .string ⟨#[]⟩]), 5, 64) := by kernel_rfl
theorem slValuesP_any (A : Option Addr) (n c : Nat) (w : World) : Calls Tryz.prog 106 #[.slice A n c] w fun e w' => e = .returned (.func (.func 171) #[] #[.pointer (some ⟨w.heap.size, 0, none⟩)]) ∧ w' = w.alloc (.cells #[.slice A n c] 29) := by
  go_enter Tryz.func106, Tryz.ntmps106
  go_wp2
  go_ret
  exact ⟨rfl, rfl⟩
theorem vals_stops (n : Nat) (hn : 1 ≤ n) (Bs len cap : Nat) (A : Option Addr) (L : List Plc) (hlen : len ≤ 1000) (w0 w : World) (hZ : PlcsZ w0 A len L) (hW : Below w0.heap.size w0 w) (hlt : Bs < w.heap.size) (hBs : w.cell? ⟨Bs, 0, none⟩ = some (.slice A len cap)) :
    SeqStopsK Fence.wide n Tryz.prog 171 #[.pointer (some ⟨Bs, 0, none⟩)] (fun x : Plc => #[x.val]) (Below w0.heap.size) (fun ys => ys = L) (fun pre => pre <+: L) len w :=
  fun l J Jx W hWW hJ _ hY h0 => vals_in n hn l Bs len cap A L hZ.1 hlen w0 J Jx (fun pre A B hA hb => hJ pre A B none hA (grown_of_belowP hb) (fun r e => by cases e)) hY W ((hWW.cell (p := ⟨Bs, 0, none⟩) hlt).trans hBs) (hW.trans (hWW.mono hW.size)) hZ.2 h0
def PI (w : World) (pre : List Plc) (W : World) : Prop :=
  (∃ v, Boxed W w.heap.size 29 v ∧ W.ownsRow w.heap.size 61 5 v pre.length (pre.flatMap Plc.cells) ∧ True) ∧ Below w.heap.size w W
theorem PI.own (w : World) (B : Nat) (hB : w.heap.size ≤ B) : OwnFrom B (PI w) :=
  OwnFrom.and (Own.from (holdsRow_own w.heap.size w.heap.size 29 61 5 (fun (pre : List Plc) => pre.length) (fun (pre : List Plc) => pre.flatMap Plc.cells) (fun _ _ => True)) _) (ownFrom_below (Nat.le_refl _) hB)
def BoxP (W : World) (B : Nat) (x : Plc) : Prop := W.heap[B]? = some (.cells #[.string x.nm, .int .i64 x.rk, .string x.kd, .int .i64 x.vl, .string x.rs] 61 (0, 0))
theorem BoxP.own (x : Plc) (B : Nat) : Own (fun (_ : Unit) W => BoxP W B x) := fun s X Y row hs hg hrow =>
  (hg.block B (Array.getElem?_eq_some_iff.1 hs).1 (fun e' => by obtain ⟨o, ho, hc⟩ := hrow B e'.symm; rw [show X.heap[B]? = _ from hs] at ho; cases ho; cases hc)).trans hs
set_option maxHeartbeats 4000000 in
theorem appSeqP_any (Bs len cap : Nat) (A : Option Addr) (L : List Plc) (hlen : len ≤ 1000) (w : World) (hZ : PlcsZ w A len L) (hlt : Bs < w.heap.size) (hBs : w.cell? ⟨Bs, 0, none⟩ = some (.slice A len cap)) :
    Calls Tryz.prog 213 #[.slice none 0 0, .func (.func 171) #[] #[.pointer (some ⟨Bs, 0, none⟩)]] w (fun e w' => ∃ v, e = .returned v ∧ OwnPlcs w' w.heap.size v L ∧ Below w.heap.size w w') := by
  obtain ⟨i0, hi, hz0, hz1, hz2⟩ := info_parts infoPlc
  refine (callsIn_wide (n := 3)).1 ?_
  refine callsIn_of_wp_marks Tryz.func213 rfl trivial ?_ rfl
  simp only [Tryz.ntmps213, List.size_toArray, List.length_cons, List.length_nil, Nat.reduceAdd, Nat.reduceSub, Array.replicate_succ, Array.replicate_zero, List.push_toArray, List.append_toArray, List.nil_append, List.cons_append]
  gi_wp2
  have b0 := Boxed.new w 29 (.slice none 0 0)
  have hB0 : Below w.heap.size w (w.alloc (.cells #[.slice none 0 0] 29)) := (Below.refl _ w).alloc (Nat.le_refl _) _
  have hBs' : (w.alloc (.cells #[.slice none 0 0] 29)).cell? ⟨Bs, 0, none⟩ = some (.slice A len cap) := (hB0.cell (p := ⟨Bs, 0, none⟩) hlt).trans hBs
  have hsz : (w.alloc (.cells #[.slice none 0 0] 29)).heap.size = w.heap.size + 1 := by simp
  obtain ⟨W0, hW0⟩ : ∃ W0, w.alloc (.cells #[.slice none 0 0] 29) = W0 := ⟨_, rfl⟩
  rw [hW0] at b0 hB0 hBs' hsz ⊢
  clear hW0
  refine wpIn_rangeFunc_ownH rfl (by omega) (gf := 171) (lb := #[.pointer (some ⟨Bs, 0, none⟩)]) rfl trivial (enters_of Tryz.func171 (by kernel_rfl) rfl)
    (vals_stops _ (by omega) Bs len cap A L hlen w W0 hZ hB0 (by omega) hBs') belowK_t (belowK_b (by omega)) (Below.refl _ _) (fun _ => rfl)
    (PI w) (fun _ _ _ => False) (PI.own w _ (by omega)) (fun _ _ _ _ _ hs _ _ => hs)
    ⟨⟨_, b0, World.ownsRow_nil _ _ _ _, trivial⟩, hB0⟩
    (fun x a' W => ∃ Bx, w.heap.size < Bx ∧ BoxP W Bx x ∧ a' = { tmps := #[.slice none 0 0, .func (.func 171) #[] #[.pointer (some ⟨Bs, 0, none⟩)], .pointer (some ⟨w.heap.size, 0, none⟩), undef, .slice none 0 0, .pointer (some ⟨Bx, 0, none⟩), .func (.func 171) #[] #[.pointer (some ⟨Bs, 0, none⟩)], x.val, undef, undef, undef, undef, undef], defers := [] })
    (fun x a' _ X Y row hs hg hr => by obtain ⟨Bx, h1, h2, h3⟩ := hs; exact ⟨Bx, h1, BoxP.own x Bx () X Y row h2 hg (fun r e => (hr r e).2), h3⟩)
    ?assign ?body ?done ?stop
  case assign =>
    rintro l pre x W K ⟨⟨v, hv, hrow, _⟩, hB⟩ hK
    have hvl := hv.lt
    unfold Plc.val at *
    gi_wp2
    refine hK _ _ ((KeepsOthers.alloc _ _).from _) ((Below.refl _ W).alloc hB.size _) ⟨⟨v, hv.alloc _, hrow.alloc _, trivial⟩, hB.alloc hB.size _⟩ ⟨W.heap.size, hvl, ?_, rfl⟩
    exact World.alloc_heap_new W _
  case body =>
    rintro l pre x a' W hl ⟨r, hr⟩ ⟨⟨v, hv, hrow, _⟩, hB⟩ ⟨Bx, hBx, bX, rfl⟩ hlt2
    have hc := hv.cell
    have x0 : W.cell? ⟨Bx, 0, none⟩ = some (.string x.nm) := by simp [World.cell?, show W.heap[Bx]? = _ from bX]
    have x1 : W.cell? ⟨Bx, 1, none⟩ = some (.int .i64 x.rk) := by simp [World.cell?, show W.heap[Bx]? = _ from bX]
    have x2 : W.cell? ⟨Bx, 2, none⟩ = some (.string x.kd) := by simp [World.cell?, show W.heap[Bx]? = _ from bX]
    have x3 : W.cell? ⟨Bx, 3, none⟩ = some (.int .i64 x.vl) := by simp [World.cell?, show W.heap[Bx]? = _ from bX]
    have x4 : W.cell? ⟨Bx, 4, none⟩ = some (.string x.rs) := by simp [World.cell?, show W.heap[Bx]? = _ from bX]
    unfold Plc.val at *
    gi_wp2_with (gi_at_builtin; refine wpListIn_append_own _ rfl _ _ 29 rfl w.heap.size 61 i0 (.agg #[.string ⟨#[]⟩, .int .i64 0, .string ⟨#[]⟩, .int .i64 0, .string ⟨#[]⟩]) 5 64 Tryz.underlying29 hi hz0 hz1 hz2 rfl (by decide) _ _ _ rfl (hrow.alloc _) ⟨W.heap.size, 0, none⟩ 1 1 x.cells rfl rfl ?c1 ?c2 (by unfold maxLen; omega) (by omega) (by have := hB.size; simp; omega) ?c3)
    case c1 =>
      intro j u hj
      match j, hj with
      | 0, hj => simp [Plc.cells] at hj; subst hj; simp [Addr.add]
      | 1, hj => simp [Plc.cells] at hj; subst hj; simp [Addr.add]
      | 2, hj => simp [Plc.cells] at hj; subst hj; simp [Addr.add]
      | 3, hj => simp [Plc.cells] at hj; subst hj; simp [Addr.add]
      | 4, hj => simp [Plc.cells] at hj; subst hj; simp [Addr.add]
    case c2 => intro u hu; simp [Plc.cells] at hu; rcases hu with rfl | rfl | rfl | rfl | rfl <;> rfl
    case c3 =>
      intro v' w1 hown' hgrow _
      obtain ⟨g', cap', rfl⟩ := ownsRow_succ hown'
      obtain ⟨hv1, hv2, hr2, hk2, hb2⟩ := hv.appended (by decide) hrow hB.size (Nat.le_refl _) hown' hgrow
      have hc1 := hv1.cell
      have hf1 := hv1.frozen
      gi_wp2
      refine ⟨hk2.from _, hb2, ⟨⟨_, hv2, ?_, trivial⟩, hB.trans hb2⟩⟩
      rw [List.length_append, List.flatMap_append]
      simpa using hr2
  case done =>
    rintro D ys W hD rfl ⟨⟨v, hv, hrow, _⟩, hB⟩ hK
    have hc := hv.cell
    obtain ⟨A', c', rfl⟩ : ∃ A' c', v = .slice A' ys.length c' := by
      rcases Joins.ownsRow_forms hrow with ⟨h, h0⟩ | ⟨g, cap, h⟩
      · exact ⟨none, 0, by rw [h, h0]⟩
      · exact ⟨_, _, h⟩
    gi_wp2
    refine ⟨by simp, .inl ⟨_, _, rfl, run_takeDeferred hK, ?_⟩⟩
    refine ⟨_, results_tmp rfl _ _ _, _, rfl, ?_, hB.trans (belowK_b (w := w) (Nat.le_refl _) W D _ _ (by omega) hK rfl rfl)⟩
    exact ownsRow_putObj hrow _ hK rfl
  case stop =>
    rintro D c pre W _ _ h _
    exact h.elim
set_option maxHeartbeats 1000000 in
theorem collectP_any (Bs len cap : Nat) (A : Option Addr) (L : List Plc) (hlen : len ≤ 1000) (w : World) (hZ : PlcsZ w A len L) (hlt : Bs < w.heap.size) (hBs : w.cell? ⟨Bs, 0, none⟩ = some (.slice A len cap)) :
    Calls Tryz.prog 169 #[.func (.func 171) #[] #[.pointer (some ⟨Bs, 0, none⟩)]] w (fun e w' => ∃ v, e = .returned v ∧ OwnPlcs w' w.heap.size v L ∧ Below w.heap.size w w') := by
  have hK := appSeqP_any Bs len cap A L hlen w hZ hlt hBs
  clear hZ hBs
  go_enter Tryz.func169, Tryz.ntmps169
  go_wp2_with fail
  refine hK.mono ?_
  rintro e w2 ⟨v, rfl, ho, hb⟩
  go_wp2
  go_ret
  exact ⟨_, rfl, ho, hb⟩
end Go.Mk
end
