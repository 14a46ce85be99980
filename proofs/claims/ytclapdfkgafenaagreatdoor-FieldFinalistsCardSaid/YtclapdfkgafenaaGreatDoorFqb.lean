/-
  Proved: slices.symMergeCmpFunc of integers merges two sorted neighbours in place, where one of them has one element. Conditions: the integers lie in a row of the caller's own; the comparison leaves what was there.
-/
import Derived.Test.YtclapdfkgafenaaGreatDoorFqa
set_option linter.unusedVariables false
set_option linter.unusedSimpArgs false
open Go Go.Proofs Go.RowKit Go.Sort
set_option maxRecDepth 100000
namespace Go.Mk
set_option maxHeartbeats 4000000 in
theorem symA_any {lt : Int → Int → Prop} (ho : Ord lt) (cm : Int → Int → Int) (L : List Int) (B g n cap bx a m b : Nat) (w : World) (hr : RowZ w B g n cap L) (hn : L.Nodup) (hm : m = a + 1) (hab : a + 1 < b) (hb : b ≤ n) (hn1 : n ≤ 100000) (hC : CmpOK w g bx cm L)
  (hs : Srt lt L (a + 1) b) (hT : Tst cm lt L a (a + 1) b) :
  Calls Tryz.prog 208 #[.slice (some ⟨g, 0, none⟩) n cap, .int .i64 (a : Nat), .int .i64 (m : Nat), .int .i64 (b : Nat), cmpV bx] w (SortPost w B g n cap lt L a b) := by
 have hni : (n : Int) ≤ 100000 := by omega
 have hai : (a : Int) + 1 < (b : Int) := by omega
 have hbi : (b : Int) ≤ (n : Int) := by omega
 have ham : (m : Int) - (a : Int) = 1 := by omega
 have HMM := Lib.hid hm
 have HC := Lib.hid hC
 have HT := Lib.hid hT
 have HSR := Lib.hid hs
 have HL := Lib.hid hr.1
 have HN := Lib.hid hn
 have HR := Lib.hid hr
 unfold cmpV SortPost
 clear hC hT hn hr hs hm
 go_enter Tryz.func208, Tryz.ntmps208
 go_wp2
 go_loopw [10, 11] (fun iv jv wr => ∃ (i j : Nat), iv = .int .i64 i ∧ jv = .int .i64 j ∧ Hid (Bin lt L (ga L a) (a + 1) b i j) ∧ a + 1 ≤ i ∧ i ≤ j ∧ j ≤ b ∧ RowZ wr B g n cap L ∧ w.grownBy wr (some g)) (fun iv jv _ => (RowKit.intOf jv).toNat - (RowKit.intOf iv).toNat)
 case atStart => exact ⟨a + 1, b, by rw [HMM.out], rfl, Lib.hid (Bin.start (by omega)), by omega, by omega, by omega, HR.out, World.grownBy.refl _ _⟩
 case round =>
  obtain ⟨i, j, rfl, rfl, HI, hi1, hij, hj1, hrow, hg⟩ := hrel
  by_cases hlt : i < j
  ·have hki : (i : Int) < (j : Int) := by omega
   obtain ⟨h, hh⟩ : ∃ h : Nat, ((i : Int) + (j : Int)) / 2 = (h : Int) := ⟨(i + j) / 2, by omega⟩
   have hih : i ≤ h := by omega
   have hhj : h < j := by omega
   have h0 : (0 : Int) ≤ (h : Int) := by omega
   have h1 : (h : Int) < (n : Int) := by omega
   have h2 : ((h : Int)).toNat = h := by omega
   have a0 : (0 : Int) ≤ (a : Int) := by omega
   have a1 : (a : Int) < (n : Int) := by omega
   have a2 : ((a : Int)).toNat = a := by omega
   have c1 := hrow.cell (i := h) (by omega)
   have c2 := hrow.cell (i := a) (by omega)
   have t1 := HT.out a h (by omega) (by omega) (by omega) (by omega)
   have hK : ∀ w', Below wr.heap.size wr w' → Calls Tryz.prog 115 #[.int .i64 (ga L h), .int .i64 (ga L a), .pointer (some ⟨bx, 0, none⟩)] w' (RetPost (.int .i64 (cm (ga L h) (ga L a))) w') := fun w' hb' => HC.out w' (gb_below hg hb') _ _ (List.mem_of_getElem? (ga_at (by rw [HL.out]; omega))) (List.mem_of_getElem? (ga_at (by rw [HL.out]; omega)))
   have hne : ga L h ≠ ga L a := fun q => by
    have e2 : L[h]? = L[a]? := by rw [ga_at (by rw [HL.out]; omega), ga_at (by rw [HL.out]; omega), q]
    have := (List.getElem?_inj (show h < L.length by rw [HL.out]; omega) HN.out).1 e2
    omega
   have hbR := fun q => HI.out.right ho HSR.out hih hhj q
   have hbL := fun q => HI.out.left ho HSR.out hih hhj q
   obtain ⟨x, hx⟩ : ∃ x, ga L h = x := ⟨_, rfl⟩
   obtain ⟨y, hy⟩ : ∃ y, ga L a = y := ⟨_, rfl⟩
   rw [hx] at c1 hK t1 hne hbR hbL
   rw [hy] at c2 hK t1 hne hbR hbL
   have HX := Lib.hid (And.intro hx hy)
   have HRW := Lib.hid hrow
   have HGG := Lib.hid hg
   clear hx hy hrow hg
   obtain ⟨s, hsv⟩ : ∃ s, cm x y = s := ⟨_, rfl⟩
   rw [hsv] at hK t1
   clear hsv
   by_cases hlt0 : s < 0
   ·have HB := Lib.hid (hbR (t1.1 hlt0))
    clear hbR hbL t1 hne
    go_wp2
    refine wp_region_held_drew (S := fun w' => w'.cell? ⟨g, h, none⟩ = some (.int .i64 x) ∧ w'.cell? ⟨g, a, none⟩ = some (.int .i64 y)) (by kernel_rfl) ?_ (fun hHeld => ?_)
    ·exact ⟨c1, c2⟩
    refine zT (i := 0) (v := ?_) rfl (Or.inl ⟨by kernel_rfl, ?_⟩) ?_
    rotate_left
    ·rintro w ⟨s1, s2⟩
     go_simp
     try with_reducible rfl
    try simp only [Act.put, zA1, zA2, zA3]
    refine zT (i := 1) (v := ?_) rfl (Or.inl ⟨by kernel_rfl, ?_⟩) ?_
    rotate_left
    ·rintro w ⟨s1, s2⟩
     go_simp
     try with_reducible rfl
    try simp only [Act.put, zA1, zA2, zA3]
    refine zT (i := 2) (v := ?_) rfl (Or.inl ⟨by kernel_rfl, ?_⟩) ?_
    rotate_left
    ·rintro w ⟨s1, s2⟩
     go_simp
     try with_reducible rfl
    try simp only [Act.put, zA1, zA2, zA3]
    refine zT (i := 3) (v := ?_) rfl (Or.inl ⟨by kernel_rfl, ?_⟩) ?_
    rotate_left
    ·rintro w ⟨s1, s2⟩
     go_simp
     try with_reducible rfl
    try simp only [Act.put, zA1, zA2, zA3]
    refine zT (i := 4) (v := ?_) rfl (Or.inl ⟨by kernel_rfl, ?_⟩) ?_
    rotate_left
    ·rintro w ⟨s1, s2⟩
     go_simp
     try with_reducible rfl
    try simp only [Act.put, zA1, zA2, zA3]
    refine zT (i := 5) (v := ?_) rfl (Or.inl ⟨by kernel_rfl, ?_⟩) ?_
    rotate_left
    ·rintro w ⟨s1, s2⟩
     go_simp
     try with_reducible rfl
    try simp only [Act.put, zA1, zA2, zA3]
    refine zT (i := 6) (v := ?_) rfl (Or.inl ⟨by kernel_rfl, ?_⟩) ?_
    rotate_left
    ·rintro w ⟨s1, s2⟩
     go_simp
     try with_reducible rfl
    try simp only [Act.put, zA1, zA2, zA3]
    refine zT (i := 7) (v := ?_) rfl (Or.inl ⟨by kernel_rfl, ?_⟩) ?_
    rotate_left
    ·rintro w ⟨s1, s2⟩
     go_simp
     try with_reducible rfl
    try simp only [Act.put, zA1, zA2, zA3]
    refine zT (i := 8) (v := ?_) rfl (Or.inl ⟨by kernel_rfl, ?_⟩) ?_
    rotate_left
    ·rintro w ⟨s1, s2⟩
     go_simp
     try with_reducible rfl
    try simp only [Act.put, zA1, zA2, zA3]
    refine wpAnyH_ready (rs := [9]) (by kernel_rfl) (by simp) ?_
    refine AllReadyH.cons (o := _) rfl (fun K hKK => ?_) AllReadyH.nil
    go_simp
    go_at_call 115
    refine (hK _ (Below.refl _ _).drew).mono ?_
    rintro e w5 ⟨rfl, hb5⟩
    have hr5 := (HRW.out.below (Below.refl _ _).drew).below hb5
    have d1 := hr5.cell (i := h) (by omega)
    have d2 := hr5.cell (i := a) (by omega)
    rw [HX.out.1] at d1
    rw [HX.out.2] at d2
    have hg5 := gb_below HGG.out (bstep (Below.refl _ _).drew hb5)
    go_wp2_with fail
    refine hKK.out _ _ ?_ (fun hHeld => ?_)
    ·exact ⟨d1, d2⟩
    clear hKK K
    try simp only [Act.put, zA1, zA2, zA3]
    refine wpAnyH_ready (rs := [10]) (by kernel_rfl) (by simp) ?_
    refine AllReadyH.cons (o := _) rfl (fun K hKK => ?_) AllReadyH.nil
    go_simp
    refine hKK.out _ _ ?_ (fun hHeld => ?_)
    ·exact hHeld
    clear hKK K
    try simp only [Act.put, zA1, zA2, zA3]
    refine wpAnyH_done (by kernel_rfl) ?_ _
    have HR5 := Lib.hid hr5
    have HG5 := Lib.hid hg5
    clear c1 c2 hK hb5 hr5 hg5 hHeld
    go_wp2
    go_roundw
    case rel => exact ⟨h + 1, j, by go_num, rfl, by rw [HX.out.2]; exact HB, by omega, by omega, hj1, HR5.out, HG5.out⟩
    case measure => simp [RowKit.intOf]; omega
   ·have HB := Lib.hid (hbL ((ho.tri hne).resolve_left (fun q => hlt0 (t1.2 q))))
    clear hbR hbL t1 hne
    go_wp2
    refine wp_region_held_drew (S := fun w' => w'.cell? ⟨g, h, none⟩ = some (.int .i64 x) ∧ w'.cell? ⟨g, a, none⟩ = some (.int .i64 y)) (by kernel_rfl) ?_ (fun hHeld => ?_)
    ·exact ⟨c1, c2⟩
    refine zT (i := 0) (v := ?_) rfl (Or.inl ⟨by kernel_rfl, ?_⟩) ?_
    rotate_left
    ·rintro w ⟨s1, s2⟩
     go_simp
     try with_reducible rfl
    try simp only [Act.put, zA1, zA2, zA3]
    refine zT (i := 1) (v := ?_) rfl (Or.inl ⟨by kernel_rfl, ?_⟩) ?_
    rotate_left
    ·rintro w ⟨s1, s2⟩
     go_simp
     try with_reducible rfl
    try simp only [Act.put, zA1, zA2, zA3]
    refine zT (i := 2) (v := ?_) rfl (Or.inl ⟨by kernel_rfl, ?_⟩) ?_
    rotate_left
    ·rintro w ⟨s1, s2⟩
     go_simp
     try with_reducible rfl
    try simp only [Act.put, zA1, zA2, zA3]
    refine zT (i := 3) (v := ?_) rfl (Or.inl ⟨by kernel_rfl, ?_⟩) ?_
    rotate_left
    ·rintro w ⟨s1, s2⟩
     go_simp
     try with_reducible rfl
    try simp only [Act.put, zA1, zA2, zA3]
    refine zT (i := 4) (v := ?_) rfl (Or.inl ⟨by kernel_rfl, ?_⟩) ?_
    rotate_left
    ·rintro w ⟨s1, s2⟩
     go_simp
     try with_reducible rfl
    try simp only [Act.put, zA1, zA2, zA3]
    refine zT (i := 5) (v := ?_) rfl (Or.inl ⟨by kernel_rfl, ?_⟩) ?_
    rotate_left
    ·rintro w ⟨s1, s2⟩
     go_simp
     try with_reducible rfl
    try simp only [Act.put, zA1, zA2, zA3]
    refine zT (i := 6) (v := ?_) rfl (Or.inl ⟨by kernel_rfl, ?_⟩) ?_
    rotate_left
    ·rintro w ⟨s1, s2⟩
     go_simp
     try with_reducible rfl
    try simp only [Act.put, zA1, zA2, zA3]
    refine zT (i := 7) (v := ?_) rfl (Or.inl ⟨by kernel_rfl, ?_⟩) ?_
    rotate_left
    ·rintro w ⟨s1, s2⟩
     go_simp
     try with_reducible rfl
    try simp only [Act.put, zA1, zA2, zA3]
    refine zT (i := 8) (v := ?_) rfl (Or.inl ⟨by kernel_rfl, ?_⟩) ?_
    rotate_left
    ·rintro w ⟨s1, s2⟩
     go_simp
     try with_reducible rfl
    try simp only [Act.put, zA1, zA2, zA3]
    refine wpAnyH_ready (rs := [9]) (by kernel_rfl) (by simp) ?_
    refine AllReadyH.cons (o := _) rfl (fun K hKK => ?_) AllReadyH.nil
    go_simp
    go_at_call 115
    refine (hK _ (Below.refl _ _).drew).mono ?_
    rintro e w5 ⟨rfl, hb5⟩
    have hr5 := (HRW.out.below (Below.refl _ _).drew).below hb5
    have d1 := hr5.cell (i := h) (by omega)
    have d2 := hr5.cell (i := a) (by omega)
    rw [HX.out.1] at d1
    rw [HX.out.2] at d2
    have hg5 := gb_below HGG.out (bstep (Below.refl _ _).drew hb5)
    go_wp2_with fail
    refine hKK.out _ _ ?_ (fun hHeld => ?_)
    ·exact ⟨d1, d2⟩
    clear hKK K
    try simp only [Act.put, zA1, zA2, zA3]
    refine wpAnyH_ready (rs := [10]) (by kernel_rfl) (by simp) ?_
    refine AllReadyH.cons (o := _) rfl (fun K hKK => ?_) AllReadyH.nil
    go_simp
    refine hKK.out _ _ ?_ (fun hHeld => ?_)
    ·exact hHeld
    clear hKK K
    try simp only [Act.put, zA1, zA2, zA3]
    refine wpAnyH_done (by kernel_rfl) ?_ _
    have HR5 := Lib.hid hr5
    have HG5 := Lib.hid hg5
    clear c1 c2 hK hb5 hr5 hg5 hHeld
    go_wp2
    go_roundw
    case rel => exact ⟨i, h, rfl, by go_num, by rw [HX.out.2]; exact HB, hi1, by omega, by omega, HR5.out, HG5.out⟩
    case measure => simp [RowKit.intOf]; omega
  ·obtain rfl : i = j := by omega
   have HRW := Lib.hid hrow
   have HGG := Lib.hid hg
   have hk1 : (i : Int) - 1 = ((i - 1 : Nat) : Int) := by omega
   clear hrow hg
   go_wp2
   go_loopw [13] (fun kv wr => ∃ (k : Nat) (M : List Int), kv = .int .i64 k ∧ a ≤ k ∧ k ≤ i - 1 ∧ Hid (ShU a b k L M) ∧ RowZ wr B g n cap M ∧ w.grownBy wr (some g)) (fun kv _ => i - (RowKit.intOf kv).toNat)
   case atStart => exact ⟨a, L, rfl, by omega, by omega, Lib.hid (ShU.start _ _ _), HRW.out, HGG.out⟩
   case round =>
    obtain ⟨k, M, rfl, hk2, hk3, HS, hrow, hg⟩ := hrel
    by_cases hlt2 : k < i - 1
    ·have hki : (k : Int) < ((i - 1 : Nat) : Int) := by omega
     have d1 := hrow.cell (i := k) (by omega)
     have d2 := hrow.cell (i := k + 1) (by omega)
     have z1 := hrow.froz k
     have z2 := hrow.froz (k + 1)
     obtain ⟨x, hx⟩ : ∃ x, ga M k = x := ⟨_, rfl⟩
     obtain ⟨y, hy⟩ : ∃ y, ga M (k + 1) = y := ⟨_, rfl⟩
     rw [hx] at d1
     rw [hy] at d2
     have h1 := hrow.swap2 k (k + 1)
     rw [hx, hy] at h1
     have H1 := Lib.hid h1
     have HST := Lib.hid (HS.out.step hk2 (by omega) (by rw [HL.out]; exact hb))
     have HG := Lib.hid hg
     have ha0 : (0 : Int) ≤ (k : Int) := by omega
     have ha1 : (k : Int) < (n : Int) := by omega
     have ha2 : ((k : Int)).toNat = k := by omega
     have hb0 : (0 : Int) ≤ (k : Int) + 1 := by omega
     have hb1 : (k : Int) + 1 < (n : Int) := by omega
     have hb2 : ((k : Int) + 1).toNat = k + 1 := by omega
     obtain ⟨v', d2'⟩ := cell?_setCell_someQ (p := ⟨g, k, none⟩) (x := .int .i64 y) d2
     clear h1 hx hy hrow hg HS
     go_wp2
     go_region
     go_wp2
     go_roundw
     case rel => exact ⟨k + 1, _, by go_num, by omega, by omega, HST, H1.out.below (Below.refl _ _).drew, gb_below ((HG.out.trans (grown_set _ g k _)).trans (grown_set _ g (k + 1) _)) (Below.refl _ _).drew⟩
     case measure => simp [RowKit.intOf]; omega
    ·obtain rfl : k = i - 1 := by omega
     have hfin := HS.out.srt HSR.out hi1 hj1 HI.out.low HI.out.up
     have HF := Lib.hid (And.intro HS.out.perm (And.intro hfin (And.intro hrow hg)))
     clear hfin hrow hg
     go_wp2
     refine bodyPost_ret (results_none rfl _ _ _) rfl ?_
     trace_state
     exact ⟨M, rfl, HF.out⟩
set_option maxHeartbeats 4000000 in
theorem symB_any {lt : Int → Int → Prop} (ho : Ord lt) (cm : Int → Int → Int) (L : List Int) (B g n cap bx a m b : Nat) (w : World) (hr : RowZ w B g n cap L) (hn : L.Nodup) (hm : b = m + 1) (hab : a + 1 < m) (hb : b ≤ n) (hn1 : n ≤ 100000) (hC : CmpOK w g bx cm L)
  (hs : Srt lt L a m) (hT : Tst cm lt L a m b) :
  Calls Tryz.prog 208 #[.slice (some ⟨g, 0, none⟩) n cap, .int .i64 (a : Nat), .int .i64 (m : Nat), .int .i64 (b : Nat), cmpV bx] w (SortPost w B g n cap lt L a b) := by
 have hni : (n : Int) ≤ 100000 := by omega
 have hbi : (b : Int) ≤ (n : Int) := by omega
 have ham : (b : Int) - (m : Int) = 1 := by omega
 obtain ⟨D, hD⟩ : ∃ D : Int, (m : Int) - (a : Int) = D := ⟨_, rfl⟩
 have hD1 : (D == 1) = false := by simp; omega
 have hD2 : ¬ D = 1 := by omega
 have HMM := Lib.hid hm
 have HC := Lib.hid hC
 have HT := Lib.hid hT
 have HSR := Lib.hid hs
 have HL := Lib.hid hr.1
 have HN := Lib.hid hn
 have HR := Lib.hid hr
 unfold cmpV SortPost
 clear hC hT hn hr hs hm
 go_enter Tryz.func208, Tryz.ntmps208
 go_wp2
 go_loopw [14, 15] (fun iv jv wr => ∃ (i j : Nat), iv = .int .i64 i ∧ jv = .int .i64 j ∧ Hid (Bin lt L (ga L m) a m i j) ∧ a ≤ i ∧ i ≤ j ∧ j ≤ m ∧ RowZ wr B g n cap L ∧ w.grownBy wr (some g)) (fun iv jv _ => (RowKit.intOf jv).toNat - (RowKit.intOf iv).toNat)
 case atStart => exact ⟨a, m, rfl, rfl, Lib.hid (Bin.start (by omega)), by omega, by omega, by omega, HR.out, World.grownBy.refl _ _⟩
 case round =>
  obtain ⟨i, j, rfl, rfl, HI, hi1, hij, hj1, hrow, hg⟩ := hrel
  by_cases hlt : i < j
  ·have hki : (i : Int) < (j : Int) := by omega
   obtain ⟨h, hh⟩ : ∃ h : Nat, ((i : Int) + (j : Int)) / 2 = (h : Int) := ⟨(i + j) / 2, by omega⟩
   have hih : i ≤ h := by omega
   have hhj : h < j := by omega
   have h0 : (0 : Int) ≤ (h : Int) := by omega
   have h1 : (h : Int) < (n : Int) := by omega
   have h2 : ((h : Int)).toNat = h := by omega
   have a0 : (0 : Int) ≤ (m : Int) := by omega
   have a1 : (m : Int) < (n : Int) := by omega
   have a2 : ((m : Int)).toNat = m := by omega
   have c1 := hrow.cell (i := h) (by omega)
   have c2 := hrow.cell (i := m) (by omega)
   have t1 := HT.out h m (by omega) (by omega) (by omega) (by omega)
   have hK : ∀ w', Below wr.heap.size wr w' → Calls Tryz.prog 115 #[.int .i64 (ga L m), .int .i64 (ga L h), .pointer (some ⟨bx, 0, none⟩)] w' (RetPost (.int .i64 (cm (ga L m) (ga L h))) w') := fun w' hb' => HC.out w' (gb_below hg hb') _ _ (List.mem_of_getElem? (ga_at (by rw [HL.out]; omega))) (List.mem_of_getElem? (ga_at (by rw [HL.out]; omega)))
   have hne : ga L h ≠ ga L m := fun q => by
    have e2 : L[h]? = L[m]? := by rw [ga_at (by rw [HL.out]; omega), ga_at (by rw [HL.out]; omega), q]
    have := (List.getElem?_inj (show h < L.length by rw [HL.out]; omega) HN.out).1 e2
    omega
   have hbR := fun q => HI.out.right ho HSR.out hih hhj q
   have hbL := fun q => HI.out.left ho HSR.out hih hhj q
   obtain ⟨x, hx⟩ : ∃ x, ga L h = x := ⟨_, rfl⟩
   obtain ⟨y, hy⟩ : ∃ y, ga L m = y := ⟨_, rfl⟩
   rw [hx] at c1 hK t1 hne hbR hbL
   rw [hy] at c2 hK t1 hne hbR hbL
   have HX := Lib.hid (And.intro hx hy)
   have HRW := Lib.hid hrow
   have HGG := Lib.hid hg
   clear hx hy hrow hg
   obtain ⟨s, hsv⟩ : ∃ s, cm y x = s := ⟨_, rfl⟩
   rw [hsv] at hK t1
   clear hsv
   by_cases hlt0 : s < 0
   ·have HB := Lib.hid (hbL (t1.1 hlt0))
    clear hbR hbL t1 hne
    go_wp2
    refine wp_region_held_drew (S := fun w' => w'.cell? ⟨g, h, none⟩ = some (.int .i64 x) ∧ w'.cell? ⟨g, m, none⟩ = some (.int .i64 y)) (by kernel_rfl) ?_ (fun hHeld => ?_)
    ·exact ⟨c1, c2⟩
    refine zT (i := 0) (v := ?_) rfl (Or.inl ⟨by kernel_rfl, ?_⟩) ?_
    rotate_left
    ·rintro w ⟨s1, s2⟩
     go_simp
     try with_reducible rfl
    try simp only [Act.put, zA1, zA2, zA3]
    refine zT (i := 1) (v := ?_) rfl (Or.inl ⟨by kernel_rfl, ?_⟩) ?_
    rotate_left
    ·rintro w ⟨s1, s2⟩
     go_simp
     try with_reducible rfl
    try simp only [Act.put, zA1, zA2, zA3]
    refine zT (i := 2) (v := ?_) rfl (Or.inl ⟨by kernel_rfl, ?_⟩) ?_
    rotate_left
    ·rintro w ⟨s1, s2⟩
     go_simp
     try with_reducible rfl
    try simp only [Act.put, zA1, zA2, zA3]
    refine zT (i := 3) (v := ?_) rfl (Or.inl ⟨by kernel_rfl, ?_⟩) ?_
    rotate_left
    ·rintro w ⟨s1, s2⟩
     go_simp
     try with_reducible rfl
    try simp only [Act.put, zA1, zA2, zA3]
    refine zT (i := 4) (v := ?_) rfl (Or.inl ⟨by kernel_rfl, ?_⟩) ?_
    rotate_left
    ·rintro w ⟨s1, s2⟩
     go_simp
     try with_reducible rfl
    try simp only [Act.put, zA1, zA2, zA3]
    refine zT (i := 5) (v := ?_) rfl (Or.inl ⟨by kernel_rfl, ?_⟩) ?_
    rotate_left
    ·rintro w ⟨s1, s2⟩
     go_simp
     try with_reducible rfl
    try simp only [Act.put, zA1, zA2, zA3]
    refine zT (i := 6) (v := ?_) rfl (Or.inl ⟨by kernel_rfl, ?_⟩) ?_
    rotate_left
    ·rintro w ⟨s1, s2⟩
     go_simp
     try with_reducible rfl
    try simp only [Act.put, zA1, zA2, zA3]
    refine zT (i := 7) (v := ?_) rfl (Or.inl ⟨by kernel_rfl, ?_⟩) ?_
    rotate_left
    ·rintro w ⟨s1, s2⟩
     go_simp
     try with_reducible rfl
    try simp only [Act.put, zA1, zA2, zA3]
    refine zT (i := 8) (v := ?_) rfl (Or.inl ⟨by kernel_rfl, ?_⟩) ?_
    rotate_left
    ·rintro w ⟨s1, s2⟩
     go_simp
     try with_reducible rfl
    try simp only [Act.put, zA1, zA2, zA3]
    refine wpAnyH_ready (rs := [9]) (by kernel_rfl) (by simp) ?_
    refine AllReadyH.cons (o := _) rfl (fun K hKK => ?_) AllReadyH.nil
    go_simp
    go_at_call 115
    refine (hK _ (Below.refl _ _).drew).mono ?_
    rintro e w5 ⟨rfl, hb5⟩
    have hr5 := (HRW.out.below (Below.refl _ _).drew).below hb5
    have d1 := hr5.cell (i := h) (by omega)
    have d2 := hr5.cell (i := m) (by omega)
    rw [HX.out.1] at d1
    rw [HX.out.2] at d2
    have hg5 := gb_below HGG.out (bstep (Below.refl _ _).drew hb5)
    go_wp2_with fail
    refine hKK.out _ _ ?_ (fun hHeld => ?_)
    ·exact ⟨d1, d2⟩
    clear hKK K
    try simp only [Act.put, zA1, zA2, zA3]
    refine wpAnyH_ready (rs := [10]) (by kernel_rfl) (by simp) ?_
    refine AllReadyH.cons (o := _) rfl (fun K hKK => ?_) AllReadyH.nil
    go_simp
    refine hKK.out _ _ ?_ (fun hHeld => ?_)
    ·exact hHeld
    clear hKK K
    try simp only [Act.put, zA1, zA2, zA3]
    refine wpAnyH_ready (rs := [11]) (by kernel_rfl) (by simp) ?_
    refine AllReadyH.cons (o := _) rfl (fun K hKK => ?_) AllReadyH.nil
    go_simp
    refine hKK.out _ _ ?_ (fun hHeld => ?_)
    ·exact hHeld
    clear hKK K
    try simp only [Act.put, zA1, zA2, zA3]
    refine wpAnyH_done (by kernel_rfl) ?_ _
    have HR5 := Lib.hid hr5
    have HG5 := Lib.hid hg5
    clear c1 c2 hK hb5 hr5 hg5 hHeld
    go_wp2
    go_roundw
    case rel => exact ⟨i, h, rfl, by go_num, by rw [HX.out.2]; exact HB, hi1, by omega, by omega, HR5.out, HG5.out⟩
    case measure => simp [RowKit.intOf]; omega
   ·have HB := Lib.hid (hbR ((ho.tri hne).resolve_right (fun q => hlt0 (t1.2 q))))
    clear hbR hbL t1 hne
    have hge : 0 ≤ s := by omega
    have hdf : decide (s < 0) = false := decide_eq_false hlt0
    go_wp2
    refine wp_region_held_drew (S := fun w' => w'.cell? ⟨g, h, none⟩ = some (.int .i64 x) ∧ w'.cell? ⟨g, m, none⟩ = some (.int .i64 y)) (by kernel_rfl) ?_ (fun hHeld => ?_)
    ·exact ⟨c1, c2⟩
    refine zT (i := 0) (v := ?_) rfl (Or.inl ⟨by kernel_rfl, ?_⟩) ?_
    rotate_left
    ·rintro w ⟨s1, s2⟩
     go_simp
     try with_reducible rfl
    try simp only [Act.put, zA1, zA2, zA3]
    refine zT (i := 1) (v := ?_) rfl (Or.inl ⟨by kernel_rfl, ?_⟩) ?_
    rotate_left
    ·rintro w ⟨s1, s2⟩
     go_simp
     try with_reducible rfl
    try simp only [Act.put, zA1, zA2, zA3]
    refine zT (i := 2) (v := ?_) rfl (Or.inl ⟨by kernel_rfl, ?_⟩) ?_
    rotate_left
    ·rintro w ⟨s1, s2⟩
     go_simp
     try with_reducible rfl
    try simp only [Act.put, zA1, zA2, zA3]
    refine zT (i := 3) (v := ?_) rfl (Or.inl ⟨by kernel_rfl, ?_⟩) ?_
    rotate_left
    ·rintro w ⟨s1, s2⟩
     go_simp
     try with_reducible rfl
    try simp only [Act.put, zA1, zA2, zA3]
    refine zT (i := 4) (v := ?_) rfl (Or.inl ⟨by kernel_rfl, ?_⟩) ?_
    rotate_left
    ·rintro w ⟨s1, s2⟩
     go_simp
     try with_reducible rfl
    try simp only [Act.put, zA1, zA2, zA3]
    refine zT (i := 5) (v := ?_) rfl (Or.inl ⟨by kernel_rfl, ?_⟩) ?_
    rotate_left
    ·rintro w ⟨s1, s2⟩
     go_simp
     try with_reducible rfl
    try simp only [Act.put, zA1, zA2, zA3]
    refine zT (i := 6) (v := ?_) rfl (Or.inl ⟨by kernel_rfl, ?_⟩) ?_
    rotate_left
    ·rintro w ⟨s1, s2⟩
     go_simp
     try with_reducible rfl
    try simp only [Act.put, zA1, zA2, zA3]
    refine zT (i := 7) (v := ?_) rfl (Or.inl ⟨by kernel_rfl, ?_⟩) ?_
    rotate_left
    ·rintro w ⟨s1, s2⟩
     go_simp
     try with_reducible rfl
    try simp only [Act.put, zA1, zA2, zA3]
    refine zT (i := 8) (v := ?_) rfl (Or.inl ⟨by kernel_rfl, ?_⟩) ?_
    rotate_left
    ·rintro w ⟨s1, s2⟩
     go_simp
     try with_reducible rfl
    try simp only [Act.put, zA1, zA2, zA3]
    refine wpAnyH_ready (rs := [9]) (by kernel_rfl) (by simp) ?_
    refine AllReadyH.cons (o := _) rfl (fun K hKK => ?_) AllReadyH.nil
    go_simp
    go_at_call 115
    refine (hK _ (Below.refl _ _).drew).mono ?_
    rintro e w5 ⟨rfl, hb5⟩
    have hr5 := (HRW.out.below (Below.refl _ _).drew).below hb5
    have d1 := hr5.cell (i := h) (by omega)
    have d2 := hr5.cell (i := m) (by omega)
    rw [HX.out.1] at d1
    rw [HX.out.2] at d2
    have hg5 := gb_below HGG.out (bstep (Below.refl _ _).drew hb5)
    go_wp2_with fail
    refine hKK.out _ _ ?_ (fun hHeld => ?_)
    ·exact ⟨d1, d2⟩
    clear hKK K
    try simp only [Act.put, zA1, zA2, zA3]
    refine wpAnyH_ready (rs := [10]) (by kernel_rfl) (by simp) ?_
    refine AllReadyH.cons (o := _) rfl (fun K hKK => ?_) AllReadyH.nil
    go_simp
    refine hKK.out _ _ ?_ (fun hHeld => ?_)
    ·exact hHeld
    clear hKK K
    try simp only [Act.put, zA1, zA2, zA3]
    refine wpAnyH_ready (rs := [11]) (by kernel_rfl) (by simp) ?_
    refine AllReadyH.cons (o := _) rfl (fun K hKK => ?_) AllReadyH.nil
    go_simp
    refine hKK.out _ _ ?_ (fun hHeld => ?_)
    ·exact hHeld
    clear hKK K
    try simp only [Act.put, zA1, zA2, zA3]
    refine wpAnyH_done (by kernel_rfl) ?_ _
    have HR5 := Lib.hid hr5
    have HG5 := Lib.hid hg5
    clear c1 c2 hK hb5 hr5 hg5 hHeld
    go_wp2
    go_roundw
    case rel => exact ⟨h + 1, j, by go_num, rfl, by rw [HX.out.2]; exact HB, by omega, by omega, hj1, HR5.out, HG5.out⟩
    case measure => simp [RowKit.intOf]; omega
  ·obtain rfl : i = j := by omega
   have HRW := Lib.hid hrow
   have HGG := Lib.hid hg
   clear hrow hg
   go_wp2
   go_loopw [17] (fun kv wr => ∃ (k : Nat) (M : List Int), kv = .int .i64 k ∧ i ≤ k ∧ k ≤ m ∧ Hid (ShD a m k L M) ∧ RowZ wr B g n cap M ∧ w.grownBy wr (some g)) (fun kv _ => (RowKit.intOf kv).toNat)
   case atStart => exact ⟨m, L, rfl, by omega, by omega, Lib.hid (ShD.start _ _ _), HRW.out, HGG.out⟩
   case round =>
    obtain ⟨k, M, rfl, hk2, hk3, HS, hrow, hg⟩ := hrel
    by_cases hlt2 : i < k
    ·have hki : (i : Int) < (k : Int) := by omega
     have d1 := hrow.cell (i := k) (by omega)
     have d2 := hrow.cell (i := k - 1) (by omega)
     have z1 := hrow.froz k
     have z2 := hrow.froz (k - 1)
     obtain ⟨x, hx⟩ : ∃ x, ga M k = x := ⟨_, rfl⟩
     obtain ⟨y, hy⟩ : ∃ y, ga M (k - 1) = y := ⟨_, rfl⟩
     rw [hx] at d1
     rw [hy] at d2
     have h1 := hrow.swap1 (i := k - 1) (j := k) (by omega)
     rw [hx, hy] at h1
     have H1 := Lib.hid h1
     have HST := Lib.hid (HS.out.step (by omega) hk3 (by rw [HL.out]; omega))
     have HG := Lib.hid hg
     have ha0 : (0 : Int) ≤ (k : Int) := by omega
     have ha1 : (k : Int) < (n : Int) := by omega
     have ha2 : ((k : Int)).toNat = k := by omega
     have hb0 : (0 : Int) ≤ (k : Int) - 1 := by omega
     have hb1 : (k : Int) - 1 < (n : Int) := by omega
     have hb2 : ((k : Int) - 1).toNat = k - 1 := by omega
     obtain ⟨v', d2'⟩ := cell?_setCell_someQ (p := ⟨g, k, none⟩) (x := .int .i64 y) d2
     clear h1 hx hy hrow hg HS
     go_wp2
     go_region
     go_wp2
     go_roundw
     case rel => exact ⟨k - 1, _, by go_num, by omega, by omega, HST, H1.out.below (Below.refl _ _).drew, gb_below ((HG.out.trans (grown_set _ g k _)).trans (grown_set _ g (k - 1) _)) (Below.refl _ _).drew⟩
     case measure => simp [RowKit.intOf]; omega
    ·obtain rfl : k = i := by omega
     have hfin := HS.out.srt HSR.out hi1 hj1 HI.out.low HI.out.up
     have hpm := HS.out.perm
     rw [← HMM.out] at hfin hpm
     have HF := Lib.hid (And.intro hpm (And.intro hfin (And.intro hrow hg)))
     clear hfin hpm hrow hg
     go_wp2
     refine bodyPost_ret (results_none rfl _ _ _) rfl ?_
     exact ⟨M, rfl, HF.out⟩
end Go.Mk
