/-
  Proved: slices.insertionSortCmpFunc of integers sorts a range in place, slices.swapRangeCmpFunc exchanges two ranges that lie apart, and slices.rotateCmpFunc two that lie side by side, where the comparison answers as a strict order does. Conditions: the integers lie in a row of the caller's own; the comparison leaves what was there.
-/
import Derived.Test.YtclapdfkgafenaaGreatDoorFpa
set_option linter.unusedVariables false
set_option linter.unusedSimpArgs false
open Go Go.Proofs Go.RowKit Go.Sort
set_option maxRecDepth 100000
namespace Go.Mk
def cmpV (bx : Nat) : Value := .func (.func 115) #[] #[.pointer (some ⟨bx, 0, none⟩)]
def CmpOK (w : World) (g bx : Nat) (cm : Int → Int → Int) (L : List Int) : Prop :=
 ∀ w' : World, w.grownBy w' (some g) → ∀ x y : Int, x ∈ L → y ∈ L → Calls Tryz.prog 115 #[.int .i64 x, .int .i64 y, .pointer (some ⟨bx, 0, none⟩)] w' (RetPost (.int .i64 (cm x y)) w')
def SortPost (w : World) (B g n cap : Nat) (lt : Int → Int → Prop) (L : List Int) (a b : Nat) (e : Ending) (w' : World) : Prop :=
 ∃ M, e = .returned (.tuple #[]) ∧ PermIn a b L M ∧ Srt lt M a b ∧ RowZ w' B g n cap M ∧ w.grownBy w' (some g)
set_option maxHeartbeats 4000000 in
theorem insertCmp_any {lt : Int → Int → Prop} (ho : Ord lt) (cm : Int → Int → Int) (L : List Int) (B g n cap bx a b : Nat) (w : World) (hr : RowZ w B g n cap L) (hn : L.Nodup) (hb : b ≤ n) (hn1 : n ≤ 100000) (ha : a ≤ 100000) (hC : CmpOK w g bx cm L)
  (hT : ∀ p q, a ≤ p → p < q → q < b → (cm (ga L q) (ga L p) < 0 ↔ lt (ga L q) (ga L p))) :
  Calls Tryz.prog 207 #[.slice (some ⟨g, 0, none⟩) n cap, .int .i64 (a : Nat), .int .i64 (b : Nat), cmpV bx] w (SortPost w B g n cap lt L a b) := by
 have hni : (n : Int) ≤ 100000 := by omega
 have hai : (a : Int) ≤ 100000 := by omega
 have hbi : (b : Int) ≤ (n : Int) := by omega
 have HC := Lib.hid hC
 have HT := Lib.hid hT
 have HL := Lib.hid hr.1
 have HN := Lib.hid hn
 have HR := Lib.hid hr
 unfold cmpV SortPost
 clear hC hT hn hr
 go_enter Tryz.func207, Tryz.ntmps207
 go_wp2
 go_loopw [8] (fun i wr => ∃ (k : Nat) (M : List Int), i = .int .i64 k ∧ a + 1 ≤ k ∧ k ≤ 100001 ∧ Hid ((k = a + 1 ∧ M = L) ∨ (k ≤ b ∧ PermIn a k L M ∧ Srt lt M a k)) ∧ RowZ wr B g n cap M ∧ w.grownBy wr (some g)) (fun i _ => 100002 - (RowKit.intOf i).toNat)
 case atStart => exact ⟨a + 1, L, by go_num, by omega, by omega, Lib.hid (.inl ⟨rfl, rfl⟩), HR.out, World.grownBy.refl _ _⟩
 case round =>
  obtain ⟨k, M, rfl, hk1, hk2, HI, hrow, hg⟩ := hrel
  by_cases hlt : k < b
  ·have hki : (k : Int) < (b : Int) := by omega
   have hpk : PermIn a k L M ∧ Srt lt M a k := by
    rcases HI.out with ⟨rfl, rfl⟩ | ⟨_, h1, h2⟩
    ·exact ⟨PermIn.refl _ _ _, fun i j h1 h2 h3 => by omega⟩
    ·exact ⟨h1, h2⟩
   have HPK := Lib.hid hpk
   obtain ⟨wy, rfl⟩ : ∃ wy : World, wy = wr := ⟨_, rfl⟩
   have HR2 := Lib.hid hrow
   have HG := Lib.hid hg
   clear hpk HI hrow hg
   go_wp2
   go_loopw [9] (fun i wr => ∃ (j : Nat) (M' : List Int), i = .int .i64 j ∧ a ≤ j ∧ j ≤ k ∧ Hid (Ins lt a k j M M') ∧ RowZ wr B g n cap M' ∧ w.grownBy wr (some g)) (fun i _ => (RowKit.intOf i).toNat)
   case atStart => exact ⟨k, M, rfl, by omega, by omega, Lib.hid (Ins.start HPK.out.2), HR2.out, HG.out⟩
   case round =>
    obtain ⟨j, M', rfl, hj1, hj2, HI, hrow, hg⟩ := hrel
    have hln : L.length = n := HL.out
    have hlM : M.length = n := HPK.out.1.len.trans hln
    by_cases haj : a < j
    ·have hai2 : (a : Int) < (j : Int) := by omega
     have c1 := hrow.cell (i := j) (by omega)
     have c2 := hrow.cell (i := j - 1) (by omega)
     have hj0 : (0 : Int) ≤ (j : Int) := by omega
     have hjn : (j : Int) < (n : Int) := by omega
     have hjt : ((j : Int)).toNat = j := by omega
     have hk0 : (0 : Int) ≤ (j : Int) - 1 := by omega
     have hk1 : (j : Int) - 1 < (n : Int) := by omega
     have hkt : ((j : Int) - 1).toNat = j - 1 := by omega
     have hj1i : (1 : Int) ≤ (j : Int) := by omega
     have hw1 : IntKind.i64.wrap ((j : Int) - 1) = (j : Int) - 1 := wrapQ _ (by omega)
     obtain ⟨t1, t2, t3⟩ := Ins.test (cm := cm) HI.out HPK.out.1 HN.out haj hj2 (by omega) (fun p q h1 h2 h3 => HT.out p q h1 h2 (by omega))
     have hK : ∀ w', Below wr.heap.size wr w' → Calls Tryz.prog 115 #[.int .i64 (ga M' j), .int .i64 (ga M' (j - 1)), .pointer (some ⟨bx, 0, none⟩)] w' (RetPost (.int .i64 (cm (ga M' j) (ga M' (j - 1)))) w') := fun w' hb' => HC.out w' (gb_below hg hb') _ _ t2 t3
     obtain ⟨x, hx⟩ : ∃ x, ga M' j = x := ⟨_, rfl⟩
     obtain ⟨y, hy⟩ : ∃ y, ga M' (j - 1) = y := ⟨_, rfl⟩
     rw [hx] at c1
     rw [hy] at c2
     rw [hx, hy] at hK t1
     have HX := Lib.hid (And.intro hx hy)
     have HRW := Lib.hid hrow
     have HGG := Lib.hid hg
     clear hx hy t2 t3 hrow hg
     obtain ⟨s, hs⟩ : ∃ s, cm x y = s := ⟨_, rfl⟩
     rw [hs] at hK t1
     clear hs
     by_cases hlt0 : s < 0
     ·have hl := t1.1 hlt0
      have HST := Lib.hid (Ins.step HI.out haj hj2 (by omega) (by rw [HX.out.1, HX.out.2]; exact hl))
      clear hl t1
      go_wp2_with fail
      refine wp_region_held_drew (S := fun w' => w'.cell? ⟨g, j, none⟩ = some (.int .i64 x) ∧ w'.cell? ⟨g, j - 1, none⟩ = some (.int .i64 y)) (by kernel_rfl) ?_ (fun hHeld => ?_)
      ·exact ⟨c1, c2⟩
      refine zT (i := 0) (v := ?_) rfl (Or.inl ⟨by kernel_rfl, ?_⟩) ?_
      rotate_left
      ·rintro w ⟨s1, s2⟩
       go_simp
       try with_reducible rfl
      try simp only [Act.put, zA1, zA2, zA3]
      refine zT (i := 1) (v := ?_) rfl (Or.inl ⟨by kernel_rfl, ?_⟩) ?_
      rotate_left
      ·rintro w ⟨s1, s2⟩
       go_simp
       try with_reducible rfl
      try simp only [Act.put, zA1, zA2, zA3]
      refine zT (i := 2) (v := ?_) rfl (Or.inl ⟨by kernel_rfl, ?_⟩) ?_
      rotate_left
      ·rintro w ⟨s1, s2⟩
       go_simp
       try with_reducible rfl
      try simp only [Act.put, zA1, zA2, zA3]
      refine zT (i := 3) (v := ?_) rfl (Or.inl ⟨by kernel_rfl, ?_⟩) ?_
      rotate_left
      ·rintro w ⟨s1, s2⟩
       go_simp
       try with_reducible rfl
      try simp only [Act.put, zA1, zA2, zA3]
      refine zT (i := 4) (v := ?_) rfl (Or.inl ⟨by kernel_rfl, ?_⟩) ?_
      rotate_left
      ·rintro w ⟨s1, s2⟩
       go_simp
       try with_reducible rfl
      try simp only [Act.put, zA1, zA2, zA3]
      refine zT (i := 5) (v := ?_) rfl (Or.inl ⟨by kernel_rfl, ?_⟩) ?_
      rotate_left
      ·rintro w ⟨s1, s2⟩
       go_simp
       try with_reducible rfl
      try simp only [Act.put, zA1, zA2, zA3]
      refine zT (i := 6) (v := ?_) rfl (Or.inl ⟨by kernel_rfl, ?_⟩) ?_
      rotate_left
      ·rintro w ⟨s1, s2⟩
       go_simp
       try with_reducible rfl
      try simp only [Act.put, zA1, zA2, zA3]
      refine zT (i := 7) (v := ?_) rfl (Or.inl ⟨by kernel_rfl, ?_⟩) ?_
      rotate_left
      ·rintro w ⟨s1, s2⟩
       go_simp
       try with_reducible rfl
      try simp only [Act.put, zA1, zA2, zA3]
      refine zT (i := 8) (v := ?_) rfl (Or.inl ⟨by kernel_rfl, ?_⟩) ?_
      rotate_left
      ·rintro w ⟨s1, s2⟩
       go_simp
       try with_reducible rfl
      try simp only [Act.put, zA1, zA2, zA3]
      refine zT (i := 9) (v := ?_) rfl (Or.inl ⟨by kernel_rfl, ?_⟩) ?_
      rotate_left
      ·rintro w ⟨s1, s2⟩
       go_simp
       try with_reducible rfl
      try simp only [Act.put, zA1, zA2, zA3]
      refine zT (i := 10) (v := ?_) rfl (Or.inl ⟨by kernel_rfl, ?_⟩) ?_
      rotate_left
      ·rintro w ⟨s1, s2⟩
       go_simp
       try with_reducible rfl
      try simp only [Act.put, zA1, zA2, zA3]
      refine zT (i := 11) (v := ?_) rfl (Or.inl ⟨by kernel_rfl, ?_⟩) ?_
      rotate_left
      ·rintro w ⟨s1, s2⟩
       go_simp
       try simp only [hw1, hkt, if_pos hj1i]
       try with_reducible rfl
      try simp only [Act.put, zA1, zA2, zA3]
      refine zT (i := 12) (v := ?_) rfl (Or.inl ⟨by kernel_rfl, ?_⟩) ?_
      rotate_left
      ·rintro w ⟨s1, s2⟩
       go_simp
       try simp only [hw1, hkt, if_pos hj1i]
       try with_reducible rfl
      try simp only [Act.put, zA1, zA2, zA3]
      refine zT (i := 13) (v := ?_) rfl (Or.inl ⟨by kernel_rfl, ?_⟩) ?_
      rotate_left
      ·rintro w ⟨s1, s2⟩
       go_simp
       try simp only [hw1, hkt, if_pos hj1i]
       try with_reducible rfl
      try simp only [Act.put, zA1, zA2, zA3]
      refine wpAnyH_ready (rs := [14]) (by kernel_rfl) (by simp) ?_
      refine AllReadyH.cons (o := _) rfl (fun K hKK => ?_) AllReadyH.nil
      go_simp
      go_at_call 115
      refine (hK _ (Below.refl _ _).drew).mono ?_
      rintro e w5 ⟨rfl, hb5⟩
      have hr5 := (HRW.out.below (Below.refl _ _).drew).below hb5
      have d1 := hr5.cell (i := j) (by omega)
      have d2 := hr5.cell (i := j - 1) (by omega)
      rw [HX.out.1] at d1
      rw [HX.out.2] at d2
      have hg5 := gb_below HGG.out (bstep (Below.refl _ _).drew hb5)
      go_wp2_with fail
      refine hKK.out _ _ ?_ (fun hHeld => ?_)
      ·exact ⟨d1, d2⟩
      clear hKK K
      try simp only [Act.put, zA1, zA2, zA3]
      refine wpAnyH_ready (rs := [15]) (by kernel_rfl) (by simp) ?_
      refine AllReadyH.cons (o := _) rfl (fun K hKK => ?_) AllReadyH.nil
      go_simp
      refine hKK.out _ _ ?_ (fun hHeld => ?_)
      ·exact hHeld
      clear hKK K
      try simp only [Act.put, zA1, zA2, zA3]
      refine wpAnyH_ready (rs := [16]) (by kernel_rfl) (by simp) ?_
      refine AllReadyH.cons (o := _) rfl (fun K hKK => ?_) AllReadyH.nil
      go_simp
      refine hKK.out _ _ ?_ (fun hHeld => ?_)
      ·exact hHeld
      clear hKK K
      try simp only [Act.put, zA1, zA2, zA3]
      refine wpAnyH_done (by kernel_rfl) ?_ _
      have z1 := hr5.froz j
      have z2 := hr5.froz (j - 1)
      have HR5 := Lib.hid hr5
      have HG5 := Lib.hid hg5
      clear c1 c2 hK hb5 hr5 hg5 hHeld
      obtain ⟨v', d2'⟩ := cell?_setCell_someQ (p := ⟨g, j, none⟩) (x := .int .i64 y) d2
      go_wp2
      go_region
      go_wp2
      go_roundw
      case rel =>
       have h1 := HR5.out.swap1 (i := j - 1) (j := j) (by omega)
       rw [HX.out.1, HX.out.2] at h1
       exact ⟨j - 1, _, by go_num, by omega, by omega, HST, h1.below (Below.refl _ _).drew, gb_below ((HG5.out.trans (grown_set _ g j _)).trans (grown_set _ g (j - 1) _)) (Below.refl _ _).drew⟩
      case measure => simp [RowKit.intOf]; omega
     ·have hl : ¬ lt x y := fun q => hlt0 (t1.2 q)
      have hdone := Ins.done ho HI.out (HPK.out.1.perm.nodup_iff.2 HN.out) hj1 hj2 (by omega) (fun _ => by rw [HX.out.1, HX.out.2]; exact hl)
      have HD := Lib.hid (And.intro ((HPK.out.1.wide (Nat.le_refl _) (Nat.le_succ k)).trans HI.out.perm) hdone)
      clear hl t1 hdone
      go_wp2_with fail
      refine wp_region_held_drew (S := fun w' => w'.cell? ⟨g, j, none⟩ = some (.int .i64 x) ∧ w'.cell? ⟨g, j - 1, none⟩ = some (.int .i64 y)) (by kernel_rfl) ?_ (fun hHeld => ?_)
      ·exact ⟨c1, c2⟩
      refine zT (i := 0) (v := ?_) rfl (Or.inl ⟨by kernel_rfl, ?_⟩) ?_
      rotate_left
      ·rintro w ⟨s1, s2⟩
       go_simp
       try with_reducible rfl
      try simp only [Act.put, zA1, zA2, zA3]
      refine zT (i := 1) (v := ?_) rfl (Or.inl ⟨by kernel_rfl, ?_⟩) ?_
      rotate_left
      ·rintro w ⟨s1, s2⟩
       go_simp
       try with_reducible rfl
      try simp only [Act.put, zA1, zA2, zA3]
      refine zT (i := 2) (v := ?_) rfl (Or.inl ⟨by kernel_rfl, ?_⟩) ?_
      rotate_left
      ·rintro w ⟨s1, s2⟩
       go_simp
       try with_reducible rfl
      try simp only [Act.put, zA1, zA2, zA3]
      refine zT (i := 3) (v := ?_) rfl (Or.inl ⟨by kernel_rfl, ?_⟩) ?_
      rotate_left
      ·rintro w ⟨s1, s2⟩
       go_simp
       try with_reducible rfl
      try simp only [Act.put, zA1, zA2, zA3]
      refine zT (i := 4) (v := ?_) rfl (Or.inl ⟨by kernel_rfl, ?_⟩) ?_
      rotate_left
      ·rintro w ⟨s1, s2⟩
       go_simp
       try with_reducible rfl
      try simp only [Act.put, zA1, zA2, zA3]
      refine zT (i := 5) (v := ?_) rfl (Or.inl ⟨by kernel_rfl, ?_⟩) ?_
      rotate_left
      ·rintro w ⟨s1, s2⟩
       go_simp
       try with_reducible rfl
      try simp only [Act.put, zA1, zA2, zA3]
      refine zT (i := 6) (v := ?_) rfl (Or.inl ⟨by kernel_rfl, ?_⟩) ?_
      rotate_left
      ·rintro w ⟨s1, s2⟩
       go_simp
       try with_reducible rfl
      try simp only [Act.put, zA1, zA2, zA3]
      refine zT (i := 7) (v := ?_) rfl (Or.inl ⟨by kernel_rfl, ?_⟩) ?_
      rotate_left
      ·rintro w ⟨s1, s2⟩
       go_simp
       try with_reducible rfl
      try simp only [Act.put, zA1, zA2, zA3]
      refine zT (i := 8) (v := ?_) rfl (Or.inl ⟨by kernel_rfl, ?_⟩) ?_
      rotate_left
      ·rintro w ⟨s1, s2⟩
       go_simp
       try with_reducible rfl
      try simp only [Act.put, zA1, zA2, zA3]
      refine zT (i := 9) (v := ?_) rfl (Or.inl ⟨by kernel_rfl, ?_⟩) ?_
      rotate_left
      ·rintro w ⟨s1, s2⟩
       go_simp
       try with_reducible rfl
      try simp only [Act.put, zA1, zA2, zA3]
      refine zT (i := 10) (v := ?_) rfl (Or.inl ⟨by kernel_rfl, ?_⟩) ?_
      rotate_left
      ·rintro w ⟨s1, s2⟩
       go_simp
       try with_reducible rfl
      try simp only [Act.put, zA1, zA2, zA3]
      refine zT (i := 11) (v := ?_) rfl (Or.inl ⟨by kernel_rfl, ?_⟩) ?_
      rotate_left
      ·rintro w ⟨s1, s2⟩
       go_simp
       try simp only [hw1, hkt, if_pos hj1i]
       try with_reducible rfl
      try simp only [Act.put, zA1, zA2, zA3]
      refine zT (i := 12) (v := ?_) rfl (Or.inl ⟨by kernel_rfl, ?_⟩) ?_
      rotate_left
      ·rintro w ⟨s1, s2⟩
       go_simp
       try simp only [hw1, hkt, if_pos hj1i]
       try with_reducible rfl
      try simp only [Act.put, zA1, zA2, zA3]
      refine zT (i := 13) (v := ?_) rfl (Or.inl ⟨by kernel_rfl, ?_⟩) ?_
      rotate_left
      ·rintro w ⟨s1, s2⟩
       go_simp
       try simp only [hw1, hkt, if_pos hj1i]
       try with_reducible rfl
      try simp only [Act.put, zA1, zA2, zA3]
      refine wpAnyH_ready (rs := [14]) (by kernel_rfl) (by simp) ?_
      refine AllReadyH.cons (o := _) rfl (fun K hKK => ?_) AllReadyH.nil
      go_simp
      go_at_call 115
      refine (hK _ (Below.refl _ _).drew).mono ?_
      rintro e w5 ⟨rfl, hb5⟩
      have hr5 := (HRW.out.below (Below.refl _ _).drew).below hb5
      have d1 := hr5.cell (i := j) (by omega)
      have d2 := hr5.cell (i := j - 1) (by omega)
      rw [HX.out.1] at d1
      rw [HX.out.2] at d2
      have hg5 := gb_below HGG.out (bstep (Below.refl _ _).drew hb5)
      go_wp2_with fail
      refine hKK.out _ _ ?_ (fun hHeld => ?_)
      ·exact ⟨d1, d2⟩
      clear hKK K
      try simp only [Act.put, zA1, zA2, zA3]
      refine wpAnyH_ready (rs := [15]) (by kernel_rfl) (by simp) ?_
      refine AllReadyH.cons (o := _) rfl (fun K hKK => ?_) AllReadyH.nil
      go_simp
      refine hKK.out _ _ ?_ (fun hHeld => ?_)
      ·exact hHeld
      clear hKK K
      try simp only [Act.put, zA1, zA2, zA3]
      refine wpAnyH_ready (rs := [16]) (by kernel_rfl) (by simp) ?_
      refine AllReadyH.cons (o := _) rfl (fun K hKK => ?_) AllReadyH.nil
      go_simp
      refine hKK.out _ _ ?_ (fun hHeld => ?_)
      ·exact hHeld
      clear hKK K
      try simp only [Act.put, zA1, zA2, zA3]
      refine wpAnyH_done (by kernel_rfl) ?_ _
      have HR5 := Lib.hid hr5
      have HG5 := Lib.hid hg5
      clear c1 c2 hK hb5 hr5 hg5 hHeld
      go_wp2
      go_roundw
      case rel => exact ⟨k + 1, M', by go_num, by omega, by omega, Lib.hid (.inr ⟨by omega, HD.out.1, HD.out.2⟩), HR5.out, HG5.out⟩
      case measure => simp [RowKit.intOf]; omega
    ·have hna : ¬ (a : Int) < (j : Int) := by omega
     have hdone := Ins.done ho HI.out (HPK.out.1.perm.nodup_iff.2 HN.out) hj1 hj2 (by omega) (fun q => absurd q haj)
     have HD := Lib.hid (And.intro ((HPK.out.1.wide (Nat.le_refl _) (Nat.le_succ k)).trans HI.out.perm) hdone)
     have HRW := Lib.hid hrow
     have HGG := Lib.hid hg
     clear hdone hrow hg
     go_wp2_with fail
     go_quiet (fail)
     go_wp2
     go_roundw
     case rel => exact ⟨k + 1, M', by go_num, by omega, by omega, Lib.hid (.inr ⟨by omega, HD.out.1, HD.out.2⟩), HRW.out.below (below_drewN (Below.refl _ _) _), gb_below HGG.out (below_drewN (Below.refl _ _) _)⟩
     case measure => simp [RowKit.intOf]; omega
  ·have hki : ¬ (k : Int) < (b : Int) := by omega
   have hfin : PermIn a b L M ∧ Srt lt M a b := by
    rcases HI.out with ⟨h1, rfl⟩ | ⟨h1, h2, h3⟩
    ·exact ⟨PermIn.refl _ _ _, fun i j h1 h2 h3 => by omega⟩
    ·have : k = b := by omega
     subst this
     exact ⟨h2, h3⟩
   have HF := Lib.hid hfin
   have HRW := Lib.hid hrow
   have HGG := Lib.hid hg
   clear hfin HI hrow hg
   go_wp2
   go_end0
   exact ⟨rfl, M, HF.out.1, HF.out.2, HRW.out, HGG.out⟩
def RowPost (w : World) (B g n cap : Nat) (R : List Int → Prop) (e : Ending) (w' : World) : Prop := ∃ M, e = .returned (.tuple #[]) ∧ R M ∧ RowZ w' B g n cap M ∧ w.grownBy w' (some g)
set_option maxHeartbeats 2000000 in
theorem swapRange_any (L : List Int) (B g n cap bx a b m : Nat) (w : World) (hr : RowZ w B g n cap L) (hab : a + m ≤ b) (hb : b + m ≤ n) (hn1 : n ≤ 100000) :
  Calls Tryz.prog 300 #[.slice (some ⟨g, 0, none⟩) n cap, .int .i64 (a : Nat), .int .i64 (b : Nat), .int .i64 (m : Nat), cmpV bx] w (RowPost w B g n cap (SwR a b m L)) := by
 have hni : (n : Int) ≤ 100000 := by omega
 have HL := Lib.hid hr.1
 have HR := Lib.hid hr
 unfold cmpV RowPost
 clear hr
 go_enter Tryz.func300, Tryz.ntmps300
 go_wp2
 go_loopw [10] (fun i wr => ∃ (k : Nat) (M : List Int), i = .int .i64 k ∧ k ≤ m ∧ Hid (SwR a b k L M) ∧ RowZ wr B g n cap M ∧ w.grownBy wr (some g)) (fun i _ => m - (RowKit.intOf i).toNat)
 case atStart => exact ⟨0, L, rfl, by omega, Lib.hid (SwR.zero _ _ _), HR.out, World.grownBy.refl _ _⟩
 case round =>
  obtain ⟨k, M, rfl, hk, HS, hrow, hg⟩ := hrel
  by_cases hlt : k < m
  ·have hki : (k : Int) < (m : Int) := by omega
   have d1 := hrow.cell (i := a + k) (by omega)
   have d2 := hrow.cell (i := b + k) (by omega)
   have z1 := hrow.froz (a + k)
   have z2 := hrow.froz (b + k)
   obtain ⟨x, hx⟩ : ∃ x, ga M (a + k) = x := ⟨_, rfl⟩
   obtain ⟨y, hy⟩ : ∃ y, ga M (b + k) = y := ⟨_, rfl⟩
   rw [hx] at d1
   rw [hy] at d2
   have h1 := hrow.swap2 (a + k) (b + k)
   rw [hx, hy] at h1
   have H1 := Lib.hid h1
   have HST := Lib.hid (HS.out.step hlt hab (by rw [HL.out]; exact hb))
   have HG := Lib.hid hg
   have ha0 : (0 : Int) ≤ (a : Int) + (k : Int) := by omega
   have ha1 : (a : Int) + (k : Int) < (n : Int) := by omega
   have ha2 : ((a : Int) + (k : Int)).toNat = a + k := by omega
   have hb0 : (0 : Int) ≤ (b : Int) + (k : Int) := by omega
   have hb1 : (b : Int) + (k : Int) < (n : Int) := by omega
   have hb2 : ((b : Int) + (k : Int)).toNat = b + k := by omega
   obtain ⟨v', d2'⟩ := cell?_setCell_someQ (p := ⟨g, a + k, none⟩) (x := .int .i64 y) d2
   clear h1 hx hy hrow hg HS
   go_wp2
   go_region
   go_wp2
   go_roundw
   case rel => exact ⟨k + 1, _, by go_num, by omega, HST, H1.out.below (Below.refl _ _).drew, gb_below ((HG.out.trans (grown_set _ g (a + k) _)).trans (grown_set _ g (b + k) _)) (Below.refl _ _).drew⟩
   case measure => simp [RowKit.intOf]; omega
  ·obtain rfl : k = m := by omega
   have HRW := Lib.hid hrow
   have HGG := Lib.hid hg
   clear hrow hg
   go_wp2
   go_end0
   exact ⟨M, rfl, HS.out, HRW.out, HGG.out⟩
set_option maxHeartbeats 4000000 in
theorem rotateCmp_any (L : List Int) (B g n cap bx a m b : Nat) (w : World) (hr : RowZ w B g n cap L) (h1 : a < m) (h2 : m < b) (hb : b ≤ n) (hn1 : n ≤ 100000) :
  Calls Tryz.prog 258 #[.slice (some ⟨g, 0, none⟩) n cap, .int .i64 (a : Nat), .int .i64 (m : Nat), .int .i64 (b : Nat), cmpV bx] w (RowPost w B g n cap (RotR a m b L)) := by
 have hni : (n : Int) ≤ 100000 := by omega
 have HL := Lib.hid hr.1
 have HR := Lib.hid hr
 have hSW := fun (M : List Int) (a' b' m' : Nat) (w' : World) (h : RowZ w' B g n cap M) (h1 : a' + m' ≤ b') (h2 : b' + m' ≤ n) => swapRange_any M B g n cap bx a' b' m' w' h h1 h2 hn1
 have HSW := Lib.hid hSW
 unfold RowPost
 unfold cmpV RowPost at HSW
 unfold cmpV
 clear hr hSW
 have e1 : (m : Int) - (a : Int) = ((m - a : Nat) : Int) := by omega
 have e2 : (b : Int) - (m : Int) = ((b - m : Nat) : Int) := by omega
 go_enter Tryz.func258, Tryz.ntmps258
 go_wp2
 go_loopw [10, 11] (fun iv jv wr => ∃ (i j : Nat) (M : List Int), iv = .int .i64 i ∧ jv = .int .i64 j ∧ 0 < i ∧ 0 < j ∧ a + i ≤ m ∧ m + j ≤ b ∧ Hid (RotI a m b i j L M) ∧ RowZ wr B g n cap M ∧ w.grownBy wr (some g)) (fun iv jv _ => (RowKit.intOf iv).toNat + (RowKit.intOf jv).toNat)
 case atStart => exact ⟨m - a, b - m, L, by go_num, by go_num, by omega, by omega, by omega, by omega, Lib.hid (RotI.start (by omega) (by omega)), HR.out, World.grownBy.refl _ _⟩
 case round =>
  obtain ⟨i, j, M, rfl, rfl, hi0, hj0, hi1, hj1, HI, hrow, hg⟩ := hrel
  by_cases hne : i = j
  ·subst hne
   have hS := HSW.out M (m - i) m i _ hrow (by omega) (by omega)
   have e3 : (m : Int) - (i : Int) = ((m - i : Nat) : Int) := by omega
   have HG := Lib.hid hg
   clear hrow hg
   go_wp2_with fail
   with_reducible refine hS.mono ?_
   rintro e w5 ⟨M', rfl, hs5, hr5, hg5⟩
   have hd := HI.out.done hi1 hj1 hs5
   have HD := Lib.hid (And.intro hd (And.intro hr5 (HG.out.trans hg5)))
   clear hs5 hr5 hg5 hd hS
   go_wp2
   go_end0
   exact ⟨M', rfl, HD.out⟩
  ·have hnei : ¬ (i : Int) = (j : Int) := by omega
   have hneb : ((i : Int) == (j : Int)) = false := by simp; omega
   by_cases hgt : j < i
   ·have hgti : (j : Int) < (i : Int) := by omega
    have hS := HSW.out M (m - i) m j _ hrow (by omega) (by omega)
    have e3 : (m : Int) - (i : Int) = ((m - i : Nat) : Int) := by omega
    have HG := Lib.hid hg
    clear hrow hg
    go_wp2_with fail
    with_reducible refine hS.mono ?_
    rintro e w5 ⟨M', rfl, hs5, hr5, hg5⟩
    have hd := HI.out.more hi1 hj1 hgt hs5
    have HD := Lib.hid (And.intro hd (And.intro hr5 (HG.out.trans hg5)))
    clear hs5 hr5 hg5 hd hS
    go_wp2
    go_roundw
    case rel => exact ⟨i - j, j, M', by go_num, rfl, by omega, hj0, by omega, hj1, Lib.hid HD.out.1, HD.out.2.1, HD.out.2.2⟩
    case measure => simp [RowKit.intOf]; omega
   ·have hgti : ¬ (j : Int) < (i : Int) := by omega
    have hS := HSW.out M (m - i) (m + j - i) i _ hrow (by omega) (by omega)
    have e3 : (m : Int) - (i : Int) = ((m - i : Nat) : Int) := by omega
    have e4 : (m : Int) + (j : Int) - (i : Int) = ((m + j - i : Nat) : Int) := by omega
    have HG := Lib.hid hg
    clear hrow hg
    go_wp2_with fail
    with_reducible refine hS.mono ?_
    rintro e w5 ⟨M', rfl, hs5, hr5, hg5⟩
    have hd := HI.out.less hi1 hj1 (by omega) hs5
    have HD := Lib.hid (And.intro hd (And.intro hr5 (HG.out.trans hg5)))
    clear hs5 hr5 hg5 hd hS
    go_wp2
    go_roundw
    case rel => exact ⟨i, j - i, M', rfl, by go_num, hi0, by omega, hi1, by omega, Lib.hid HD.out.1, HD.out.2.1, HD.out.2.2⟩
    case measure => simp [RowKit.intOf]; omega
end Go.Mk
