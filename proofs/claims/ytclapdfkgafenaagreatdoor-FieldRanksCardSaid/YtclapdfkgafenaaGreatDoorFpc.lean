/-
  Proved: slices.insertionSortCmpFunc of places of package field sorts a range in place, where the comparison answers as a strict order does for a later and an earlier one. Conditions: the places lie in a row of the caller's own; the comparison leaves what was there.
-/
import Derived.Test.YtclapdfkgafenaaGreatDoorFpb
set_option linter.unusedVariables false
set_option linter.unusedSimpArgs false
open Go Go.Proofs Go.RowKit Go.Sort
set_option maxRecDepth 100000
namespace Go.Mk
set_option maxHeartbeats 4000000 in
theorem insertP_any (F : Int → Plc) {lt : Int → Int → Prop} (ho : Ord lt) (cm : Int → Int → Int) (L : List Int) (B g n cap bx a b : Nat) (w : World) (hr : RowP F w B g n cap L) (hn : L.Nodup) (hb : b ≤ n) (hn1 : n ≤ 100000) (ha : a ≤ 100000) (hC : CmpP F w g bx cm L)
    (hT : ∀ p q, a ≤ p → p < q → q < b → (cm (ga L q) (ga L p) < 0 ↔ lt (ga L q) (ga L p))) :
    Calls Tryz.prog 256 #[.slice (some ⟨g, 0, none⟩) n cap, .int .i64 (a : Nat), .int .i64 (b : Nat), cmpP bx] w (SortP F w B g n cap lt L a b) := by
  have hni : (n : Int) ≤ 100000 := by omega
  have hai : (a : Int) ≤ 100000 := by omega
  have hbi : (b : Int) ≤ (n : Int) := by omega
  have HC := Lib.hid hC
  have HT := Lib.hid hT
  have HL := Lib.hid hr.1
  have HN := Lib.hid hn
  have HR := Lib.hid hr
  unfold cmpP SortP
  clear hC hT hn hr
  go_enter Tryz.func256, Tryz.ntmps256
  go_wp2
  go_loopw [8] (fun i wr => ∃ (k : Nat) (M : List Int), i = .int .i64 k ∧ a + 1 ≤ k ∧ k ≤ 100001 ∧ Hid ((k = a + 1 ∧ M = L) ∨ (k ≤ b ∧ PermIn a k L M ∧ Srt lt M a k)) ∧ RowP F wr B g n cap M ∧ w.grownBy wr (some g)) (fun i _ => 100002 - (RowKit.intOf i).toNat)
  case atStart => exact ⟨a + 1, L, by go_num, by omega, by omega, Lib.hid (.inl ⟨rfl, rfl⟩), HR.out, World.grownBy.refl _ _⟩
  case round =>
    obtain ⟨k, M, rfl, hk1, hk2, HI, hrow, hg⟩ := hrel
    by_cases hlt : k < b
    · have hki : (k : Int) < (b : Int) := by omega
      have hpk : PermIn a k L M ∧ Srt lt M a k := by
        rcases HI.out with ⟨rfl, rfl⟩ | ⟨_, h1, h2⟩
        · exact ⟨PermIn.refl _ _ _, fun i j h1 h2 h3 => by omega⟩
        · exact ⟨h1, h2⟩
      have HPK := Lib.hid hpk
      obtain ⟨wy, rfl⟩ : ∃ wy : World, wy = wr := ⟨_, rfl⟩
      have HR2 := Lib.hid hrow
      have HG := Lib.hid hg
      clear hpk HI hrow hg
      go_wp2
      go_loopw [9] (fun i wr => ∃ (j : Nat) (M' : List Int), i = .int .i64 j ∧ a ≤ j ∧ j ≤ k ∧ Hid (Ins lt a k j M M') ∧ RowP F wr B g n cap M' ∧ w.grownBy wr (some g)) (fun i _ => (RowKit.intOf i).toNat)
      case atStart => exact ⟨k, M, rfl, by omega, by omega, Lib.hid (Ins.start HPK.out.2), HR2.out, HG.out⟩
      case round =>
        obtain ⟨j, M', rfl, hj1, hj2, HI, hrow, hg⟩ := hrel
        have hln : L.length = n := HL.out
        have hlM : M.length = n := HPK.out.1.len.trans hln
        by_cases haj : a < j
        · have hai2 : (a : Int) < (j : Int) := by omega
          have c1 := hrow.cell (i := j) (by omega)
          have c2 := hrow.cell (i := j - 1) (by omega)
          have hj0 : (0 : Int) ≤ (j : Int) := by omega
          have hjn : (j : Int) < (n : Int) := by omega
          have hjt : ((j : Int)).toNat = j := by omega
          have hk0 : (0 : Int) ≤ (j : Int) - 1 := by omega
          have hk1 : (j : Int) - 1 < (n : Int) := by omega
          have hkt : ((j : Int) - 1).toNat = j - 1 := by omega
          have hj1i : (1 : Int) ≤ (j : Int) := by omega
          have hw1 : IntKind.i64.wrap ((j : Int) - 1) = (j : Int) - 1 := wrapQ _ (by omega)
          obtain ⟨t1, t2, t3⟩ := Ins.test (cm := cm) HI.out HPK.out.1 HN.out haj hj2 (by omega) (fun p q h1 h2 h3 => HT.out p q h1 h2 (by omega))
          have hK : ∀ w', Below wr.heap.size wr w' → Calls Tryz.prog 102 #[(F (ga M' j)).val, (F (ga M' (j - 1))).val, .pointer (some ⟨bx, 0, none⟩)] w' (RetPost (.int .i64 (cm (ga M' j) (ga M' (j - 1)))) w') := fun w' hb' => HC.out w' (gb_below hg hb') _ _ t2 t3
          obtain ⟨x, hx⟩ : ∃ x, ga M' j = x := ⟨_, rfl⟩
          obtain ⟨y, hy⟩ : ∃ y, ga M' (j - 1) = y := ⟨_, rfl⟩
          rw [hx] at c1
          rw [hy] at c2
          rw [hx, hy] at hK t1
          obtain ⟨p1, hp1⟩ : ∃ p, F x = p := ⟨_, rfl⟩
          obtain ⟨p2, hp2⟩ : ∃ p, F y = p := ⟨_, rfl⟩
          rw [hp1] at c1
          rw [hp2] at c2
          rw [hp1, hp2] at hK
          have HP := Lib.hid (And.intro hp1 hp2)
          obtain ⟨n1, r1, k1, v1, s1⟩ := p1
          obtain ⟨n2, r2, k2, v2, s2⟩ := p2
          obtain ⟨c10, c11, c12, c13, c14⟩ := c1
          obtain ⟨c20, c21, c22, c23, c24⟩ := c2
          unfold Plc.val at hK
          dsimp only at c10 c11 c12 c13 c14 c20 c21 c22 c23 c24 hK
          clear hp1 hp2
          have HX := Lib.hid (And.intro hx hy)
          have HRW := Lib.hid hrow
          have HGG := Lib.hid hg
          clear hx hy t2 t3 hrow hg
          obtain ⟨s, hs⟩ : ∃ s, cm x y = s := ⟨_, rfl⟩
          rw [hs] at hK t1
          clear hs
          by_cases hlt0 : s < 0
          · have hl := t1.1 hlt0
            have HST := Lib.hid (Ins.step HI.out haj hj2 (by omega) (by rw [HX.out.1, HX.out.2]; exact hl))
            clear hl t1
            go_wp2_with fail
            refine wp_region_held_drew (S := fun w' => (w'.cell? ⟨g, j * 5, none⟩ = some (.string n1) ∧ w'.cell? ⟨g, j * 5 + 1, none⟩ = some (.int .i64 r1) ∧ w'.cell? ⟨g, j * 5 + 2, none⟩ = some (.string k1) ∧ w'.cell? ⟨g, j * 5 + 3, none⟩ = some (.int .i64 v1) ∧ w'.cell? ⟨g, j * 5 + 4, none⟩ = some (.string s1)) ∧ w'.cell? ⟨g, (j - 1) * 5, none⟩ = some (.string n2) ∧ w'.cell? ⟨g, (j - 1) * 5 + 1, none⟩ = some (.int .i64 r2) ∧ w'.cell? ⟨g, (j - 1) * 5 + 2, none⟩ = some (.string k2) ∧ w'.cell? ⟨g, (j - 1) * 5 + 3, none⟩ = some (.int .i64 v2) ∧ w'.cell? ⟨g, (j - 1) * 5 + 4, none⟩ = some (.string s2)) (by kernel_rfl) ?_ (fun hHeld => ?_)
            · exact ⟨⟨c10, c11, c12, c13, c14⟩, c20, c21, c22, c23, c24⟩
            refine zT (i := 0) (v := ?_) rfl (Or.inl ⟨by kernel_rfl, ?_⟩) ?_
            rotate_left
            · rintro w ⟨⟨x1, x2, x3, x4, x5⟩, x6, x7, x8, x9, x10⟩
              go_simp
              try with_reducible rfl
            try simp only [Act.put, zA1, zA2, zA3, zA4, zA5, zA6]
            refine zT (i := 1) (v := ?_) rfl (Or.inl ⟨by kernel_rfl, ?_⟩) ?_
            rotate_left
            · rintro w ⟨⟨x1, x2, x3, x4, x5⟩, x6, x7, x8, x9, x10⟩
              go_simp
              try with_reducible rfl
            try simp only [Act.put, zA1, zA2, zA3, zA4, zA5, zA6]
            refine zT (i := 2) (v := ?_) rfl (Or.inl ⟨by kernel_rfl, ?_⟩) ?_
            rotate_left
            · rintro w ⟨⟨x1, x2, x3, x4, x5⟩, x6, x7, x8, x9, x10⟩
              go_simp
              try with_reducible rfl
            try simp only [Act.put, zA1, zA2, zA3, zA4, zA5, zA6]
            refine zT (i := 3) (v := ?_) rfl (Or.inl ⟨by kernel_rfl, ?_⟩) ?_
            rotate_left
            · rintro w ⟨⟨x1, x2, x3, x4, x5⟩, x6, x7, x8, x9, x10⟩
              go_simp
              try with_reducible rfl
            try simp only [Act.put, zA1, zA2, zA3, zA4, zA5, zA6]
            refine zT (i := 4) (v := ?_) rfl (Or.inl ⟨by kernel_rfl, ?_⟩) ?_
            rotate_left
            · rintro w ⟨⟨x1, x2, x3, x4, x5⟩, x6, x7, x8, x9, x10⟩
              go_simp
              try with_reducible rfl
            try simp only [Act.put, zA1, zA2, zA3, zA4, zA5, zA6]
            refine zT (i := 5) (v := ?_) rfl (Or.inl ⟨by kernel_rfl, ?_⟩) ?_
            rotate_left
            · rintro w ⟨⟨x1, x2, x3, x4, x5⟩, x6, x7, x8, x9, x10⟩
              go_simp
              try with_reducible rfl
            try simp only [Act.put, zA1, zA2, zA3, zA4, zA5, zA6]
            refine zT (i := 6) (v := ?_) rfl (Or.inl ⟨by kernel_rfl, ?_⟩) ?_
            rotate_left
            · rintro w ⟨⟨x1, x2, x3, x4, x5⟩, x6, x7, x8, x9, x10⟩
              go_simp
              try with_reducible rfl
            try simp only [Act.put, zA1, zA2, zA3, zA4, zA5, zA6]
            refine zT (i := 7) (v := ?_) rfl (Or.inl ⟨by kernel_rfl, ?_⟩) ?_
            rotate_left
            · rintro w ⟨⟨x1, x2, x3, x4, x5⟩, x6, x7, x8, x9, x10⟩
              go_simp
              try with_reducible rfl
            try simp only [Act.put, zA1, zA2, zA3, zA4, zA5, zA6]
            refine zT (i := 8) (v := ?_) rfl (Or.inl ⟨by kernel_rfl, ?_⟩) ?_
            rotate_left
            · rintro w ⟨⟨x1, x2, x3, x4, x5⟩, x6, x7, x8, x9, x10⟩
              go_simp
              try with_reducible rfl
            try simp only [Act.put, zA1, zA2, zA3, zA4, zA5, zA6]
            refine zT (i := 9) (v := ?_) rfl (Or.inl ⟨by kernel_rfl, ?_⟩) ?_
            rotate_left
            · rintro w ⟨⟨x1, x2, x3, x4, x5⟩, x6, x7, x8, x9, x10⟩
              go_simp
              try with_reducible rfl
            try simp only [Act.put, zA1, zA2, zA3, zA4, zA5, zA6]
            refine zT (i := 10) (v := ?_) rfl (Or.inl ⟨by kernel_rfl, ?_⟩) ?_
            rotate_left
            · rintro w ⟨⟨x1, x2, x3, x4, x5⟩, x6, x7, x8, x9, x10⟩
              go_simp
              try with_reducible rfl
            try simp only [Act.put, zA1, zA2, zA3, zA4, zA5, zA6]
            refine zT (i := 11) (v := ?_) rfl (Or.inl ⟨by kernel_rfl, ?_⟩) ?_
            rotate_left
            · rintro w ⟨⟨x1, x2, x3, x4, x5⟩, x6, x7, x8, x9, x10⟩
              go_simp
              try simp only [hw1, hkt, if_pos hj1i]
              try with_reducible rfl
            try simp only [Act.put, zA1, zA2, zA3, zA4, zA5, zA6]
            refine zT (i := 12) (v := ?_) rfl (Or.inl ⟨by kernel_rfl, ?_⟩) ?_
            rotate_left
            · rintro w ⟨⟨x1, x2, x3, x4, x5⟩, x6, x7, x8, x9, x10⟩
              go_simp
              try simp only [hw1, hkt, if_pos hj1i]
              try with_reducible rfl
            try simp only [Act.put, zA1, zA2, zA3, zA4, zA5, zA6]
            refine zT (i := 13) (v := ?_) rfl (Or.inl ⟨by kernel_rfl, ?_⟩) ?_
            rotate_left
            · rintro w ⟨⟨x1, x2, x3, x4, x5⟩, x6, x7, x8, x9, x10⟩
              go_simp
              try simp only [hw1, hkt, if_pos hj1i]
              try with_reducible rfl
            try simp only [Act.put, zA1, zA2, zA3, zA4, zA5, zA6]
            refine wpAnyH_ready (rs := [14]) (by kernel_rfl) (by simp) ?_
            refine AllReadyH.cons (o := _) rfl (fun K hKK => ?_) AllReadyH.nil
            go_simp
            go_at_call 102
            refine (hK _ (Below.refl _ _).drew).mono ?_
            rintro e w5 ⟨rfl, hb5⟩
            have hr5 := (HRW.out.below (Below.refl _ _).drew).below hb5
            have d1 := hr5.cell (i := j) (by omega)
            have d2 := hr5.cell (i := j - 1) (by omega)
            rw [HX.out.1, HP.out.1] at d1
            rw [HX.out.2, HP.out.2] at d2
            have hg5 := gb_below HGG.out (bstep (Below.refl _ _).drew hb5)
            go_wp2_with fail
            refine hKK.out _ _ ?_ (fun hHeld => ?_)
            · exact ⟨d1, d2⟩
            clear hKK K
            try simp only [Act.put, zA1, zA2, zA3, zA4, zA5, zA6]
            refine wpAnyH_ready (rs := [15]) (by kernel_rfl) (by simp) ?_
            refine AllReadyH.cons (o := _) rfl (fun K hKK => ?_) AllReadyH.nil
            go_simp
            refine hKK.out _ _ ?_ (fun hHeld => ?_)
            · exact hHeld
            clear hKK K
            try simp only [Act.put, zA1, zA2, zA3, zA4, zA5, zA6]
            refine wpAnyH_ready (rs := [16]) (by kernel_rfl) (by simp) ?_
            refine AllReadyH.cons (o := _) rfl (fun K hKK => ?_) AllReadyH.nil
            go_simp
            refine hKK.out _ _ ?_ (fun hHeld => ?_)
            · exact hHeld
            clear hKK K
            try simp only [Act.put, zA1, zA2, zA3, zA4, zA5, zA6]
            refine wpAnyH_done (by kernel_rfl) ?_ _
            have HR5 := Lib.hid hr5
            have HG5 := Lib.hid hg5
            have fz := hr5.froz
            have h1 := hr5.swapD (i := j - 1) (j := j) (by omega) (by omega)
            rw [HX.out.1, HX.out.2, HP.out.1, HP.out.2] at h1
            have gx := grown5 (grown5 (World.grownBy.refl w5 (some g)) (j * 5) ⟨n2, r2, k2, v2, s2⟩) ((j - 1) * 5) ⟨n1, r1, k1, v1, s1⟩
            unfold set5 at h1 gx
            dsimp only at h1 gx
            have H1 := Lib.hid h1
            have GX := Lib.hid gx
            obtain ⟨d10, d11, d12, d13, d14⟩ := d1
            obtain ⟨d20, d21, d22, d23, d24⟩ := d2
            have z10 := fz (j * 5)
            have z20 := fz ((j - 1) * 5)
            have z11 := fz (j * 5 + 1)
            have z21 := fz ((j - 1) * 5 + 1)
            have z12 := fz (j * 5 + 2)
            have z22 := fz ((j - 1) * 5 + 2)
            have z13 := fz (j * 5 + 3)
            have z23 := fz ((j - 1) * 5 + 3)
            have z14 := fz (j * 5 + 4)
            have z24 := fz ((j - 1) * 5 + 4)
            have i0 : ¬ j * 5 = (j - 1) * 5 := by omega
            have i1 : ¬ j * 5 = j * 5 + 1 := by omega
            have i2 : ¬ (j - 1) * 5 = (j - 1) * 5 + 1 := by omega
            have i3 : ¬ j * 5 = (j - 1) * 5 + 1 := by omega
            have i4 : ¬ j * 5 = j * 5 + 2 := by omega
            have i5 : ¬ (j - 1) * 5 = (j - 1) * 5 + 2 := by omega
            have i6 : ¬ j * 5 = (j - 1) * 5 + 2 := by omega
            have i7 : ¬ j * 5 = j * 5 + 3 := by omega
            have i8 : ¬ (j - 1) * 5 = (j - 1) * 5 + 3 := by omega
            have i9 : ¬ j * 5 = (j - 1) * 5 + 3 := by omega
            have i10 : ¬ j * 5 = j * 5 + 4 := by omega
            have i11 : ¬ (j - 1) * 5 = (j - 1) * 5 + 4 := by omega
            have i12 : ¬ j * 5 = (j - 1) * 5 + 4 := by omega
            have i13 : ¬ j * 5 + 1 = (j - 1) * 5 := by omega
            have i14 : ¬ j * 5 + 1 = (j - 1) * 5 + 1 := by omega
            have i15 : ¬ j * 5 + 1 = j * 5 + 2 := by omega
            have i16 : ¬ (j - 1) * 5 + 1 = (j - 1) * 5 + 2 := by omega
            have i17 : ¬ j * 5 + 1 = (j - 1) * 5 + 2 := by omega
            have i18 : ¬ j * 5 + 1 = j * 5 + 3 := by omega
            have i19 : ¬ (j - 1) * 5 + 1 = (j - 1) * 5 + 3 := by omega
            have i20 : ¬ j * 5 + 1 = (j - 1) * 5 + 3 := by omega
            have i21 : ¬ j * 5 + 1 = j * 5 + 4 := by omega
            have i22 : ¬ (j - 1) * 5 + 1 = (j - 1) * 5 + 4 := by omega
            have i23 : ¬ j * 5 + 1 = (j - 1) * 5 + 4 := by omega
            have i24 : ¬ j * 5 + 2 = (j - 1) * 5 := by omega
            have i25 : ¬ j * 5 + 2 = (j - 1) * 5 + 1 := by omega
            have i26 : ¬ j * 5 + 2 = (j - 1) * 5 + 2 := by omega
            have i27 : ¬ j * 5 + 2 = j * 5 + 3 := by omega
            have i28 : ¬ (j - 1) * 5 + 2 = (j - 1) * 5 + 3 := by omega
            have i29 : ¬ j * 5 + 2 = (j - 1) * 5 + 3 := by omega
            have i30 : ¬ j * 5 + 2 = j * 5 + 4 := by omega
            have i31 : ¬ (j - 1) * 5 + 2 = (j - 1) * 5 + 4 := by omega
            have i32 : ¬ j * 5 + 2 = (j - 1) * 5 + 4 := by omega
            have i33 : ¬ j * 5 + 3 = (j - 1) * 5 := by omega
            have i34 : ¬ j * 5 + 3 = (j - 1) * 5 + 1 := by omega
            have i35 : ¬ j * 5 + 3 = (j - 1) * 5 + 2 := by omega
            have i36 : ¬ j * 5 + 3 = (j - 1) * 5 + 3 := by omega
            have i37 : ¬ j * 5 + 3 = j * 5 + 4 := by omega
            have i38 : ¬ (j - 1) * 5 + 3 = (j - 1) * 5 + 4 := by omega
            have i39 : ¬ j * 5 + 3 = (j - 1) * 5 + 4 := by omega
            have i40 : ¬ j * 5 + 4 = (j - 1) * 5 := by omega
            have i41 : ¬ j * 5 + 4 = (j - 1) * 5 + 1 := by omega
            have i42 : ¬ j * 5 + 4 = (j - 1) * 5 + 2 := by omega
            have i43 : ¬ j * 5 + 4 = (j - 1) * 5 + 3 := by omega
            have i44 : ¬ j * 5 + 4 = (j - 1) * 5 + 4 := by omega
            clear fz
            clear c10 c11 c12 c13 c14 c20 c21 c22 c23 c24 hK hb5 hr5 hg5 hHeld h1 gx
            go_wp2
            go_region
            go_wp2
            go_roundw
            case rel =>
              exact ⟨j - 1, _, by go_num, by omega, by omega, HST, H1.out.below (Below.refl _ _).drew, gb_below (HG5.out.trans GX.out) (Below.refl _ _).drew⟩
            case measure => simp [RowKit.intOf]; omega
          · have hl : ¬ lt x y := fun q => hlt0 (t1.2 q)
            have hdone := Ins.done ho HI.out (HPK.out.1.perm.nodup_iff.2 HN.out) hj1 hj2 (by omega) (fun _ => by rw [HX.out.1, HX.out.2]; exact hl)
            have HD := Lib.hid (And.intro ((HPK.out.1.wide (Nat.le_refl _) (Nat.le_succ k)).trans HI.out.perm) hdone)
            clear hl t1 hdone
            go_wp2_with fail
            refine wp_region_held_drew (S := fun w' => (w'.cell? ⟨g, j * 5, none⟩ = some (.string n1) ∧ w'.cell? ⟨g, j * 5 + 1, none⟩ = some (.int .i64 r1) ∧ w'.cell? ⟨g, j * 5 + 2, none⟩ = some (.string k1) ∧ w'.cell? ⟨g, j * 5 + 3, none⟩ = some (.int .i64 v1) ∧ w'.cell? ⟨g, j * 5 + 4, none⟩ = some (.string s1)) ∧ w'.cell? ⟨g, (j - 1) * 5, none⟩ = some (.string n2) ∧ w'.cell? ⟨g, (j - 1) * 5 + 1, none⟩ = some (.int .i64 r2) ∧ w'.cell? ⟨g, (j - 1) * 5 + 2, none⟩ = some (.string k2) ∧ w'.cell? ⟨g, (j - 1) * 5 + 3, none⟩ = some (.int .i64 v2) ∧ w'.cell? ⟨g, (j - 1) * 5 + 4, none⟩ = some (.string s2)) (by kernel_rfl) ?_ (fun hHeld => ?_)
            · exact ⟨⟨c10, c11, c12, c13, c14⟩, c20, c21, c22, c23, c24⟩
            refine zT (i := 0) (v := ?_) rfl (Or.inl ⟨by kernel_rfl, ?_⟩) ?_
            rotate_left
            · rintro w ⟨⟨x1, x2, x3, x4, x5⟩, x6, x7, x8, x9, x10⟩
              go_simp
              try with_reducible rfl
            try simp only [Act.put, zA1, zA2, zA3, zA4, zA5, zA6]
            refine zT (i := 1) (v := ?_) rfl (Or.inl ⟨by kernel_rfl, ?_⟩) ?_
            rotate_left
            · rintro w ⟨⟨x1, x2, x3, x4, x5⟩, x6, x7, x8, x9, x10⟩
              go_simp
              try with_reducible rfl
            try simp only [Act.put, zA1, zA2, zA3, zA4, zA5, zA6]
            refine zT (i := 2) (v := ?_) rfl (Or.inl ⟨by kernel_rfl, ?_⟩) ?_
            rotate_left
            · rintro w ⟨⟨x1, x2, x3, x4, x5⟩, x6, x7, x8, x9, x10⟩
              go_simp
              try with_reducible rfl
            try simp only [Act.put, zA1, zA2, zA3, zA4, zA5, zA6]
            refine zT (i := 3) (v := ?_) rfl (Or.inl ⟨by kernel_rfl, ?_⟩) ?_
            rotate_left
            · rintro w ⟨⟨x1, x2, x3, x4, x5⟩, x6, x7, x8, x9, x10⟩
              go_simp
              try with_reducible rfl
            try simp only [Act.put, zA1, zA2, zA3, zA4, zA5, zA6]
            refine zT (i := 4) (v := ?_) rfl (Or.inl ⟨by kernel_rfl, ?_⟩) ?_
            rotate_left
            · rintro w ⟨⟨x1, x2, x3, x4, x5⟩, x6, x7, x8, x9, x10⟩
              go_simp
              try with_reducible rfl
            try simp only [Act.put, zA1, zA2, zA3, zA4, zA5, zA6]
            refine zT (i := 5) (v := ?_) rfl (Or.inl ⟨by kernel_rfl, ?_⟩) ?_
            rotate_left
            · rintro w ⟨⟨x1, x2, x3, x4, x5⟩, x6, x7, x8, x9, x10⟩
              go_simp
              try with_reducible rfl
            try simp only [Act.put, zA1, zA2, zA3, zA4, zA5, zA6]
            refine zT (i := 6) (v := ?_) rfl (Or.inl ⟨by kernel_rfl, ?_⟩) ?_
            rotate_left
            · rintro w ⟨⟨x1, x2, x3, x4, x5⟩, x6, x7, x8, x9, x10⟩
              go_simp
              try with_reducible rfl
            try simp only [Act.put, zA1, zA2, zA3, zA4, zA5, zA6]
            refine zT (i := 7) (v := ?_) rfl (Or.inl ⟨by kernel_rfl, ?_⟩) ?_
            rotate_left
            · rintro w ⟨⟨x1, x2, x3, x4, x5⟩, x6, x7, x8, x9, x10⟩
              go_simp
              try with_reducible rfl
            try simp only [Act.put, zA1, zA2, zA3, zA4, zA5, zA6]
            refine zT (i := 8) (v := ?_) rfl (Or.inl ⟨by kernel_rfl, ?_⟩) ?_
            rotate_left
            · rintro w ⟨⟨x1, x2, x3, x4, x5⟩, x6, x7, x8, x9, x10⟩
              go_simp
              try with_reducible rfl
            try simp only [Act.put, zA1, zA2, zA3, zA4, zA5, zA6]
            refine zT (i := 9) (v := ?_) rfl (Or.inl ⟨by kernel_rfl, ?_⟩) ?_
            rotate_left
            · rintro w ⟨⟨x1, x2, x3, x4, x5⟩, x6, x7, x8, x9, x10⟩
              go_simp
              try with_reducible rfl
            try simp only [Act.put, zA1, zA2, zA3, zA4, zA5, zA6]
            refine zT (i := 10) (v := ?_) rfl (Or.inl ⟨by kernel_rfl, ?_⟩) ?_
            rotate_left
            · rintro w ⟨⟨x1, x2, x3, x4, x5⟩, x6, x7, x8, x9, x10⟩
              go_simp
              try with_reducible rfl
            try simp only [Act.put, zA1, zA2, zA3, zA4, zA5, zA6]
            refine zT (i := 11) (v := ?_) rfl (Or.inl ⟨by kernel_rfl, ?_⟩) ?_
            rotate_left
            · rintro w ⟨⟨x1, x2, x3, x4, x5⟩, x6, x7, x8, x9, x10⟩
              go_simp
              try simp only [hw1, hkt, if_pos hj1i]
              try with_reducible rfl
            try simp only [Act.put, zA1, zA2, zA3, zA4, zA5, zA6]
            refine zT (i := 12) (v := ?_) rfl (Or.inl ⟨by kernel_rfl, ?_⟩) ?_
            rotate_left
            · rintro w ⟨⟨x1, x2, x3, x4, x5⟩, x6, x7, x8, x9, x10⟩
              go_simp
              try simp only [hw1, hkt, if_pos hj1i]
              try with_reducible rfl
            try simp only [Act.put, zA1, zA2, zA3, zA4, zA5, zA6]
            refine zT (i := 13) (v := ?_) rfl (Or.inl ⟨by kernel_rfl, ?_⟩) ?_
            rotate_left
            · rintro w ⟨⟨x1, x2, x3, x4, x5⟩, x6, x7, x8, x9, x10⟩
              go_simp
              try simp only [hw1, hkt, if_pos hj1i]
              try with_reducible rfl
            try simp only [Act.put, zA1, zA2, zA3, zA4, zA5, zA6]
            refine wpAnyH_ready (rs := [14]) (by kernel_rfl) (by simp) ?_
            refine AllReadyH.cons (o := _) rfl (fun K hKK => ?_) AllReadyH.nil
            go_simp
            go_at_call 102
            refine (hK _ (Below.refl _ _).drew).mono ?_
            rintro e w5 ⟨rfl, hb5⟩
            have hr5 := (HRW.out.below (Below.refl _ _).drew).below hb5
            have d1 := hr5.cell (i := j) (by omega)
            have d2 := hr5.cell (i := j - 1) (by omega)
            rw [HX.out.1, HP.out.1] at d1
            rw [HX.out.2, HP.out.2] at d2
            have hg5 := gb_below HGG.out (bstep (Below.refl _ _).drew hb5)
            go_wp2_with fail
            refine hKK.out _ _ ?_ (fun hHeld => ?_)
            · exact ⟨d1, d2⟩
            clear hKK K
            try simp only [Act.put, zA1, zA2, zA3, zA4, zA5, zA6]
            refine wpAnyH_ready (rs := [15]) (by kernel_rfl) (by simp) ?_
            refine AllReadyH.cons (o := _) rfl (fun K hKK => ?_) AllReadyH.nil
            go_simp
            refine hKK.out _ _ ?_ (fun hHeld => ?_)
            · exact hHeld
            clear hKK K
            try simp only [Act.put, zA1, zA2, zA3, zA4, zA5, zA6]
            refine wpAnyH_ready (rs := [16]) (by kernel_rfl) (by simp) ?_
            refine AllReadyH.cons (o := _) rfl (fun K hKK => ?_) AllReadyH.nil
            go_simp
            refine hKK.out _ _ ?_ (fun hHeld => ?_)
            · exact hHeld
            clear hKK K
            try simp only [Act.put, zA1, zA2, zA3, zA4, zA5, zA6]
            refine wpAnyH_done (by kernel_rfl) ?_ _
            have HR5 := Lib.hid hr5
            have HG5 := Lib.hid hg5
            clear c10 c11 c12 c13 c14 c20 c21 c22 c23 c24 hK hb5 hr5 hg5 hHeld
            go_wp2
            go_roundw
            case rel => exact ⟨k + 1, M', by go_num, by omega, by omega, Lib.hid (.inr ⟨by omega, HD.out.1, HD.out.2⟩), HR5.out, HG5.out⟩
            case measure => simp [RowKit.intOf]; omega
        · have hna : ¬ (a : Int) < (j : Int) := by omega
          have hdone := Ins.done ho HI.out (HPK.out.1.perm.nodup_iff.2 HN.out) hj1 hj2 (by omega) (fun q => absurd q haj)
          have HD := Lib.hid (And.intro ((HPK.out.1.wide (Nat.le_refl _) (Nat.le_succ k)).trans HI.out.perm) hdone)
          have HRW := Lib.hid hrow
          have HGG := Lib.hid hg
          clear hdone hrow hg
          go_wp2_with fail
          go_quiet (fail)
          go_wp2
          go_roundw
          case rel => exact ⟨k + 1, M', by go_num, by omega, by omega, Lib.hid (.inr ⟨by omega, HD.out.1, HD.out.2⟩), HRW.out.below (below_drewN (Below.refl _ _) _), gb_below HGG.out (below_drewN (Below.refl _ _) _)⟩
          case measure => simp [RowKit.intOf]; omega
    · have hki : ¬ (k : Int) < (b : Int) := by omega
      have hfin : PermIn a b L M ∧ Srt lt M a b := by
        rcases HI.out with ⟨h1, rfl⟩ | ⟨h1, h2, h3⟩
        · exact ⟨PermIn.refl _ _ _, fun i j h1 h2 h3 => by omega⟩
        · have : k = b := by omega
          subst this
          exact ⟨h2, h3⟩
      have HF := Lib.hid hfin
      have HRW := Lib.hid hrow
      have HGG := Lib.hid hg
      clear hfin HI hrow hg
      go_wp2
      go_end0
      exact ⟨rfl, M, HF.out.1, HF.out.2, HRW.out, HGG.out⟩
end Go.Mk
