/-
  Proved: slices.swapRangeCmpFunc of places exchanges two ranges that lie apart, and slices.rotateCmpFunc two ranges that lie side by side. Conditions: the places lie in a row of the caller's own.
-/
import Derived.Test.YtclapdfkgafenaaGreatDoorFpc
set_option linter.unusedVariables false
set_option linter.unusedSimpArgs false
open Go Go.Proofs Go.RowKit Go.Sort
set_option maxRecDepth 100000
namespace Go.Mk
set_option maxHeartbeats 2000000 in
theorem swapP_any (F : Int → Plc) (L : List Int) (B g n cap bx a b m : Nat) (w : World) (hr : RowP F w B g n cap L) (hab : a + m ≤ b) (hb : b + m ≤ n) (hn1 : n ≤ 100000) :
    Calls Tryz.prog 331 #[.slice (some ⟨g, 0, none⟩) n cap, .int .i64 (a : Nat), .int .i64 (b : Nat), .int .i64 (m : Nat), cmpP bx] w (RowPostP F w B g n cap (SwR a b m L)) := by
  have hni : (n : Int) ≤ 100000 := by omega
  have HL := Lib.hid hr.1
  have HR := Lib.hid hr
  unfold cmpP RowPostP
  clear hr
  go_enter Tryz.func331, Tryz.ntmps331
  go_wp2
  go_loopw [10] (fun i wr => ∃ (k : Nat) (M : List Int), i = .int .i64 k ∧ k ≤ m ∧ Hid (SwR a b k L M) ∧ RowP F wr B g n cap M ∧ w.grownBy wr (some g)) (fun i _ => m - (RowKit.intOf i).toNat)
  case atStart => exact ⟨0, L, rfl, by omega, Lib.hid (SwR.zero _ _ _), HR.out, World.grownBy.refl _ _⟩
  case round =>
    obtain ⟨k, M, rfl, hk, HS, hrow, hg⟩ := hrel
    by_cases hlt : k < m
    · have hki : (k : Int) < (m : Int) := by omega
      have d1 := hrow.cell (i := a + k) (by omega)
      have d2 := hrow.cell (i := b + k) (by omega)
      have fz := hrow.froz
      obtain ⟨x, hx⟩ : ∃ x, ga M (a + k) = x := ⟨_, rfl⟩
      obtain ⟨y, hy⟩ : ∃ y, ga M (b + k) = y := ⟨_, rfl⟩
      rw [hx] at d1
      rw [hy] at d2
      have h1 := hrow.swapU (a + k) (b + k) (by omega) (by omega)
      rw [hx, hy] at h1
      obtain ⟨p1, hp1⟩ : ∃ p, F x = p := ⟨_, rfl⟩
      obtain ⟨p2, hp2⟩ : ∃ p, F y = p := ⟨_, rfl⟩
      rw [hp1] at d1 h1
      rw [hp2] at d2 h1
      obtain ⟨n1, r1, k1, v1, s1⟩ := p1
      obtain ⟨n2, r2, k2, v2, s2⟩ := p2
      have gx := grown5 (grown5 (World.grownBy.refl wr (some g)) ((a + k) * 5) ⟨n2, r2, k2, v2, s2⟩) ((b + k) * 5) ⟨n1, r1, k1, v1, s1⟩
      unfold set5 at h1 gx
      dsimp only at h1 gx
      have H1 := Lib.hid h1
      have GX := Lib.hid gx
      obtain ⟨d10, d11, d12, d13, d14⟩ := d1
      obtain ⟨d20, d21, d22, d23, d24⟩ := d2
      dsimp only at d10 d11 d12 d13 d14 d20 d21 d22 d23 d24
      have z10 := fz ((a + k) * 5)
      have z20 := fz ((b + k) * 5)
      have z11 := fz ((a + k) * 5 + 1)
      have z21 := fz ((b + k) * 5 + 1)
      have z12 := fz ((a + k) * 5 + 2)
      have z22 := fz ((b + k) * 5 + 2)
      have z13 := fz ((a + k) * 5 + 3)
      have z23 := fz ((b + k) * 5 + 3)
      have z14 := fz ((a + k) * 5 + 4)
      have z24 := fz ((b + k) * 5 + 4)
      have i0 : ¬ (a + k) * 5 = (b + k) * 5 := by omega
      have i1 : ¬ (a + k) * 5 = (a + k) * 5 + 1 := by omega
      have i2 : ¬ (b + k) * 5 = (b + k) * 5 + 1 := by omega
      have i3 : ¬ (a + k) * 5 = (b + k) * 5 + 1 := by omega
      have i4 : ¬ (a + k) * 5 = (a + k) * 5 + 2 := by omega
      have i5 : ¬ (b + k) * 5 = (b + k) * 5 + 2 := by omega
      have i6 : ¬ (a + k) * 5 = (b + k) * 5 + 2 := by omega
      have i7 : ¬ (a + k) * 5 = (a + k) * 5 + 3 := by omega
      have i8 : ¬ (b + k) * 5 = (b + k) * 5 + 3 := by omega
      have i9 : ¬ (a + k) * 5 = (b + k) * 5 + 3 := by omega
      have i10 : ¬ (a + k) * 5 = (a + k) * 5 + 4 := by omega
      have i11 : ¬ (b + k) * 5 = (b + k) * 5 + 4 := by omega
      have i12 : ¬ (a + k) * 5 = (b + k) * 5 + 4 := by omega
      have i13 : ¬ (a + k) * 5 + 1 = (b + k) * 5 := by omega
      have i14 : ¬ (a + k) * 5 + 1 = (b + k) * 5 + 1 := by omega
      have i15 : ¬ (a + k) * 5 + 1 = (a + k) * 5 + 2 := by omega
      have i16 : ¬ (b + k) * 5 + 1 = (b + k) * 5 + 2 := by omega
      have i17 : ¬ (a + k) * 5 + 1 = (b + k) * 5 + 2 := by omega
      have i18 : ¬ (a + k) * 5 + 1 = (a + k) * 5 + 3 := by omega
      have i19 : ¬ (b + k) * 5 + 1 = (b + k) * 5 + 3 := by omega
      have i20 : ¬ (a + k) * 5 + 1 = (b + k) * 5 + 3 := by omega
      have i21 : ¬ (a + k) * 5 + 1 = (a + k) * 5 + 4 := by omega
      have i22 : ¬ (b + k) * 5 + 1 = (b + k) * 5 + 4 := by omega
      have i23 : ¬ (a + k) * 5 + 1 = (b + k) * 5 + 4 := by omega
      have i24 : ¬ (a + k) * 5 + 2 = (b + k) * 5 := by omega
      have i25 : ¬ (a + k) * 5 + 2 = (b + k) * 5 + 1 := by omega
      have i26 : ¬ (a + k) * 5 + 2 = (b + k) * 5 + 2 := by omega
      have i27 : ¬ (a + k) * 5 + 2 = (a + k) * 5 + 3 := by omega
      have i28 : ¬ (b + k) * 5 + 2 = (b + k) * 5 + 3 := by omega
      have i29 : ¬ (a + k) * 5 + 2 = (b + k) * 5 + 3 := by omega
      have i30 : ¬ (a + k) * 5 + 2 = (a + k) * 5 + 4 := by omega
      have i31 : ¬ (b + k) * 5 + 2 = (b + k) * 5 + 4 := by omega
      have i32 : ¬ (a + k) * 5 + 2 = (b + k) * 5 + 4 := by omega
      have i33 : ¬ (a + k) * 5 + 3 = (b + k) * 5 := by omega
      have i34 : ¬ (a + k) * 5 + 3 = (b + k) * 5 + 1 := by omega
      have i35 : ¬ (a + k) * 5 + 3 = (b + k) * 5 + 2 := by omega
      have i36 : ¬ (a + k) * 5 + 3 = (b + k) * 5 + 3 := by omega
      have i37 : ¬ (a + k) * 5 + 3 = (a + k) * 5 + 4 := by omega
      have i38 : ¬ (b + k) * 5 + 3 = (b + k) * 5 + 4 := by omega
      have i39 : ¬ (a + k) * 5 + 3 = (b + k) * 5 + 4 := by omega
      have i40 : ¬ (a + k) * 5 + 4 = (b + k) * 5 := by omega
      have i41 : ¬ (a + k) * 5 + 4 = (b + k) * 5 + 1 := by omega
      have i42 : ¬ (a + k) * 5 + 4 = (b + k) * 5 + 2 := by omega
      have i43 : ¬ (a + k) * 5 + 4 = (b + k) * 5 + 3 := by omega
      have i44 : ¬ (a + k) * 5 + 4 = (b + k) * 5 + 4 := by omega
      clear fz gx hp1 hp2
      have HST := Lib.hid (HS.out.step hlt hab (by rw [HL.out]; exact hb))
      have HG := Lib.hid hg
      have ha0 : (0 : Int) ≤ (a : Int) + (k : Int) := by omega
      have ha1 : (a : Int) + (k : Int) < (n : Int) := by omega
      have ha2 : ((a : Int) + (k : Int)).toNat = a + k := by omega
      have hb0 : (0 : Int) ≤ (b : Int) + (k : Int) := by omega
      have hb1 : (b : Int) + (k : Int) < (n : Int) := by omega
      have hb2 : ((b : Int) + (k : Int)).toNat = b + k := by omega
      clear h1 hx hy hrow hg HS
      go_wp2
      go_region
      go_wp2
      go_roundw
      case rel => exact ⟨k + 1, _, by go_num, by omega, HST, H1.out.below (Below.refl _ _).drew, gb_below (HG.out.trans GX.out) (Below.refl _ _).drew⟩
      case measure => simp [RowKit.intOf]; omega
    · obtain rfl : k = m := by omega
      have HRW := Lib.hid hrow
      have HGG := Lib.hid hg
      clear hrow hg
      go_wp2
      go_end0
      exact ⟨M, rfl, HS.out, HRW.out, HGG.out⟩
set_option maxHeartbeats 4000000 in
theorem rotateP_any (F : Int → Plc) (L : List Int) (B g n cap bx a m b : Nat) (w : World) (hr : RowP F w B g n cap L) (h1 : a < m) (h2 : m < b) (hb : b ≤ n) (hn1 : n ≤ 100000) :
    Calls Tryz.prog 299 #[.slice (some ⟨g, 0, none⟩) n cap, .int .i64 (a : Nat), .int .i64 (m : Nat), .int .i64 (b : Nat), cmpP bx] w (RowPostP F w B g n cap (RotR a m b L)) := by
  have hni : (n : Int) ≤ 100000 := by omega
  have HL := Lib.hid hr.1
  have HR := Lib.hid hr
  have hSW := fun (M : List Int) (a' b' m' : Nat) (w' : World) (h : RowP F w' B g n cap M) (h1 : a' + m' ≤ b') (h2 : b' + m' ≤ n) => swapP_any F M B g n cap bx a' b' m' w' h h1 h2 hn1
  have HSW := Lib.hid hSW
  unfold RowPostP
  unfold cmpP RowPostP at HSW
  unfold cmpP
  clear hr hSW
  have e1 : (m : Int) - (a : Int) = ((m - a : Nat) : Int) := by omega
  have e2 : (b : Int) - (m : Int) = ((b - m : Nat) : Int) := by omega
  go_enter Tryz.func299, Tryz.ntmps299
  go_wp2
  go_loopw [10, 11] (fun iv jv wr => ∃ (i j : Nat) (M : List Int), iv = .int .i64 i ∧ jv = .int .i64 j ∧ 0 < i ∧ 0 < j ∧ a + i ≤ m ∧ m + j ≤ b ∧ Hid (RotI a m b i j L M) ∧ RowP F wr B g n cap M ∧ w.grownBy wr (some g)) (fun iv jv _ => (RowKit.intOf iv).toNat + (RowKit.intOf jv).toNat)
  case atStart => exact ⟨m - a, b - m, L, by go_num, by go_num, by omega, by omega, by omega, by omega, Lib.hid (RotI.start (by omega) (by omega)), HR.out, World.grownBy.refl _ _⟩
  case round =>
    obtain ⟨i, j, M, rfl, rfl, hi0, hj0, hi1, hj1, HI, hrow, hg⟩ := hrel
    by_cases hne : i = j
    · subst hne
      have hS := HSW.out M (m - i) m i _ hrow (by omega) (by omega)
      have e3 : (m : Int) - (i : Int) = ((m - i : Nat) : Int) := by omega
      have HG := Lib.hid hg
      clear hrow hg
      go_wp2_with fail
      with_reducible refine hS.mono ?_
      rintro e w5 ⟨M', rfl, hs5, hr5, hg5⟩
      have hd := HI.out.done hi1 hj1 hs5
      have HD := Lib.hid (And.intro hd (And.intro hr5 (HG.out.trans hg5)))
      clear hs5 hr5 hg5 hd hS
      go_wp2
      go_end0
      exact ⟨M', rfl, HD.out⟩
    · have hnei : ¬ (i : Int) = (j : Int) := by omega
      have hneb : ((i : Int) == (j : Int)) = false := by simp; omega
      by_cases hgt : j < i
      · have hgti : (j : Int) < (i : Int) := by omega
        have hS := HSW.out M (m - i) m j _ hrow (by omega) (by omega)
        have e3 : (m : Int) - (i : Int) = ((m - i : Nat) : Int) := by omega
        have HG := Lib.hid hg
        clear hrow hg
        go_wp2_with fail
        with_reducible refine hS.mono ?_
        rintro e w5 ⟨M', rfl, hs5, hr5, hg5⟩
        have hd := HI.out.more hi1 hj1 hgt hs5
        have HD := Lib.hid (And.intro hd (And.intro hr5 (HG.out.trans hg5)))
        clear hs5 hr5 hg5 hd hS
        go_wp2
        go_roundw
        case rel => exact ⟨i - j, j, M', by go_num, rfl, by omega, hj0, by omega, hj1, Lib.hid HD.out.1, HD.out.2.1, HD.out.2.2⟩
        case measure => simp [RowKit.intOf]; omega
      · have hgti : ¬ (j : Int) < (i : Int) := by omega
        have hS := HSW.out M (m - i) (m + j - i) i _ hrow (by omega) (by omega)
        have e3 : (m : Int) - (i : Int) = ((m - i : Nat) : Int) := by omega
        have e4 : (m : Int) + (j : Int) - (i : Int) = ((m + j - i : Nat) : Int) := by omega
        have HG := Lib.hid hg
        clear hrow hg
        go_wp2_with fail
        with_reducible refine hS.mono ?_
        rintro e w5 ⟨M', rfl, hs5, hr5, hg5⟩
        have hd := HI.out.less hi1 hj1 (by omega) hs5
        have HD := Lib.hid (And.intro hd (And.intro hr5 (HG.out.trans hg5)))
        clear hs5 hr5 hg5 hd hS
        go_wp2
        go_roundw
        case rel => exact ⟨i, j - i, M', rfl, by go_num, hi0, by omega, hi1, by omega, Lib.hid HD.out.1, HD.out.2.1, HD.out.2.2⟩
        case measure => simp [RowKit.intOf]; omega
end Go.Mk
