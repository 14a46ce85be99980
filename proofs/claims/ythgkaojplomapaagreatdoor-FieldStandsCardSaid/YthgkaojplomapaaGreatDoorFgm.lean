/-
  Proved: shortCards of the law and CheckCards of the reference as plain
-/
import Derived.Test.YthgkaojplomapaaGreatDoorFgh
import Derived.Test.YthgkaojplomapaaGreatDoorFgs
set_option maxHeartbeats 32000000
set_option linter.unusedVariables false
set_option linter.unusedSimpArgs false
open Go Go.Proofs Go.RowKit
set_option maxRecDepth 100000
namespace Go.Mk
def CardI (r : CardR) : Prop := r.s.size ≤ maxLen ∧ (r.nh : Int) ≤ 9223372036854775807 ∧ (r.no : Int) ≤ 9223372036854775807 ∧ (r.AH = none → r.ch = 0) ∧ (r.AO = none → r.co = 0)
def shV (N : List ByteArray) (G : List Int) (L : List CardR) : Bool := shNm N && (decide (G.length ≤ 27) && (decide (L.length ≤ 35) && L.all fun r => shC r.s r.H r.O))
theorem all_dropC {L : List CardR} {k : Nat} {r : CardR} (f : CardR → Bool) (h : L[k]? = some r) : (L.drop k).all f = (f r && (L.drop (k + 1)).all f) := by
 obtain ⟨hk, rfl⟩ := List.getElem?_eq_some_iff.1 h
 rw [List.drop_eq_getElem_cons hk, List.all_cons]
theorem l6shortCards_any (N : List ByteArray) (nN cN : Nat) (AN : Option Addr) (G : List Int) (AG : Option Addr) (m cG : Nat) (st : Int) (L : List CardR) (n cap : Nat) (A : Option Addr) (w : World) (hN : TextsZ w AN nN N) (hnN : (nN : Int) ≤ 9223372036854775807) (hG : IntsZ w AG m G) (hm : (m : Int) ≤ 9223372036854775807) (hZ : Cards w A n L) (hn : (n : Int) ≤ 9223372036854775807) (hC : ∀ r ∈ L, CardI r) :
  Calls Tryz.prog 6 #[.agg #[.slice AN nN cN, .slice AG m cG, .int .i64 st], .slice A n cap] w (RetPost (.bool (shV N G L)) w) := by
 obtain ⟨g, hg⟩ : ∃ g, w.heap.size = g := ⟨_, rfl⟩
 obtain ⟨w1, hw1⟩ : ∃ w1, w.alloc (.cells #[.slice AN nN cN, .slice AG m cG, .int .i64 st] 25) = w1 := ⟨_, rfl⟩
 have hb1 : Below w.heap.size w w1 := by rw [← hw1]; exact balloc _ (Below.refl _ _)
 have v0 : w1.cell? ⟨g, 0, none⟩ = some (.slice AN nN cN) := by rw [← hw1, ← hg]; simp
 have v1 : w1.cell? ⟨g, 1, none⟩ = some (.slice AG m cG) := by rw [← hw1, ← hg]; simp
 have hSN := r6ShortNames_any N nN cN AN w1 (hN.below hb1) hnN
 have H := Lib.hid hZ
 have HL := Lib.hid hZ.1
 have HC := Lib.hid hC
 have HB1 := Lib.hid hb1
 unfold shV
 rw [hG.1, hZ.1]
 clear hN hZ hC hb1 hG
 cases h1 : shNm N with
 | false =>
  rw [h1] at hSN
  rw [Bool.false_and]
  go_enter Tryz.func6, Tryz.ntmps6
  go_wp2_with fail
  refine hSN.mono ?_
  rintro e w2 ⟨rfl, rfl⟩
  go_wp2
  go_ret
  exact ⟨rfl, HB1.out⟩
 | true =>
  rw [h1] at hSN
  rw [Bool.true_and]
  by_cases h2 : m ≤ 27
  ·rw [decide_eq_true h2, Bool.true_and]
   have h2i : ¬ (27 : Int) < (m : Int) := by omega
   by_cases h3 : n ≤ 35
   ·rw [decide_eq_true h3, Bool.true_and]
    have h3i : ¬ (35 : Int) < (n : Int) := by omega
    have hni : (n : Int) ≤ 35 := by omega
    obtain ⟨y, hy⟩ : ∃ y, (L.all fun r => shC r.s r.H r.O) = y := ⟨_, rfl⟩
    rw [hy]
    have HY : Hid (((L.drop 0).all fun r => shC r.s r.H r.O) = y) := Lib.hid (by rw [← hy]; rfl)
    clear hy hn hm h1
    go_enter Tryz.func6, Tryz.ntmps6
    go_wp2_with fail
    refine hSN.mono ?_
    rintro e w2 ⟨rfl, rfl⟩
    clear hSN
    go_wp2
    go_loopw [24] (fun i wr => ∃ k : Nat, k ≤ n ∧ i = .int .i64 k ∧ Hid (((L.drop k).all fun r => shC r.s r.H r.O) = y) ∧ Below w1.heap.size w1 wr) (fun i _ => n - (RowKit.intOf i).toNat)
    case atStart => exact ⟨0, by omega, rfl, HY, Below.refl _ _⟩
    case round =>
     obtain ⟨k, hk, rfl, HK, hb⟩ := hrel
     by_cases hlt : k < n
     ·obtain ⟨b', off, r, rfl, hbl, hx, ⟨hc0, hc1, hc2, hc3⟩, hCZ⟩ := (H.out.below (bstep HB1.out hb)).at_ hlt
      have hki : (k : Int) < (n : Int) := by omega
      have hk0 : (0 : Int) ≤ (k : Int) := by omega
      have hkt : ((k : Int)).toNat = k := by omega
      obtain ⟨q1, q2, q3, _⟩ := HC.out r (List.mem_of_getElem? hx)
      have hst := HK.out
      rw [all_dropC _ hx] at hst
      obtain ⟨p, hp⟩ : ∃ p, wr.heap.size = p := ⟨_, rfl⟩
      obtain ⟨wx, hwx⟩ : ∃ wx, wr.alloc (.cells #[.string r.s, .slice r.AH r.nh r.ch, .slice r.AO r.no r.co, .bool r.rt] 66) = wx := ⟨_, rfl⟩
      have hbx : Below w1.heap.size w1 wx := by rw [← hwx]; exact hb.alloc hb.size _
      have hbwx : Below wr.heap.size wr wx := by rw [← hwx]; exact balloc _ (Below.refl _ _)
      have x0 : wx.cell? ⟨p, 0, none⟩ = some (.string r.s) := by rw [← hwx, ← hp]; simp
      have x1 : wx.cell? ⟨p, 1, none⟩ = some (.slice r.AH r.nh r.ch) := by rw [← hwx, ← hp]; simp
      have x2 : wx.cell? ⟨p, 2, none⟩ = some (.slice r.AO r.no r.co) := by rw [← hwx, ← hp]; simp
      have x3 : wx.cell? ⟨p, 3, none⟩ = some (.bool r.rt) := by rw [← hwx, ← hp]; simp
      have hz := hCZ.below hbwx
      have hSC := r6ShortCard_any r.s r.H r.O r.nh r.ch r.no r.co r.AH r.AO r.rt wx (by have : maxLen = 9223372036854775807 := rfl; omega) hz.1 q2 hz.2.2.1 q3
      have HBX := Lib.hid hbx
      obtain ⟨z, hzz⟩ : ∃ z, shC r.s r.H r.O = z := ⟨_, rfl⟩
      rw [hzz] at hst hSC
      obtain ⟨s, AH, nh, ch, HH, AO, no, co, O, rt⟩ := r
      dsimp only at *
      clear hx HK hb hbx hbwx hCZ hz hzz q1 q2 q3
      cases z with
      | true =>
       have Hst := Lib.hid hst
       clear hst
       go_wp2_with fail
       refine hSC.mono ?_
       rintro e w5 ⟨rfl, hb5⟩
       have HB5 := Lib.hid (bstep HBX.out hb5)
       clear hb5
       go_wp2
       go_roundw
       case rel => exact ⟨k + 1, by omega, by go_num, by have := Hst.out; rw [Bool.true_and] at this; exact Lib.hid this, HB5.out⟩
       case measure => simp [RowKit.intOf]; omega
      | false =>
       rw [Bool.false_and] at hst
       subst hst
       go_wp2_with fail
       refine hSC.mono ?_
       rintro e w5 ⟨rfl, hb5⟩
       have HB5 := Lib.hid (bstep HB1.out (bstep HBX.out hb5))
       clear hb5
       go_wp2
       go_ret
       exact ⟨rfl, HB5.out⟩
     ·have h0 := HK.out
      rw [List.drop_eq_nil_of_le (by rw [HL.out]; omega)] at h0
      have : y = true := by rw [← h0]; rfl
      subst this
      have HB := Lib.hid (bstep HB1.out hb)
      clear hb HK h0
      go_wp2
      go_ret
      exact ⟨rfl, HB.out⟩
   ·rw [decide_eq_false h3, Bool.false_and]
    have h3i : (35 : Int) < (n : Int) := by omega
    go_enter Tryz.func6, Tryz.ntmps6
    go_wp2_with fail
    refine hSN.mono ?_
    rintro e w2 ⟨rfl, rfl⟩
    go_wp2
    go_ret
    exact ⟨rfl, HB1.out⟩
  ·rw [decide_eq_false h2, Bool.false_and]
   have h2i : (27 : Int) < (m : Int) := by omega
   go_enter Tryz.func6, Tryz.ntmps6
   go_wp2_with fail
   refine hSN.mono ?_
   rintro e w2 ⟨rfl, rfl⟩
   go_wp2
   go_ret
   exact ⟨rfl, HB1.out⟩
def crdR (N : List ByteArray) (G : List Int) (L : List CardR) : Int := if L.length = N.length then cdsE N G.length 0 L else 2
theorem r6CheckCards_any (N : List ByteArray) (nN cN : Nat) (AN : Option Addr) (G : List Int) (AG : Option Addr) (m cG : Nat) (st : Int) (L : List CardR) (n cap : Nat) (A : Option Addr) (w : World) (hN : TextsZ w AN nN N) (hnN : nN ≤ 1000) (hG : IntsZ w AG m G) (hm : m ≤ 1000) (hZ : Cards w A n L) (hn : n ≤ 1000) (hS : ∀ r ∈ L, CardS r) :
  Calls Tryz.prog 12 #[.agg #[.slice AN nN cN, .slice AG m cG, .int .i64 st], .slice A n cap] w (RetPost (.int .i64 (crdR N G L)) w) := by
 obtain ⟨g, hg⟩ : ∃ g, w.heap.size = g := ⟨_, rfl⟩
 obtain ⟨w1, hw1⟩ : ∃ w1, w.alloc (.cells #[.slice AN nN cN, .slice AG m cG, .int .i64 st] 25) = w1 := ⟨_, rfl⟩
 have hb1 : Below w.heap.size w w1 := by rw [← hw1]; exact balloc _ (Below.refl _ _)
 have v0 : w1.cell? ⟨g, 0, none⟩ = some (.slice AN nN cN) := by rw [← hw1, ← hg]; simp
 have v1 : w1.cell? ⟨g, 1, none⟩ = some (.slice AG m cG) := by rw [← hw1, ← hg]; simp
 have hs1 : g < w1.heap.size := by rw [← hw1, ← hg]; simp
 have HV : Hid (∀ w', Below w1.heap.size w1 w' → w'.cell? ⟨g, 0, none⟩ = some (.slice AN nN cN) ∧ w'.cell? ⟨g, 1, none⟩ = some (.slice AG m cG)) := Lib.hid fun w' hb => ⟨(hb.cell (p := ⟨g, 0, none⟩) hs1).trans v0, (hb.cell (p := ⟨g, 1, none⟩) hs1).trans v1⟩
 have H := Lib.hid hZ
 have HL := Lib.hid hZ.1
 have HNT := Lib.hid hN
 have HS := Lib.hid hS
 have HB1 := Lib.hid hb1
 have hni : (n : Int) ≤ 1000 := by omega
 have hnNi : (nN : Int) ≤ 1000 := by omega
 have hmi : (m : Int) ≤ 1000 := by omega
 unfold crdR
 rw [hZ.1, hN.1, hG.1]
 clear hN hZ hS hb1 hG hs1
 by_cases h0 : n = nN
 ·rw [if_pos h0]
  have hne : ((n : Int) != (nN : Int)) = false := by simp; omega
  obtain ⟨y, hy⟩ : ∃ y, cdsE N m 0 L = y := ⟨_, rfl⟩
  rw [hy]
  have HY : Hid (cdsE N m 0 (L.drop 0) = y) := Lib.hid hy
  have HE := Lib.hid h0
  clear hy h0
  go_enter Tryz.func12, Tryz.ntmps12
  go_wp2
  go_loopw [5] (fun i wr => ∃ k : Nat, k ≤ n ∧ i = .int .i64 k ∧ Hid (cdsE N m k (L.drop k) = y) ∧ Below w1.heap.size w1 wr) (fun i _ => n - (RowKit.intOf i).toNat)
  case atStart => exact ⟨0, by omega, rfl, HY, Below.refl _ _⟩
  case round =>
   obtain ⟨k, hk, rfl, HK, hb⟩ := hrel
   clear v0 v1
   by_cases hlt : k < n
   ·obtain ⟨b', off, r, rfl, hbl, hx, ⟨hc0, hc1, hc2, hc3⟩, hCZ⟩ := (H.out.below (bstep HB1.out hb)).at_ hlt
    have hlN : k < nN := by have := HE.out; omega
    obtain ⟨bN, oN, z, rfl, hbN, hz, hcz⟩ := (HNT.out.below (bstep HB1.out hb)).at_ hlN
    have hki : (k : Int) < (n : Int) := by omega
    have hkN : (k : Int) < (nN : Int) := by omega
    have hk0 : (0 : Int) ≤ (k : Int) := by omega
    have hkt : ((k : Int)).toNat = k := by omega
    obtain ⟨y1, y2, y3, y4, y5⟩ := HS.out r (List.mem_of_getElem? hx)
    have hst := HK.out
    rw [cdsE_drop hx] at hst
    unfold cdE at hst
    obtain ⟨v0, v1⟩ := HV.out wr hb
    have hD : Below wr.heap.size wr wr.drew := (Below.refl _ _).drew
    obtain ⟨wD, hwD⟩ : ∃ wD, wr.drew = wD := ⟨_, rfl⟩
    rw [hwD] at hD
    have hzD := hCZ.below hD
    have HBD := Lib.hid (bstep hb hD)
    have d0 := (hD.cell (p := ⟨b', _, none⟩) hbl).trans hc0
    have d1 := (hD.cell (p := ⟨b', _, none⟩) hbl).trans hc1
    have d2 := (hD.cell (p := ⟨b', _, none⟩) hbl).trans hc2
    have d3 := (hD.cell (p := ⟨b', _, none⟩) hbl).trans hc3
    have HDC := Lib.hid (And.intro d0 (And.intro d1 (And.intro d2 (And.intro d3 (Nat.lt_of_lt_of_le hbl hD.size)))))
    have HWD := Lib.hid hwD
    have hCF := r6CheckForm_any r.s r.H r.O r.nh r.ch r.no r.co r.AH r.AO r.rt wD y1 hzD.1 (by omega) y4 hzD.2.2.1 (by omega) y5
    have hnh : (r.nh : Int) ≤ 1000 := by omega
    obtain ⟨s, AH, nh, ch, HH, AO, no, co, O, rt⟩ := r
    dsimp only at *
    clear hx HK hb hbl hbN hCZ hD hwD hzD hc1 hc2 hc3 d0 d1 d2 d3 y1 y2 y3 y4 y5
    by_cases he : z = s
    ·have he' := he.symm
     subst he'
     rw [if_pos hz] at hst
     have hbt : (s.toList != s.toList) = false := by simp
     have hbt2 : (s.toList == s.toList) = true := by simp
     obtain ⟨e1, he1⟩ : ∃ e1, frmE s (bls HH) (bls O) = e1 := ⟨_, rfl⟩
     rw [he1] at hst hCF
     clear he1 hz
     go_wp2
     go_region
     rw [HWD.out]
     obtain ⟨d0, d1, d2, d3, hbD⟩ := HDC.out
     clear hc0 hcz v0 v1 hbt hbt2
     go_wp2_with fail
     refine hCF.mono ?_
     rintro e w2 ⟨rfl, hb2⟩
     obtain ⟨v0, v1⟩ := HV.out w2 (bstep HBD.out hb2)
     have d1' := (hb2.cell (p := ⟨b', _, none⟩) hbD).trans d1
     have hD2 : Below w2.heap.size w2 w2.drew := (Below.refl _ _).drew
     obtain ⟨wE, hwE⟩ : ∃ wE, w2.drew = wE := ⟨_, rfl⟩
     rw [hwE] at hD2
     have HBE := Lib.hid (bstep (bstep HBD.out hb2) hD2)
     have HWE := Lib.hid hwE
     clear hb2 hD2 hwE d0 d1 d2 d3 hbD hCF
     by_cases h1 : e1 = 0
     ·subst h1
      have h1b : ((0 : Int) == 0) = true := rfl
      by_cases h2 : m < nh
      ·have h2i : (m : Int) < (nh : Int) := by omega
       have hst2 : (5 : Int) = y := by
        rw [← hst]; simp [fstN, h2]
       subst hst2
       clear hst
       go_wp2
       go_region
       rw [HWE.out]
       go_wp2
       go_ret
       exact ⟨rfl, bstep HB1.out HBE.out⟩
      ·have h2i : ¬ (m : Int) < (nh : Int) := by omega
       have hst2 : Hid (cdsE N m (k + 1) (L.drop (k + 1)) = y) := Lib.hid (by rw [← hst]; simp [fstN, h2])
       clear hst
       go_wp2
       go_region
       rw [HWE.out]
       go_wp2
       exact ⟨⟨k + 1, by omega, by go_num, hst2, HBE.out⟩, by simp [RowKit.intOf]; omega⟩
     ·have h1b : (e1 == 0) = false := by simp [h1]
      have h1c : (e1 != 0) = true := by simp [h1]
      have hst2 : e1 = y := by rw [← hst]; simp [fstN, h1]
      subst hst2
      clear hst h1
      go_wp2
      go_region
      rw [HWE.out]
      go_wp2
      go_ret
      exact ⟨rfl, bstep HB1.out HBE.out⟩
    ·have hst2 : (10 : Int) = y := by
      rw [← hst]; simp [hz, he]
     subst hst2
     have hbt : (s.toList != z.toList) = true := by
      have := tl_ne (show ¬ s = z from fun e => he e.symm)
      simp [bne, this]
     have hbt2 : (s.toList == z.toList) = false := tl_ne (fun e => he e.symm)
     clear hst hz he
     go_wp2
     go_region
     rw [HWD.out]
     go_wp2
     go_ret
     exact ⟨rfl, bstep HB1.out HBD.out⟩
   ·have h0 := HK.out
    rw [List.drop_eq_nil_of_le (by rw [HL.out]; omega), cdsE] at h0
    subst h0
    have HB := Lib.hid (bstep HB1.out hb)
    clear hb
    go_wp2
    go_ret
    exact ⟨rfl, HB.out⟩
 ·rw [if_neg h0]
  have hne : ((n : Int) != (nN : Int)) = true := by rw [bne_iff_ne]; omega
  go_enter Tryz.func12, Tryz.ntmps12
  go_wp2
  go_ret
  exact ⟨rfl, HB1.out⟩
end Go.Mk
