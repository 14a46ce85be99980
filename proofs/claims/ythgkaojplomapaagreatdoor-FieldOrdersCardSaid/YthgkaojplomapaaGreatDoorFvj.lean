/-
  Proved: the law FieldImproves returns true and leaves all that was there. Conditions: the tables that awake reads lie where the program lays them; the rows lie where the slice says, and are no more than an int says, their names and their trials neither.
  Proved: the law FieldOrders returns true and leaves all that was there. Conditions: the tables that awake reads lie where the program lays them; the texts, the heights and the cards lie where the slices say, and are no more than an int says.
-/
import Derived.Test.YthgkaojplomapaaGreatDoorFvh
import Derived.Test.YthgkaojplomapaaGreatDoorXaw
import Derived.Test.YthgkaojplomapaaGreatDoorFgv
set_option linter.unusedVariables false
set_option linter.unusedSimpArgs false
open Go Go.Proofs Go.RowKit
set_option maxRecDepth 100000
section
namespace Go.Mk
theorem u8_range {z : Int} (h : (Lit.int .u8 z).wf = true) : 0 ≤ z ∧ z ≤ 255 := by
 simp [Lit.wf] at h
 have e1 : IntKind.u8.min = 0 := rfl
 have e2 : IntKind.u8.max = 255 := rfl
 omega
end Go.Mk
end
section
namespace Go.Mk
set_option maxHeartbeats 8000000 in
theorem ord6_exit (N : List ByteArray) (nN cN : Nat) (AN : Option Addr) (G : List Int) (AG : Option Addr) (m cG : Nat) (st : Int) (L : List CardR) (n cap : Nat) (A : Option Addr) (pk : Int) (w : World) (hN : TextsZ w AN nN N) (hcN : nN ≤ cN) (hnN : (nN : Int) ≤ 9223372036854775807) (hG : IntsZ w AG m G) (hm : (m : Int) ≤ 9223372036854775807) (hZ : Cards w A n L) (hn : (n : Int) ≤ 9223372036854775807) (hC : ∀ r ∈ L, CardI r)
  (ht : Tabs w) (hx : shV N G L = true → 6 < n ∨ verE N G st ≠ 0 ∨ crdR N G L ≠ 0) :
  Calls Tryz.prog 5 #[.agg #[.slice AN nN cN, .slice AG m cG, .int .i64 st], .slice A n cap, .int .u8 pk] w (Yes w) := by
 obtain ⟨g, hg⟩ : ∃ g, w.heap.size = g := ⟨_, rfl⟩
 obtain ⟨w1, hw1⟩ : ∃ w1, w.alloc (.cells #[.slice AN nN cN, .slice AG m cG, .int .i64 st] 25) = w1 := ⟨_, rfl⟩
 have hb1 : Below w.heap.size w w1 := by rw [← hw1]; exact balloc _ (Below.refl _ _)
 have hk1 : w1.heap[g]? = some (.cells #[.slice AN nN cN, .slice AG m cG, .int .i64 st] 25 (0, 0)) := by rw [← hw1, ← hg]; exact World.alloc_heap_new w _
 have v0 := Go.Joins.cell_of_block hk1 0
 have v1 := Go.Joins.cell_of_block hk1 1
 have v2 := Go.Joins.cell_of_block hk1 2
 have HK1 : Hid (∀ w', Below w1.heap.size w1 w' → w'.heap[g]? = some (.cells #[.slice AN nN cN, .slice AG m cG, .int .i64 st] 25 (0, 0))) := Lib.hid fun w' hb => (hb.block g (Array.getElem?_eq_some_iff.1 hk1).1).trans hk1
 have HB0 := Lib.hid hb1
 have hS := l6shortCards_any N nN cN AN G AG m cG st L n cap A w1 (hN.below hb1) hnN (hG.below hb1) hm (hZ.below hb1) hn hC
 have HAW : Hid (∀ w', Below w1.heap.size w1 w' → Calls Tryz.prog 7 #[] w' (RetPost (.bool true) w')) := Lib.hid fun w' hb => aw w' (ht.grow (bstep HB0.out hb))
 cases h1 : shV N G L with
 | false =>
  rw [h1] at hS
  clear hx hN hcN hnN hG hm hZ hn hC ht h1 hb1 hk1
  go_enter Tryz.func5, Tryz.ntmps5
  go_wp2_with fail
  refine hS.mono ?_
  rintro e w2 ⟨rfl, hb2⟩
  have HB2 := Lib.hid (hb2)
  clear hb2 v0 v1 v2 hS
  have hk := HK1.out w2 HB2.out
  have v0 := Go.Joins.cell_of_block hk 0
  have v1 := Go.Joins.cell_of_block hk 1
  have v2 := Go.Joins.cell_of_block hk 2
  clear hk
  go_wp2_with fail
  refine (HAW.out _ HB2.out).mono ?_
  rintro e w9 ⟨rfl, hb9⟩
  have hfin := bstep HB0.out (bstep HB2.out hb9)
  clear hb9
  go_wp2
  go_ret
  exact ⟨rfl, hfin⟩
 | true =>
  rw [h1] at hS
  obtain ⟨⟨hN35, hN40⟩, hG27, hL35, _⟩ := shV_true h1
  have hCS := shV_cards h1 hZ
  have hLn : L.length = n := hZ.1
  have hGm : G.length = m := hG.1
  have hNn : N.length = nN := hN.1
  have hsN : ∀ x ∈ N, x.size ≤ maxLen := fun x hx => by have := hN40 x hx; unfold maxLen; omega
  have hx := hx h1
  by_cases h6 : 6 < n
  ·have hn6 : decide ((6 : Int) < (n : Int)) = true := by simp; omega
   clear hN35 hN40 hG27 hL35 hCS hLn hGm hNn hsN
   clear hx hN hcN hnN hG hm hZ hn hC ht h1 hb1 hk1 h6
   go_enter Tryz.func5, Tryz.ntmps5
   go_wp2_with fail
   refine hS.mono ?_
   rintro e w2 ⟨rfl, hb2⟩
   have HB2 := Lib.hid (hb2)
   clear hb2 v0 v1 v2 hS
   have hk := HK1.out w2 HB2.out
   have v0 := Go.Joins.cell_of_block hk 0
   have v1 := Go.Joins.cell_of_block hk 1
   have v2 := Go.Joins.cell_of_block hk 2
   clear hk
   go_wp2_with fail
   refine (HAW.out _ HB2.out).mono ?_
   rintro e w9 ⟨rfl, hb9⟩
   have hfin := bstep HB0.out (bstep HB2.out hb9)
   clear hb9
   go_wp2
   go_ret
   exact ⟨rfl, hfin⟩
  ·have hn6 : decide ((6 : Int) < (n : Int)) = false := by simp; omega
   obtain ⟨y, hy⟩ : ∃ y, verE N G st = y := ⟨_, rfl⟩
   have HCV : Hid (∀ w', Below w1.heap.size w1 w' → Calls Tryz.prog 11 #[.agg #[.slice AN nN cN, .slice AG m cG, .int .i64 st]] w' (RetPost (.int .i64 y) w')) := Lib.hid fun w' hb => by
    rw [← hy]
    exact r6CheckVertical_any N nN cN AN G m cG AG st w' (hN.below (bstep hb1 hb)) (by omega) hsN (hG.below (bstep hb1 hb)) (by omega)
   obtain ⟨z, hz⟩ : ∃ z, crdR N G L = z := ⟨_, rfl⟩
   have HCC : Hid (∀ w', Below w1.heap.size w1 w' → Calls Tryz.prog 12 #[.agg #[.slice AN nN cN, .slice AG m cG, .int .i64 st], .slice A n cap] w' (RetPost (.int .i64 z) w')) := Lib.hid fun w' hb => by
    rw [← hz]
    exact r6CheckCards_any N nN cN AN G AG m cG st L n cap A w' (hN.below (bstep hb1 hb)) (by omega) (hG.below (bstep hb1 hb)) (by omega) (hZ.below (bstep hb1 hb)) (by omega) (fun r hr => (hCS r hr).1)
   by_cases hy0 : y = 0
   ·have hyn : (y != 0) = false := by rw [hy0]; rfl
    have hzn : (z != 0) = true := by
     rw [bne_iff_ne]
     rcases hx with q | q | q
     ·omega
     ·exact absurd (hy.trans hy0) q
     ·rw [← hz]; exact q
    clear hN35 hN40 hG27 hL35 hCS hLn hGm hNn hsN
    clear hx hN hcN hnN hG hm hZ hn hC ht h1 hb1 hk1 h6 hy hz hy0
    go_enter Tryz.func5, Tryz.ntmps5
    go_wp2_with fail
    refine hS.mono ?_
    rintro e w2 ⟨rfl, hb2⟩
    have HB2 := Lib.hid (hb2)
    clear hb2 v0 v1 v2 hS
    have hk := HK1.out w2 HB2.out
    have v0 := Go.Joins.cell_of_block hk 0
    have v1 := Go.Joins.cell_of_block hk 1
    have v2 := Go.Joins.cell_of_block hk 2
    clear hk
    go_wp2_with fail
    refine (HCV.out _ HB2.out).mono ?_
    rintro e w3 ⟨rfl, hb3⟩
    have HB3 := Lib.hid (bstep HB2.out hb3)
    clear hb3 v0 v1 v2
    have hk := HK1.out w3 HB3.out
    have v0 := Go.Joins.cell_of_block hk 0
    have v1 := Go.Joins.cell_of_block hk 1
    have v2 := Go.Joins.cell_of_block hk 2
    clear hk
    go_wp2_with fail
    refine (HCC.out _ HB3.out).mono ?_
    rintro e w4 ⟨rfl, hb4⟩
    have HB4 := Lib.hid (bstep HB3.out hb4)
    clear hb4 v0 v1 v2
    have hk := HK1.out w4 HB4.out
    have v0 := Go.Joins.cell_of_block hk 0
    have v1 := Go.Joins.cell_of_block hk 1
    have v2 := Go.Joins.cell_of_block hk 2
    clear hk
    go_wp2_with fail
    refine (HAW.out _ HB4.out).mono ?_
    rintro e w9 ⟨rfl, hb9⟩
    have hfin := bstep HB0.out (bstep HB4.out hb9)
    clear hb9
    go_wp2
    go_ret
    exact ⟨rfl, hfin⟩
   ·have hyn : (y != 0) = true := by rw [bne_iff_ne]; exact hy0
    clear hN35 hN40 hG27 hL35 hCS hLn hGm hNn hsN HCC
    clear hx hN hcN hnN hG hm hZ hn hC ht h1 hb1 hk1 h6 hy hz hy0
    go_enter Tryz.func5, Tryz.ntmps5
    go_wp2_with fail
    refine hS.mono ?_
    rintro e w2 ⟨rfl, hb2⟩
    have HB2 := Lib.hid (hb2)
    clear hb2 v0 v1 v2 hS
    have hk := HK1.out w2 HB2.out
    have v0 := Go.Joins.cell_of_block hk 0
    have v1 := Go.Joins.cell_of_block hk 1
    have v2 := Go.Joins.cell_of_block hk 2
    clear hk
    go_wp2_with fail
    refine (HCV.out _ HB2.out).mono ?_
    rintro e w3 ⟨rfl, hb3⟩
    have HB3 := Lib.hid (bstep HB2.out hb3)
    clear hb3 v0 v1 v2
    have hk := HK1.out w3 HB3.out
    have v0 := Go.Joins.cell_of_block hk 0
    have v1 := Go.Joins.cell_of_block hk 1
    have v2 := Go.Joins.cell_of_block hk 2
    clear hk
    go_wp2_with fail
    refine (HAW.out _ HB3.out).mono ?_
    rintro e w9 ⟨rfl, hb9⟩
    have hfin := bstep HB0.out (bstep HB3.out hb9)
    clear hb9
    go_wp2
    go_ret
    exact ⟨rfl, hfin⟩
theorem ord6_any (N : List ByteArray) (nN cN : Nat) (AN : Option Addr) (G : List Int) (AG : Option Addr) (m cG : Nat) (st : Int) (L : List CardR) (n cap : Nat) (A : Option Addr) (pk : Int) (w : World) (hN : TextsZ w AN nN N) (hcN : nN ≤ cN) (hnN : (nN : Int) ≤ 9223372036854775807) (hG : IntsZ w AG m G) (hm : (m : Int) ≤ 9223372036854775807) (hZ : Cards w A n L) (hn : (n : Int) ≤ 9223372036854775807) (hC : ∀ r ∈ L, CardI r)
  (ht : Tabs w) (hp : (Lit.int .u8 pk).wf = true) :
  Calls Tryz.prog 5 #[.agg #[.slice AN nN cN, .slice AG m cG, .int .i64 st], .slice A n cap, .int .u8 pk] w (Yes w) := by
 by_cases hx : shV N G L = true → 6 < n ∨ verE N G st ≠ 0 ∨ crdR N G L ≠ 0
 ·exact ord6_exit N nN cN AN G AG m cG st L n cap A pk w hN hcN hnN hG hm hZ hn hC ht hx
 ·have h1 : shV N G L = true := Classical.byContradiction fun q => hx fun q2 => absurd q2 q
  have h2 : ¬ (6 < n ∨ verE N G st ≠ 0 ∨ crdR N G L ≠ 0) := fun q => hx fun _ => q
  have hv : verE N G st = 0 := Classical.byContradiction fun q => h2 (.inr (.inl q))
  have hr : crdR N G L = 0 := Classical.byContradiction fun q => h2 (.inr (.inr q))
  have hcr : crdE N G st L = 0 := (crdR_crdE hv).2 hr
  obtain ⟨_, _, hpos, _, _⟩ := crdE_ok hcr
  have h0 : 0 < n := by rw [← hZ.1]; exact hpos
  obtain ⟨p1, p2⟩ : (0 : Int) ≤ pk ∧ pk ≤ 255 := u8_range hp
  obtain ⟨p, rfl⟩ := Int.eq_ofNat_of_zero_le p1
  have hb1 : Below w.heap.size w (w.alloc (.cells #[.slice AN nN cN, .slice AG m cG, .int .i64 st] 25)) := balloc _ (Below.refl _ _)
  have hS := l6shortCards_any N nN cN AN G AG m cG st L n cap A _ (hN.below hb1) hnN (hG.below hb1) hm (hZ.below hb1) hn hC
  rw [h1] at hS
  exact ord6_main N nN cN AN G AG m cG st L n cap A p w hN hcN hG hZ hC hS (fun w' hb => aw w' (ht.grow hb)) (fun w' hb => l6worsened_any N nN cN AN G AG m cG st L n cap A p w' (hN.below hb) hcN (hG.below hb) (hZ.below hb) hC (by omega) h1 h0 (by omega) hcr) (by omega) h1 (by omega) hv hr
end Go.Mk
end
