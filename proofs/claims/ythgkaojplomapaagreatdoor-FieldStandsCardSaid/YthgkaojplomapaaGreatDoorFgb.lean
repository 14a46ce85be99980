/-
  Proved: tallyOf of package field as a plain function of the card's
-/
import Derived.Test.YthgkaojplomapaaGreatDoorFga
import Derived.Test.YthgkaojplomapaaGreatDoorFrh
set_option maxHeartbeats 32000000
set_option linter.unusedVariables false
set_option linter.unusedSimpArgs false
open Go Go.Proofs Go.RowKit
set_option maxRecDepth 100000
namespace Go.Mk
structure Tal where
 a : Int
 b : Int
 c : Int
def Tal.val (t : Tal) : Value := .agg #[.int .i64 t.a, .int .i64 t.b, .int .i64 t.c]
def Tal.cells (t : Tal) : List Value := [.int .i64 t.a, .int .i64 t.b, .int .i64 t.c]
def Tal.l (t : Tal) : List Int := [t.a, t.b, t.c]
def talG : Nat → Nat → Tal → List (List UInt8) → Tal
 | _, _, t, [] => t
 | i, all, t, x :: l => if endL x = [111] then talG (i + 1) (all + nxL x) ⟨(i : Int) + 1, -(nxL x : Int), -((all + nxL x : Nat) : Int)⟩ l else talG (i + 1) (all + nxL x) t l
def talL (H : List (List UInt8)) : Tal := talG 0 0 ⟨0, 0, 0⟩ H
theorem talG_drop {H : List (List UInt8)} {k : Nat} {x : List UInt8} (h : H[k]? = some x) (i all : Nat) (t : Tal) : talG i all t (H.drop k) = if endL x = [111] then talG (i + 1) (all + nxL x) ⟨(i : Int) + 1, -(nxL x : Int), -((all + nxL x : Nat) : Int)⟩ (H.drop (k + 1)) else talG (i + 1) (all + nxL x) t (H.drop (k + 1)) := by
 obtain ⟨hk, rfl⟩ := List.getElem?_eq_some_iff.1 h
 rw [List.drop_eq_getElem_cons hk, talG]
def TalI (w : World) (g : Nat) (r : CardR) (t : Tal) (wr : World) : Prop :=
 wr.heap[g]? = some (.cells #[.string r.s, .slice r.AH r.nh r.ch, .slice r.AO r.no r.co, .bool r.rt] 94 (0, 0)) ∧ wr.heap[g + 1]? = some (.cells #[.int .i64 0, .int .i64 0, .int .i64 0] 103 (0, 0)) ∧ wr.heap[g + 2]? = some (.cells #[.int .i64 t.a, .int .i64 t.b, .int .i64 t.c] 103 (0, 0)) ∧ Below w.heap.size w wr
theorem TalI.next {w wr wx : World} {g : Nat} {r : CardR} {t : Tal} (h : TalI w g r t wr) (hb : Below wr.heap.size wr wx) : TalI w g r t wx := by
 obtain ⟨h1, h2, h3, h4⟩ := h
 have l1 := (Array.getElem?_eq_some_iff.1 h3).1
 exact ⟨(hb.block g (by omega)).trans h1, (hb.block (g + 1) (by omega)).trans h2, (hb.block (g + 2) (by omega)).trans h3, bstep h4 hb⟩
theorem other_blk (w : World) {g k : Nat} (h : k ≠ g) (a b c : Value) : (((w.setCell ⟨g, 0, none⟩ a).setCell ⟨g, 1, none⟩ b).setCell ⟨g, 2, none⟩ c).heap[k]? = w.heap[k]? := by
 rw [heap_setCell_other _ ⟨g, 2, none⟩ k c (fun e => h e), heap_setCell_other _ ⟨g, 1, none⟩ k b (fun e => h e), heap_setCell_other _ ⟨g, 0, none⟩ k a (fun e => h e)]
theorem TalI.set {w wr : World} {g : Nat} {r : CardR} {t : Tal} (h : TalI w g r t wr) (hg : w.heap.size ≤ g) (u : Tal) :
  TalI w g r u (((wr.setCell ⟨g + 2, 0, none⟩ (.int .i64 u.a)).setCell ⟨g + 2, 1, none⟩ (.int .i64 u.b)).setCell ⟨g + 2, 2, none⟩ (.int .i64 u.c)) := by
 obtain ⟨h1, h2, h3, h4⟩ := h
 exact ⟨(other_blk wr (by omega) _ _ _).trans h1, (other_blk wr (by omega) _ _ _).trans h2, three_set h3 _ _ _, three_below h4 (by omega) _ _ _⟩
theorem fdTally_any (r : CardR) (w : World) (hZ : CardZ w r) (hn : r.nh ≤ 1000) (hs : ∀ x ∈ r.H, x.size ≤ 5000) :
  Calls Tryz.prog 42 #[r.val] w (RetPost (talL (bls r.H)).val w) := by
 have hml : maxLen = 9223372036854775807 := rfl
 obtain ⟨g, hg⟩ : ∃ g, w.heap.size = g := ⟨_, rfl⟩
 obtain ⟨w1, hw1⟩ : ∃ w1, ((w.alloc (.cells #[.string r.s, .slice r.AH r.nh r.ch, .slice r.AO r.no r.co, .bool r.rt] 94)).alloc (.cells #[.int .i64 0, .int .i64 0, .int .i64 0] 103)).alloc (.cells #[.int .i64 0, .int .i64 0, .int .i64 0] 103) = w1 := ⟨_, rfl⟩
 have hI : TalI w g r ⟨0, 0, 0⟩ w1 := by
  obtain ⟨wa, hwa⟩ : ∃ wa, w.alloc (.cells #[.string r.s, .slice r.AH r.nh r.ch, .slice r.AO r.no r.co, .bool r.rt] 94) = wa := ⟨_, rfl⟩
  obtain ⟨wb, hwb⟩ : ∃ wb, wa.alloc (.cells #[.int .i64 0, .int .i64 0, .int .i64 0] 103) = wb := ⟨_, rfl⟩
  rw [hwa, hwb] at hw1
  have sa : wa.heap.size = g + 1 := by rw [← hwa, ← hg]; simp
  have sb : wb.heap.size = g + 2 := by rw [← hwb]; simp [sa]
  have ka : wa.heap[g]? = some (.cells #[.string r.s, .slice r.AH r.nh r.ch, .slice r.AO r.no r.co, .bool r.rt] 94 (0, 0)) := by rw [← hwa, ← hg]; exact World.alloc_heap_new w _
  have kb : wb.heap[g + 1]? = some (.cells #[.int .i64 0, .int .i64 0, .int .i64 0] 103 (0, 0)) := by rw [← hwb, ← sa]; exact World.alloc_heap_new wa _
  have kc : w1.heap[g + 2]? = some (.cells #[.int .i64 0, .int .i64 0, .int .i64 0] 103 (0, 0)) := by rw [← hw1, ← sb]; exact World.alloc_heap_new wb _
  have bA : Below w.heap.size w wa := by rw [← hwa]; exact balloc _ (Below.refl _ _)
  have bB : Below wa.heap.size wa wb := by rw [← hwb]; exact balloc _ (Below.refl _ _)
  have bC : Below wb.heap.size wb w1 := by rw [← hw1]; exact balloc _ (Below.refl _ _)
  exact ⟨(bC.block g (by omega)).trans ((bB.block g (by omega)).trans ka), (bC.block (g + 1) (by omega)).trans kb, kc, bstep bA (bstep bB bC)⟩
 have H := Lib.hid hZ.1
 have HL : Hid ((bls r.H).length = r.nh) := Lib.hid (by rw [bls_length]; exact hZ.1.1)
 have HS : Hid (∀ (k : Nat) (x : ByteArray), r.H[k]? = some x → x.size ≤ maxLen ∧ nxL (bl x) ≤ 5000) := Lib.hid fun k x hx => by
  have := hs x (List.mem_of_getElem? hx)
  exact ⟨by omega, by have := nxL_le (bl x); rw [show (bl x).length = x.size from Array.length_toList] at this; omega⟩
 have hni : (r.nh : Int) ≤ 1000 := by omega
 obtain ⟨T, hT⟩ : ∃ T, talL (bls r.H) = T := ⟨_, rfl⟩
 rw [hT]
 have HT : Hid (talG 0 0 ⟨0, 0, 0⟩ ((bls r.H).drop 0) = T) := Lib.hid hT
 have HI := Lib.hid hI
 have HG := Lib.hid hg
 have k1 := Go.Joins.cell_of_block hI.1 1
 have HC1 : Hid (∀ x : ByteArray, ((endX x).toList == [111]) = decide (endL (bl x) = [111])) := Lib.hid fun x => by rw [endX_list, list_beq]
 clear hZ hn hs hT hI
 obtain ⟨s, AH, nh, ch, HH, AO, no, co, O, rt⟩ := r
 unfold CardR.val
 dsimp only at *
 go_enter Tryz.func42, Tryz.ntmps42
 go_wp2
 go_loopw [4, 12] (fun v i wr => ∃ (k all : Nat) (t : Tal), k ≤ nh ∧ i = .int .i64 k ∧ v = .int .i64 all ∧ all ≤ 5000 * k ∧ Hid (talG k all t ((bls HH).drop k) = T) ∧ TalI w g ⟨s, AH, nh, ch, HH, AO, no, co, O, rt⟩ t wr) (fun _ i _ => nh - (RowKit.intOf i).toNat)
 case atStart => exact ⟨0, 0, ⟨0, 0, 0⟩, by omega, rfl, rfl, by omega, HT, HI.out⟩
 case round =>
  obtain ⟨k, all, t, hk, rfl, rfl, hall, HK, hJ⟩ := hrel
  have hgw : w.heap.size ≤ g := by have := HG.out; omega
  by_cases hlt : k < nh
  ·obtain ⟨b', off, x, rfl, hbl, hx, hcx⟩ := (H.out.below hJ.2.2.2).at_ hlt
   have hki : (k : Int) < (nh : Int) := by omega
   have hk0 : (0 : Int) ≤ (k : Int) := by omega
   have hkt : ((k : Int)).toNat = k := by omega
   obtain ⟨hx1, hx2⟩ := HS.out k x hx
   have hst := HK.out
   rw [talG_drop (bls_get hx)] at hst
   have hC := fdSplit_any x wr hx1
   have c1 := HC1.out x
   rw [show (nx x : Int) = ((nxL (bl x) : Nat) : Int) from rfl] at hC
   obtain ⟨f, hf⟩ : ∃ f, nxL (bl x) = f := ⟨_, rfl⟩
   rw [hf] at hC hst hx2
   obtain ⟨ex, hex⟩ : ∃ ex, endX x = ex := ⟨_, rfl⟩
   rw [hex] at hC c1
   have HJ := Lib.hid hJ
   clear hf hex hx hJ hx1
   have hfi : (f : Int) ≤ 5000 := by omega
   have hai : (all : Int) ≤ 5000 * (k : Int) := by omega
   have hf0 : (0 : Int) ≤ (f : Int) := by omega
   have ha0 : (0 : Int) ≤ (all : Int) := by omega
   have hA1 : all + f ≤ 5000 * (k + 1) := by omega
   by_cases he : endL (bl x) = [111]
   ·rw [if_pos he] at hst
    rw [decide_eq_true he] at c1
    have Hst := Lib.hid hst
    clear hst he
    go_wp2_with fail
    refine hC.mono ?_
    rintro e w2 ⟨rfl, hb2⟩
    have hJ2 := HJ.out.next hb2
    have d0 := Go.Joins.cell_of_block hJ2.2.2.1 0
    have d1 := Go.Joins.cell_of_block hJ2.2.2.1 1
    have d2 := Go.Joins.cell_of_block hJ2.2.2.1 2
    have f0 := Go.Joins.unfrozen_of_block hJ2.2.2.1 0
    have f1 := Go.Joins.unfrozen_of_block hJ2.2.2.1 1
    have f2 := Go.Joins.unfrozen_of_block hJ2.2.2.1 2
    have HJ2 := Lib.hid (hJ2.set hgw ⟨(k : Int) + 1, -(f : Int), -((all + f : Nat) : Int)⟩)
    clear hb2 hJ2 hC hcx
    go_wp2
    rw [show -((all : Int) + (f : Int)) = -((all + f : Nat) : Int) by omega]
    exact ⟨⟨k + 1, all + f, _, by omega, by go_num, by go_num, hA1, Hst, HJ2.out⟩, by simp [RowKit.intOf]; omega⟩
   ·rw [if_neg he] at hst
    rw [decide_eq_false he] at c1
    have Hst := Lib.hid hst
    clear hst he
    go_wp2_with fail
    refine hC.mono ?_
    rintro e w2 ⟨rfl, hb2⟩
    have HJ2 := Lib.hid (HJ.out.next hb2)
    clear hb2 hC hcx
    go_wp2
    go_roundw
    case rel => exact ⟨k + 1, all + f, t, by omega, by go_num, by go_num, hA1, Hst, HJ2.out⟩
    case measure => simp [RowKit.intOf]; omega
  ·have hst := HK.out
   rw [List.drop_eq_nil_of_le (by rw [HL.out]; omega), talG] at hst
   subst hst
   have d0 := Go.Joins.cell_of_block hJ.2.2.1 0
   have d1 := Go.Joins.cell_of_block hJ.2.2.1 1
   have d2 := Go.Joins.cell_of_block hJ.2.2.1 2
   have e0 := Go.Joins.cell_of_block hJ.2.1 0
   have e1 := Go.Joins.cell_of_block hJ.2.1 1
   have e2 := Go.Joins.cell_of_block hJ.2.1 2
   have f0 := Go.Joins.unfrozen_of_block hJ.2.1 0
   have f1 := Go.Joins.unfrozen_of_block hJ.2.1 1
   have f2 := Go.Joins.unfrozen_of_block hJ.2.1 2
   have HR := Lib.hid (three_set hJ.2.1 (.int .i64 t.a) (.int .i64 t.b) (.int .i64 t.c))
   have HB := Lib.hid (three_below hJ.2.2.2 (show w.heap.size ≤ g + 1 by omega) (.int .i64 t.a) (.int .i64 t.b) (.int .i64 t.c))
   clear hJ HK
   unfold Tal.val
   go_wp2
   have z0 := Go.Joins.cell_of_block HR.out 0
   have z1 := Go.Joins.cell_of_block HR.out 1
   have z2 := Go.Joins.cell_of_block HR.out 2
   exact bodyPost_ret (v := .agg #[.int .i64 t.a, .int .i64 t.b, .int .i64 t.c]) (by simp [results, Tryz.results42, go_sem, z0, z1, z2]) rfl ⟨rfl, HB.out⟩
end Go.Mk
