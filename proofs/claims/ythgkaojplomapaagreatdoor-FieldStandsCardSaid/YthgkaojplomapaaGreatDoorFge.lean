/-
  Proved: cardMark and the two functions by which Standing ranks cards, as plain
-/
import Derived.Test.YthgkaojplomapaaGreatDoorFgc
set_option maxHeartbeats 32000000
set_option linter.unusedVariables false
set_option linter.unusedSimpArgs false
open Go Go.Proofs Go.RowKit
set_option maxRecDepth 100000
namespace Go.Mk
theorem talG_range : ∀ (H : List (List UInt8)) (i all : Nat) (t : Tal), 0 ≤ t.a → t.a ≤ i → 0 ≤ (talG i all t H).a ∧ (talG i all t H).a ≤ (i + H.length : Nat)
 | [], i, all, t, h1, h2 => ⟨h1, by show t.a ≤ _; simpa using h2⟩
 | x :: l, i, all, t, h1, h2 => by
  rw [talG]
  split
  ·have := talG_range l (i + 1) (all + nxL x) ⟨(i : Int) + 1, -(nxL x : Int), -((all + nxL x : Nat) : Int)⟩ (by dsimp only; omega) (by dsimp only; omega)
   rw [List.length_cons]
   omega
  ·have := talG_range l (i + 1) (all + nxL x) t h1 (by omega)
   rw [List.length_cons]
   omega
theorem tal_range (r : CardR) : 0 ≤ (talR r).a ∧ (talR r).a ≤ r.H.length := by
 have := talG_range (bls r.H) 0 0 ⟨0, 0, 0⟩ (Int.le_refl _) (Int.le_refl _)
 rw [bls_length] at this
 unfold talR talL
 omega
def mkC (G : List Int) (r : CardR) : ByteArray × Int × ByteArray :=
 if 0 < (talR r).a then (sLength, G.getD ((talR r).a - 1).toNat 0, ⟨#[]⟩) else (sNone, 0, if decide (0 < r.nh) || !r.rt then sNM else sDNS)
theorem fdCardMark_any (r : CardR) (G : List Int) (AA AG : Option Addr) (na ca m cG : Nat) (st : Int) (w : World) (hZ : CardZ w r) (hn : r.nh ≤ 1000) (hs : ∀ x ∈ r.H, x.size ≤ 5000) (hG : IntsZ w AG m G) (hm : m ≤ 1000) (hle : r.nh ≤ m) :
  Calls Tryz.prog 48 #[.agg #[.slice AA na ca, .slice AG m cG, .int .i64 st], r.val] w (RetPost (.agg #[.string (mkC G r).1, .int .i64 (mkC G r).2.1, .string (mkC G r).2.2]) w) := by
 obtain ⟨g, hg⟩ : ∃ g, w.heap.size = g := ⟨_, rfl⟩
 obtain ⟨wa, hwa⟩ : ∃ wa, w.alloc (.cells #[.slice AA na ca, .slice AG m cG, .int .i64 st] 33) = wa := ⟨_, rfl⟩
 obtain ⟨wb, hwb⟩ : ∃ wb, wa.alloc (.cells #[.string r.s, .slice r.AH r.nh r.ch, .slice r.AO r.no r.co, .bool r.rt] 94) = wb := ⟨_, rfl⟩
 obtain ⟨w1, hw1⟩ : ∃ w1, wb.alloc (.cells #[.string ⟨#[]⟩, .int .i64 0, .string ⟨#[]⟩] 59) = w1 := ⟨_, rfl⟩
 have sa : wa.heap.size = g + 1 := by rw [← hwa, ← hg]; simp
 have sb : wb.heap.size = g + 2 := by rw [← hwb]; simp [sa]
 have ka : wa.heap[g]? = some (.cells #[.slice AA na ca, .slice AG m cG, .int .i64 st] 33 (0, 0)) := by rw [← hwa, ← hg]; exact World.alloc_heap_new w _
 have kb : wb.heap[g + 1]? = some (.cells #[.string r.s, .slice r.AH r.nh r.ch, .slice r.AO r.no r.co, .bool r.rt] 94 (0, 0)) := by rw [← hwb, ← sa]; exact World.alloc_heap_new wa _
 have kc : w1.heap[g + 2]? = some (.cells #[.string ⟨#[]⟩, .int .i64 0, .string ⟨#[]⟩] 59 (0, 0)) := by rw [← hw1, ← sb]; exact World.alloc_heap_new wb _
 have bA : Below w.heap.size w wa := by rw [← hwa]; exact balloc _ (Below.refl _ _)
 have bB : Below wa.heap.size wa wb := by rw [← hwb]; exact balloc _ (Below.refl _ _)
 have bC : Below wb.heap.size wb w1 := by rw [← hw1]; exact balloc _ (Below.refl _ _)
 have hb1 := bstep bA (bstep bB bC)
 have k1 := (bC.block g (by omega)).trans ((bB.block g (by omega)).trans ka)
 have k2 := (bC.block (g + 1) (by omega)).trans kb
 have hs1 : w1.heap.size = g + 3 := by rw [← hw1]; simp [sb]
 have HX : Hid (∀ w', Below w1.heap.size w1 w' → w'.heap[g]? = some (.cells #[.slice AA na ca, .slice AG m cG, .int .i64 st] 33 (0, 0)) ∧ w'.heap[g + 1]? = some (.cells #[.string r.s, .slice r.AH r.nh r.ch, .slice r.AO r.no r.co, .bool r.rt] 94 (0, 0)) ∧ w'.heap[g + 2]? = some (.cells #[.string ⟨#[]⟩, .int .i64 0, .string ⟨#[]⟩] 59 (0, 0))) := Lib.hid fun w' hb =>
  ⟨(hb.block g (by omega)).trans k1, (hb.block (g + 1) (by omega)).trans k2, (hb.block (g + 2) (by omega)).trans kc⟩
 have hT := fdTally_any r w1 (hZ.below hb1) hn hs
 rw [show talL (bls r.H) = talR r from rfl] at hT
 have HGZ := Lib.hid (hG.below hb1)
 have HB1 := Lib.hid hb1
 have hR := tal_range r
 rw [hZ.1.1] at hR
 have x0 := Go.Joins.cell_of_block k2 0
 have x1 := Go.Joins.cell_of_block k2 1
 have x2 := Go.Joins.cell_of_block k2 2
 have x3 := Go.Joins.cell_of_block k2 3
 have hGW : Hid (w.heap.size ≤ g + 2) := Lib.hid (by omega)
 unfold mkC
 obtain ⟨T, hTT⟩ : ∃ T, talR r = T := ⟨_, rfl⟩
 rw [hTT] at hT hR ⊢
 obtain ⟨s, AH, nh, ch, HH, AO, no, co, O, rt⟩ := r
 obtain ⟨ta, tb, tc⟩ := T
 unfold CardR.val Tal.val at *
 dsimp only at *
 clear hZ hs hG hTT ka kb kc bA bB bC hb1 k1 k2 hs1
 have hni : (nh : Int) ≤ 1000 := by omega
 by_cases h0 : 0 < ta
 ·rw [if_pos h0]
  obtain ⟨k, hk⟩ : ∃ k, (ta - 1).toNat = k := ⟨_, rfl⟩
  have hsub : ta - 1 = (k : Int) := by omega
  have hwr : IntKind.i64.wrap (ta - 1) = (k : Int) := by
   rw [hsub]
   simp [IntKind.wrap, IntKind.bits, IntKind.signed]
   omega
  have hkm : k < m := by omega
  obtain ⟨bG, oG, z, rfl, hbG, hz, hcz⟩ := HGZ.out.cellAt hkm
  have hgd : G.getD k 0 = z := by rw [List.getD_eq_getElem?_getD, hz]; rfl
  dsimp only
  rw [hk, hgd]
  have HCZ := Lib.hid (And.intro hbG hcz)
  have hki : (k : Int) < (m : Int) := by omega
  have hk0 : (0 : Int) ≤ (k : Int) := by omega
  have hkt : ((k : Int)).toNat = k := by omega
  clear hz hgd hk hbG hcz HGZ
  show Calls Tryz.prog 48 _ w (RetPost (.agg #[.string ⟨#[108, 101, 110, 103, 116, 104]⟩, .int .i64 z, .string ⟨#[]⟩]) w)
  go_enter Tryz.func48, Tryz.ntmps48
  go_wp2_with fail
  refine hT.mono ?_
  rintro e w2 ⟨rfl, hb2⟩
  obtain ⟨q, hq⟩ : ∃ q, w2.heap.size = q := ⟨_, rfl⟩
  obtain ⟨w3, hw3⟩ : ∃ w3, w2.alloc (.cells #[.int .i64 ta, .int .i64 tb, .int .i64 tc] 103) = w3 := ⟨_, rfl⟩
  have hb3 : Below w1.heap.size w1 w3 := by rw [← hw3]; exact hb2.alloc hb2.size _
  have v0 : w3.cell? ⟨q, 0, none⟩ = some (.int .i64 ta) := by rw [← hw3, ← hq]; simp
  obtain ⟨q1, q2, q3⟩ := HX.out _ hb3
  have y1 := Go.Joins.cell_of_block q1 1
  have hcz := (hb3.cell (p := ⟨bG, _, none⟩) HCZ.out.1).trans HCZ.out.2
  obtain ⟨⟨e0, e1, e2⟩, f0, f1, f2⟩ := three_blk q3
  have HR := Lib.hid (three_set q3 (.string ⟨#[108, 101, 110, 103, 116, 104]⟩) (.int .i64 z) (.string ⟨#[]⟩))
  have HF := Lib.hid (three_below (bstep HB1.out hb3) hGW.out (.string ⟨#[108, 101, 110, 103, 116, 104]⟩) (.int .i64 z) (.string ⟨#[]⟩))
  clear hb2 hb3 q1 q2 q3 x0 x1 x2 x3 hT HX HB1 hw1 hwb hwa hg
  go_wp2
  have z0 := Go.Joins.cell_of_block HR.out 0
  have z1 := Go.Joins.cell_of_block HR.out 1
  have z2 := Go.Joins.cell_of_block HR.out 2
  exact bodyPost_ret (v := .agg #[.string ⟨#[108, 101, 110, 103, 116, 104]⟩, .int .i64 z, .string ⟨#[]⟩]) (by simp [results, Tryz.results48, go_sem, z0, z1, z2]) rfl ⟨rfl, HF.out⟩
 ·rw [if_neg h0]
  obtain ⟨bb, hbb⟩ : ∃ bb, (decide (0 < nh) || !rt) = bb := ⟨_, rfl⟩
  obtain ⟨rs, hrs⟩ : ∃ rs, (if bb = true then sNM else sDNS) = rs := ⟨_, rfl⟩
  have hM : ∀ w, Calls Tryz.prog 103 #[.bool bb] w (RetPost (.agg #[.string ⟨#[110, 111, 110, 101]⟩, .int .i64 0, .string rs]) w) := fun w => by
   have := fdNoMark_any bb w
   unfold noM mkV at this
   rw [← hrs]
   cases bb with
   | true => exact this
   | false => exact this
  have hcs : ((0 : Int) < (nh : Int) ∧ bb = true) ∨ (¬ (0 : Int) < (nh : Int) ∧ (!rt) = bb) := by
   by_cases q : 0 < nh
   ·exact .inl ⟨by omega, by rw [← hbb, decide_eq_true q]; rfl⟩
   ·exact .inr ⟨by omega, by rw [← hbb, decide_eq_false q]; rfl⟩
  rw [hbb, hrs]
  dsimp only
  show Calls Tryz.prog 48 _ w (RetPost (.agg #[.string ⟨#[110, 111, 110, 101]⟩, .int .i64 0, .string rs]) w)
  have HM := Lib.hid hM
  clear hbb hrs hM
  rcases hcs with ⟨hq0, hbb⟩ | ⟨hq0, hbb⟩
  all_goals
   go_enter Tryz.func48, Tryz.ntmps48
   go_wp2_with fail
   refine hT.mono ?_
   rintro e w2 ⟨rfl, hb2⟩
   obtain ⟨q, hq⟩ : ∃ q, w2.heap.size = q := ⟨_, rfl⟩
   obtain ⟨w3, hw3⟩ : ∃ w3, w2.alloc (.cells #[.int .i64 ta, .int .i64 tb, .int .i64 tc] 103) = w3 := ⟨_, rfl⟩
   have hb3 : Below w1.heap.size w1 w3 := by rw [← hw3]; exact hb2.alloc hb2.size _
   have v0 : w3.cell? ⟨q, 0, none⟩ = some (.int .i64 ta) := by rw [← hw3, ← hq]; simp
   obtain ⟨q1, q2, q3⟩ := HX.out _ hb3
   have y1 := Go.Joins.cell_of_block q2 1
   have y3 := Go.Joins.cell_of_block q2 3
   have HB3 := Lib.hid hb3
   clear hb2 hb3 q1 q2 q3 x0 x1 x2 x3 hT hw1 hwb hwa
   go_wp2_with fail
   subst hbb
   refine (HM.out _).mono ?_
   rintro e w4 ⟨rfl, hb4⟩
   obtain ⟨_, _, q3⟩ := HX.out _ (bstep HB3.out hb4)
   obtain ⟨⟨e0, e1, e2⟩, f0, f1, f2⟩ := three_blk q3
   have HR := Lib.hid (three_set q3 (.string ⟨#[110, 111, 110, 101]⟩) (.int .i64 0) (.string rs))
   have HF := Lib.hid (three_below (bstep HB1.out (bstep HB3.out hb4)) hGW.out (.string ⟨#[110, 111, 110, 101]⟩) (.int .i64 0) (.string rs))
   clear hb4 q3
   go_wp2
   have z0 := Go.Joins.cell_of_block HR.out 0
   have z1 := Go.Joins.cell_of_block HR.out 1
   have z2 := Go.Joins.cell_of_block HR.out 2
   exact bodyPost_ret (v := .agg #[.string ⟨#[110, 111, 110, 101]⟩, .int .i64 0, .string rs]) (by simp [results, Tryz.results48, go_sem, z0, z1, z2]) rfl ⟨rfl, HF.out⟩
def talA (L : List CardR) (i : Nat) : Tal := (L.map talR).getD i ⟨0, 0, 0⟩
theorem talA_at {L : List CardR} {i : Nat} {r : CardR} (h : L[i]? = some r) : talA L i = talR r := by
 unfold talA
 rw [List.getD_eq_getElem?_getD, List.getElem?_map, h]; rfl
def stR (L : List CardR) (i : Nat) : Bool := decide (0 < (talA L i).a)
theorem fdStandR_any (L : List CardR) (n c bl : Nat) (A : Option Addr) (hn : n ≤ 1000) (i : Nat) (hi : i < n) (w : World) (hZ : Cards w A n L) (hs : ∀ r ∈ L, r.nh ≤ 1000 ∧ ∀ x ∈ r.H, x.size ≤ 5000) (hc : w.cell? ⟨bl, 0, none⟩ = some (.slice A n c)) :
  Calls Tryz.prog 47 #[.int .i64 i, .pointer (some ⟨bl, 0, none⟩)] w (RetPost (.bool (stR L i)) w) := by
 obtain ⟨b', off, r, rfl, hbl, hx, ⟨hc0, hc1, hc2, hc3⟩, hCZ⟩ := hZ.at_ hi
 have hT := fdTally_any r w hCZ (hs r (List.mem_of_getElem? hx)).1 (hs r (List.mem_of_getElem? hx)).2
 rw [show talL (bls r.H) = talR r from rfl] at hT
 unfold stR
 rw [talA_at hx]
 obtain ⟨T, hTT⟩ : ∃ T, talR r = T := ⟨_, rfl⟩
 rw [hTT] at hT ⊢
 have hni : (n : Int) ≤ 1000 := by omega
 have hki : (i : Int) < (n : Int) := by omega
 have hk0 : (0 : Int) ≤ (i : Int) := by omega
 have hkt : ((i : Int)).toNat = i := by omega
 obtain ⟨s, AH, nh, ch, HH, AO, no, co, O, rt⟩ := r
 obtain ⟨ta, tb, tc⟩ := T
 unfold CardR.val Tal.val at *
 dsimp only at *
 clear hZ hs hx hCZ hTT
 obtain ⟨y, hy⟩ : ∃ y, decide (0 < ta) = y := ⟨_, rfl⟩
 rw [hy]
 go_enter Tryz.func47, Tryz.ntmps47
 go_wp2_with fail
 refine hT.mono ?_
 rintro e w2 ⟨rfl, hb2⟩
 clear hc hc0 hc1 hc2 hc3 hT
 have hix : (Instr.index 103 (.agg #[.int .i64 ta, .int .i64 tb, .int .i64 tc]) (.int .i64 0)).run Tryz.prog w2 = .ok (.int .i64 ta) w2 := by kernel_rfl
 go_wp2
 go_ret
 exact ⟨by rw [← hy]; rfl, hb2⟩
end Go.Mk
