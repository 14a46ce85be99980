/-
  Proved: slices.SortFunc of at most 12 integers by the comparison of field.series leaves them in descending
  Proved: series of package field returns a row's marks that are not below 0, in descending order, in new
  Proved: noMark of package field as a plain function. No conditions.
  Proved: rowMark of package field as a plain function of a
  Proved: cmp.Compare of integers and slices.Compare of two lists of integers as plain
-/
import Derived.Test.YthgkaojplomapaaGreatDoorFea
set_option maxHeartbeats 32000000
set_option linter.unusedVariables false
set_option linter.unusedSimpArgs false
open Go Go.Proofs Go.RowKit
set_option maxRecDepth 100000
section
namespace Go.Mk
end Go.Mk
end
section
namespace Go.Mk
end Go.Mk
end
section
namespace Go.Mk
def mkV (k : ByteArray) (v : Int) (r : ByteArray) : Value := .agg #[.string k, .int .i64 v, .string r]
def sNone : ByteArray := ⟨#[110, 111, 110, 101]⟩
def sLength : ByteArray := ⟨#[108, 101, 110, 103, 116, 104]⟩
def sNM : ByteArray := ⟨#[78, 77]⟩
def sDNS : ByteArray := ⟨#[68, 78, 83]⟩
def noM (b : Bool) : Value := if b then mkV sNone 0 sNM else mkV sNone 0 sDNS
theorem fdNoMark_any (b : Bool) (w : World) : Calls Tryz.prog 103 #[.bool b] w (RetPost (noM b) w) := by
 obtain ⟨g, hg⟩ : ∃ g, w.heap.size = g := ⟨_, rfl⟩
 cases b with
 | true =>
  obtain ⟨w1, hw1⟩ : ∃ w1, w.alloc (.cells #[.string sNone, .int .i64 0, .string sNM] 59) = w1 := ⟨_, rfl⟩
  have hb1 : Below w.heap.size w w1 := by rw [← hw1]; exact balloc _ (Below.refl _ _)
  have z0 : w1.cell? ⟨g, 0, none⟩ = some (.string sNone) := by rw [← hw1, ← hg]; simp
  have z1 : w1.cell? ⟨g, 1, none⟩ = some (.int .i64 0) := by rw [← hw1, ← hg]; simp
  have z2 : w1.cell? ⟨g, 2, none⟩ = some (.string sNM) := by rw [← hw1, ← hg]; simp
  unfold sNone sNM at *
  go_enter Tryz.func103, Tryz.ntmps103
  go_wp2
  exact bodyPost_ret (v := noM true) (by simp [results, Tryz.results103, go_sem, z0, z1, z2, noM, mkV, sNone, sNM]) rfl ⟨rfl, hb1⟩
 | false =>
  obtain ⟨w1, hw1⟩ : ∃ w1, w.alloc (.cells #[.string sNone, .int .i64 0, .string sDNS] 59) = w1 := ⟨_, rfl⟩
  have hb1 : Below w.heap.size w w1 := by rw [← hw1]; exact balloc _ (Below.refl _ _)
  have z0 : w1.cell? ⟨g, 0, none⟩ = some (.string sNone) := by rw [← hw1, ← hg]; simp
  have z1 : w1.cell? ⟨g, 1, none⟩ = some (.int .i64 0) := by rw [← hw1, ← hg]; simp
  have z2 : w1.cell? ⟨g, 2, none⟩ = some (.string sDNS) := by rw [← hw1, ← hg]; simp
  unfold sNone sDNS at *
  go_enter Tryz.func103, Tryz.ntmps103
  go_wp2
  exact bodyPost_ret (v := noM false) (by simp [results, Tryz.results103, go_sem, z0, z1, z2, noM, mkV, sNone, sDNS]) rfl ⟨rfl, hb1⟩
end Go.Mk
end
section
namespace Go.Mk
theorem three_set {w : World} {g : Nat} {a b c : Value} {t : TypeId} (k : w.heap[g]? = some (.cells #[a, b, c] t (0, 0))) (a' b' c' : Value) :
  (((w.setCell ⟨g, 0, none⟩ a').setCell ⟨g, 1, none⟩ b').setCell ⟨g, 2, none⟩ c').heap[g]? = some (.cells #[a', b', c'] t (0, 0)) := by
 have h1 := Go.Joins.block_setCell (i := 0) k a'
 have h2 := Go.Joins.block_setCell (i := 1) h1 b'
 exact Go.Joins.block_setCell (i := 2) h2 c'
theorem three_below {B : Nat} {w w' : World} {g : Nat} (hb : Below B w w') (hg : B ≤ g) (a b c : Value) : Below B w (((w'.setCell ⟨g, 0, none⟩ a).setCell ⟨g, 1, none⟩ b).setCell ⟨g, 2, none⟩ c) :=
 ((hb.setCell hg _).setCell hg _).setCell hg _
end Go.Mk
end
section
namespace Go.Mk
def cmpZ (a b : Int) : Int := if a < b then -1 else if b < a then 1 else 0
def cmpL : List Int → List Int → Int
 | [], [] => 0
 | [], _ :: _ => -1
 | _ :: _, [] => 1
 | a :: l, b :: m => if cmpZ a b = 0 then cmpL l m else cmpZ a b
theorem cmpL_drop {L M : List Int} {k : Nat} {a b : Int} (h1 : L[k]? = some a) (h2 : M[k]? = some b) : cmpL (L.drop k) (M.drop k) = if cmpZ a b = 0 then cmpL (L.drop (k + 1)) (M.drop (k + 1)) else cmpZ a b := by
 obtain ⟨hk, rfl⟩ := List.getElem?_eq_some_iff.1 h1
 obtain ⟨hk2, rfl⟩ := List.getElem?_eq_some_iff.1 h2
 rw [List.drop_eq_getElem_cons hk, List.drop_eq_getElem_cons hk2, cmpL]
theorem cmpInt_any (a b : Int) (w : World) : Calls Tryz.prog 108 #[.int .i64 a, .int .i64 b] w (RetPost (.int .i64 (cmpZ a b)) w) := by
 unfold cmpZ
 by_cases h1 : a < b
 ·rw [if_pos h1]
  go_enter Tryz.func108, Tryz.ntmps108
  go_wp2
  go_ret
  exact ⟨rfl, Below.refl _ _⟩
 ·rw [if_neg h1]
  by_cases h2 : b < a
  ·rw [if_pos h2]
   go_enter Tryz.func108, Tryz.ntmps108
   go_wp2
   go_ret
   exact ⟨rfl, Below.refl _ _⟩
  ·rw [if_neg h2]
   go_enter Tryz.func108, Tryz.ntmps108
   go_wp2
   go_ret
   exact ⟨rfl, Below.refl _ _⟩
theorem slCompareI_any (L M : List Int) (n c m d : Nat) (A B : Option Addr) (w : World) (hL : IntsZ w A n L) (hM : IntsZ w B m M) (hn : n ≤ 1000) (hm : m ≤ 1000) :
  Calls Tryz.prog 100 #[.slice A n c, .slice B m d] w (RetPost (.int .i64 (cmpL L M)) w) := by
 have hni : (n : Int) ≤ 1000 := by omega
 have hmi : (m : Int) ≤ 1000 := by omega
 have H := Lib.hid hL
 have H2 := Lib.hid hM
 have Hn := Lib.hid hL.1
 have Hm := Lib.hid hM.1
 obtain ⟨y, hy⟩ : ∃ y, cmpL L M = y := ⟨_, rfl⟩
 rw [hy]
 have HY : Hid (cmpL (L.drop 0) (M.drop 0) = y) := Lib.hid (by rw [← hy]; rfl)
 clear hL hM hy
 go_enter Tryz.func100, Tryz.ntmps100
 go_wp2
 go_loopw [11] (fun i wr => ∃ k : Nat, k ≤ n ∧ k ≤ m ∧ i = .int .i64 k ∧ Hid (cmpL (L.drop k) (M.drop k) = y) ∧ Below w.heap.size w wr) (fun i _ => n - (RowKit.intOf i).toNat)
 case atStart => exact ⟨0, by omega, by omega, rfl, HY, Below.refl _ _⟩
 case round =>
  obtain ⟨k, hk, hk2, rfl, HK, hb⟩ := hrel
  have hk0 : (0 : Int) ≤ (k : Int) := by omega
  have hkt : ((k : Int)).toNat = k := by omega
  by_cases hlt : k < n
  ·obtain ⟨b1, o1, x, rfl, _, hx, hcx⟩ := (H.out.below hb).cellAt hlt
   have hki : (k : Int) < (n : Int) := by omega
   by_cases hlm : k < m
   ·obtain ⟨b2, o2, z, rfl, _, hz, hcz⟩ := (H2.out.below hb).cellAt hlm
    have hkm : ¬ (m : Int) ≤ (k : Int) := by omega
    have hkm2 : (k : Int) < (m : Int) := by omega
    have hst := HK.out
    rw [cmpL_drop hx hz] at hst
    have hC := fun w => cmpInt_any x z w
    obtain ⟨q, hq⟩ : ∃ q, cmpZ x z = q := ⟨_, rfl⟩
    rw [hq] at hst hC
    have HB := Lib.hid hb
    clear hx hz hq HK hb
    by_cases h0 : q = 0
    ·subst h0
     rw [if_pos rfl] at hst
     have Hst : Hid (cmpL (L.drop (k + 1)) (M.drop (k + 1)) = y) := Lib.hid hst
     clear hst
     go_wp2_with fail
     refine (hC _).mono ?_
     rintro e w' ⟨rfl, hb2⟩
     have hb3 := bstep HB.out hb2
     clear hb2
     go_wp2
     exact ⟨⟨k + 1, by omega, by omega, by go_num, Hst, hb3⟩, by simp [RowKit.intOf]; omega⟩
    ·rw [if_neg h0] at hst
     subst hst
     have hne : (q != 0) = true := by rw [bne_iff_ne]; exact h0
     go_wp2_with fail
     refine (hC _).mono ?_
     rintro e w' ⟨rfl, hb2⟩
     have hb3 := bstep HB.out hb2
     clear hb2
     go_wp2
     go_ret
     exact ⟨rfl, hb3⟩
   ·have hkm : (m : Int) ≤ (k : Int) := by omega
    have hst := HK.out
    obtain ⟨hkl, _⟩ := List.getElem?_eq_some_iff.1 hx
    rw [List.drop_eq_getElem_cons hkl, (show M.drop k = [] from List.drop_eq_nil_of_le (by rw [Hm.out]; omega)), cmpL] at hst
    subst hst
    have HB := Lib.hid hb
    clear hx HK hb
    go_wp2
    go_ret
    exact ⟨rfl, HB.out⟩
  ·have hst := HK.out
   have hki : ¬ (k : Int) < (n : Int) := by omega
   rw [(show L.drop k = [] from List.drop_eq_nil_of_le (by rw [Hn.out]; omega))] at hst
   have HB := Lib.hid hb
   clear HK hb
   by_cases hlm : n < m
   ·have hnm : (n : Int) < (m : Int) := by omega
    have hkl : k < M.length := by rw [Hm.out]; omega
    rw [List.drop_eq_getElem_cons hkl, cmpL] at hst
    subst hst
    go_wp2
    go_ret
    exact ⟨rfl, HB.out⟩
   ·have hnm : ¬ (n : Int) < (m : Int) := by omega
    rw [(show M.drop k = [] from List.drop_eq_nil_of_le (by rw [Hm.out]; omega)), cmpL] at hst
    subst hst
    go_wp2
    go_ret
    exact ⟨rfl, HB.out⟩
end Go.Mk
end
