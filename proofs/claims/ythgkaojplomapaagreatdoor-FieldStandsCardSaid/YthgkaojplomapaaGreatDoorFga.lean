/-
  Proved: cards of package field in memory; compareAttempts, slices.CompareFunc of two lists of texts by it,
-/
import Derived.Test.YthgkaojplomapaaGreatDoorFcb
import Derived.Test.YthgkaojplomapaaGreatDoorFa
import Derived.Test.YthgkaojplomapaaGreatDoorFee
set_option maxHeartbeats 32000000
set_option linter.unusedVariables false
set_option linter.unusedSimpArgs false
open Go Go.Proofs Go.RowKit
set_option maxRecDepth 100000
namespace Go.Mk
structure CardR where
 s : ByteArray
 AH : Option Addr
 nh : Nat
 ch : Nat
 H : List ByteArray
 AO : Option Addr
 no : Nat
 co : Nat
 O : List ByteArray
 rt : Bool
def CardR.cells (r : CardR) : List Value := [.string r.s, .slice r.AH r.nh r.ch, .slice r.AO r.no r.co, .bool r.rt]
def CardR.val (r : CardR) : Value := .agg #[.string r.s, .slice r.AH r.nh r.ch, .slice r.AO r.no r.co, .bool r.rt]
def CardZ (w : World) (r : CardR) : Prop := TextsZ w r.AH r.nh r.H ∧ r.nh ≤ r.ch ∧ TextsZ w r.AO r.no r.O ∧ r.no ≤ r.co
theorem CardZ.below {w w' : World} {r : CardR} (h : CardZ w r) (hb : Below w.heap.size w w') : CardZ w' r := ⟨h.1.below hb, h.2.1, h.2.2.1.below hb, h.2.2.2⟩
def Cards (w : World) (A : Option Addr) (n : Nat) (L : List CardR) : Prop :=
 L.length = n ∧ (0 < n → ∃ b off, A = some ⟨b, off, none⟩ ∧ b < w.heap.size ∧ ∀ (j : Nat) (r : CardR), L[j]? = some r →
  (w.cell? ⟨b, off + j * 4, none⟩ = some (.string r.s) ∧ w.cell? ⟨b, off + j * 4 + 1, none⟩ = some (.slice r.AH r.nh r.ch) ∧ w.cell? ⟨b, off + j * 4 + 2, none⟩ = some (.slice r.AO r.no r.co) ∧ w.cell? ⟨b, off + j * 4 + 3, none⟩ = some (.bool r.rt)) ∧ CardZ w r)
theorem Cards.below {w w' : World} {A : Option Addr} {n : Nat} {L : List CardR} (h : Cards w A n L) (hb : Below w.heap.size w w') : Cards w' A n L := by
 refine ⟨h.1, fun h0 => ?_⟩
 obtain ⟨b, off, e, hlt, hc⟩ := h.2 h0
 refine ⟨b, off, e, Nat.lt_of_lt_of_le hlt hb.size, fun j r hr => ?_⟩
 obtain ⟨⟨h1, h2, h3, h4⟩, h5⟩ := hc j r hr
 exact ⟨⟨(hb.cell (p := ⟨b, _, none⟩) hlt).trans h1, (hb.cell (p := ⟨b, _, none⟩) hlt).trans h2, (hb.cell (p := ⟨b, _, none⟩) hlt).trans h3, (hb.cell (p := ⟨b, _, none⟩) hlt).trans h4⟩, h5.below hb⟩
theorem Cards.at_ {w : World} {A : Option Addr} {n : Nat} {L : List CardR} (h : Cards w A n L) {k : Nat} (hk : k < n) : ∃ b off r, A = some ⟨b, off, none⟩ ∧ b < w.heap.size ∧ L[k]? = some r ∧
  (w.cell? ⟨b, off + k * 4, none⟩ = some (.string r.s) ∧ w.cell? ⟨b, off + k * 4 + 1, none⟩ = some (.slice r.AH r.nh r.ch) ∧ w.cell? ⟨b, off + k * 4 + 2, none⟩ = some (.slice r.AO r.no r.co) ∧ w.cell? ⟨b, off + k * 4 + 3, none⟩ = some (.bool r.rt)) ∧ CardZ w r := by
 obtain ⟨b, off, e, hlt, hc⟩ := h.2 (by omega)
 have hl : k < L.length := by rw [h.1]; exact hk
 exact ⟨b, off, L[k], e, hlt, List.getElem?_eq_getElem hl, hc k L[k] (List.getElem?_eq_getElem hl)⟩
def attC (x y : List UInt8) : Int := if x = y then 0 else if x = [111] then 1 else -1
def offC : List (List UInt8) → List (List UInt8) → Int
 | [], [] => 0
 | [], _ :: _ => -1
 | _ :: _, [] => 1
 | a :: l, b :: m => if attC a b = 0 then offC l m else attC a b
theorem offC_drop {L M : List (List UInt8)} {k : Nat} {a b : List UInt8} (h1 : L[k]? = some a) (h2 : M[k]? = some b) : offC (L.drop k) (M.drop k) = if attC a b = 0 then offC (L.drop (k + 1)) (M.drop (k + 1)) else attC a b := by
 obtain ⟨hk, rfl⟩ := List.getElem?_eq_some_iff.1 h1
 obtain ⟨hk2, rfl⟩ := List.getElem?_eq_some_iff.1 h2
 rw [List.drop_eq_getElem_cons hk, List.drop_eq_getElem_cons hk2, offC]
def cmpOff (x y : List (List UInt8)) (rx ry : Bool) : Int := if offC x y = 0 then (if rx = ry then 0 else if ry then 1 else -1) else offC x y
theorem tl_bl (s : ByteArray) : s.toList = bl s := by rw [ByteArray.toList_eq]
theorem fdCompAtt_any (s t : ByteArray) (w : World) : Calls Tryz.prog 102 #[.string s, .string t] w (RetPost (.int .i64 (attC (bl s) (bl t))) w) := by
 unfold attC
 have c1 : (s.toList == [111]) = decide (bl s = [111]) := by rw [tl_bl, list_beq]
 by_cases h1 : s = t
 ·subst h1
  rw [if_pos rfl]
  have c0 : (s.toList == s.toList) = true := by simp
  go_enter Tryz.func102, Tryz.ntmps102
  go_wp2
  go_ret
  exact ⟨rfl, Below.refl _ _⟩
 ·have hne : ¬ bl s = bl t := fun e => h1 (by
   have : (⟨⟨bl s⟩⟩ : ByteArray) = ⟨⟨bl t⟩⟩ := by rw [e]
   exact this)
  rw [if_neg hne]
  have c0 := tl_ne h1
  by_cases h2 : bl s = [111]
  ·rw [if_pos h2]
   rw [decide_eq_true h2] at c1
   clear h2 hne h1
   go_enter Tryz.func102, Tryz.ntmps102
   go_wp2
   go_ret
   exact ⟨rfl, Below.refl _ _⟩
  ·rw [if_neg h2]
   rw [decide_eq_false h2] at c1
   clear h2 hne h1
   go_enter Tryz.func102, Tryz.ntmps102
   go_wp2
   go_ret
   exact ⟨rfl, Below.refl _ _⟩
theorem bls_get {L : List ByteArray} {k : Nat} {x : ByteArray} (h : L[k]? = some x) : (bls L)[k]? = some (bl x) := by unfold bls; rw [List.getElem?_map, h]; rfl
theorem bls_length (L : List ByteArray) : (bls L).length = L.length := by unfold bls; rw [List.length_map]
theorem slCompareFS_any (L M : List ByteArray) (n c m d : Nat) (A B : Option Addr) (w : World) (hL : TextsZ w A n L) (hM : TextsZ w B m M) (hn : n ≤ 1000) (hm : m ≤ 1000) :
  Calls Tryz.prog 101 #[.slice A n c, .slice B m d, .func (.func 102) #[] #[]] w (RetPost (.int .i64 (offC (bls L) (bls M))) w) := by
 have hni : (n : Int) ≤ 1000 := by omega
 have hmi : (m : Int) ≤ 1000 := by omega
 have H := Lib.hid hL
 have H2 := Lib.hid hM
 have Hn : Hid ((bls L).length = n) := Lib.hid (by rw [bls_length]; exact hL.1)
 have Hm : Hid ((bls M).length = m) := Lib.hid (by rw [bls_length]; exact hM.1)
 obtain ⟨y, hy⟩ : ∃ y, offC (bls L) (bls M) = y := ⟨_, rfl⟩
 rw [hy]
 have HY : Hid (offC ((bls L).drop 0) ((bls M).drop 0) = y) := Lib.hid (by rw [← hy]; rfl)
 clear hL hM hy
 go_enter Tryz.func101, Tryz.ntmps101
 go_wp2
 go_loopw [13] (fun i wr => ∃ k : Nat, k ≤ n ∧ k ≤ m ∧ i = .int .i64 k ∧ Hid (offC ((bls L).drop k) ((bls M).drop k) = y) ∧ Below w.heap.size w wr) (fun i _ => n - (RowKit.intOf i).toNat)
 case atStart => exact ⟨0, by omega, by omega, rfl, HY, Below.refl _ _⟩
 case round =>
  obtain ⟨k, hk, hk2, rfl, HK, hb⟩ := hrel
  have hk0 : (0 : Int) ≤ (k : Int) := by omega
  have hkt : ((k : Int)).toNat = k := by omega
  by_cases hlt : k < n
  ·obtain ⟨b1, o1, x, rfl, _, hx, hcx⟩ := (H.out.below hb).at_ hlt
   have hki : (k : Int) < (n : Int) := by omega
   by_cases hlm : k < m
   ·obtain ⟨b2, o2, z, rfl, _, hz, hcz⟩ := (H2.out.below hb).at_ hlm
    have hkm : ¬ (m : Int) ≤ (k : Int) := by omega
    have hkm2 : (k : Int) < (m : Int) := by omega
    have hst := HK.out
    rw [offC_drop (bls_get hx) (bls_get hz)] at hst
    have hC := fun w => fdCompAtt_any x z w
    obtain ⟨q, hq⟩ : ∃ q, attC (bl x) (bl z) = q := ⟨_, rfl⟩
    rw [hq] at hst hC
    have HB := Lib.hid hb
    clear hx hz hq HK hb
    by_cases h0 : q = 0
    ·subst h0
     rw [if_pos rfl] at hst
     have Hst : Hid (offC ((bls L).drop (k + 1)) ((bls M).drop (k + 1)) = y) := Lib.hid hst
     clear hst
     go_wp2_with fail
     refine (hC _).mono ?_
     rintro e w' ⟨rfl, hb2⟩
     have hb3 := bstep HB.out hb2
     clear hb2
     go_wp2
     exact ⟨⟨k + 1, by omega, by omega, by go_num, Hst, hb3⟩, by simp [RowKit.intOf]; omega⟩
    ·rw [if_neg h0] at hst
     subst hst
     have hne : (q != 0) = true := by rw [bne_iff_ne]; exact h0
     go_wp2_with fail
     refine (hC _).mono ?_
     rintro e w' ⟨rfl, hb2⟩
     have hb3 := bstep HB.out hb2
     clear hb2
     go_wp2
     go_ret
     exact ⟨rfl, hb3⟩
   ·have hkm : (m : Int) ≤ (k : Int) := by omega
    have hst := HK.out
    obtain ⟨hkl, _⟩ := List.getElem?_eq_some_iff.1 (bls_get hx)
    rw [List.drop_eq_getElem_cons hkl, (show (bls M).drop k = [] from List.drop_eq_nil_of_le (by rw [Hm.out]; omega)), offC] at hst
    subst hst
    have HB := Lib.hid hb
    clear hx HK hb
    go_wp2
    go_ret
    exact ⟨rfl, HB.out⟩
  ·have hst := HK.out
   have hki : ¬ (k : Int) < (n : Int) := by omega
   rw [(show (bls L).drop k = [] from List.drop_eq_nil_of_le (by rw [Hn.out]; omega))] at hst
   have HB := Lib.hid hb
   clear HK hb
   by_cases hlm : n < m
   ·have hnm : (n : Int) < (m : Int) := by omega
    have hkl : k < (bls M).length := by rw [Hm.out]; omega
    rw [List.drop_eq_getElem_cons hkl, offC] at hst
    subst hst
    go_wp2
    go_ret
    exact ⟨rfl, HB.out⟩
   ·have hnm : ¬ (n : Int) < (m : Int) := by omega
    rw [(show (bls M).drop k = [] from List.drop_eq_nil_of_le (by rw [Hm.out]; omega)), offC] at hst
    subst hst
    go_wp2
    go_ret
    exact ⟨rfl, HB.out⟩
theorem fdCompOff_any (x y : CardR) (w : World) (hx : CardZ w x) (hy : CardZ w y) (hn : x.no ≤ 1000) (hm : y.no ≤ 1000) :
  Calls Tryz.prog 45 #[x.val, y.val] w (RetPost (.int .i64 (cmpOff (bls x.O) (bls y.O) x.rt y.rt)) w) := by
 obtain ⟨s1, A1, n1, c1, H1, B1, m1, d1, O1, r1⟩ := x
 obtain ⟨s2, A2, n2, c2, H2, B2, m2, d2, O2, r2⟩ := y
 unfold CardR.val
 dsimp only at *
 obtain ⟨g, hg⟩ : ∃ g, w.heap.size = g := ⟨_, rfl⟩
 obtain ⟨w1, hw1⟩ : ∃ w1, (w.alloc (.cells #[.string s1, .slice A1 n1 c1, .slice B1 m1 d1, .bool r1] 94)).alloc (.cells #[.string s2, .slice A2 n2 c2, .slice B2 m2 d2, .bool r2] 94) = w1 := ⟨_, rfl⟩
 have hb1 : Below w.heap.size w w1 := by rw [← hw1]; exact balloc _ (balloc _ (Below.refl _ _))
 have x2 : w1.cell? ⟨g, 2, none⟩ = some (.slice B1 m1 d1) := by rw [← hw1, ← hg]; simp
 have x3 : w1.cell? ⟨g, 3, none⟩ = some (.bool r1) := by rw [← hw1, ← hg]; simp
 have y2 : w1.cell? ⟨g + 1, 2, none⟩ = some (.slice B2 m2 d2) := by rw [← hw1, ← hg]; simp
 have y3 : w1.cell? ⟨g + 1, 3, none⟩ = some (.bool r2) := by rw [← hw1, ← hg]; simp
 have hs1 : g + 1 < w1.heap.size := by rw [← hw1, ← hg]; simp
 have hC := slCompareFS_any O1 O2 m1 d1 m2 d2 B1 B2 w1 (hx.2.2.1.below hb1) (hy.2.2.1.below hb1) hn hm
 have HB1 := Lib.hid hb1
 have HX := Lib.hid (And.intro hs1 (And.intro x3 y3))
 unfold cmpOff
 generalize offC (bls O1) (bls O2) = q at *
 clear hx hy hb1 hs1 x3 y3
 by_cases h0 : q = 0
 ·subst h0
  rw [if_pos rfl]
  obtain ⟨bb, y, hbb, hy, hc⟩ : ∃ (bb : Bool) (y : Int), (r1 == r2) = bb ∧ (if r1 = r2 then (0 : Int) else if r2 = true then 1 else -1) = y ∧ ((bb = true ∧ y = 0) ∨ (bb = false ∧ r2 = true ∧ y = 1) ∨ (bb = false ∧ r2 = false ∧ y = -1)) := by
   refine ⟨_, _, rfl, rfl, ?_⟩
   cases r1 <;> cases r2 <;> decide
  rw [hy]
  clear hy
  rcases hc with ⟨rfl, rfl⟩ | ⟨rfl, rfl, rfl⟩ | ⟨rfl, rfl, rfl⟩
  all_goals
   go_enter Tryz.func45, Tryz.ntmps45
   go_wp2_with fail
   refine hC.mono ?_
   rintro e w2 ⟨rfl, hb2⟩
   have hfin := bstep HB1.out hb2
   obtain ⟨h1, h2, h3⟩ := HX.out
   have z3 := (hb2.cell (p := ⟨g, 3, none⟩) (by show g < _; omega)).trans h2
   have z4 := (hb2.cell (p := ⟨g + 1, 3, none⟩) h1).trans h3
   clear hb2 h1 h2 h3 x2 y2 hw1 hg HX HB1 hC
   go_wp2
   go_ret
   exact ⟨rfl, hfin⟩
 ·rw [if_neg h0]
  have hne : (q != 0) = true := by rw [bne_iff_ne]; exact h0
  go_enter Tryz.func45, Tryz.ntmps45
  go_wp2_with fail
  refine hC.mono ?_
  rintro e w2 ⟨rfl, hb2⟩
  have hfin := bstep HB1.out hb2
  clear hb2
  go_wp2
  go_ret
  exact ⟨rfl, hfin⟩
end Go.Mk
