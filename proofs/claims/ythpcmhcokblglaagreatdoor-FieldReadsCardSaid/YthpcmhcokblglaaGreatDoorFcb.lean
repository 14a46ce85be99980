/-
  Proved: inARow, heightTextError, offTextError and placeError of package field as plain functions of the texts. Conditions: the texts lie where the slice says; there are at most 5,000 of at most 5,000 bytes.
-/
import Derived.Test.YthpcmhcokblglaaGreatDoorFca
set_option linter.unusedVariables false
set_option linter.unusedSimpArgs false
open Go Go.Proofs Go.RowKit
set_option maxRecDepth 100000
namespace Go.Mk
abbrev bl (s : ByteArray) : List UInt8 := s.data.toList
def bls (L : List ByteArray) : List (List UInt8) := L.map bl
/-- What stands behind the failures at the beginning. -/
def endL (l : List UInt8) : List UInt8 := l.drop (nxL l)
theorem endX_list (s : ByteArray) : (endX s).toList = endL (bl s) := by
  rw [ByteArray.toList_eq]
  unfold endX endL
  rw [ByteArray.data_extract, Array.toList_extract]
  show List.take (s.size - nx s) (List.drop (nx s) (bl s)) = _
  rw [List.take_of_length_le]
  · rfl
  · rw [List.length_drop, Array.length_toList]
    exact Nat.le_refl _
/-- The failures in a row at the end of texts. -/
def rowGo : Nat → List (List UInt8) → Nat
  | r, [] => r
  | r, t :: l => rowGo (if endL t = [111] then 0 else r + nxL t) l
theorem bls_at {L : List ByteArray} {k : Nat} {x : ByteArray} (h : L[k]? = some x) : (bls L).drop k = bl x :: (bls L).drop (k + 1) := by
  have h1 : (bls L)[k]? = some (bl x) := by unfold bls; rw [List.getElem?_map, h]; rfl
  obtain ⟨h2, h3⟩ := List.getElem?_eq_some_iff.1 h1
  rw [List.drop_eq_getElem_cons h2, h3]
theorem bls_end {L : List ByteArray} {k n : Nat} (hn : L.length = n) (h : n ≤ k) : (bls L).drop k = [] := List.drop_eq_nil_of_le (by unfold bls; rw [List.length_map]; omega)
theorem list_beq (a b : List UInt8) : (a == b) = decide (a = b) := by
  by_cases h : a = b
  · subst h; simp
  · rw [decide_eq_false h, beq_eq_false_iff_ne]; exact h
set_option maxHeartbeats 4000000 in
theorem fdInARow_any (L : List ByteArray) (n cap : Nat) (A : Option Addr) (w : World) (hZ : TextsZ w A n L) (hn : n ≤ 5000) (hs : ∀ x ∈ L, x.size ≤ 5000) :
    Calls Tryz.prog 181 #[.slice A n cap] w (RetPost (.int .i64 (rowGo 0 (bls L))) w) := by
  have hni : (n : Int) ≤ 5000 := by omega
  have H := Lib.hid hZ
  have Hn := Lib.hid hZ.1
  have HS := Lib.hid hs
  obtain ⟨y, hy⟩ : ∃ y, rowGo 0 (bls L) = y := ⟨_, rfl⟩
  rw [hy]
  have HY : Hid (rowGo 0 ((bls L).drop 0) = y) := by rw [← hy]; rfl
  clear hZ hy hs
  go_enter Tryz.func181, Tryz.ntmps181
  go_wp2
  go_loopw [3, 10] (fun rv i wr => ∃ k r : Nat, k ≤ n ∧ i = .int .i64 k ∧ rv = .int .i64 r ∧ r ≤ k * 5000 ∧ Hid (rowGo r ((bls L).drop k) = y) ∧ Below w.heap.size w wr) (fun _ i _ => n - (intOf i).toNat)
  case atStart => exact ⟨0, 0, by omega, rfl, rfl, by omega, HY, Below.refl _ _⟩
  case round =>
    obtain ⟨k, r, hk, rfl, rfl, hr, HK, hb⟩ := hrel
    by_cases hlt : k < n
    · obtain ⟨b, off, x, rfl, hbl, hx, hcx⟩ := (H.out.below hb).at_ hlt
      have hxs := HS.out x (List.mem_of_getElem? hx)
      have hst := HK.out
      rw [bls_at hx, rowGo] at hst
      have hki : (k : Int) < (n : Int) := by omega
      have hC := fdSplit_any x wr (by unfold maxLen; omega)
      have hcmp : ((endX x).toList == [111]) = decide (endL (bl x) = [111]) := by rw [endX_list, list_beq]
      have hf := nx_le x
      have hfe : nxL (bl x) = nx x := rfl
      rw [hfe] at hst
      have Hr := Lib.hid hr
      generalize nx x = f at *
      have hfi : (f : Int) ≤ 5000 := by omega
      have hri : (r : Int) ≤ 25000000 := by have : k * 5000 ≤ 5000 * 5000 := Nat.mul_le_mul_right _ (by omega); omega
      have hf0 : (0 : Int) ≤ (f : Int) := by omega
      have hr0 : (0 : Int) ≤ (r : Int) := by omega
      generalize endX x = ex at *
      by_cases g : endL (bl x) = [111]
      · rw [if_pos g] at hst
        have HST : Hid (rowGo 0 ((bls L).drop (k + 1)) = y) := hst
        rw [decide_eq_true g] at hcmp
        clear hst hx HK hfe hf hr g hxs
        go_wp2_with fail
        refine hC.mono ?_
        rintro e w' ⟨rfl, hb2⟩
        have hb3 := bstep hb hb2
        clear hb2 hcx
        go_wp2
        go_roundw
        case rel => exact ⟨k + 1, 0, by omega, by go_num, rfl, by omega, HST, hb3⟩
        case measure => simp [intOf]; omega
      · rw [if_neg g] at hst
        have HST : Hid (rowGo (r + f) ((bls L).drop (k + 1)) = y) := hst
        rw [decide_eq_false g] at hcmp
        have HF : Hid (f ≤ 5000) := Lib.hid (by omega)
        clear hst hx HK hfe hf hr g hxs
        go_wp2_with fail
        refine hC.mono ?_
        rintro e w' ⟨rfl, hb2⟩
        have hb3 := bstep hb hb2
        clear hb2 hcx
        go_wp2
        go_roundw
        case rel => exact ⟨k + 1, r + f, by omega, by go_num, by go_num, by have := Hr.out; have := HF.out; omega, HST, hb3⟩
        case measure => simp [intOf]; omega
    · have hkn : k = n := by omega
      have h0 := HK.out
      rw [bls_end Hn.out (by omega), rowGo] at h0
      subst h0
      go_wp2
      go_ret
      exact ⟨rfl, hb⟩
/-- The error of a text of a height. -/
def htE (t : List UInt8) : Int := if (endL t = [] ∨ endL t = [111] ∨ endL t = [45]) ∧ 1 ≤ t.length ∧ t.length ≤ 3 then 0 else 1
/-- The error of a text of a jump-off. -/
def ofE (t : List UInt8) : Int := if t = [111] ∨ t = [120] then 0 else 1
theorem empty_list (s : ByteArray) : s.toList.isEmpty = decide (bl s = []) := by
  rw [ByteArray.toList_eq]
  show (bl s).isEmpty = _
  cases bl s <;> simp
set_option maxHeartbeats 4000000 in
theorem fdHeightText_any (k : Int) (x : ByteArray) (w : World) (hz : x.size ≤ maxLen) : Calls Tryz.prog 112 #[.int .i64 k, .string x] w (RetPost (.int .i64 (htE (bl x))) w) := by
  have hml : maxLen = 9223372036854775807 := rfl
  have hsz : (x.size : Int) ≤ 9223372036854775807 := by omega
  have hC := fdSplit_any x w hz
  have hW := fun b w => trWhen_any b 1 w
  have c0 : (endX x).toList.isEmpty = decide (endL (bl x) = []) := by rw [empty_list, ← endX_list, ByteArray.toList_eq]
  have c1 : ((endX x).toList == [111]) = decide (endL (bl x) = [111]) := by rw [endX_list, list_beq]
  have c2 : ((endX x).toList == [45]) = decide (endL (bl x) = [45]) := by rw [endX_list, list_beq]
  have hlen : (bl x).length = x.size := Array.length_toList
  obtain ⟨y, hy⟩ : ∃ y, htE (bl x) = y := ⟨_, rfl⟩
  rw [hy]
  unfold htE at hy
  rw [hlen] at hy
  have hcase : ∀ bk : Bool, bk = (decide (endL (bl x) = []) || (decide (endL (bl x) = [111]) || decide (endL (bl x) = [45]))) →
     (if bk = true ∧ 1 ≤ x.size ∧ x.size ≤ 3 then (0 : Int) else 1) = y := fun bk e => by
    rw [← hy]
    congr 1
    rw [e]
    simp
  generalize decide (endL (bl x) = []) = b0 at *
  generalize decide (endL (bl x) = [111]) = b1 at *
  generalize decide (endL (bl x) = [45]) = b2 at *
  clear hy hlen
  generalize nx x = f at *
  generalize endX x = ex at *
  have HC := Lib.hid hcase
  clear hcase hz hml
  have hL : (decide ((x.size : Int) < 1) = true ∧ x.size < 1) ∨ (decide ((x.size : Int) < 1) = false ∧ decide ((3 : Int) < x.size) = true ∧ 3 < x.size) ∨ (decide ((x.size : Int) < 1) = false ∧ decide ((3 : Int) < x.size) = false ∧ 1 ≤ x.size ∧ x.size ≤ 3) := by
    by_cases h1 : (x.size : Int) < 1
    · exact .inl ⟨decide_eq_true h1, by omega⟩
    · by_cases h2 : (3 : Int) < x.size
      · exact .inr (.inl ⟨decide_eq_false h1, decide_eq_true h2, by omega⟩)
      · exact .inr (.inr ⟨decide_eq_false h1, decide_eq_false h2, by omega, by omega⟩)
  cases b0 <;> cases b1 <;> cases b2 <;> rcases hL with ⟨l1, l3⟩ | ⟨l1, l2, l3⟩ | ⟨l1, l2, l3, l4⟩
  all_goals
    have hq := HC.out _ rfl
    first
      | (rw [if_neg (by intro q; revert q; simp; try omega)] at hq
         subst hq
         clear HC l3
         try clear l4
         go_enter Tryz.func112, Tryz.ntmps112
         go_wp2_with fail
         refine hC.mono ?_
         rintro e w1 ⟨rfl, hb1⟩
         go_wp2_with fail
         refine (hW true _).mono ?_
         rintro e w2 ⟨rfl, rfl⟩
         go_wp2
         go_ret
         exact ⟨rfl, hb1⟩)
      | (rw [if_pos (by refine ⟨rfl, ?_, ?_⟩ <;> omega)] at hq
         subst hq
         clear HC l3
         try clear l4
         go_enter Tryz.func112, Tryz.ntmps112
         go_wp2_with fail
         refine hC.mono ?_
         rintro e w1 ⟨rfl, hb1⟩
         go_wp2_with fail
         refine (hW false _).mono ?_
         rintro e w2 ⟨rfl, rfl⟩
         go_wp2
         go_ret
         exact ⟨rfl, hb1⟩)
set_option maxHeartbeats 4000000 in
theorem fdOffText_any (k : Int) (x : ByteArray) (w : World) : Calls Tryz.prog 113 #[.int .i64 k, .string x] w (RetPost (.int .i64 (ofE (bl x))) w) := by
  have hW := fun b w => trWhen_any b 1 w
  have c1 : (x.toList == [111]) = decide (bl x = [111]) := by rw [ByteArray.toList_eq, list_beq]
  have c2 : (x.toList == [120]) = decide (bl x = [120]) := by rw [ByteArray.toList_eq, list_beq]
  obtain ⟨y, hy⟩ : ∃ y, ofE (bl x) = y := ⟨_, rfl⟩
  rw [hy]
  unfold ofE at hy
  by_cases g1 : bl x = [111]
  · rw [if_pos (.inl g1)] at hy
    rw [decide_eq_true g1] at c1
    subst hy
    clear c2 g1
    go_enter Tryz.func113, Tryz.ntmps113
    go_wp2_with fail
    refine (hW false _).mono ?_
    rintro e w2 ⟨rfl, rfl⟩
    go_wp2
    go_ret
    exact ⟨rfl, Below.refl _ _⟩
  · rw [decide_eq_false g1] at c1
    by_cases g2 : bl x = [120]
    · rw [if_pos (.inr g2)] at hy
      rw [decide_eq_true g2] at c2
      subst hy
      clear g1 g2
      go_enter Tryz.func113, Tryz.ntmps113
      go_wp2_with fail
      refine (hW false _).mono ?_
      rintro e w2 ⟨rfl, rfl⟩
      go_wp2
      go_ret
      exact ⟨rfl, Below.refl _ _⟩
    · rw [if_neg (by rintro (q | q); exact g1 q; exact g2 q)] at hy
      rw [decide_eq_false g2] at c2
      subst hy
      clear g1 g2
      go_enter Tryz.func113, Tryz.ntmps113
      go_wp2_with fail
      refine (hW true _).mono ?_
      rintro e w2 ⟨rfl, rfl⟩
      go_wp2
      go_ret
      exact ⟨rfl, Below.refl _ _⟩
end Go.Mk
