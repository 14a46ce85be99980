/-
  Proved: cmp.Compare of integers and slices.Compare of two lists of integers as plain functions. Conditions: the integers lie where the slices say, at most 1,000 in the first list.
-/
import Derived.Test.YtclapdfkgafenaaGreatDoorFee
set_option linter.unusedVariables false
set_option linter.unusedSimpArgs false
open Go Go.Proofs Go.RowKit
set_option maxRecDepth 100000
namespace Go.Mk
def cmpZ (a b : Int) : Int := if a < b then -1 else if b < a then 1 else 0
def cmpL : List Int → List Int → Int
  | [], [] => 0
  | [], _ :: _ => -1
  | _ :: _, [] => 1
  | a :: l, b :: m => if cmpZ a b = 0 then cmpL l m else cmpZ a b
theorem cmpL_drop {L M : List Int} {k : Nat} {a b : Int} (h1 : L[k]? = some a) (h2 : M[k]? = some b) : cmpL (L.drop k) (M.drop k) = if cmpZ a b = 0 then cmpL (L.drop (k + 1)) (M.drop (k + 1)) else cmpZ a b := by
  obtain ⟨hk, rfl⟩ := List.getElem?_eq_some_iff.1 h1
  obtain ⟨hk2, rfl⟩ := List.getElem?_eq_some_iff.1 h2
  rw [List.drop_eq_getElem_cons hk, List.drop_eq_getElem_cons hk2, cmpL]
set_option maxHeartbeats 1000000 in
theorem cmpInt_any (a b : Int) (w : World) : Calls Tryz.prog 103 #[.int .i64 a, .int .i64 b] w (RetPost (.int .i64 (cmpZ a b)) w) := by
  unfold cmpZ
  by_cases h1 : a < b
  · rw [if_pos h1]
    go_enter Tryz.func103, Tryz.ntmps103
    go_wp2
    go_ret
    exact ⟨rfl, Below.refl _ _⟩
  · rw [if_neg h1]
    by_cases h2 : b < a
    · rw [if_pos h2]
      go_enter Tryz.func103, Tryz.ntmps103
      go_wp2
      go_ret
      exact ⟨rfl, Below.refl _ _⟩
    · rw [if_neg h2]
      go_enter Tryz.func103, Tryz.ntmps103
      go_wp2
      go_ret
      exact ⟨rfl, Below.refl _ _⟩
set_option maxHeartbeats 4000000 in
theorem slCompareI_any (L M : List Int) (n c m d : Nat) (A B : Option Addr) (w : World) (hL : IntsZ w A n L) (hM : IntsZ w B m M) (hn : n ≤ 1000) (hm : m ≤ 1000) :
    Calls Tryz.prog 97 #[.slice A n c, .slice B m d] w (RetPost (.int .i64 (cmpL L M)) w) := by
  have hni : (n : Int) ≤ 1000 := by omega
  have hmi : (m : Int) ≤ 1000 := by omega
  have H := Lib.hid hL
  have H2 := Lib.hid hM
  have Hn := Lib.hid hL.1
  have Hm := Lib.hid hM.1
  obtain ⟨y, hy⟩ : ∃ y, cmpL L M = y := ⟨_, rfl⟩
  rw [hy]
  have HY : Hid (cmpL (L.drop 0) (M.drop 0) = y) := Lib.hid (by rw [← hy]; rfl)
  clear hL hM hy
  go_enter Tryz.func97, Tryz.ntmps97
  go_wp2
  go_loopw [11] (fun i wr => ∃ k : Nat, k ≤ n ∧ k ≤ m ∧ i = .int .i64 k ∧ Hid (cmpL (L.drop k) (M.drop k) = y) ∧ Below w.heap.size w wr) (fun i _ => n - (RowKit.intOf i).toNat)
  case atStart => exact ⟨0, by omega, by omega, rfl, HY, Below.refl _ _⟩
  case round =>
    obtain ⟨k, hk, hk2, rfl, HK, hb⟩ := hrel
    have hk0 : (0 : Int) ≤ (k : Int) := by omega
    have hkt : ((k : Int)).toNat = k := by omega
    by_cases hlt : k < n
    · obtain ⟨b1, o1, x, rfl, _, hx, hcx⟩ := (H.out.below hb).cellAt hlt
      have hki : (k : Int) < (n : Int) := by omega
      by_cases hlm : k < m
      · obtain ⟨b2, o2, z, rfl, _, hz, hcz⟩ := (H2.out.below hb).cellAt hlm
        have hkm : ¬ (m : Int) ≤ (k : Int) := by omega
        have hkm2 : (k : Int) < (m : Int) := by omega
        have hst := HK.out
        rw [cmpL_drop hx hz] at hst
        have hC := fun w => cmpInt_any x z w
        obtain ⟨q, hq⟩ : ∃ q, cmpZ x z = q := ⟨_, rfl⟩
        rw [hq] at hst hC
        have HB := Lib.hid hb
        clear hx hz hq HK hb
        by_cases h0 : q = 0
        · subst h0
          rw [if_pos rfl] at hst
          have Hst : Hid (cmpL (L.drop (k + 1)) (M.drop (k + 1)) = y) := Lib.hid hst
          clear hst
          go_wp2_with fail
          refine (hC _).mono ?_
          rintro e w' ⟨rfl, hb2⟩
          have hb3 := bstep HB.out hb2
          clear hb2
          go_wp2
          exact ⟨⟨k + 1, by omega, by omega, by go_num, Hst, hb3⟩, by simp [RowKit.intOf]; omega⟩
        · rw [if_neg h0] at hst
          subst hst
          have hne : (q != 0) = true := by rw [bne_iff_ne]; exact h0
          go_wp2_with fail
          refine (hC _).mono ?_
          rintro e w' ⟨rfl, hb2⟩
          have hb3 := bstep HB.out hb2
          clear hb2
          go_wp2
          go_ret
          exact ⟨rfl, hb3⟩
      · have hkm : (m : Int) ≤ (k : Int) := by omega
        have hst := HK.out
        obtain ⟨hkl, _⟩ := List.getElem?_eq_some_iff.1 hx
        rw [List.drop_eq_getElem_cons hkl, (show M.drop k = [] from List.drop_eq_nil_of_le (by rw [Hm.out]; omega)), cmpL] at hst
        subst hst
        have HB := Lib.hid hb
        clear hx HK hb
        go_wp2
        go_ret
        exact ⟨rfl, HB.out⟩
    · have hst := HK.out
      have hki : ¬ (k : Int) < (n : Int) := by omega
      rw [(show L.drop k = [] from List.drop_eq_nil_of_le (by rw [Hn.out]; omega))] at hst
      have HB := Lib.hid hb
      clear HK hb
      by_cases hlm : n < m
      · have hnm : (n : Int) < (m : Int) := by omega
        have hkl : k < M.length := by rw [Hm.out]; omega
        rw [List.drop_eq_getElem_cons hkl, cmpL] at hst
        subst hst
        go_wp2
        go_ret
        exact ⟨rfl, HB.out⟩
      · have hnm : ¬ (n : Int) < (m : Int) := by omega
        rw [(show M.drop k = [] from List.drop_eq_nil_of_le (by rw [Hm.out]; omega)), cmpL] at hst
        subst hst
        go_wp2
        go_ret
        exact ⟨rfl, HB.out⟩
end Go.Mk
