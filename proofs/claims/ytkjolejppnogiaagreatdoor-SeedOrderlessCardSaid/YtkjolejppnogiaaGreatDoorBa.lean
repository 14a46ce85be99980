/-
  Proved: the small error functions of package seed, and those of the reference and the law (first, when, rangeError and the like), return the first error. Conditions: the errors lie where the slice says.
-/
import Derived.Test.YtkjolejppnogiaaGreatDoorProg
import Derived.Test.YtkjolejppnogiaaGreatDoorRow
import Derived.OwnWalk
import Derived.Lib.Hide
import Derived.LoopTactic
import Derived.BigRegion
import Derived.BigQuiet
import Derived.Lib.QuietBelow
set_option linter.unusedVariables false
set_option linter.unusedSimpArgs false
open Go Go.Proofs Go.RowKit
set_option maxRecDepth 100000
namespace Go.Mk
def RetPost (v : Value) (w : World) (e : Ending) (w' : World) : Prop := e = .returned v ∧ Below w.heap.size w w'
/-- Returned, and the world is as before. -/
def RetSame (v : Value) (w : World) (e : Ending) (w' : World) : Prop := e = .returned v ∧ w = w'
theorem infoInt : (Tryz.prog.info? 3).map (fun i => (i.zero, i.size, i.bytes)) = some (some (.int .i64 0), 1, 8) := by kernel_rfl
/-- The first number of a list that is not 0, or 0. -/
def fstN : List Int → Int
  | [] => 0
  | x :: l => if x = 0 then fstN l else x
/-- The integers of a list lie in the first cells of a block. -/
def Es (w : World) (g : Nat) (L : List Int) : Prop := ∀ (i : Nat) (z : Int), L[i]? = some z → w.cell? ⟨g, i, none⟩ = some (.int .i64 z)
theorem fstN_drop (L : List Int) (k : Nat) (z : Int) (h : L[k]? = some z) : fstN (L.drop k) = if z = 0 then fstN (L.drop (k + 1)) else z := by
  obtain ⟨hk, e⟩ := List.getElem?_eq_some_iff.1 h
  rw [List.drop_eq_getElem_cons hk, e, fstN]
theorem es_get {w : World} {g : Nat} {L : List Int} (h : Es w g L) {k : Nat} (hk : k < L.length) : ∃ z, L[k]? = some z ∧ w.cell? ⟨g, k, none⟩ = some (.int .i64 z) :=
  ⟨L[k], List.getElem?_eq_getElem hk, h k _ (List.getElem?_eq_getElem hk)⟩

set_option maxHeartbeats 1000000 in
theorem seedFirst_any (L : List Int) (n : Nat) (hn : L.length = n) (hs : n ≤ 100) (g : Nat) (w : World) (h : Es w g L) :
    Calls Tryz.prog 62 #[.slice (some ⟨g, 0, none⟩) n n] w (RetSame (.int .i64 (fstN L)) w) := by
  have H := Lib.hid h
  have Hn := Lib.hid hn
  have hni : (n : Int) ≤ 100 := by omega
  obtain ⟨y, hy⟩ : ∃ y, fstN L = y := ⟨_, rfl⟩
  rw [hy]
  have HY : Hid (fstN (L.drop 0) = y) := by rw [← hy]; rfl
  clear h hn hs hy
  go_enter Tryz.func62, Tryz.ntmps62
  go_wp2
  go_loop [7] (fun i => ∃ k : Nat, k ≤ n ∧ i = .int .i64 k ∧ Hid (fstN (L.drop k) = y)) (fun i => n - (intOf i).toNat)
  case atStart => exact ⟨0, by omega, rfl, HY⟩
  case round =>
    obtain ⟨k, hk, rfl, HK⟩ := hrel
    by_cases hlt : k < n
    · obtain ⟨z, hz, hc⟩ := es_get H.out (k := k) (by rw [Hn.out]; exact hlt)
      have hst := fstN_drop L k z hz
      rw [HK.out] at hst
      have hki : (k : Int) < (n : Int) := by omega
      by_cases h0 : z = 0
      · subst h0
        rw [if_pos rfl] at hst
        have Hst : Hid (fstN (L.drop (k + 1)) = y) := hst.symm
        clear hst hz HK
        go_wp2
        exact ⟨⟨k + 1, by omega, by go_num, Hst⟩, by simp [intOf]; omega⟩
      · rw [if_neg h0] at hst
        subst hst
        have hb : (y != 0) = true := by rw [bne_iff_ne]; exact h0
        clear hz HK HY
        go_wp2
        go_ret
        exact ⟨rfl, rfl⟩
    · have hkn : k = n := by omega
      have h0 := HK.out
      rw [hkn, List.drop_of_length_le (by rw [Hn.out]; omega)] at h0
      have h0' : 0 = y := h0
      subst h0'
      go_wp2
      go_ret
      exact ⟨rfl, rfl⟩

set_option maxHeartbeats 1000000 in
theorem l4first_any (L : List Int) (n : Nat) (hn : L.length = n) (hs : n ≤ 100) (g : Nat) (w : World) (h : Es w g L) :
    Calls Tryz.prog 19 #[.slice (some ⟨g, 0, none⟩) n n] w (RetSame (.int .i64 (fstN L)) w) := by
  have H := Lib.hid h
  have Hn := Lib.hid hn
  have hni : (n : Int) ≤ 100 := by omega
  obtain ⟨y, hy⟩ : ∃ y, fstN L = y := ⟨_, rfl⟩
  rw [hy]
  have HY : Hid (fstN (L.drop 0) = y) := by rw [← hy]; rfl
  clear h hn hs hy
  go_enter Tryz.func19, Tryz.ntmps19
  go_wp2
  go_loop [3] (fun i => ∃ k : Nat, k ≤ n ∧ i = .int .i64 k ∧ Hid (fstN (L.drop k) = y)) (fun i => n - (intOf i).toNat)
  case atStart => exact ⟨0, by omega, rfl, HY⟩
  case round =>
    obtain ⟨k, hk, rfl, HK⟩ := hrel
    by_cases hlt : k < n
    · obtain ⟨z, hz, hc⟩ := es_get H.out (k := k) (by rw [Hn.out]; exact hlt)
      have hst := fstN_drop L k z hz
      rw [HK.out] at hst
      have hki : (k : Int) < (n : Int) := by omega
      by_cases h0 : z = 0
      · subst h0
        rw [if_pos rfl] at hst
        have Hst : Hid (fstN (L.drop (k + 1)) = y) := hst.symm
        clear hst hz HK
        go_wp2
        exact ⟨⟨k + 1, by omega, by go_num, Hst⟩, by simp [intOf]; omega⟩
      · rw [if_neg h0] at hst
        subst hst
        have hb : (y != 0) = true := by rw [bne_iff_ne]; exact h0
        clear hz HK HY
        go_wp2
        go_ret
        exact ⟨rfl, rfl⟩
    · have hkn : k = n := by omega
      have h0 := HK.out
      rw [hkn, List.drop_of_length_le (by rw [Hn.out]; omega)] at h0
      have h0' : 0 = y := h0
      subst h0'
      go_wp2
      go_ret
      exact ⟨rfl, rfl⟩

set_option maxHeartbeats 400000 in
theorem seedWhen_any (b : Bool) (e : Int) (w : World) : Calls Tryz.prog 77 #[.bool b, .int .i64 e] w (RetSame (.int .i64 (if b then e else 0)) w) := by
  cases b
  · go_enter Tryz.func77, Tryz.ntmps77
    go_wp2
    go_ret
    exact ⟨rfl, rfl⟩
  · go_enter Tryz.func77, Tryz.ntmps77
    go_wp2
    go_ret
    exact ⟨rfl, rfl⟩
/-- The error of a number that is to be in a range. -/
def rngE (n lo hi : Int) : Int := if n < lo ∨ hi < n then 3 else 0
set_option maxHeartbeats 1000000 in
theorem seedRange_any (n lo hi : Int) (w : World) : Calls Tryz.prog 110 #[.int .i64 n, .int .i64 lo, .int .i64 hi] w (RetSame (.int .i64 (rngE n lo hi)) w) := by
  have hw := fun b => seedWhen_any b 3 w
  unfold rngE
  by_cases h1 : n < lo
  · rw [if_pos (.inl h1)]
    go_enter Tryz.func110, Tryz.ntmps110
    go_wp2_with fail
    refine (hw true).mono ?_
    rintro e w' ⟨rfl, rfl⟩
    go_wp2
    go_ret
    exact ⟨rfl, rfl⟩
  · by_cases h2 : hi < n
    · rw [if_pos (.inr h2)]
      go_enter Tryz.func110, Tryz.ntmps110
      go_wp2_with fail
      refine (hw true).mono ?_
      rintro e w' ⟨rfl, rfl⟩
      go_wp2
      go_ret
      exact ⟨rfl, rfl⟩
    · rw [if_neg (by omega)]
      go_enter Tryz.func110, Tryz.ntmps110
      go_wp2_with fail
      refine (hw false).mono ?_
      rintro e w' ⟨rfl, rfl⟩
      go_wp2
      go_ret
      exact ⟨rfl, rfl⟩
set_option maxHeartbeats 400000 in
theorem athletesError_any (n : Int) (w : World) : Calls Tryz.prog 72 #[.int .i64 n] w (RetSame (.int .i64 (rngE n 0 160)) w) := by
  have h := seedRange_any n 0 160 w
  go_enter Tryz.func72, Tryz.ntmps72
  go_wp2_with fail
  refine h.mono ?_
  rintro e w' ⟨rfl, rfl⟩
  go_wp2
  go_ret
  exact ⟨rfl, rfl⟩
set_option maxHeartbeats 400000 in
theorem heatsError_any (n : Int) (w : World) : Calls Tryz.prog 73 #[.int .i64 n] w (RetSame (.int .i64 (rngE n 1 16)) w) := by
  have h := seedRange_any n 1 16 w
  go_enter Tryz.func73, Tryz.ntmps73
  go_wp2_with fail
  refine h.mono ?_
  rintro e w' ⟨rfl, rfl⟩
  go_wp2
  go_ret
  exact ⟨rfl, rfl⟩
set_option maxHeartbeats 400000 in
theorem lanesError_any (n : Int) (w : World) : Calls Tryz.prog 95 #[.int .i64 n] w (RetSame (.int .i64 (rngE n 1 10)) w) := by
  have h := seedRange_any n 1 10 w
  go_enter Tryz.func95, Tryz.ntmps95
  go_wp2_with fail
  refine h.mono ?_
  rintro e w' ⟨rfl, rfl⟩
  go_wp2
  go_ret
  exact ⟨rfl, rfl⟩
set_option maxHeartbeats 400000 in
theorem r4outside_any (n lo hi : Int) (w : World) : Calls Tryz.prog 71 #[.int .i64 n, .int .i64 lo, .int .i64 hi] w (RetSame (.bool (decide (n < lo) || decide (hi < n))) w) := by
  by_cases h1 : n < lo
  · go_enter Tryz.func71, Tryz.ntmps71
    go_wp2
    go_ret
    exact ⟨by simp [h1], rfl⟩
  · go_enter Tryz.func71, Tryz.ntmps71
    go_wp2
    go_ret
    exact ⟨by rw [show decide (n < lo) = false from decide_eq_false (by omega)]; rfl, rfl⟩
set_option maxHeartbeats 400000 in
theorem r4Outside_any (n lo hi : Int) (w : World) : Calls Tryz.prog 20 #[.int .i64 n, .int .i64 lo, .int .i64 hi] w (RetSame (.int .i64 (rngE n lo hi)) w) := by
  have h := r4outside_any n lo hi w
  unfold rngE
  by_cases h1 : n < lo ∨ hi < n
  · rw [show (decide (n < lo) || decide (hi < n)) = true from by simpa using h1] at h
    rw [if_pos h1]
    go_enter Tryz.func20, Tryz.ntmps20
    go_wp2_with fail
    refine h.mono ?_
    rintro e w' ⟨rfl, rfl⟩
    go_wp2
    go_ret
    exact ⟨rfl, rfl⟩
  · rw [show (decide (n < lo) || decide (hi < n)) = false from by simp; omega] at h
    rw [if_neg h1]
    go_enter Tryz.func20, Tryz.ntmps20
    go_wp2_with fail
    refine h.mono ?_
    rintro e w' ⟨rfl, rfl⟩
    go_wp2
    go_ret
    exact ⟨rfl, rfl⟩
end Go.Mk
