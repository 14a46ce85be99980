/-
  Proved: mark.countBetter returns how many marks of a list are better than one. Condition: the list lies where the slice says.
-/
import Derived.Test.YtapglbjojpkblaaGreatDoorMl
set_option linter.unusedVariables false
set_option linter.unusedSimpArgs false
open Go Go.Proofs Go.RowKit
set_option maxRecDepth 100000
namespace Go.Mk
/-- One value is better than another one: the lesser one (b), or the greater one. -/
def betterB (b : Bool) (v x : Int) : Bool := if b then decide (v < x) else decide (x < v)
def isBetter (b : Bool) (x : Int) (m : ByteArray × Int × ByteArray) : Bool := !(m.1.toList == [110, 111, 110, 101]) && betterB b m.2.1 x
/-- How many marks of a list are better than a value. -/
def cntB (b : Bool) (x : Int) (L : List (ByteArray × Int × ByteArray)) : Nat := (L.filter (isBetter b x)).length
theorem cntB_take (b : Bool) (x : Int) (L : List (ByteArray × Int × ByteArray)) (k : Nat) (m : ByteArray × Int × ByteArray) (h : L[k]? = some m) : cntB b x (L.take (k + 1)) = cntB b x (L.take k) + if isBetter b x m then 1 else 0 := by
  obtain ⟨hk, e⟩ := List.getElem?_eq_some_iff.1 h
  unfold cntB
  rw [List.take_succ_eq_append_getElem hk, e, List.filter_append, List.length_append]
  cases hb : isBetter b x m <;> simp [List.filter_cons, hb]
theorem cntB_le (b : Bool) (x : Int) (L : List (ByteArray × Int × ByteArray)) (k : Nat) : cntB b x (L.take k) ≤ k :=
  Nat.le_trans (List.length_filter_le _ _) (List.length_take_le _ _)

set_option maxHeartbeats 1000000 in
theorem countBetter_less (L : List (ByteArray × Int × ByteArray)) (n cap : Nat) (A : Option Addr) (B : Nat) (lo hi : Int) (f2 f4 f5 f6 : Nat) (s r : ByteArray) (x : Int) (w : World) (hM : Marks w B A n L) (hsm : n ≤ 300) :
    Calls Tryz.prog 38 #[.agg #[.int .i64 lo, .int .i64 hi, .func (.func f2) #[] #[], .func (.func 77) #[] #[], .func (.func f4) #[] #[], .func (.func f5) #[] #[], .func (.func f6) #[] #[]], .slice A n cap, .agg #[.string s, .int .i64 x, .string r]] w (RetPost (.int .i64 (cntB true x L : Nat)) w) := by
  have hn0 : (n : Int) ≤ 300 := by omega
  have hb00 : Below w.heap.size w ((w.alloc (.cells #[.int .i64 lo, .int .i64 hi, .func (.func f2) #[] #[], .func (.func 77) #[] #[], .func (.func f4) #[] #[], .func (.func f5) #[] #[], .func (.func f6) #[] #[]] 79)).alloc (.cells #[.string s, .int .i64 x, .string r] 32)) := ((Below.refl w.heap.size w).alloc (Nat.le_refl _) _).alloc (by simp) _
  have hK : ((w.alloc (.cells #[.int .i64 lo, .int .i64 hi, .func (.func f2) #[] #[], .func (.func 77) #[] #[], .func (.func f4) #[] #[], .func (.func f5) #[] #[], .func (.func f6) #[] #[]] 79)).alloc (.cells #[.string s, .int .i64 x, .string r] 32)).cell? ⟨w.heap.size, 3, none⟩ = some (.func (.func 77) #[] #[]) := by simp
  have hX : ((w.alloc (.cells #[.int .i64 lo, .int .i64 hi, .func (.func f2) #[] #[], .func (.func 77) #[] #[], .func (.func f4) #[] #[], .func (.func f5) #[] #[], .func (.func f6) #[] #[]] 79)).alloc (.cells #[.string s, .int .i64 x, .string r] 32)).cell? ⟨w.heap.size + 1, 1, none⟩ = some (.int .i64 x) := by simp
  have hsz : w.heap.size + 1 < ((w.alloc (.cells #[.int .i64 lo, .int .i64 hi, .func (.func f2) #[] #[], .func (.func 77) #[] #[], .func (.func f4) #[] #[], .func (.func f5) #[] #[], .func (.func f6) #[] #[]] 79)).alloc (.cells #[.string s, .int .i64 x, .string r] 32)).heap.size := by simp
  have hlen := hM.1
  have Hlen := Lib.hid hlen
  have hMM := hM.below hb00 hM.2.1
  have hBw := hM.2.1
  clear hlen hM hsm
  go_enter Tryz.func38, Tryz.ntmps38
  go_wp2
  generalize (w.alloc (.cells #[.int .i64 lo, .int .i64 hi, .func (.func f2) #[] #[], .func (.func 77) #[] #[], .func (.func f4) #[] #[], .func (.func f5) #[] #[], .func (.func f6) #[] #[]] 79)).alloc (.cells #[.string s, .int .i64 x, .string r] 32) = w0 at hb00 hK hX hsz hMM ⊢
  have HM : Hid (∀ w', Below w0.heap.size w0 w' → Marks w' B A n L) := fun w' hb => hMM.below hb (by omega)
  clear hMM
  have HKK : Hid (∀ w', Below w0.heap.size w0 w' → w'.cell? ⟨w.heap.size, 3, none⟩ = some (.func (.func 77) #[] #[])) := fun w' hb => (hb.cell (p := ⟨w.heap.size, 3, none⟩) (by show w.heap.size < _; omega)).trans hK
  have HXX : Hid (∀ w', Below w0.heap.size w0 w' → w'.cell? ⟨w.heap.size + 1, 1, none⟩ = some (.int .i64 x)) := fun w' hb => (hb.cell (p := ⟨w.heap.size + 1, 1, none⟩) (by show w.heap.size + 1 < _; omega)).trans hX
  clear hK hX
  go_loopw [12, 7] (fun i c wr => ∃ k : Nat, k ≤ n ∧ i = .int .i64 k ∧ c = .int .i64 (cntB true x (L.take k) : Nat) ∧ Below w0.heap.size w0 wr) (fun i _ _ => n - (intOf i).toNat)
  case atStart => exact ⟨0, by omega, rfl, by simp [cntB], Below.refl _ _⟩
  case round =>
    obtain ⟨k, hk, rfl, rfl, hb⟩ := hrel
    have hcle := cntB_le true x L k
    obtain ⟨q, hq⟩ : ∃ q, cntB true x (L.take k) = q := ⟨_, rfl⟩
    rw [hq] at hcle ⊢
    have Hq := Lib.hid hq
    clear hq
    by_cases hlt : k < n
    · obtain ⟨b, off, s', v, r', rfl, hbl, hL, c0, c1, c2⟩ := (HM.out _ hb).at_ hlt
      have hst := cntB_take true x L k _ hL
      have Hst := Lib.hid hst
      have hp := HKK.out _ hb
      have hx := HXX.out _ hb
      have hz : w.heap.size + 1 < wr.heap.size := by have := hb.size; omega
      have hz' : w.heap.size < wr.heap.size := by omega
      have hbn := hb.alloc hb.size (.cells #[.string s', .int .i64 v, .string r'] 32)
      clear hL hst hb
      have hcl := fun w => less_any v x w
      cases g1 : (s'.toList == [110, 111, 110, 101]) with
      | true =>
        have HS : Hid (cntB true x (L.take (k + 1)) = q) := by
          show _ = _
          rw [Hst.out, Hq.out]
          simp [isBetter, g1]
        go_wp2
        exact ⟨⟨k + 1, by omega, by go_num, by rw [HS.out], hbn⟩, by simp [intOf]; omega⟩
      | false =>
        cases g2 : betterB true v x with
        | true =>
          have HS : Hid (cntB true x (L.take (k + 1)) = q + 1) := by
            show _ = _
            rw [Hst.out, Hq.out]
            simp [isBetter, g1, g2]
          have g3 : decide (v < x) = true := by simpa [betterB] using g2
          rw [g3] at hcl
          clear g2 g3
          go_wp2_with (go_at_call 77; ((with_reducible refine (hcl _).mono ?_)); rintro e w2 ⟨rfl, rfl⟩)
          exact ⟨⟨k + 1, by omega, by go_num, by rw [HS.out]; go_num, hbn⟩, by simp [intOf]; omega⟩
        | false =>
          have HS : Hid (cntB true x (L.take (k + 1)) = q) := by
            show _ = _
            rw [Hst.out, Hq.out]
            simp [isBetter, g1, g2]
          have g3 : decide (v < x) = false := by simpa [betterB] using g2
          rw [g3] at hcl
          clear g2 g3
          go_wp2_with (go_at_call 77; ((with_reducible refine (hcl _).mono ?_)); rintro e w2 ⟨rfl, rfl⟩)
          exact ⟨⟨k + 1, by omega, by go_num, by rw [HS.out], hbn⟩, by simp [intOf]; omega⟩
    · have hkn : k = n := by omega
      have hq := Hq.out
      rw [hkn, List.take_of_length_le (by rw [Hlen.out]; omega)] at hq
      have HQ := Lib.hid hq
      clear hq Hq
      go_wp2
      go_ret
      exact ⟨by rw [HQ.out]; first | done | rfl, hb00.trans (hb.mono hb00.size)⟩

set_option maxHeartbeats 1000000 in
theorem countBetter_greater (L : List (ByteArray × Int × ByteArray)) (n cap : Nat) (A : Option Addr) (B : Nat) (lo hi : Int) (f2 f4 f5 f6 : Nat) (s r : ByteArray) (x : Int) (w : World) (hM : Marks w B A n L) (hsm : n ≤ 300) :
    Calls Tryz.prog 38 #[.agg #[.int .i64 lo, .int .i64 hi, .func (.func f2) #[] #[], .func (.func 81) #[] #[], .func (.func f4) #[] #[], .func (.func f5) #[] #[], .func (.func f6) #[] #[]], .slice A n cap, .agg #[.string s, .int .i64 x, .string r]] w (RetPost (.int .i64 (cntB false x L : Nat)) w) := by
  have hn0 : (n : Int) ≤ 300 := by omega
  have hb00 : Below w.heap.size w ((w.alloc (.cells #[.int .i64 lo, .int .i64 hi, .func (.func f2) #[] #[], .func (.func 81) #[] #[], .func (.func f4) #[] #[], .func (.func f5) #[] #[], .func (.func f6) #[] #[]] 79)).alloc (.cells #[.string s, .int .i64 x, .string r] 32)) := ((Below.refl w.heap.size w).alloc (Nat.le_refl _) _).alloc (by simp) _
  have hK : ((w.alloc (.cells #[.int .i64 lo, .int .i64 hi, .func (.func f2) #[] #[], .func (.func 81) #[] #[], .func (.func f4) #[] #[], .func (.func f5) #[] #[], .func (.func f6) #[] #[]] 79)).alloc (.cells #[.string s, .int .i64 x, .string r] 32)).cell? ⟨w.heap.size, 3, none⟩ = some (.func (.func 81) #[] #[]) := by simp
  have hX : ((w.alloc (.cells #[.int .i64 lo, .int .i64 hi, .func (.func f2) #[] #[], .func (.func 81) #[] #[], .func (.func f4) #[] #[], .func (.func f5) #[] #[], .func (.func f6) #[] #[]] 79)).alloc (.cells #[.string s, .int .i64 x, .string r] 32)).cell? ⟨w.heap.size + 1, 1, none⟩ = some (.int .i64 x) := by simp
  have hsz : w.heap.size + 1 < ((w.alloc (.cells #[.int .i64 lo, .int .i64 hi, .func (.func f2) #[] #[], .func (.func 81) #[] #[], .func (.func f4) #[] #[], .func (.func f5) #[] #[], .func (.func f6) #[] #[]] 79)).alloc (.cells #[.string s, .int .i64 x, .string r] 32)).heap.size := by simp
  have hlen := hM.1
  have Hlen := Lib.hid hlen
  have hMM := hM.below hb00 hM.2.1
  have hBw := hM.2.1
  clear hlen hM hsm
  go_enter Tryz.func38, Tryz.ntmps38
  go_wp2
  generalize (w.alloc (.cells #[.int .i64 lo, .int .i64 hi, .func (.func f2) #[] #[], .func (.func 81) #[] #[], .func (.func f4) #[] #[], .func (.func f5) #[] #[], .func (.func f6) #[] #[]] 79)).alloc (.cells #[.string s, .int .i64 x, .string r] 32) = w0 at hb00 hK hX hsz hMM ⊢
  have HM : Hid (∀ w', Below w0.heap.size w0 w' → Marks w' B A n L) := fun w' hb => hMM.below hb (by omega)
  clear hMM
  have HKK : Hid (∀ w', Below w0.heap.size w0 w' → w'.cell? ⟨w.heap.size, 3, none⟩ = some (.func (.func 81) #[] #[])) := fun w' hb => (hb.cell (p := ⟨w.heap.size, 3, none⟩) (by show w.heap.size < _; omega)).trans hK
  have HXX : Hid (∀ w', Below w0.heap.size w0 w' → w'.cell? ⟨w.heap.size + 1, 1, none⟩ = some (.int .i64 x)) := fun w' hb => (hb.cell (p := ⟨w.heap.size + 1, 1, none⟩) (by show w.heap.size + 1 < _; omega)).trans hX
  clear hK hX
  go_loopw [12, 7] (fun i c wr => ∃ k : Nat, k ≤ n ∧ i = .int .i64 k ∧ c = .int .i64 (cntB false x (L.take k) : Nat) ∧ Below w0.heap.size w0 wr) (fun i _ _ => n - (intOf i).toNat)
  case atStart => exact ⟨0, by omega, rfl, by simp [cntB], Below.refl _ _⟩
  case round =>
    obtain ⟨k, hk, rfl, rfl, hb⟩ := hrel
    have hcle := cntB_le false x L k
    obtain ⟨q, hq⟩ : ∃ q, cntB false x (L.take k) = q := ⟨_, rfl⟩
    rw [hq] at hcle ⊢
    have Hq := Lib.hid hq
    clear hq
    by_cases hlt : k < n
    · obtain ⟨b, off, s', v, r', rfl, hbl, hL, c0, c1, c2⟩ := (HM.out _ hb).at_ hlt
      have hst := cntB_take false x L k _ hL
      have Hst := Lib.hid hst
      have hp := HKK.out _ hb
      have hx := HXX.out _ hb
      have hz : w.heap.size + 1 < wr.heap.size := by have := hb.size; omega
      have hz' : w.heap.size < wr.heap.size := by omega
      have hbn := hb.alloc hb.size (.cells #[.string s', .int .i64 v, .string r'] 32)
      clear hL hst hb
      have hcl := fun w => greater_any v x w
      cases g1 : (s'.toList == [110, 111, 110, 101]) with
      | true =>
        have HS : Hid (cntB false x (L.take (k + 1)) = q) := by
          show _ = _
          rw [Hst.out, Hq.out]
          simp [isBetter, g1]
        go_wp2
        exact ⟨⟨k + 1, by omega, by go_num, by rw [HS.out], hbn⟩, by simp [intOf]; omega⟩
      | false =>
        cases g2 : betterB false v x with
        | true =>
          have HS : Hid (cntB false x (L.take (k + 1)) = q + 1) := by
            show _ = _
            rw [Hst.out, Hq.out]
            simp [isBetter, g1, g2]
          have g3 : decide (x < v) = true := by simpa [betterB] using g2
          rw [g3] at hcl
          clear g2 g3
          go_wp2_with (go_at_call 81; ((with_reducible refine (hcl _).mono ?_)); rintro e w2 ⟨rfl, rfl⟩)
          exact ⟨⟨k + 1, by omega, by go_num, by rw [HS.out]; go_num, hbn⟩, by simp [intOf]; omega⟩
        | false =>
          have HS : Hid (cntB false x (L.take (k + 1)) = q) := by
            show _ = _
            rw [Hst.out, Hq.out]
            simp [isBetter, g1, g2]
          have g3 : decide (x < v) = false := by simpa [betterB] using g2
          rw [g3] at hcl
          clear g2 g3
          go_wp2_with (go_at_call 81; ((with_reducible refine (hcl _).mono ?_)); rintro e w2 ⟨rfl, rfl⟩)
          exact ⟨⟨k + 1, by omega, by go_num, by rw [HS.out], hbn⟩, by simp [intOf]; omega⟩
    · have hkn : k = n := by omega
      have hq := Hq.out
      rw [hkn, List.take_of_length_le (by rw [Hlen.out]; omega)] at hq
      have HQ := Lib.hid hq
      clear hq Hq
      go_wp2
      go_ret
      exact ⟨by rw [HQ.out]; first | done | rfl, hb00.trans (hb.mono hb00.size)⟩
end Go.Mk
