/-
  Proved: what small functions of package mark return (first, less, greater, roundDown, roundUp, compareValues, classOf, fits, Wind). Conditions: numbers in their ranges where it says so.
-/
import Derived.Test.YtkjolejppnogiaaGreatDoorCm
import Derived.Test.YtkjolejppnogiaaGreatDoorBa
set_option linter.unusedVariables false
set_option linter.unusedSimpArgs false
open Go Go.Proofs Go.RowKit
set_option maxRecDepth 100000
namespace Go.Mk

set_option maxHeartbeats 400000 in
theorem less_any (a b : Int) (w : World) : Calls Tryz.prog 130 #[.int .i64 a, .int .i64 b] w fun e w' => e = .returned (.bool (decide (a < b))) ∧ w = w' := by
  go_enter Tryz.func130, Tryz.ntmps130
  go_wp2
  go_ret
  exact ⟨rfl, rfl⟩
set_option maxHeartbeats 400000 in
theorem greater_any (a b : Int) (w : World) : Calls Tryz.prog 134 #[.int .i64 a, .int .i64 b] w fun e w' => e = .returned (.bool (decide (b < a))) ∧ w = w' := by
  go_enter Tryz.func134, Tryz.ntmps134
  go_wp2
  go_ret
  exact ⟨rfl, rfl⟩
set_option maxHeartbeats 400000 in
theorem roundDown_any (v s : Int) (w : World) (h0 : 0 ≤ v) (h1 : v ≤ 1000000000) (h2 : 1 ≤ s) (h3 : s ≤ 1000) :
    Calls Tryz.prog 135 #[.int .i64 v, .int .i64 s] w fun e w' => e = .returned (.int .i64 (v - v % s)) ∧ w = w' := by
  have h4 : 0 ≤ v % s := Int.emod_nonneg _ (by omega)
  have h5 : v % s < s := Int.emod_lt_of_pos _ (by omega)
  go_enter Tryz.func135, Tryz.ntmps135
  go_wp2
  go_ret
  exact ⟨rfl, rfl⟩
set_option maxHeartbeats 400000 in
theorem roundUp_any (v s : Int) (w : World) (h0 : 0 ≤ v) (h1 : v ≤ 900000000) (h2 : 1 ≤ s) (h3 : s ≤ 1000) :
    Calls Tryz.prog 131 #[.int .i64 v, .int .i64 s] w fun e w' => e = .returned (.int .i64 (v + s - 1 - (v + s - 1) % s)) ∧ w = w' := by
  have hc := roundDown_any (v + s - 1) s w (by omega) (by omega) h2 h3
  go_enter Tryz.func131, Tryz.ntmps131
  go_wp2_with fail
  refine hc.mono ?_
  rintro e w' ⟨rfl, rfl⟩
  go_wp2
  go_ret
  exact ⟨rfl, rfl⟩

set_option maxHeartbeats 400000 in
theorem first_zero (g : Nat) (w : World) (h1 : w.cell? ⟨g, 0, none⟩ = some (.int .i64 0)) (h2 : w.cell? ⟨g, 1, none⟩ = some (.int .i64 0)) :
    Calls Tryz.prog 107 #[.slice (some ⟨g, 0, none⟩) 2 2] w (RetPost (.int .i64 0) w) := by
  go_enter Tryz.func107, Tryz.ntmps107
  go_wp2
  go_loop [7] (fun i => ∃ k : Nat, k ≤ 2 ∧ i = .int .i64 k) (fun i => 2 - (intOf i).toNat)
  case atStart => exact ⟨0, by omega, rfl⟩
  case round =>
    obtain ⟨k, hk, rfl⟩ := hrel
    rcases (show k = 0 ∨ k = 1 ∨ k = 2 by omega) with rfl | rfl | rfl
    · go_wp2
      exact ⟨⟨1, by omega, by go_num⟩, by simp [intOf]⟩
    · go_wp2
      exact ⟨⟨2, by omega, by go_num⟩, by simp [intOf]⟩
    · go_wp2
      go_ret
      exact ⟨rfl, Below.refl _ _⟩
set_option maxHeartbeats 400000 in
theorem first_second (y : Int) (hy : y ≠ 0) (g : Nat) (w : World) (h1 : w.cell? ⟨g, 0, none⟩ = some (.int .i64 0)) (h2 : w.cell? ⟨g, 1, none⟩ = some (.int .i64 y)) :
    Calls Tryz.prog 107 #[.slice (some ⟨g, 0, none⟩) 2 2] w (RetPost (.int .i64 y) w) := by
  have hb : (y != 0) = true := by rw [bne_iff_ne]; exact hy
  go_enter Tryz.func107, Tryz.ntmps107
  go_wp2
  go_loop [7] (fun i => ∃ k : Nat, k ≤ 1 ∧ i = .int .i64 k) (fun i => 2 - (intOf i).toNat)
  case atStart => exact ⟨0, by omega, rfl⟩
  case round =>
    obtain ⟨k, hk, rfl⟩ := hrel
    rcases (show k = 0 ∨ k = 1 by omega) with rfl | rfl
    · go_wp2
      exact ⟨⟨1, by omega, by go_num⟩, by simp [intOf]⟩
    · go_wp2
      go_ret
      exact ⟨rfl, Below.refl _ _⟩
set_option maxHeartbeats 400000 in
theorem first_first (x : Int) (hx : x ≠ 0) (g : Nat) (w : World) (h1 : w.cell? ⟨g, 0, none⟩ = some (.int .i64 x)) :
    Calls Tryz.prog 107 #[.slice (some ⟨g, 0, none⟩) 2 2] w (RetPost (.int .i64 x) w) := by
  have hb : (x != 0) = true := by rw [bne_iff_ne]; exact hx
  go_enter Tryz.func107, Tryz.ntmps107
  go_wp2
  go_loop [7] (fun i => i = .int .i64 0) (fun i => 2 - (intOf i).toNat)
  case atStart => rfl
  case round =>
    obtain rfl := hrel
    go_wp2
    go_ret
    exact ⟨rfl, Below.refl _ _⟩
/-- The first of two errors that is not 0. -/
def fst2 (x y : Int) : Int := if x = 0 then y else x
theorem first_any (x y : Int) (g : Nat) (w : World) (h1 : w.cell? ⟨g, 0, none⟩ = some (.int .i64 x)) (h2 : w.cell? ⟨g, 1, none⟩ = some (.int .i64 y)) :
    Calls Tryz.prog 107 #[.slice (some ⟨g, 0, none⟩) 2 2] w (RetPost (.int .i64 (fst2 x y)) w) := by
  unfold fst2
  by_cases hx : x = 0
  · subst hx
    rw [if_pos rfl]
    by_cases hy : y = 0
    · subst hy; exact first_zero g w h1 h2
    · exact first_second y hy g w h1 h2
  · rw [if_neg hx]; exact first_first x hx g w h1

/-- -1, 0 or 1 as a value is better than another one, the same, or worse: b says that the lesser one is better. -/
def cmpv (b : Bool) (x y : Int) : Int := if x = y then 0 else if decide (x < y) = b then -1 else 1
set_option maxHeartbeats 400000 in
theorem compareValues_less (lo hi : Int) (f2 f4 f5 f6 : Nat) (x y : Int) (w : World) :
    Calls Tryz.prog 109 #[.agg #[.int .i64 lo, .int .i64 hi, .func (.func f2) #[] #[], .func (.func 130) #[] #[], .func (.func f4) #[] #[], .func (.func f5) #[] #[], .func (.func f6) #[] #[]], .int .i64 x, .int .i64 y] w (RetPost (.int .i64 (cmpv true x y)) w) := by
  have hc := fun a b w => less_any a b w
  rcases (show x < y ∨ x = y ∨ y < x by omega) with h | h | h
  · have hp : cmpv true x y = -1 := by unfold cmpv; rw [if_neg (by omega)]; simp [h]
    rw [hp]; clear hp
    go_enter Tryz.func109, Tryz.ntmps109
    go_wp2_with fail
    refine (hc _ _ _).mono ?_
    rintro e w' ⟨rfl, rfl⟩
    go_wp2
    go_ret
    exact ⟨rfl, (Below.refl _ _).alloc (Nat.le_refl _) _⟩
  · subst h
    have hp : cmpv true x x = 0 := by unfold cmpv; simp
    rw [hp]; clear hp
    go_enter Tryz.func109, Tryz.ntmps109
    go_wp2_with fail
    refine (hc _ _ _).mono ?_
    rintro e w' ⟨rfl, rfl⟩
    go_wp2_with fail
    refine (hc _ _ _).mono ?_
    rintro e w' ⟨rfl, rfl⟩
    go_wp2
    go_ret
    exact ⟨rfl, (Below.refl _ _).alloc (Nat.le_refl _) _⟩
  · have hp : cmpv true x y = 1 := by unfold cmpv; rw [if_neg (by omega)]; simp; omega
    rw [hp]; clear hp
    go_enter Tryz.func109, Tryz.ntmps109
    go_wp2_with fail
    refine (hc _ _ _).mono ?_
    rintro e w' ⟨rfl, rfl⟩
    go_wp2_with fail
    refine (hc _ _ _).mono ?_
    rintro e w' ⟨rfl, rfl⟩
    go_wp2
    go_ret
    exact ⟨rfl, (Below.refl _ _).alloc (Nat.le_refl _) _⟩
set_option maxHeartbeats 400000 in
theorem compareValues_greater (lo hi : Int) (f2 f4 f5 f6 : Nat) (x y : Int) (w : World) :
    Calls Tryz.prog 109 #[.agg #[.int .i64 lo, .int .i64 hi, .func (.func f2) #[] #[], .func (.func 134) #[] #[], .func (.func f4) #[] #[], .func (.func f5) #[] #[], .func (.func f6) #[] #[]], .int .i64 x, .int .i64 y] w (RetPost (.int .i64 (cmpv false x y)) w) := by
  have hc := fun a b w => greater_any a b w
  rcases (show y < x ∨ x = y ∨ x < y by omega) with h | h | h
  · have hp : cmpv false x y = -1 := by unfold cmpv; rw [if_neg (by omega)]; simp; omega
    rw [hp]; clear hp
    go_enter Tryz.func109, Tryz.ntmps109
    go_wp2_with fail
    refine (hc _ _ _).mono ?_
    rintro e w' ⟨rfl, rfl⟩
    go_wp2
    go_ret
    exact ⟨rfl, (Below.refl _ _).alloc (Nat.le_refl _) _⟩
  · subst h
    have hp : cmpv false x x = 0 := by unfold cmpv; simp
    rw [hp]; clear hp
    go_enter Tryz.func109, Tryz.ntmps109
    go_wp2_with fail
    refine (hc _ _ _).mono ?_
    rintro e w' ⟨rfl, rfl⟩
    go_wp2_with fail
    refine (hc _ _ _).mono ?_
    rintro e w' ⟨rfl, rfl⟩
    go_wp2
    go_ret
    exact ⟨rfl, (Below.refl _ _).alloc (Nat.le_refl _) _⟩
  · have hp : cmpv false x y = 1 := by unfold cmpv; rw [if_neg (by omega)]; simp [h]
    rw [hp]; clear hp
    go_enter Tryz.func109, Tryz.ntmps109
    go_wp2_with fail
    refine (hc _ _ _).mono ?_
    rintro e w' ⟨rfl, rfl⟩
    go_wp2_with fail
    refine (hc _ _ _).mono ?_
    rintro e w' ⟨rfl, rfl⟩
    go_wp2
    go_ret
    exact ⟨rfl, (Below.refl _ _).alloc (Nat.le_refl _) _⟩

end Go.Mk
