/-
  Proved: what small functions of package mark return (first, less, greater, roundDown, roundUp, compareValues, classOf, fits, Wind). Conditions: numbers in their ranges where it says so.
  Proved: what classOf, fits and Wind return. No condition but the range of an int.
-/
import Derived.Test.YtccgahkoekcefaaGreatDoorCm
import Derived.Test.YtccgahkoekcefaaGreatDoorBa
section
set_option linter.unusedVariables false
set_option linter.unusedSimpArgs false
open Go Go.Proofs Go.RowKit
set_option maxRecDepth 100000
namespace Go.Mk

set_option maxHeartbeats 400000 in
theorem less_any (a b : Int) (w : World) : Calls Tryz.prog 111 #[.int .i64 a, .int .i64 b] w fun e w' => e = .returned (.bool (decide (a < b))) ∧ w = w' := by
  go_enter Tryz.func111, Tryz.ntmps111
  go_wp2
  go_ret
  exact ⟨rfl, rfl⟩
set_option maxHeartbeats 400000 in
theorem greater_any (a b : Int) (w : World) : Calls Tryz.prog 115 #[.int .i64 a, .int .i64 b] w fun e w' => e = .returned (.bool (decide (b < a))) ∧ w = w' := by
  go_enter Tryz.func115, Tryz.ntmps115
  go_wp2
  go_ret
  exact ⟨rfl, rfl⟩
set_option maxHeartbeats 400000 in
theorem roundDown_any (v s : Int) (w : World) (h0 : 0 ≤ v) (h1 : v ≤ 1000000000) (h2 : 1 ≤ s) (h3 : s ≤ 1000) :
    Calls Tryz.prog 116 #[.int .i64 v, .int .i64 s] w fun e w' => e = .returned (.int .i64 (v - v % s)) ∧ w = w' := by
  have h4 : 0 ≤ v % s := Int.emod_nonneg _ (by omega)
  have h5 : v % s < s := Int.emod_lt_of_pos _ (by omega)
  go_enter Tryz.func116, Tryz.ntmps116
  go_wp2
  go_ret
  exact ⟨rfl, rfl⟩
set_option maxHeartbeats 400000 in
theorem roundUp_any (v s : Int) (w : World) (h0 : 0 ≤ v) (h1 : v ≤ 900000000) (h2 : 1 ≤ s) (h3 : s ≤ 1000) :
    Calls Tryz.prog 112 #[.int .i64 v, .int .i64 s] w fun e w' => e = .returned (.int .i64 (v + s - 1 - (v + s - 1) % s)) ∧ w = w' := by
  have hc := roundDown_any (v + s - 1) s w (by omega) (by omega) h2 h3
  go_enter Tryz.func112, Tryz.ntmps112
  go_wp2_with fail
  refine hc.mono ?_
  rintro e w' ⟨rfl, rfl⟩
  go_wp2
  go_ret
  exact ⟨rfl, rfl⟩

set_option maxHeartbeats 400000 in
theorem first_zero (g : Nat) (w : World) (h1 : w.cell? ⟨g, 0, none⟩ = some (.int .i64 0)) (h2 : w.cell? ⟨g, 1, none⟩ = some (.int .i64 0)) :
    Calls Tryz.prog 91 #[.slice (some ⟨g, 0, none⟩) 2 2] w (RetPost (.int .i64 0) w) := by
  go_enter Tryz.func91, Tryz.ntmps91
  go_wp2
  go_loop [7] (fun i => ∃ k : Nat, k ≤ 2 ∧ i = .int .i64 k) (fun i => 2 - (intOf i).toNat)
  case atStart => exact ⟨0, by omega, rfl⟩
  case round =>
    obtain ⟨k, hk, rfl⟩ := hrel
    rcases (show k = 0 ∨ k = 1 ∨ k = 2 by omega) with rfl | rfl | rfl
    · go_wp2
      exact ⟨⟨1, by omega, by go_num⟩, by simp [intOf]⟩
    · go_wp2
      exact ⟨⟨2, by omega, by go_num⟩, by simp [intOf]⟩
    · go_wp2
      go_ret
      exact ⟨rfl, Below.refl _ _⟩
set_option maxHeartbeats 400000 in
theorem first_second (y : Int) (hy : y ≠ 0) (g : Nat) (w : World) (h1 : w.cell? ⟨g, 0, none⟩ = some (.int .i64 0)) (h2 : w.cell? ⟨g, 1, none⟩ = some (.int .i64 y)) :
    Calls Tryz.prog 91 #[.slice (some ⟨g, 0, none⟩) 2 2] w (RetPost (.int .i64 y) w) := by
  have hb : (y != 0) = true := by rw [bne_iff_ne]; exact hy
  go_enter Tryz.func91, Tryz.ntmps91
  go_wp2
  go_loop [7] (fun i => ∃ k : Nat, k ≤ 1 ∧ i = .int .i64 k) (fun i => 2 - (intOf i).toNat)
  case atStart => exact ⟨0, by omega, rfl⟩
  case round =>
    obtain ⟨k, hk, rfl⟩ := hrel
    rcases (show k = 0 ∨ k = 1 by omega) with rfl | rfl
    · go_wp2
      exact ⟨⟨1, by omega, by go_num⟩, by simp [intOf]⟩
    · go_wp2
      go_ret
      exact ⟨rfl, Below.refl _ _⟩
set_option maxHeartbeats 400000 in
theorem first_first (x : Int) (hx : x ≠ 0) (g : Nat) (w : World) (h1 : w.cell? ⟨g, 0, none⟩ = some (.int .i64 x)) :
    Calls Tryz.prog 91 #[.slice (some ⟨g, 0, none⟩) 2 2] w (RetPost (.int .i64 x) w) := by
  have hb : (x != 0) = true := by rw [bne_iff_ne]; exact hx
  go_enter Tryz.func91, Tryz.ntmps91
  go_wp2
  go_loop [7] (fun i => i = .int .i64 0) (fun i => 2 - (intOf i).toNat)
  case atStart => rfl
  case round =>
    obtain rfl := hrel
    go_wp2
    go_ret
    exact ⟨rfl, Below.refl _ _⟩
def fst2 (x y : Int) : Int := if x = 0 then y else x
theorem first_any (x y : Int) (g : Nat) (w : World) (h1 : w.cell? ⟨g, 0, none⟩ = some (.int .i64 x)) (h2 : w.cell? ⟨g, 1, none⟩ = some (.int .i64 y)) :
    Calls Tryz.prog 91 #[.slice (some ⟨g, 0, none⟩) 2 2] w (RetPost (.int .i64 (fst2 x y)) w) := by
  unfold fst2
  by_cases hx : x = 0
  · subst hx
    rw [if_pos rfl]
    by_cases hy : y = 0
    · subst hy; exact first_zero g w h1 h2
    · exact first_second y hy g w h1 h2
  · rw [if_neg hx]; exact first_first x hx g w h1

def cmpv (b : Bool) (x y : Int) : Int := if x = y then 0 else if decide (x < y) = b then -1 else 1
set_option maxHeartbeats 400000 in
theorem compareValues_less (lo hi : Int) (f2 f4 f5 f6 : Nat) (x y : Int) (w : World) :
    Calls Tryz.prog 93 #[.agg #[.int .i64 lo, .int .i64 hi, .func (.func f2) #[] #[], .func (.func 111) #[] #[], .func (.func f4) #[] #[], .func (.func f5) #[] #[], .func (.func f6) #[] #[]], .int .i64 x, .int .i64 y] w (RetPost (.int .i64 (cmpv true x y)) w) := by
  have hc := fun a b w => less_any a b w
  rcases (show x < y ∨ x = y ∨ y < x by omega) with h | h | h
  · have hp : cmpv true x y = -1 := by unfold cmpv; rw [if_neg (by omega)]; simp [h]
    rw [hp]; clear hp
    go_enter Tryz.func93, Tryz.ntmps93
    go_wp2_with fail
    refine (hc _ _ _).mono ?_
    rintro e w' ⟨rfl, rfl⟩
    go_wp2
    go_ret
    exact ⟨rfl, (Below.refl _ _).alloc (Nat.le_refl _) _⟩
  · subst h
    have hp : cmpv true x x = 0 := by unfold cmpv; simp
    rw [hp]; clear hp
    go_enter Tryz.func93, Tryz.ntmps93
    go_wp2_with fail
    refine (hc _ _ _).mono ?_
    rintro e w' ⟨rfl, rfl⟩
    go_wp2_with fail
    refine (hc _ _ _).mono ?_
    rintro e w' ⟨rfl, rfl⟩
    go_wp2
    go_ret
    exact ⟨rfl, (Below.refl _ _).alloc (Nat.le_refl _) _⟩
  · have hp : cmpv true x y = 1 := by unfold cmpv; rw [if_neg (by omega)]; simp; omega
    rw [hp]; clear hp
    go_enter Tryz.func93, Tryz.ntmps93
    go_wp2_with fail
    refine (hc _ _ _).mono ?_
    rintro e w' ⟨rfl, rfl⟩
    go_wp2_with fail
    refine (hc _ _ _).mono ?_
    rintro e w' ⟨rfl, rfl⟩
    go_wp2
    go_ret
    exact ⟨rfl, (Below.refl _ _).alloc (Nat.le_refl _) _⟩
set_option maxHeartbeats 400000 in
theorem compareValues_greater (lo hi : Int) (f2 f4 f5 f6 : Nat) (x y : Int) (w : World) :
    Calls Tryz.prog 93 #[.agg #[.int .i64 lo, .int .i64 hi, .func (.func f2) #[] #[], .func (.func 115) #[] #[], .func (.func f4) #[] #[], .func (.func f5) #[] #[], .func (.func f6) #[] #[]], .int .i64 x, .int .i64 y] w (RetPost (.int .i64 (cmpv false x y)) w) := by
  have hc := fun a b w => greater_any a b w
  rcases (show y < x ∨ x = y ∨ x < y by omega) with h | h | h
  · have hp : cmpv false x y = -1 := by unfold cmpv; rw [if_neg (by omega)]; simp; omega
    rw [hp]; clear hp
    go_enter Tryz.func93, Tryz.ntmps93
    go_wp2_with fail
    refine (hc _ _ _).mono ?_
    rintro e w' ⟨rfl, rfl⟩
    go_wp2
    go_ret
    exact ⟨rfl, (Below.refl _ _).alloc (Nat.le_refl _) _⟩
  · subst h
    have hp : cmpv false x x = 0 := by unfold cmpv; simp
    rw [hp]; clear hp
    go_enter Tryz.func93, Tryz.ntmps93
    go_wp2_with fail
    refine (hc _ _ _).mono ?_
    rintro e w' ⟨rfl, rfl⟩
    go_wp2_with fail
    refine (hc _ _ _).mono ?_
    rintro e w' ⟨rfl, rfl⟩
    go_wp2
    go_ret
    exact ⟨rfl, (Below.refl _ _).alloc (Nat.le_refl _) _⟩
  · have hp : cmpv false x y = 1 := by unfold cmpv; rw [if_neg (by omega)]; simp [h]
    rw [hp]; clear hp
    go_enter Tryz.func93, Tryz.ntmps93
    go_wp2_with fail
    refine (hc _ _ _).mono ?_
    rintro e w' ⟨rfl, rfl⟩
    go_wp2_with fail
    refine (hc _ _ _).mono ?_
    rintro e w' ⟨rfl, rfl⟩
    go_wp2
    go_ret
    exact ⟨rfl, (Below.refl _ _).alloc (Nat.le_refl _) _⟩

end Go.Mk
end
section
set_option linter.unusedVariables false
set_option linter.unusedSimpArgs false
open Go Go.Proofs Go.RowKit
set_option maxRecDepth 100000
namespace Go.Mk
def cls (n : ByteArray) : (ByteArray × Int) × Bool :=
  if n.toList == [104, 117, 110, 100, 114, 101, 100, 116, 104, 115] then ((sTime, 100), true)
  else if n.toList == [116, 101, 110, 116, 104, 115] then ((sTime, 1000), true)
  else if n.toList == [99, 101, 110, 116, 105, 109, 101, 116, 114, 101, 115] then ((sLength, 10), true)
  else if n.toList == [101, 120, 97, 99, 116] then ((⟨#[]⟩, 1), true)
  else ((⟨#[]⟩, 0), false)

def fitsB (k s : ByteArray) : Bool := (s.toList == [110, 111, 110, 101]) || k.toList.isEmpty || (k.toList == s.toList)
def windUp (n : Int) : Int := if n > 0 ∧ n % 10 ≠ 0 then n / 10 + 1 else if n > 0 then n / 10 else -((-n) / 10)
end Go.Mk
end
