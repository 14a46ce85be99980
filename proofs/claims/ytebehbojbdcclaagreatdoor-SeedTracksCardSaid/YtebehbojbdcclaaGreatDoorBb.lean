/-
  Proved: the error of a round of a chart (seed.roundError), how many advance from it, and a quotient rounded up. Conditions: the numbers are in their ranges where it says so.
-/
import Derived.Test.YtebehbojbdcclaaGreatDoorBa
import Derived.Deep.RegionWith
import Derived.Deep.RegionHeld3
import Derived.WalkSmall
set_option linter.unusedVariables false
set_option linter.unusedSimpArgs false
open Go Go.Proofs Go.RowKit
set_option maxRecDepth 100000
namespace Go.Mk
set_option maxHeartbeats 400000 in
theorem divideUp_any (a b : Int) (w : World) (h0 : 0 ≤ a) (h1 : a ≤ 1000000) (h2 : 1 ≤ b) (h3 : b ≤ 1000) :
    Calls Tryz.prog 47 #[.int .i64 a, .int .i64 b] w (RetSame (.int .i64 ((a + b - 1) / b)) w) := by
  have hq : Int.tdiv (a + b - 1) b = (a + b - 1) / b := Int.tdiv_eq_ediv_of_nonneg (by omega)
  have hl : 0 ≤ (a + b - 1) / b := Int.ediv_nonneg (by omega) (by omega)
  have hu : (a + b - 1) / b ≤ a + b - 1 := Int.ediv_le_self _ (by omega)
  go_enter Tryz.func47, Tryz.ntmps47
  go_wp2
  go_ret
  exact ⟨rfl, rfl⟩
set_option maxHeartbeats 400000 in
theorem advanceFrom_any (h p t : Int) (w : World) (h0 : 1 ≤ h) (h1 : h ≤ 16) (h2 : 0 ≤ p) (h3 : p ≤ 10) (h4 : 0 ≤ t) (h5 : t ≤ 160) :
    Calls Tryz.prog 49 #[.agg #[.int .i64 h, .int .i64 p, .int .i64 t]] w (RetPost (.int .i64 (h * p + t)) w) := by
  have hl : 0 ≤ h * p := Int.mul_nonneg (by omega) (by omega)
  have hu : h * p ≤ 16 * 10 := Int.mul_le_mul h1 h3 h2 (by omega)
  go_enter Tryz.func49, Tryz.ntmps49
  go_wp2
  go_ret
  exact ⟨rfl, (Below.refl _ _).alloc (Nat.le_refl _) _⟩
theorem below_two (w : World) (o1 o2 : Obj) (n : Nat) : Below w.heap.size w (((w.alloc o1).alloc o2).drewN n) := below_drewN (((Below.refl _ _).alloc (Nat.le_refl _) _).alloc (by simp) _) n
theorem es4 (w : World) (o : Obj) (x y z u : Int) (t : TypeId) : Es ((w.alloc o).alloc (.cells #[.int .i64 x, .int .i64 y, .int .i64 z, .int .i64 u] t)) (w.heap.size + 1) [x, y, z, u] := by
  intro i v hv
  have e : w.heap.size + 1 = (w.alloc o).heap.size := by simp
  rw [e]
  generalize w.alloc o = W
  match i, hv with
  | 0, hv => simp at hv; subst hv; simp
  | 1, hv => simp at hv; subst hv; simp
  | 2, hv => simp at hv; subst hv; simp
  | 3, hv => simp at hv; subst hv; simp
/-- The error of a round of as many athletes. -/
def rndE (a lanes h p t : Int) (last : Bool) : Int :=
  let e := fstN [rngE h 1 16, rngE p 0 10, rngE t 0 160, if IntKind.i64.wrap (h * lanes) < a then 17 else 0]
  if e ≠ 0 then e else if last then (if h = 1 ∧ p = 0 ∧ t = 0 then 0 else 1) else if a < h * p + t then 23 else 0
set_option maxHeartbeats 4000000 in
theorem roundError_any (a lanes h p t : Int) (last : Bool) (w : World) :
    Calls Tryz.prog 48 #[.int .i64 a, .int .i64 lanes, .agg #[.int .i64 h, .int .i64 p, .int .i64 t], .bool last] w (RetPost (.int .i64 (rndE a lanes h p t last)) w) := by
  have hH := heatsError_any h
  have hR := seedRange_any p 0 10
  have hA := athletesError_any t
  have hW1 := fun w => seedWhen_any (decide (IntKind.i64.wrap (h * lanes) < a)) 17 w
  have hm : (if decide (IntKind.i64.wrap (h * lanes) < a) = true then (17 : Int) else 0) = if IntKind.i64.wrap (h * lanes) < a then 17 else 0 := by simp
  obtain ⟨y, hy⟩ : ∃ y, rndE a lanes h p t last = y := ⟨_, rfl⟩
  rw [hy]
  unfold rndE at hy
  rw [← hm] at hy
  generalize (if decide (IntKind.i64.wrap (h * lanes) < a) = true then (17 : Int) else 0) = e4 at hy hW1
  have hF := fun g w => seedFirst_any [rngE h 1 16, rngE p 0 10, rngE t 0 160, e4] 4 rfl (by decide) g w
  have HE : Hid (rngE h 1 16 = 0 → 1 ≤ h ∧ h ≤ 16) := fun q => by unfold rngE at q; split at q <;> omega
  have HE2 : Hid (rngE p 0 10 = 0 → 0 ≤ p ∧ p ≤ 10) := fun q => by unfold rngE at q; split at q <;> omega
  have HE3 : Hid (rngE t 0 160 = 0 → 0 ≤ t ∧ t ≤ 160) := fun q => by unfold rngE at q; split at q <;> omega
  generalize rngE h 1 16 = e1 at *
  generalize rngE p 0 10 = e2 at *
  generalize rngE t 0 160 = e3 at *
  obtain ⟨x, hx⟩ : ∃ x, fstN [e1, e2, e3, e4] = x := ⟨_, rfl⟩
  rw [hx] at hF hy
  have HY := Lib.hid hy
  have HX := Lib.hid hx
  clear hy hx hm
  go_enter Tryz.func48, Tryz.ntmps48
  go_wp2_with fail
  go_region_held3 (fun w' => w'.cell? ⟨w.heap.size, 0, none⟩ = some (.int .i64 h) ∧ w'.cell? ⟨w.heap.size, 1, none⟩ = some (.int .i64 p) ∧ w'.cell? ⟨w.heap.size, 2, none⟩ = some (.int .i64 t)) (go_keep) ((first | (go_at_call 50; (with_reducible refine (hH _).mono ?_); rintro e w' ⟨rfl, rfl⟩) | (go_at_call 73; (with_reducible refine (hR _).mono ?_); rintro e w' ⟨rfl, rfl⟩) | (go_at_call 41; (with_reducible refine (hA _).mono ?_); rintro e w' ⟨rfl, rfl⟩) | (go_at_call 38; (with_reducible refine (hW1 _).mono ?_); rintro e w' ⟨rfl, rfl⟩) | (go_at_call 37; (refine (hF _ _ ?_).mono ?_); (exact es4 _ _ _ _ _ _ _); rintro e w' ⟨rfl, rfl⟩)))
  by_cases hx0 : x = 0
  · subst hx0
    have hy := HY.out
    rw [if_neg (by simp)] at hy
    have hz : e1 = 0 ∧ e2 = 0 ∧ e3 = 0 := by
      have := HX.out
      unfold fstN at this
      unfold fstN at this
      unfold fstN at this
      split at this
      · split at this
        · split at this <;> omega
        · omega
      · omega
    obtain ⟨h1, h2⟩ := HE.out hz.1
    obtain ⟨h3, h4⟩ := HE2.out hz.2.1
    obtain ⟨h5, h6⟩ := HE3.out hz.2.2
    clear hz HE HE2 HE3 HX HY
    cases last with
    | true =>
      have hW2 := fun b w => seedWhen_any b 1 w
      have HY2 : Hid ((if h = 1 ∧ p = 0 ∧ t = 0 then (0 : Int) else 1) = y) := (show _ = _ by simpa using hy)
      clear hy
      go_wp2_with fail
      all_goals
        refine (hW2 _ _).mono ?_
        rintro e w' ⟨rfl, rfl⟩
        go_wp2
        go_ret
        refine ⟨?_, below_two w _ _ 1⟩
        have := HY2.out
        rw [← this]
        simp [*]
    | false =>
      have hV := fun w => advanceFrom_any h p t w h1 h2 h3 h4 h5 h6
      have hW2 := fun w => seedWhen_any (decide (a < h * p + t)) 23 w
      have hy2 : (if decide (a < h * p + t) = true then (23 : Int) else 0) = y := by simpa using hy
      rw [hy2] at hW2
      clear hy2 hy
      go_wp2_with fail
      refine (hV _).mono ?_
      rintro e w' ⟨rfl, hb'⟩
      go_wp2_with fail
      refine (hW2 _).mono ?_
      rintro e w'' ⟨rfl, rfl⟩
      go_wp2
      go_ret
      exact ⟨rfl, (below_two w _ _ 1).trans (hb'.mono (below_two w _ _ 1).size)⟩
  · have hxb : (x != 0) = true := by rw [bne_iff_ne]; exact hx0
    have hy := HY.out
    rw [if_pos hx0] at hy
    subst hy
    go_wp2
    go_ret
    exact ⟨rfl, below_two w _ _ 1⟩
end Go.Mk
