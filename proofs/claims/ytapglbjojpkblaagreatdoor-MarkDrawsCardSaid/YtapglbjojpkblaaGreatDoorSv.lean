/-
  Proved: how two remainders compare (the program's compare): the greater remainder is first, of equal ones the lesser place. No condition.
-/
import Derived.Test.YtapglbjojpkblaaGreatDoorSu
import Derived.Sort.Grow
set_option linter.unusedVariables false
set_option linter.unusedSimpArgs false
open Go Go.Proofs Go.RowKit
set_option maxRecDepth 100000
namespace Go.Mk
/-- cmp.Compare of two integers. -/
def cpi (x y : Int) : Int := if x < y then -1 else if y < x then 1 else 0
set_option maxHeartbeats 1000000 in
theorem CmpInt_any (x y : Int) (w : World) : Calls Tryz.prog 95 #[.int .i64 x, .int .i64 y] w fun e w' => e = .returned (.int .i64 (cpi x y)) ∧ w' = w := by
  unfold cpi
  have hx : (x != x) = false := by simp
  have hy : (y != y) = false := by simp
  rcases (show x < y ∨ y < x ∨ x = y by omega) with h | h | h
  · rw [if_pos h]
    go_enter Tryz.func95, Tryz.ntmps95
    go_wp2
    go_ret
    exact ⟨rfl, rfl⟩
  · rw [if_neg (by omega), if_pos h]
    have h2 : ¬ x < y := by omega
    go_enter Tryz.func95, Tryz.ntmps95
    go_wp2
    go_ret
    exact ⟨rfl, rfl⟩
  · subst h
    rw [if_neg (by omega), if_neg (by omega)]
    have h2 : ¬ x < x := by omega
    go_enter Tryz.func95, Tryz.ntmps95
    go_wp2
    go_ret
    exact ⟨rfl, rfl⟩
set_option maxHeartbeats 1000000 in
theorem CmpOr_two (a b : Int) (g : Nat) (w : World) (h0 : w.cell? ⟨g, 0, none⟩ = some (.int .i64 a)) (h1 : w.cell? ⟨g, 1, none⟩ = some (.int .i64 b)) :
    Calls Tryz.prog 94 #[.slice (some ⟨g, 0, none⟩) 2 2] w fun e w' => e = .returned (.int .i64 (if a = 0 then b else a)) ∧ w' = w := by
  obtain ⟨y, hy⟩ : ∃ y, (if a = 0 then b else a) = y := ⟨_, rfl⟩
  rw [hy]
  have HY := Lib.hid hy
  clear hy
  go_enter Tryz.func94, Tryz.ntmps94
  go_wp2
  go_loopw [8] (fun i wr => (i = .int .i64 0 ∧ wr = w) ∨ (i = .int .i64 1 ∧ Hid (a = 0) ∧ wr = w) ∨ (i = .int .i64 2 ∧ Hid (a = 0 ∧ b = 0) ∧ wr = w)) (fun i _ => 2 - (intOf i).toNat)
  case atStart => exact .inl ⟨rfl, rfl⟩
  case round =>
    rcases hrel with ⟨rfl, rfl⟩ | ⟨rfl, HA, rfl⟩ | ⟨rfl, HA, rfl⟩
    · by_cases g1 : a = 0
      · have HN : Hid (a = 0) := g1
        subst g1
        go_wp2
        exact ⟨.inr (.inl ⟨rfl, by first | exact HN | trivial, by first | rfl | trivial⟩), by simp [intOf]⟩
      · have HE : Hid (a = y) := (show _ = _ by have := HY.out; rw [if_neg g1] at this; exact this)
        have gb : (a != 0) = true := by rw [bne_iff_ne]; exact g1
        clear g1
        go_wp2
        go_ret
        exact ⟨congrArg (fun z => Ending.returned (.int .i64 z)) HE.out, by first | rfl | trivial⟩
    · have HE : Hid (b = y) := (show _ = _ by have := HY.out; rw [if_pos HA.out] at this; exact this)
      by_cases g1 : b = 0
      · have HN : Hid (a = 0 ∧ b = 0) := ⟨HA.out, g1⟩
        subst g1
        go_wp2
        exact ⟨.inr (.inr ⟨rfl, by first | exact HN | exact ⟨HA.out, trivial⟩, by first | rfl | trivial⟩), by simp [intOf]⟩
      · have gb : (b != 0) = true := by rw [bne_iff_ne]; exact g1
        clear g1
        go_wp2
        go_ret
        exact ⟨congrArg (fun z => Ending.returned (.int .i64 z)) HE.out, by first | rfl | trivial⟩
    · have HE : Hid ((0 : Int) = y) := (show _ = _ by have := HY.out; rw [if_pos HA.out.1, HA.out.2] at this; exact this)
      go_wp2
      go_ret
      exact ⟨congrArg (fun z => Ending.returned (.int .i64 z)) HE.out, by first | rfl | trivial⟩

theorem cell_three (w : World) (o1 o2 : Obj) (x y : Value) (t : TypeId) : (((w.alloc o1).alloc o2).alloc (.cells #[x, y] t)).cell? ⟨w.heap.size + 1 + 1, 0, none⟩ = some x ∧ (((w.alloc o1).alloc o2).alloc (.cells #[x, y] t)).cell? ⟨w.heap.size + 1 + 1, 1, none⟩ = some y := by
  have e : w.heap.size + 1 + 1 = ((w.alloc o1).alloc o2).heap.size := by simp
  rw [e]
  generalize (w.alloc o1).alloc o2 = W
  constructor <;> simp
/-- How two remainders compare. -/
def cmpR (x y : Int × Int) : Int := if cpi y.2 x.2 = 0 then cpi x.1 y.1 else cpi y.2 x.2
set_option maxHeartbeats 2000000 in
theorem remCompare_any (x y : Int × Int) (w : World) :
    Calls Tryz.prog 44 #[.agg #[.int .i64 x.1, .int .i64 x.2], .agg #[.int .i64 y.1, .int .i64 y.2]] w fun e w' => e = .returned (.int .i64 (cmpR x y)) ∧ ∃ q os', w' = Sort.grow (w.drewN q) os' := by
  unfold cmpR
  have h1 := fun w => CmpInt_any y.2 x.2 w
  have h2 := fun w => CmpInt_any x.1 y.1 w
  have hO := fun g w => CmpOr_two (cpi y.2 x.2) (cpi x.1 y.1) g w
  obtain ⟨x1, x2⟩ := x
  obtain ⟨y1, y2⟩ := y
  simp only at h1 h2 hO ⊢
  generalize cpi y2 x2 = a at *
  generalize cpi x1 y1 = b at *
  generalize (if a = 0 then b else a) = y at *
  go_enter Tryz.func44, Tryz.ntmps44
  go_wp2_with fail
  go_region_held3 (fun w' => w'.cell? ⟨w.heap.size, 0, none⟩ = some (.int .i64 x1) ∧ w'.cell? ⟨w.heap.size, 1, none⟩ = some (.int .i64 x2) ∧ w'.cell? ⟨w.heap.size + 1, 0, none⟩ = some (.int .i64 y1) ∧ w'.cell? ⟨w.heap.size + 1, 1, none⟩ = some (.int .i64 y2)) (go_keep) ((first | (go_at_call 95; (with_reducible refine (h1 _).mono ?_); rintro e w' ⟨rfl, rfl⟩) | (go_at_call 95; (with_reducible refine (h2 _).mono ?_); rintro e w' ⟨rfl, rfl⟩) | (go_at_call 94; (refine (hO _ _ ?_ ?_).mono ?_); (exact (cell_three _ _ _ _ _ _).1); (exact (cell_three _ _ _ _ _ _).2); rintro e w' ⟨rfl, rfl⟩)))
  go_wp2
  go_ret
  refine ⟨rfl, 1, #[.cells #[.int .i64 x1, .int .i64 x2] 87, .cells #[.int .i64 y1, .int .i64 y2] 87, .cells #[.int .i64 a, .int .i64 b] 3], ?_⟩
  rw [show w.drewN 1 = w.drew from rfl, Sort.alloc_eq_grow, Sort.alloc_eq_grow, Sort.alloc_eq_grow, Sort.grow_grow, Sort.grow_grow]
  rfl
end Go.Mk
