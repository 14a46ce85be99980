/-
  Proved: the law MarkChecks returns true where its guard is met (an input of which it says nothing). Condition: the tables that awake reads lie where the program lays them.
-/
import Derived.Test.YtgcofpejbjfhaaaGreatDoorLw
import Derived.Test.YtgcofpejbjfhaaaGreatDoorRj
import Derived.Deep.DeepCutAuto
set_option linter.unusedVariables false
set_option linter.unusedSimpArgs false
open Go Go.Proofs Go.RowKit
set_option maxRecDepth 100000
namespace Go.Mk

set_option maxHeartbeats 4000000 in
theorem checks_exit (s1 r1 s2 r2 n : ByteArray) (v1 v2 : Int) (w : World) (ht : Tabs w) (hn : n.size ≤ maxLen) (x1 x2 : Bool)
    (hB1 : ∀ w, Calls Tryz.prog 18 #[.agg #[.string s1, .int .i64 v1, .string r1]] w (RetPost (.bool x1) w)) (hB2 : ∀ w, Calls Tryz.prog 18 #[.agg #[.string s2, .int .i64 v2, .string r2]] w (RetPost (.bool x2) w))
    (h : x1 = false ∨ (x1 = true ∧ x2 = false) ∨ (x1 = true ∧ x2 = true ∧ 40 < (n.size : Int))) :
    Calls Tryz.prog 4 #[.agg #[.string s1, .int .i64 v1, .string r1], .agg #[.string s2, .int .i64 v2, .string r2], .string n] w (Yes w) := by
  unfold maxLen at hn
  rcases h with rfl | ⟨rfl, rfl⟩ | ⟨rfl, rfl, h3⟩
  all_goals
    have hW : Below w.heap.size w ((w.alloc (.cells #[.string s1, .int .i64 v1, .string r1] 38)).alloc (.cells #[.string s2, .int .i64 v2, .string r2] 38)) := ((Below.refl w.heap.size w).alloc (Nat.le_refl _) _).alloc (by simp) _
    have hX1 : Box ((w.alloc (.cells #[.string s1, .int .i64 v1, .string r1] 38)).alloc (.cells #[.string s2, .int .i64 v2, .string r2] 38)) w.heap.size s1 v1 r1 := (Box.new w s1 v1 r1).below ((Below.refl _ _).alloc (Nat.le_refl _) _) (by simp)
    have hX2 : Box ((w.alloc (.cells #[.string s1, .int .i64 v1, .string r1] 38)).alloc (.cells #[.string s2, .int .i64 v2, .string r2] 38)) (w.heap.size + 1) s2 v2 r2 := Box.new' _ _ s2 v2 r2 (by simp)
    have hsz : w.heap.size + 1 < ((w.alloc (.cells #[.string s1, .int .i64 v1, .string r1] 38)).alloc (.cells #[.string s2, .int .i64 v2, .string r2] 38)).heap.size := by simp
    go_enter Tryz.func4, Tryz.ntmps4
    go_wp2_with fail
    generalize (w.alloc (.cells #[.string s1, .int .i64 v1, .string r1] 38)).alloc (.cells #[.string s2, .int .i64 v2, .string r2] 38) = w0 at hW hX1 hX2 hsz ⊢
    have HT : Hid (∀ w', Below w0.heap.size w0 w' → Tabs w') := fun w' h => (ht.grow hW).grow h
    have HW : Hid (Below w.heap.size w w0) := hW
    have HX1 : Hid (Box w0 w.heap.size s1 v1 r1) := hX1
    have HX2 : Hid (Box w0 (w.heap.size + 1) s2 v2 r2) := hX2
    obtain ⟨a0, a1, a2⟩ := hX1
    obtain ⟨b0, b1, b2⟩ := hX2
    have hb0 : Below w0.heap.size w0 w0 := Below.refl _ _
    clear hW ht
    go_wp2_with (first | (go_at_call 8; ((with_reducible refine (aw _ (HT.out _ hb0)).mono ?_)); rintro e wa ⟨rfl, hbn⟩; have hb0 := hb0.trans (hbn.mono hb0.size); clear a0 a1 a2 b0 b1 b2 hbn; obtain ⟨a0, a1, a2⟩ := HX1.out.below hb0 (by omega); obtain ⟨b0, b1, b2⟩ := HX2.out.below hb0 hsz) | (go_at_call 18; ((with_reducible refine (hB1 _).mono ?_)); rintro e wb ⟨rfl, hbn⟩; have hb0 := hb0.trans (hbn.mono hb0.size); clear a0 a1 a2 b0 b1 b2 hbn; obtain ⟨a0, a1, a2⟩ := HX1.out.below hb0 (by omega); obtain ⟨b0, b1, b2⟩ := HX2.out.below hb0 hsz) | (go_at_call 18; ((with_reducible refine (hB2 _).mono ?_)); rintro e wc ⟨rfl, hbn⟩; have hb0 := hb0.trans (hbn.mono hb0.size); clear a0 a1 a2 b0 b1 b2 hbn; obtain ⟨a0, a1, a2⟩ := HX1.out.below hb0 (by omega); obtain ⟨b0, b1, b2⟩ := HX2.out.below hb0 hsz))
    go_ret
    exact ⟨rfl, HW.out.trans (hb0.mono HW.out.size)⟩
end Go.Mk
