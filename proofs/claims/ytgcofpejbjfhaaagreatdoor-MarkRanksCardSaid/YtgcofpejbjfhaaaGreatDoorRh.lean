/-
  Proved: the reference's Round returns what the plain function rndM says, for marks without an error. Condition: the mark has no error.
-/
import Derived.Test.YtgcofpejbjfhaaaGreatDoorRg
set_option linter.unusedVariables false
set_option linter.unusedSimpArgs false
open Go Go.Proofs Go.RowKit
set_option maxRecDepth 100000
namespace Go.Mk

theorem Box.mid (w : World) (A C : Obj) (s : ByteArray) (v : Int) (r : ByteArray) (q : Nat) : Box ((((w.alloc A).alloc (.cells #[.string s, .int .i64 v, .string r] 38)).alloc C).drewN q) (w.heap.size + 1) s v r :=
  Box.below (Box.new' (w.alloc A) (w.heap.size + 1) s v r (by simp)) (K := w.heap.size + 2) (below_drewN ((Below.refl _ _).alloc (by simp) _) q) (by omega)
set_option maxHeartbeats 1000000 in
theorem refRound_noclass (s r n k : ByteArray) (v st : Int) (b : Bool) (w : World) (hc : cls n = ((k, st), b)) (hst : (st == 0) = true) :
    Calls Tryz.prog 25 #[.agg #[.string s, .int .i64 v, .string r], .string n] w (RetPost (.tuple #[.agg #[.string ⟨#[]⟩, .int .i64 0, .string ⟨#[]⟩], .int .i64 13]) w) := by
  have hS := Step_is n k st b hc
  have hb0 : Below w.heap.size w ((w.alloc (.cells #[.string s, .int .i64 v, .string r] 38)).alloc (.cells #[.string ⟨#[]⟩, .int .i64 0, .string ⟨#[]⟩] 38)) := ((Below.refl w.heap.size w).alloc (Nat.le_refl _) _).alloc (by simp) _
  go_enter Tryz.func25, Tryz.ntmps25
  go_wp2_with fail
  refine (hS _).mono ?_
  rintro e w1 ⟨rfl, rfl⟩
  go_wp2
  exact bodyPost_ret (v := .tuple #[.agg #[.string ⟨#[]⟩, .int .i64 0, .string ⟨#[]⟩], .int .i64 13]) (by simp [results, Tryz.results25, go_sem]) rfl ⟨rfl, hb0⟩

set_option maxHeartbeats 1000000 in
theorem refRound_nofit (s r n k : ByteArray) (v st : Int) (b : Bool) (w : World) (hc : cls n = ((k, st), b)) (hst : (st == 0) = false) (h1 : k.toList.isEmpty = false) (h2 : (s.toList == [110, 111, 110, 101]) = false) (h3 : (s.toList == k.toList) = false) :
    Calls Tryz.prog 25 #[.agg #[.string s, .int .i64 v, .string r], .string n] w (RetPost (.tuple #[.agg #[.string ⟨#[]⟩, .int .i64 0, .string ⟨#[]⟩], .int .i64 13]) w) := by
  have hS := Step_is n k st b hc
  have hb0 : Below w.heap.size w ((w.alloc (.cells #[.string s, .int .i64 v, .string r] 38)).alloc (.cells #[.string ⟨#[]⟩, .int .i64 0, .string ⟨#[]⟩] 38)) := ((Below.refl w.heap.size w).alloc (Nat.le_refl _) _).alloc (by simp) _
  go_enter Tryz.func25, Tryz.ntmps25
  go_wp2_with fail
  refine (hS _).mono ?_
  rintro e w1 ⟨rfl, rfl⟩
  go_wp2
  exact bodyPost_ret (v := .tuple #[.agg #[.string ⟨#[]⟩, .int .i64 0, .string ⟨#[]⟩], .int .i64 13]) (by simp [results, Tryz.results25, go_sem]) rfl ⟨rfl, hb0⟩

set_option maxHeartbeats 4000000 in
theorem refRound_large (s r n k : ByteArray) (v st x y hi : Int) (b bt : Bool) (w : World) (hc : cls n = ((k, st), b)) (hst : (st == 0) = false) (hs0 : 1 ≤ st) (hs1 : st ≤ 1000) (hv0 : 0 ≤ v) (hv1 : v ≤ 900000000)
    (hfit : k.toList.isEmpty = true ∨ (k.toList.isEmpty = false ∧ (s.toList == [110, 111, 110, 101]) = true) ∨ (k.toList.isEmpty = false ∧ (s.toList == [110, 111, 110, 101]) = false ∧ (s.toList == k.toList) = true))
    (hy : v / st * st = y) (hy0 : 0 ≤ y) (hy1 : y ≤ v) (hbt : (s.toList == [116, 105, 109, 101]) = bt) (hup : (bt = true ∧ y < v ∧ x = y + st) ∨ (bt = true ∧ ¬ y < v ∧ x = y) ∨ (bt = false ∧ x = y)) (hhi : high s = hi) (hl : hi < x) :
    Calls Tryz.prog 25 #[.agg #[.string s, .int .i64 v, .string r], .string n] w (RetPost (.tuple #[.agg #[.string ⟨#[]⟩, .int .i64 0, .string ⟨#[]⟩], .int .i64 4]) w) := by
  have hm := most_any s
  rw [hhi] at hm
  clear hhi
  have hq0 : 0 ≤ v / st * st := by omega
  have hq1 : v / st * st ≤ 900000000 := by omega
  rcases hup with ⟨rfl, hlt, rfl⟩ | ⟨rfl, hlt, rfl⟩ | ⟨rfl, rfl⟩ <;> rcases hfit with g1 | ⟨g1, g2⟩ | ⟨g1, g2, g3⟩
  all_goals
    have hS := Step_is n k st b hc
    have hb0 : Below w.heap.size w ((w.alloc (.cells #[.string s, .int .i64 v, .string r] 38)).alloc (.cells #[.string ⟨#[]⟩, .int .i64 0, .string ⟨#[]⟩] 38)) := ((Below.refl w.heap.size w).alloc (Nat.le_refl _) _).alloc (by simp) _
    go_enter Tryz.func25, Tryz.ntmps25
    go_wp2_with fail
    refine (hS _).mono ?_
    rintro e w1 ⟨rfl, rfl⟩
    go_wp2_with fail
    go_quiet ((go_at_call 48; exact Calls.quiet_of_same (hm _)))
    go_wp2
    first
      | (obtain ⟨q0, q1, q2⟩ : Box (((((((w.alloc (.cells #[.string s, .int .i64 v, .string r] 38)).alloc (.cells #[.string ⟨#[]⟩, .int .i64 0, .string ⟨#[]⟩] 38)).alloc (.cells #[.string s, .int .i64 (y + st), .string r] 38)).drewN nq).setCell ⟨w.heap.size + 1, 0, none⟩ (.string ⟨#[]⟩)).setCell ⟨w.heap.size + 1, 1, none⟩ (.int .i64 (0))).setCell ⟨w.heap.size + 1, 2, none⟩ (.string ⟨#[]⟩)) (w.heap.size + 1) ⟨#[]⟩ (0) ⟨#[]⟩ := Box.set3 (Box.mid w _ _ _ _ _ _); have hB : Below w.heap.size w (((((((w.alloc (.cells #[.string s, .int .i64 v, .string r] 38)).alloc (.cells #[.string ⟨#[]⟩, .int .i64 0, .string ⟨#[]⟩] 38)).alloc (.cells #[.string s, .int .i64 (y + st), .string r] 38)).drewN nq).setCell ⟨w.heap.size + 1, 0, none⟩ (.string ⟨#[]⟩)).setCell ⟨w.heap.size + 1, 1, none⟩ (.int .i64 (0))).setCell ⟨w.heap.size + 1, 2, none⟩ (.string ⟨#[]⟩)) := ((((below_drewN (hb0.alloc hb0.size _) nq).setCell (by show _ ≤ w.heap.size + 1; omega) _).setCell (by show _ ≤ w.heap.size + 1; omega) _).setCell (by show _ ≤ w.heap.size + 1; omega) _); exact bodyPost_ret (v := .tuple #[.agg #[.string ⟨#[]⟩, .int .i64 0, .string ⟨#[]⟩], .int .i64 4]) (by simp [results, Tryz.results25, go_sem, q0, q1, q2]) rfl ⟨rfl, hB⟩)
      | (obtain ⟨q0, q1, q2⟩ : Box (((((((w.alloc (.cells #[.string s, .int .i64 v, .string r] 38)).alloc (.cells #[.string ⟨#[]⟩, .int .i64 0, .string ⟨#[]⟩] 38)).alloc (.cells #[.string s, .int .i64 (x), .string r] 38)).drewN nq).setCell ⟨w.heap.size + 1, 0, none⟩ (.string ⟨#[]⟩)).setCell ⟨w.heap.size + 1, 1, none⟩ (.int .i64 (0))).setCell ⟨w.heap.size + 1, 2, none⟩ (.string ⟨#[]⟩)) (w.heap.size + 1) ⟨#[]⟩ (0) ⟨#[]⟩ := Box.set3 (Box.mid w _ _ _ _ _ _); have hB : Below w.heap.size w (((((((w.alloc (.cells #[.string s, .int .i64 v, .string r] 38)).alloc (.cells #[.string ⟨#[]⟩, .int .i64 0, .string ⟨#[]⟩] 38)).alloc (.cells #[.string s, .int .i64 (x), .string r] 38)).drewN nq).setCell ⟨w.heap.size + 1, 0, none⟩ (.string ⟨#[]⟩)).setCell ⟨w.heap.size + 1, 1, none⟩ (.int .i64 (0))).setCell ⟨w.heap.size + 1, 2, none⟩ (.string ⟨#[]⟩)) := ((((below_drewN (hb0.alloc hb0.size _) nq).setCell (by show _ ≤ w.heap.size + 1; omega) _).setCell (by show _ ≤ w.heap.size + 1; omega) _).setCell (by show _ ≤ w.heap.size + 1; omega) _); exact bodyPost_ret (v := .tuple #[.agg #[.string ⟨#[]⟩, .int .i64 0, .string ⟨#[]⟩], .int .i64 4]) (by simp [results, Tryz.results25, go_sem, q0, q1, q2]) rfl ⟨rfl, hB⟩)
end Go.Mk
