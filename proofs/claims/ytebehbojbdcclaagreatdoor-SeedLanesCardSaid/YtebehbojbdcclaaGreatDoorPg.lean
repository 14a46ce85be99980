/-
  Proved: the law SeedLanes for every argument that reads. Conditions: the tables that awake reads lie where the program lays them; the lanes lie where the slices say.
-/
import Derived.Test.YtebehbojbdcclaaGreatDoorPf
import Derived.Test.YtebehbojbdcclaaGreatDoorBk
set_option linter.unusedVariables false
set_option linter.unusedSimpArgs false
open Go Go.Proofs Go.RowKit
set_option maxRecDepth 100000
namespace Go.Mk
theorem key_range {a : Int} (h : (Lit.int .i64 a).wf = true) : -9223372036854775808 ≤ a ∧ a ≤ 9223372036854775807 := by
  have h1 : IntKind.i64.min = -9223372036854775808 := by decide
  have h2 : IntKind.i64.max = 9223372036854775807 := by decide
  unfold Lit.wf at h
  rw [Bool.and_eq_true, decide_eq_true_eq, decide_eq_true_eq, h1, h2] at h
  exact h
theorem lanes_wf (a key : Int) (LL : List (List Int)) (n cap : Nat) (A : Option Addr) (B : Nat) (w : World) (ht : Tabs w) (hm : (n : Int) ≤ 9223372036854775807) (hZ : Zss w B A n LL) (hk : (Lit.int .i64 key).wf = true) : Calls Tryz.prog 3 #[.slice A n cap, .int .i64 a, .int .i64 key] w (Yes w) :=
  lanes_any a key LL n cap A B w ht hm hZ (key_range hk).1 (key_range hk).2
end Go.Mk
