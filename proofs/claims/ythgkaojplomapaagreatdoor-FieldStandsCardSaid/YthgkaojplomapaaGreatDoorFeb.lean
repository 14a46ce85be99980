/-
  Proved: CheckRows of package field returns a plain function of the
  Proved: ranks of package field, for any two closures with a contract: 0 for one who is not ranked, else 1 and
-/
import Derived.Test.YthgkaojplomapaaGreatDoorFea
import Derived.Test.YthgkaojplomapaaGreatDoorRow
set_option maxHeartbeats 32000000
set_option linter.unusedVariables false
set_option linter.unusedSimpArgs false
open Go Go.Proofs Go.RowKit
set_option maxRecDepth 100000
section
namespace Go.Mk
end Go.Mk
end
section
namespace Go.Mk
theorem Row.newZ (w : World) (n : Nat) : Row (w.alloc (.cells (madeCells #[.int .i64 0] n) 3)) w.heap.size (List.replicate n 0) := by
 refine ⟨by simp, fun j v hv => ?_⟩
 have hj : j < n := by
  have := (List.getElem?_eq_some_iff.1 hv).1
  simpa using this
 rw [List.getElem?_replicate, if_pos hj] at hv
 obtain rfl := Option.some.inj hv
 simp [madeCells, hj, Nat.mod_one]
def cntB (b : Nat → Nat → Bool) (i : Nat) : Nat → Nat
 | 0 => 0
 | m + 1 => cntB b i m + if b m i then 1 else 0
theorem cntB_le (b : Nat → Nat → Bool) (i : Nat) : ∀ m, cntB b i m ≤ m
 | 0 => Nat.le_refl _
 | m + 1 => by rw [cntB]; have := cntB_le b i m; split <;> omega
def rkB (R : Nat → Bool) (b : Nat → Nat → Bool) (n i : Nat) : Nat := if R i then 1 + cntB b i n else 0
def ranksB (R : Nat → Bool) (b : Nat → Nat → Bool) (n : Nat) : List Nat := (List.range n).map (rkB R b n)
theorem fill_rank (f : Nat → Nat) (n k : Nat) (h : k < n) (v : Nat) (hv : f k = v) : ((List.range k).map f ++ List.replicate (n - k) 0).set k v = (List.range (k + 1)).map f ++ List.replicate (n - (k + 1)) 0 := by
 obtain ⟨m, rfl⟩ : ∃ m, n = k + 1 + m := ⟨n - (k + 1), by omega⟩
 rw [show k + 1 + m - k = m + 1 from by omega, show k + 1 + m - (k + 1) = m from by omega, List.set_append_right _ _ (by simp)]
 simp [List.replicate_succ, List.range_succ, hv]
theorem keep_rank (f : Nat → Nat) (n k : Nat) (h : k < n) (hv : f k = 0) : (List.range k).map f ++ List.replicate (n - k) 0 = (List.range (k + 1)).map f ++ List.replicate (n - (k + 1)) 0 := by
 obtain ⟨m, rfl⟩ : ∃ m, n = k + 1 + m := ⟨n - (k + 1), by omega⟩
 rw [show k + 1 + m - k = m + 1 from by omega, show k + 1 + m - (k + 1) = m from by omega]
 simp [List.replicate_succ, List.range_succ, hv]
end Go.Mk
end
