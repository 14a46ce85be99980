/-
  Proved: rows in new memory of which one trial is stored anew, or one row gets a slice of trials of its own; the ranking of rows that are the same but for where their trials lie. Conditions: the rows' trials lie in different blocks; the rows have no error.
  Proved: the law FieldImproves returns true, once awake does, and leaves all that was there, for rows that are short, at most 8 and at least 1, and have no error. Conditions: the rows lie where the slice says.
-/
import Derived.Test.YthgkaojplomapaaGreatDoorFva
import Derived.Test.YthgkaojplomapaaGreatDoorFrk
import Derived.Test.YthgkaojplomapaaGreatDoorFc
set_option linter.unusedVariables false
set_option linter.unusedSimpArgs false
open Go Go.Proofs Go.RowKit
set_option maxRecDepth 100000
section
namespace Go.Mk
end Go.Mk
end
section
namespace Go.Mk
theorem neqMark (k : ByteArray) (v : Int) (r : ByteArray) (w : World) : (binOp .neq 59 (.agg #[.string k, .int .i64 v, .string r]) (.agg #[.string k, .int .i64 v, .string r])).run Tryz.prog w = .ok (.bool false) w := by
 have h : (Op.equal 59 (.agg #[.string k, .int .i64 v, .string r]) (.agg #[.string k, .int .i64 v, .string r])).run Tryz.prog w = .ok true w := eqMark 9998 k v r w
 simp only [binOp, Sem.run_bind, h, Result.andThen_ok, Sem.run_pure, Bool.not_true]
theorem guardMark (x y : Operand) (fs gs : Array Value) (w : World) : (eqGuard .neq 59 x y (.agg fs) (.agg gs)).run Tryz.prog w = .ok () w := by kernel_rfl
end Go.Mk
end
