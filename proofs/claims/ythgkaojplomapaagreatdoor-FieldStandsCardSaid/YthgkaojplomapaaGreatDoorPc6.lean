/-
  Proved: piece 6 of the run of awake on the second machine. No condition.
-/
import Derived.Test.YthgkaojplomapaaGreatDoorSn
set_option maxRecDepth 1000000
set_option maxHeartbeats 0
open Go Go.Ev
namespace Go.Snap
theorem piece6 : (match goF E0 (regC E0) 10000000 F6 S6 C6 with | some (v, _) => (match v with | .bool b => b | _ => false) | none => false) = true := by kernel_rfl
end Go.Snap
