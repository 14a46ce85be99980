/-
  Proved: piece 7 of the run of awake on the second machine. No condition.
-/
import Derived.Test.YtclkcooomikiiaaGreatDoorSn
set_option maxRecDepth 1000000
set_option maxHeartbeats 0
open Go Go.Ev
namespace Go.Snap
theorem piece7 : (match goF E0 (regC E0) 10000000 F7 S7 C7 with | some (v, _) => (match v with | .bool b => b | _ => false) | none => false) = true := by kernel_rfl
end Go.Snap
