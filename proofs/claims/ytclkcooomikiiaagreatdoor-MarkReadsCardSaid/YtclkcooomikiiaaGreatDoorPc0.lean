/-
  Proved: piece 0 of the run of awake on the second machine. No condition.
-/
import Derived.Test.YtclkcooomikiiaaGreatDoorSn
set_option maxRecDepth 1000000
set_option maxHeartbeats 0
open Go Go.Ev
namespace Go.Snap
theorem piece0 : (runF E0 (regC E0) 10000000 4000 F0 S0 C0).map (fun x => (x.1, x.2.1, x.2.2.keep [68, 69, 78, 79, 438, 439, 440, 441, 442, 443, 444, 449, 452])) = some (F1, S1, C1) := by kernel_rfl
end Go.Snap
