/-
  Proved: piece 1 of the run of awake on the second machine. No condition.
-/
import Derived.Test.YtclkcooomikiiaaGreatDoorSn
set_option maxRecDepth 1000000
set_option maxHeartbeats 0
open Go Go.Ev
namespace Go.Snap
theorem piece1 : (runF E0 (regC E0) 10000000 4002 F1 S1 C1).map (fun x => (x.1, x.2.1, x.2.2.keep [68, 69, 78, 79, 438, 439, 440, 441, 442, 449, 455, 463, 469, 478, 484, 492, 498, 507, 513, 521, 527, 531, 533, 535, 536, 561, 572, 575, 582, 607, 618, 621, 628, 630, 662, 663, 664])) = some (F2, S2, C2) := by kernel_rfl
end Go.Snap
