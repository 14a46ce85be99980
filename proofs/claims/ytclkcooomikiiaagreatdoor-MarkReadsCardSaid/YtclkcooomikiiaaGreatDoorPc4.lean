/-
  Proved: piece 4 of the run of awake on the second machine. No condition.
-/
import Derived.Test.YtclkcooomikiiaaGreatDoorSn
set_option maxRecDepth 1000000
set_option maxHeartbeats 0
open Go Go.Ev
namespace Go.Snap
theorem piece4 : (runF E0 (regC E0) 10000000 4002 F4 S4 C4).map (fun x => (x.1, x.2.1, x.2.2.keep [68, 69, 78, 79, 438, 439, 440, 441, 442, 449, 455, 463, 469, 478, 484, 492, 498, 507, 513, 521, 527, 531, 533, 535, 536, 561, 572, 575, 582, 607, 618, 621, 628, 630, 662, 782, 783, 784, 786, 787])) = some (F5, S5, C5) := by kernel_rfl
end Go.Snap
