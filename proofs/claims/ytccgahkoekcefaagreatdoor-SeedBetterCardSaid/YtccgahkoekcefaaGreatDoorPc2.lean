/-
  Proved: pieces 2, 3 of the run of awake on the second machine. No condition.
-/
import Derived.Test.YtccgahkoekcefaaGreatDoorSn
section
set_option maxRecDepth 1000000
set_option maxHeartbeats 0
open Go Go.Ev
namespace Go.Snap
theorem piece2 : (runF E0 (regC E0) 10000000 17 F2 S2 C2).map (fun x => (x.1, x.2.1, x.2.2.keep [17, 19, 152, 158, 162, 167, 361, 367, 371, 376, 377, 378, 379, 463, 522, 523, 528, 529])) = some (F4, S4, C4) := by kernel_rfl
end Go.Snap
end
section
set_option maxRecDepth 1000000
set_option maxHeartbeats 0
open Go Go.Ev
namespace Go.Snap
theorem piece3 : (runF E0 (regC E0) 10000000 17 F3 S3 C3).map (fun x => (x.1, x.2.1, x.2.2.keep [17, 19, 152, 158, 162, 167, 361, 367, 371, 376, 377, 378, 379, 463, 522, 523, 528, 529])) = some (F9, S9, C9) := by kernel_rfl
end Go.Snap
end
