/-
  Proved: pieces 2, 3 of the run of awake on the second machine. No condition.
-/
import Derived.Test.YtickjnahdeikfaaGreatDoorSn
section
set_option maxRecDepth 1000000
set_option maxHeartbeats 0
open Go Go.Ev
namespace Go.Snap
theorem piece2 : (runF E0 (regC E0) 10000000 261 F2 S2 C2).map (fun x => (x.1, x.2.1, x.2.2.keep [87, 161, 291, 857, 902, 1025])) = some (F3, S3, C3) := by kernel_rfl
end Go.Snap
end
section
set_option maxRecDepth 1000000
set_option maxHeartbeats 0
open Go Go.Ev
namespace Go.Snap
theorem piece3 : (runF E0 (regC E0) 10000000 261 F3 S3 C3).map (fun x => (x.1, x.2.1, x.2.2.keep [87, 161, 291, 857, 902, 1025, 1081, 1104, 1106, 1107, 1108])) = some (F4, S4, C4) := by kernel_rfl
end Go.Snap
end
