/-
  Proved: pieces 0, 1 of the run of awake on the second machine. No condition.
-/
import Derived.Test.YtickjnahdeikfaaGreatDoorSn
section
set_option maxRecDepth 1000000
set_option maxHeartbeats 0
open Go Go.Ev
namespace Go.Snap
theorem piece0 : (runF E0 (regC E0) 10000000 364 F0 S0 C0).map (fun x => (x.1, x.2.1, x.2.2.keep [87, 161, 291])) = some (F1, S1, C1) := by kernel_rfl
end Go.Snap
end
section
set_option maxRecDepth 1000000
set_option maxHeartbeats 0
open Go Go.Ev
namespace Go.Snap
theorem piece1 : (runF E0 (regC E0) 10000000 261 F1 S1 C1).map (fun x => (x.1, x.2.1, x.2.2.keep [87, 161, 291, 857, 858, 859, 860, 863])) = some (F2, S2, C2) := by kernel_rfl
end Go.Snap
end
