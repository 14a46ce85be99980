/-
  Proved: pieces 6, 7 of the run of awake on the second machine. No condition.
-/
import Derived.Test.YthpcmhcokblglaaGreatDoorSn
section
set_option maxRecDepth 1000000
set_option maxHeartbeats 0
open Go Go.Ev
namespace Go.Snap
theorem piece6 : (runF E0 (regC E0) 10000000 2612 F6 S6 C6).map (fun x => (x.1, x.2.1, x.2.2.keep [16, 17, 18, 238, 281, 324, 327, 814, 815, 816, 1062, 1105, 1148, 1151, 1236, 1327, 1336, 1337, 1348, 1349, 1351, 1352, 1990, 2062, 2507, 2668, 2671, 2873, 2980, 2985, 3393, 3396, 3401, 3404, 3405, 3406, 3407])) = some (F7, S7, C7) := by kernel_rfl
end Go.Snap
end
section
set_option maxRecDepth 1000000
set_option maxHeartbeats 0
open Go Go.Ev
namespace Go.Snap
theorem piece7 : (runF E0 (regC E0) 10000000 2603 F7 S7 C7).map (fun x => (x.1, x.2.1, x.2.2.keep [16, 17, 18, 238, 281, 324, 327, 814, 815, 816, 1062, 1105, 1148, 1151, 1236, 1327, 1336, 1337, 1348, 1349, 1351, 1352, 1990, 2062, 2507, 2668, 2671, 2873, 2980, 2985, 3545, 3563, 3564, 3570, 3576, 3579])) = some (F8, S8, C8) := by kernel_rfl
end Go.Snap
end
