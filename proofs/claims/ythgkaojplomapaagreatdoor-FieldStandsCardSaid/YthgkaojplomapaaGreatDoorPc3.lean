/-
  Proved: pieces 3, 4, 5 of the run of awake on the second machine. No condition.
-/
import Derived.Test.YthgkaojplomapaaGreatDoorSn
section
set_option maxRecDepth 1000000
set_option maxHeartbeats 0
open Go Go.Ev
namespace Go.Snap
theorem piece3 : (runF E0 (regC E0) 10000000 5004 F3 S3 C3).map (fun x => (x.1, x.2.1, x.2.2.keep [16, 17, 18, 238, 281, 324, 327, 814, 815, 816, 1062, 1105, 1148, 1151, 1236, 1327, 1336, 1337, 1348, 1349, 1351, 1352, 1990, 2062, 2507, 2668, 2671, 2873, 2980, 2985, 2986, 2996, 2998, 3000, 3001, 3002])) = some (F4, S4, C4) := by kernel_rfl
end Go.Snap
end
section
set_option maxRecDepth 1000000
set_option maxHeartbeats 0
open Go Go.Ev
namespace Go.Snap
theorem piece4 : (runF E0 (regC E0) 10000000 2650 F4 S4 C4).map (fun x => (x.1, x.2.1, x.2.2.keep [16, 17, 18, 238, 281, 324, 327, 814, 815, 816, 1062, 1105, 1148, 1151, 1236, 1327, 1336, 1337, 1348, 1349, 1351, 1352, 1990, 2062, 2507, 2668, 2671, 2873, 2980, 2985, 3231, 3232, 3233, 3240, 3245, 3250, 3254, 3258, 3259, 3260, 3295, 3296])) = some (F5, S5, C5) := by kernel_rfl
end Go.Snap
end
section
set_option maxRecDepth 1000000
set_option maxHeartbeats 0
open Go Go.Ev
namespace Go.Snap
theorem piece5 : (runF E0 (regC E0) 10000000 2651 F5 S5 C5).map (fun x => (x.1, x.2.1, x.2.2.keep [16, 17, 18, 238, 281, 324, 327, 814, 815, 816, 1062, 1105, 1148, 1151, 1236, 1327, 1336, 1337, 1348, 1349, 1351, 1352, 1990, 2062, 2507, 2668, 2671, 2873, 2980, 2985, 3545])) = some (F6, S6, C6) := by kernel_rfl
end Go.Snap
end
