/-
  Proved: pieces 3, 4, 5 of the run of awake on the second machine. No condition.
-/
import Derived.Test.YtclapdfkgafenaaGreatDoorSn
section
set_option maxRecDepth 1000000
set_option maxHeartbeats 0
open Go Go.Ev
namespace Go.Snap
theorem piece3 : (runF E0 (regC E0) 10000000 3613 F3 S3 C3).map (fun x => (x.1, x.2.1, x.2.2.keep [16, 17, 18, 238, 281, 324, 327, 814, 815, 816, 1062, 1105, 1148, 1151, 1236, 1327, 1336, 1337, 1348, 1349, 1351, 1352, 1353, 1354, 1549, 1550, 1556, 1557, 1558, 1560, 1562, 1564, 1990, 2062, 2204, 2346, 2349, 2350, 2351, 2402, 2403, 2404, 2426, 2430, 2431, 2432, 2455])) = some (F4, S4, C4) := by kernel_rfl
end Go.Snap
end
section
set_option maxRecDepth 1000000
set_option maxHeartbeats 0
open Go Go.Ev
namespace Go.Snap
theorem piece4 : (runF E0 (regC E0) 10000000 3600 F4 S4 C4).map (fun x => (x.1, x.2.1, x.2.2.keep [16, 17, 18, 238, 281, 324, 327, 814, 815, 816, 1062, 1105, 1148, 1151, 1236, 1327, 1336, 1337, 1348, 1349, 1351, 1352, 1990, 2062, 2507, 2668, 2671, 2873, 2980, 2985, 3018, 3019, 3025, 3031, 3034])) = some (F5, S5, C5) := by kernel_rfl
end Go.Snap
end
section
set_option maxRecDepth 1000000
set_option maxHeartbeats 0
open Go Go.Ev
namespace Go.Snap
theorem piece5 : (runF E0 (regC E0) 10000000 3607 F5 S5 C5).map (fun x => (x.1, x.2.1, x.2.2.keep [16, 17, 18, 238, 281, 324, 327, 814, 815, 816, 1062, 1105, 1148, 1151, 1236, 1327, 1336, 1337, 1348, 1349, 1351, 1352, 1990, 2062, 2507, 2668, 2671, 2873, 2980, 2985, 3393, 3465, 3489, 3490, 3496, 3502, 3505])) = some (F6, S6, C6) := by kernel_rfl
end Go.Snap
end
