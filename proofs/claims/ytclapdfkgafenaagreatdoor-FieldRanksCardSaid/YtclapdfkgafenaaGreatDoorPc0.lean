/-
  Proved: pieces 0, 1, 2 of the run of awake on the second machine. No condition.
-/
import Derived.Test.YtclapdfkgafenaaGreatDoorSn
section
set_option maxRecDepth 1000000
set_option maxHeartbeats 0
open Go Go.Ev
namespace Go.Snap
theorem piece0 : (runF E0 (regC E0) 10000000 2608 F0 S0 C0).map (fun x => (x.1, x.2.1, x.2.2.keep [16, 17, 18, 238, 281, 324, 327, 328, 329, 420, 421, 430, 431, 432, 434, 436, 464, 467, 468])) = some (F1, S1, C1) := by kernel_rfl
end Go.Snap
end
section
set_option maxRecDepth 1000000
set_option maxHeartbeats 0
open Go Go.Ev
namespace Go.Snap
theorem piece1 : (runF E0 (regC E0) 10000000 2652 F1 S1 C1).map (fun x => (x.1, x.2.1, x.2.2.keep [16, 17, 18, 238, 281, 324, 327, 814, 815, 816, 1062, 1105, 1148, 1151, 1236, 1286, 1308, 1309, 1310, 1311, 1312, 1327])) = some (F2, S2, C2) := by kernel_rfl
end Go.Snap
end
section
set_option maxRecDepth 1000000
set_option maxHeartbeats 0
open Go Go.Ev
namespace Go.Snap
theorem piece2 : (runF E0 (regC E0) 10000000 3612 F2 S2 C2).map (fun x => (x.1, x.2.1, x.2.2.keep [16, 17, 18, 238, 281, 324, 327, 814, 815, 816, 1062, 1105, 1148, 1151, 1236, 1327, 1336, 1337, 1348, 1349, 1351, 1352, 1353, 1354, 1549, 1550, 1556, 1557, 1558, 1560, 1562, 1564, 1836, 1909, 1912, 1913, 1914, 1915, 1916, 1920, 1921, 1922, 1933])) = some (F3, S3, C3) := by kernel_rfl
end Go.Snap
end
