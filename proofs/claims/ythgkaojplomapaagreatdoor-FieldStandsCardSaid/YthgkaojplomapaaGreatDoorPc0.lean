/-
  Proved: pieces 0, 1, 2 of the run of awake on the second machine. No condition.
-/
import Derived.Test.YthgkaojplomapaaGreatDoorSn
section
set_option maxRecDepth 1000000
set_option maxHeartbeats 0
open Go Go.Ev
namespace Go.Snap
theorem piece0 : (runF E0 (regC E0) 10000000 2608 F0 S0 C0).map (fun x => (x.1, x.2.1, x.2.2.keep [16, 17, 18, 238, 281, 324, 327, 328, 329, 420, 421, 430, 431, 432, 434, 436, 464, 467, 468])) = some (F1, S1, C1) := by kernel_rfl
end Go.Snap
end
section
set_option maxRecDepth 1000000
set_option maxHeartbeats 0
open Go Go.Ev
namespace Go.Snap
theorem piece1 : (runF E0 (regC E0) 10000000 2652 F1 S1 C1).map (fun x => (x.1, x.2.1, x.2.2.keep [16, 17, 18, 238, 281, 324, 327, 814, 815, 816, 1062, 1105, 1148, 1151, 1236, 1286, 1308, 1309, 1310, 1311, 1312, 1327])) = some (F2, S2, C2) := by kernel_rfl
end Go.Snap
end
section
set_option maxRecDepth 1000000
set_option maxHeartbeats 0
open Go Go.Ev
namespace Go.Snap
theorem piece2 : (runF E0 (regC E0) 10000000 4906 F2 S2 C2).map (fun x => (x.1, x.2.1, x.2.2.keep [16, 17, 18, 238, 281, 324, 327, 814, 815, 816, 1062, 1105, 1148, 1151, 1236, 1327, 1336, 1337, 1348, 1349, 1351, 1352, 1353, 1354, 1549, 1550, 1556, 1557, 1558, 1560, 1562, 1564, 1990, 2062, 2065, 2066, 2067, 2068, 2069, 2073, 2083, 2084, 2085, 2086, 2087, 2088, 2089, 2091])) = some (F3, S3, C3) := by kernel_rfl
end Go.Snap
end
