/-
  Proved: pieces 2, 3 of the run of awake on the second machine. No condition.
-/
import Derived.Test.YthpcmhcokblglaaGreatDoorSn
section
set_option maxRecDepth 1000000
set_option maxHeartbeats 0
open Go Go.Ev
namespace Go.Snap
theorem piece2 : (runF E0 (regC E0) 10000000 2639 F2 S2 C2).map (fun x => (x.1, x.2.1, x.2.2.keep [16, 17, 18, 238, 281, 324, 327, 814, 815, 816, 1062, 1105, 1148, 1151, 1236, 1327, 1336, 1337, 1348, 1349, 1351, 1352, 1353, 1354, 1549, 1550, 1556, 1557, 1558, 1560, 1562, 1564, 1697, 1764, 1767, 1768, 1769, 1770, 1771, 1775, 1788, 1789, 1795, 1802, 1809, 1817, 1818, 1819, 1820, 1821, 1822, 1826])) = some (F3, S3, C3) := by kernel_rfl
end Go.Snap
end
section
set_option maxRecDepth 1000000
set_option maxHeartbeats 0
open Go Go.Ev
namespace Go.Snap
theorem piece3 : (runF E0 (regC E0) 10000000 2610 F3 S3 C3).map (fun x => (x.1, x.2.1, x.2.2.keep [16, 17, 18, 238, 281, 324, 327, 814, 815, 816, 1062, 1105, 1148, 1151, 1236, 1327, 1336, 1337, 1348, 1349, 1351, 1352, 1353, 1354, 1549, 1550, 1556, 1557, 1558, 1560, 1562, 1564, 1990, 2062, 2065, 2066, 2067, 2118, 2119, 2120, 2121, 2128, 2129, 2130, 2131, 2132, 2133, 2135])) = some (F4, S4, C4) := by kernel_rfl
end Go.Snap
end
