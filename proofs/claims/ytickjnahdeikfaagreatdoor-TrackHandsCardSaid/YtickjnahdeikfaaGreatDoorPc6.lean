/-
  Proved: pieces 6, 7 of the run of awake on the second machine. No condition.
-/
import Derived.Test.YtickjnahdeikfaaGreatDoorSn
section
set_option maxRecDepth 1000000
set_option maxHeartbeats 0
open Go Go.Ev
namespace Go.Snap
theorem piece6 : (runF E0 (regC E0) 10000000 262 F6 S6 C6).map (fun x => (x.1, x.2.1, x.2.2.keep [87, 161, 291, 857, 902, 1025, 1081, 1104, 1106, 1128, 1130, 1131, 1184, 1186, 1187, 1188, 1189, 1224, 1277, 1278, 1280, 1282, 1284, 1285])) = some (F7, S7, C7) := by kernel_rfl
end Go.Snap
end
section
set_option maxRecDepth 1000000
set_option maxHeartbeats 0
open Go Go.Ev
namespace Go.Snap
theorem piece7 : (runF E0 (regC E0) 10000000 264 F7 S7 C7).map (fun x => (x.1, x.2.1, x.2.2.keep [87, 161, 291, 857, 902, 1025, 1081, 1104, 1106, 1128, 1130, 1131, 1184, 1186, 1187, 1332, 1333, 1335, 1368, 1369, 1370, 1371, 1372, 1373])) = some (F8, S8, C8) := by kernel_rfl
end Go.Snap
end
