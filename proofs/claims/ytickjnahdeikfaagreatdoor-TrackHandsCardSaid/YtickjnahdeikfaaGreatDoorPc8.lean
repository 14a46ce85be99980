/-
  Proved: pieces 8, 9 of the run of awake on the second machine. No condition.
-/
import Derived.Test.YtickjnahdeikfaaGreatDoorSn
section
set_option maxRecDepth 1000000
set_option maxHeartbeats 0
open Go Go.Ev
namespace Go.Snap
theorem piece8 : (runF E0 (regC E0) 10000000 261 F8 S8 C8).map (fun x => (x.1, x.2.1, x.2.2.keep [87, 161, 291, 857, 902, 1025, 1081, 1104, 1106, 1128, 1130, 1131, 1184, 1186, 1187, 1332, 1333, 1335, 1368, 1369, 1370, 1371, 1372, 1373, 1374, 1375, 1376, 1391, 1399, 1400, 1451, 1466, 1467, 1475])) = some (F9, S9, C9) := by kernel_rfl
end Go.Snap
end
section
set_option maxRecDepth 1000000
set_option maxHeartbeats 0
open Go Go.Ev
namespace Go.Snap
theorem piece9 : (match goF E0 (regC E0) 10000000 F9 S9 C9 with | some (v, _) => (match v with | .bool b => b | _ => false) | none => false) = true := by kernel_rfl
end Go.Snap
end
