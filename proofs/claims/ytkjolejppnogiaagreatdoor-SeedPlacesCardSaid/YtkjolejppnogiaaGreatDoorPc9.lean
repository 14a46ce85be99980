/-
  Proved: pieces 9, 10, 11 of the run of awake on the second machine. No condition.
-/
import Derived.Test.YtkjolejppnogiaaGreatDoorSn1
section
set_option maxRecDepth 1000000
set_option maxHeartbeats 0
open Go Go.Ev
namespace Go.Snap
theorem piece9 : (runF E0 (regC E0) 10000000 1506 F9 S9 C9).map (fun x => (x.1, x.2.1, x.2.2.keep [17, 19, 152, 158, 162, 167, 361, 367, 371, 376, 377, 378, 379, 463, 534, 535, 536, 537, 694, 959, 969, 972, 977, 1057, 1058, 1059, 1077, 1081, 1084, 1085, 1193, 1223, 1229, 1230, 1231])) = some (F10, S10, C10) := by kernel_rfl
end Go.Snap
end
section
set_option maxRecDepth 1000000
set_option maxHeartbeats 0
open Go Go.Ev
namespace Go.Snap
theorem piece10 : (runF E0 (regC E0) 10000000 1504 F10 S10 C10).map (fun x => (x.1, x.2.1, x.2.2.keep [17, 19, 152, 158, 162, 167, 361, 367, 371, 376, 377, 378, 379, 463, 534, 535, 536, 537, 694, 959, 969, 972, 977, 1057, 1058, 1059, 1077, 1081, 1084, 1085, 1231, 1240, 1244, 1247, 1248, 1250, 1308, 1317, 1319, 1335, 1347, 1433, 1457, 1459, 1460])) = some (F11, S11, C11) := by kernel_rfl
end Go.Snap
end
section
set_option maxRecDepth 1000000
set_option maxHeartbeats 0
open Go Go.Ev
namespace Go.Snap
theorem piece11 : (match goF E0 (regC E0) 10000000 F11 S11 C11 with | some (v, _) => (match v with | .bool b => b | _ => false) | none => false) = true := by kernel_rfl
end Go.Snap
end
