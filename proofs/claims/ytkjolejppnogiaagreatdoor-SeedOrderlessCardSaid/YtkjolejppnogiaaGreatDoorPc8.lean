/-
  Proved: pieces 8, 9 of the run of awake on the second machine. No condition.
-/
import Derived.Test.YtkjolejppnogiaaGreatDoorSn
section
set_option maxRecDepth 1000000
set_option maxHeartbeats 0
open Go Go.Ev
namespace Go.Snap
theorem piece8 : (runF E0 (regC E0) 10000000 2609 F8 S8 C8).map (fun x => (x.1, x.2.1, x.2.2.keep [17, 19, 152, 158, 162, 167, 361, 367, 371, 376, 377, 378, 379, 463, 534, 535, 536, 537, 694, 959, 969, 972, 977, 1057, 1058, 1059, 1077, 1081, 1084, 1085, 1231, 1240, 1244, 1247, 1248, 1250, 1308, 1317, 1319, 1335, 1347, 1433, 1494, 1498, 1499, 1500, 1509, 1511, 1512, 1513])) = some (F9, S9, C9) := by kernel_rfl
end Go.Snap
end
section
set_option maxRecDepth 1000000
set_option maxHeartbeats 0
open Go Go.Ev
namespace Go.Snap
theorem piece9 : (match goF E0 (regC E0) 10000000 F9 S9 C9 with | some (v, _) => (match v with | .bool b => b | _ => false) | none => false) = true := by kernel_rfl
end Go.Snap
end
