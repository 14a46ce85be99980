/-
  Proved: pieces 12, 13 of the run of awake on the second machine. No condition.
-/
import Derived.Test.YtccgahkoekcefaaGreatDoorSn
section
set_option maxRecDepth 1000000
set_option maxHeartbeats 0
open Go Go.Ev
namespace Go.Snap
theorem piece12 : (runF E0 (regC E0) 10000000 2601 F12 S12 C12).map (fun x => (x.1, x.2.1, x.2.2.keep [17, 19, 152, 158, 162, 167, 361, 367, 371, 376, 377, 378, 379, 463, 534, 535, 536, 537, 694, 959, 969, 972, 977, 1057, 1058, 1059, 1077, 1081, 1084, 1085, 1163, 1167, 1168, 1169, 1174, 1176, 1177, 1178, 1180, 1181, 1183])) = some (F13, S13, C13) := by kernel_rfl
end Go.Snap
end
section
set_option maxRecDepth 1000000
set_option maxHeartbeats 0
open Go Go.Ev
namespace Go.Snap
theorem piece13 : (match goF E0 (regC E0) 10000000 F13 S13 C13 with | some (v, _) => (match v with | .bool b => b | _ => false) | none => false) = true := by kernel_rfl
end Go.Snap
end
